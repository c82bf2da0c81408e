/-
  slices.Collect of windows: the walk.
-/
import Derived.Test.YteiedknpmlemkaaWg
namespace Go.Proofs.Yteiedknpmlemkaa
open Go Go.RowKit Go.Lib Go.Shelf
attribute [local go_sem] Oper.semAt_some

/-- What a slice of windows that a call hands back is. -/
def Row (w : World) (l : List Win) (e : Ending) (w' : World) : Prop :=
  ∃ v, e = .returned v ∧ w'.ownsRow w.heap.size 34 2 v l.length (cellsL l) ∧ (l = [] → v = .slice none 0 0) ∧ Below w.heap.size w w'

set_option maxRecDepth 100000 in
set_option maxHeartbeats 3200000 in
theorem append_seq (gf : Nat) (lb : Array Value) (l : List Win) (N : Nat) (w : World) (hG : Gives gf lb l N w) (hN : N ≤ 1000000000) (henter : ∀ args w, (callFunc gf args).run Try.prog w = .ok (.enter gf args) w) :
    Calls Try.prog 36 #[.slice none 0 0, .func (.func gf) #[] lb] w fun e w' => Row w l e w' := by
  refine (callsIn_wide (n := 10)).1 ?_
  obtain ⟨i0, hi, hz0, hz1, hz2⟩ := info_parts info34
  have HI := Lib.hid hi
  have HZ0 := Lib.hid hz0
  have HZ1 := Lib.hid hz1
  have HZ2 := Lib.hid hz2
  have HG := Lib.hid hG
  clear hi hz0 hz1 hz2 hG
  refine callsIn_of_wp_marks Try.func36 rfl trivial ?_ rfl
  simp only [Try.ntmps36, List.size_toArray, List.length_cons, List.length_nil, Nat.reduceAdd, Nat.reduceSub, Array.replicate_succ, Array.replicate_zero, List.push_toArray, List.append_toArray, List.nil_append, List.cons_append]
  gi_wp2
  obtain ⟨w1, hw1⟩ : ∃ w1, w.alloc (.cells #[.slice none 0 0] 32) = w1 := ⟨_, rfl⟩
  have s1 : w1.heap.size = w.heap.size + 1 := by rw [← hw1]; simp
  have b1 : Below w.heap.size w w1 := by rw [← hw1]; exact (Below.refl _ _).alloc (Nat.le_refl _) _
  have S1 : St w.heap.size w w1 (.slice none 0 0) [] := by
    refine ⟨?_, World.ownsRow_nil _ _ _ _, fun _ => rfl, b1, by omega⟩
    rw [← hw1]; exact Boxed.new w 32 _
  rw [hw1]
  refine wpIn_rangeFunc_ownH (α := Win) rfl (by omega) (gf := gf) (lb := lb) rfl trivial henter HG.out
        (fun {A B C} h1 h2 => h1.trans h2)
        (fun W' l o1 o2 hl h1 _ _ => (Below.refl _ W').grown (grownBy_putObj' W' l o2) (by have := (Array.getElem?_eq_some_iff.1 h1).1; omega) (fun k e => by cases e; omega))
        b1 (fun _ => rfl)
        (fun pre W' => ∃ v', St w.heap.size w W' v' pre)
        (fun _ _ _ => False)
        (fun s X Y row ⟨v', hs⟩ hg hr => ⟨v', hs.grown hg (fun r e => ⟨by have := (hr r e).1; omega, (hr r e).2⟩)⟩)
        (fun _ _ _ _ _ hs _ _ => hs)
        ⟨_, S1⟩
        (fun x a' W' => ∃ Bx, RBox W' Bx x ∧ w1.heap.size ≤ Bx ∧ a' = { tmps := #[.slice none 0 0, .func (.func gf) #[] lb, .pointer (some ⟨w.heap.size, 0, none⟩), undef, .slice none 0 0, .pointer (some ⟨Bx, 0, none⟩), .func (.func gf) #[] lb, wv x, undef, undef, undef, undef, undef], defers := [] })
        (fun x a' s X Y row ⟨Bx, hR, hle, ha⟩ hg hr => ⟨Bx, RBox.grown hR hg (fun r e => (hr r e).2), hle, ha⟩) ?assign ?body ?done ?stop
  case assign =>
    rintro l' pre x W' K ⟨v', hs⟩ hK
    gi_wp2
    refine hK _ _ ((KeepsOthers.alloc W' (.cells (wcells x).toArray 34)).from _) ((Below.refl _ _).alloc (by have := hs.lt; omega) _) ⟨v', hs.grown (World.grownBy_alloc _ _ none) (fun r e => by cases e)⟩ ⟨W'.heap.size, World.alloc_heap_new W' _, by have := hs.lt; omega, rfl⟩
  case body =>
    rintro l' pre x a' W' hle ⟨rr, hrr⟩ ⟨v', hs⟩ ⟨Bx, hBx, hBle, rfl⟩ hlt2
    have d0 := hBx.c0
    have d1 := hBx.c1
    have hbc := hs.box.cell
    obtain ⟨k, hk⟩ : ∃ k, pre.length = k := ⟨_, rfl⟩
    rw [hk] at hlt2
    have H3 := Lib.hid hlt2
    have hrow := hs.row
    rw [hk] at hrow
    have HROW := Lib.hid hrow
    have HK := Lib.hid hk
    clear hrow hk
    have HSS := Lib.hid hs
    clear hlt2 hs
    gi_wp2_with (gi_at_builtin
                 refine wpListIn_append_lies _ rfl _ _ 32 rfl (w.heap.size + 1) 34 i0 _ 2 16 Try.underlying32 HI.out HZ0.out HZ1.out HZ2.out rfl (by decide) _ k _ rfl (HROW.out.alloc _) ⟨W'.heap.size, 0, none⟩ 1 1 (wcells x) rfl rfl (news_new W' x 34) (oneCells x) (by omega) (by have := H3.out; unfold maxLen; omega) (by have := H3.out; omega) (by have := HSS.out.lt; simp; omega) ?_
                 intro g2 cap2 w2 hown hgrow hat hg2
                 rw [← HK.out] at hown
                 obtain ⟨q1, q2, q3, q5, q6⟩ := HSS.out.append hown hgrow hat
                 rw [HK.out] at q3 q5 q6
                 have Q3 := Lib.hid q3
                 have Q5 := Lib.hid q5
                 have Q6 := Lib.hid q6
                 clear q3 q5 q6 hown hgrow hat)
    exact ⟨Q5.out.from _, Q6.out, ⟨_, Q3.out⟩⟩
  case done =>
    rintro D ys W' hD rfl ⟨v', hs⟩ hK
    have hbc := hs.box.cell
    have HSS := Lib.hid hs
    have HK := Lib.hid hK
    clear hs hK
    gi_wp2
    refine leaves_marks (v := v') (n₀ := w.heap.size + 1) (fun W' => (results_tmp rfl _ _ _).trans rfl) (fun W' => W'.ownsRow (w.heap.size + 1) 34 2 v' ys.length (cellsL ys) ∧ Below w.heap.size w W') ?_ ?_ [D] W' ⟨List.pairwise_singleton _ _, fun D' h' => by
      obtain rfl : D' = D := by simpa using h'
      exact ⟨by omega, HK.out⟩⟩ ⟨HSS.out.row, HSS.out.below⟩
    · rintro W' ⟨h1, h2⟩
      refine ⟨v', rfl, ⟨h1.1, ?_⟩, HSS.out.nil, h2⟩
      rcases h1.2 with h | ⟨g, c, cur, e1, e2, e3⟩
      · exact .inl h
      · exact .inr ⟨g, c, cur, e1, by omega, e3⟩
    · rintro W' D ⟨h1, h2⟩ hD hDd
      exact ⟨ownsRow_putObj h1 _ hDd rfl, h2.grown (grownBy_putObj' W' D (.deferred none)) h2.size (fun k e => by cases e; omega)⟩
  case stop =>
    rintro D c pre W' _ _ h _
    exact h.elim

theorem collect_any (gf : Nat) (lb : Array Value) (l : List Win) (N : Nat) (w : World) (hG : Gives gf lb l N w) (hN : N ≤ 1000000000) (henter : ∀ args w, (callFunc gf args).run Try.prog w = .ok (.enter gf args) w) :
    Calls Try.prog 24 #[.func (.func gf) #[] lb] w fun e w' => Row w l e w' := by
  have HA := Lib.hid (append_seq gf lb l N w hG hN henter)
  clear hG
  go_enter Try.func24, Try.ntmps24
  go_wp2_with (go_at_call 36
               (with_reducible refine HA.out.mono ?_)
               rintro e w1 ⟨v, rfl, h1, h2, h3⟩)
  go_ret
  exact ⟨v, rfl, h1, h2, h3⟩
end Go.Proofs.Yteiedknpmlemkaa
