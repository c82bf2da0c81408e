/-
  slices.Collect of what a function with blocks of its own gives.
-/
import Derived.Test.YteiedknpmlemkaaWm
namespace Go.Proofs.Yteiedknpmlemkaa
open Go Go.RowKit Go.Lib Go.Shelf
attribute [local go_sem] Oper.semAt_some

theorem St.grown2 {n₀ : Nat} {w0 W W' : World} {v : Value} {l : List Win} (h : St n₀ w0 W v l) {row : Option Nat} (hg : W.grownBy W' row) (hr : ∀ r, row = some r → n₀ + 1 ≤ r ∧ v.ownBlock ≠ some r) : St n₀ w0 W' v l := by
  have hlt := h.lt
  refine ⟨h.box.kept hg (fun e => by have := (hr _ e.symm).1; omega), h.row.kept hg ?_, h.nil, h.below.grown hg (by omega) (fun k e => by have := (hr k e).1; omega), Nat.le_trans h.lt hg.size⟩
  cases hv : v.ownBlock with
  | none => exact .inl rfl
  | some g => exact .inr (fun e => (hr g e.symm).2 hv)
theorem Leaves.alloc {n B k D : Nat} (W : World) (o : Obj) (h1 : n ≤ W.heap.size) (h2 : B + k ≤ W.heap.size) : Leaves n B k D W.heap.size W (W.alloc o) :=
  ⟨by simp, fun _ h => Below.heap_alloc _ _ _ (by omega), fun _ _ h => Below.heap_alloc _ _ _ (by omega), fun _ _ h => Below.heap_alloc _ _ _ h⟩

set_option maxRecDepth 100000 in
set_option maxHeartbeats 3200000 in
theorem append_own (gf : Nat) (lb : Array Value) (l : List Win) (N k : Nat) (w : World) (hG : GivesOwn gf lb l N k w) (hN : N ≤ 1000000000) (henter : ∀ args w, (callFunc gf args).run Try.prog w = .ok (.enter gf args) w) :
    Calls Try.prog 36 #[.slice none 0 0, .func (.func gf) #[] lb] w fun e w' => Row w l e w' := by
  refine (callsIn_wide (n := 10)).1 ?_
  obtain ⟨i0, hi, hz0, hz1, hz2⟩ := info_parts info34
  have HI := Lib.hid hi
  have HZ0 := Lib.hid hz0
  have HZ1 := Lib.hid hz1
  have HZ2 := Lib.hid hz2
  have HG := Lib.hid hG
  clear hi hz0 hz1 hz2 hG
  refine callsIn_of_wp_marks Try.func36 rfl trivial ?_ rfl
  simp only [Try.ntmps36, List.size_toArray, List.length_cons, List.length_nil, Nat.reduceAdd, Nat.reduceSub, Array.replicate_succ, Array.replicate_zero, List.push_toArray, List.append_toArray, List.nil_append, List.cons_append]
  gi_wp2
  obtain ⟨w1, hw1⟩ : ∃ w1, w.alloc (.cells #[.slice none 0 0] 32) = w1 := ⟨_, rfl⟩
  have s1 : w1.heap.size = w.heap.size + 1 := by rw [← hw1]; simp
  have b1 : Below w.heap.size w w1 := by rw [← hw1]; exact (Below.refl _ _).alloc (Nat.le_refl _) _
  have S1 : St w.heap.size w w1 (.slice none 0 0) [] := by
    refine ⟨?_, World.ownsRow_nil _ _ _ _, fun _ => rfl, b1, by omega⟩
    rw [← hw1]; exact Boxed.new w 32 _
  rw [hw1]
  refine range_own (gf := gf) (lb := lb) (l := l) (N := N) (k := k) rfl henter HG.out b1 rfl
        (fun s W' => ∃ v', St w.heap.size w W' v' s.1 ∧ ∀ g, v'.ownBlock = some g → w1.heap.size + 2 + k ≤ g ∧ g < s.2)
        (fun s X Y row ⟨v', hs, hf⟩ hg hr => ⟨v', hs.grown2 hg (fun r e => ⟨by have := hr r e; omega, fun h => by have := (hf r h).1; have := hr r e; omega⟩), hf⟩)
        ⟨_, S1, fun g h => by simp [Value.ownBlock] at h⟩
        (fun x a' W' => ∃ Bx, RBox W' Bx x ∧ w1.heap.size + 2 ≤ Bx ∧ a' = { tmps := #[.slice none 0 0, .func (.func gf) #[] lb, .pointer (some ⟨w.heap.size, 0, none⟩), undef, .slice none 0 0, .pointer (some ⟨Bx, 0, none⟩), .func (.func gf) #[] lb, wv x, undef, undef, undef, undef, undef], defers := [] })
        (fun x a' s X Y row ⟨Bx, hR, hle, ha⟩ hg hr => ⟨Bx, (hg.block Bx (Array.getElem?_eq_some_iff.1 hR).1 (fun e => by have := hr _ e.symm; omega)).trans hR, hle, ha⟩) ?assign ?body ?done
  case assign =>
    rintro l' pre x D W' K ⟨v', hs, hf⟩ hsz hK
    dsimp only at hs hf
    gi_wp2
    refine hK _ _ (Leaves.alloc _ _ (by omega) (by omega)) ⟨v', hs.grown (World.grownBy_alloc _ _ none) (fun r e => by cases e), hf⟩ ⟨W'.heap.size, World.alloc_heap_new W' _, by omega, rfl⟩
  case body =>
    rintro l' pre x D T a' W' ⟨v', hs, hf⟩ ⟨Bx, hBx, hBle, rfl⟩ hlt2 hsz hD hT
    dsimp only at hs hf
    have d0 := hBx.c0
    have d1 := hBx.c1
    have hbc := hs.box.cell
    obtain ⟨n, hn⟩ : ∃ n, pre.length = n := ⟨_, rfl⟩
    rw [hn] at hlt2
    have H3 := Lib.hid hlt2
    have hrow := hs.row
    rw [hn] at hrow
    have HROW := Lib.hid hrow
    have HK := Lib.hid hn
    clear hrow hn
    have HSS := Lib.hid hs
    have HF := Lib.hid hf
    clear hlt2 hs hf
    gi_wp2_with (gi_at_builtin
                 refine wpListIn_append_lies _ rfl _ _ 32 rfl (w.heap.size + 1) 34 i0 _ 2 16 Try.underlying32 HI.out HZ0.out HZ1.out HZ2.out rfl (by decide) _ n _ rfl (HROW.out.alloc _) ⟨W'.heap.size, 0, none⟩ 1 1 (wcells x) rfl rfl (news_new W' x 34) (oneCells x) (by omega) (by have := H3.out; unfold maxLen; omega) (by have := H3.out; omega) (by have := HSS.out.lt; simp; omega) ?_
                 intro g2 cap2 w2 hown hgrow hat hg2
                 rw [← HK.out] at hown
                 obtain ⟨q1, q2, q3, q5, q6⟩ := HSS.out.append hown hgrow hat
                 have q7 : ∀ g, (Value.slice (some ⟨g2, 0, none⟩) (pre.length + 1) cap2).ownBlock = some g → w1.heap.size + 2 + k ≤ g ∧ g < (w2.setCell ⟨w.heap.size, 0, none⟩ (.slice (some ⟨g2, 0, none⟩) (pre.length + 1) cap2)).heap.size := by
                   intro g e
                   obtain rfl : g2 = g := by simpa [Value.ownBlock] using e
                   refine ⟨?_, by simpa [World.setCell] using hg2⟩
                   rcases hat with hat | hat
                   · exact (HF.out _ hat).1
                   · rw [hat]; simp; omega
                 have q8 : Leaves w.heap.size w1.heap.size (2 + k) D T W' (w2.setCell ⟨w.heap.size, 0, none⟩ (.slice (some ⟨g2, 0, none⟩) (pre.length + 1) cap2)) :=
                   ⟨q6.size, fun b hb => q6.block b hb, fun b hb1 hb2 => (Below.heap_setCell _ _ _ b (by simp; omega)).trans ((hgrow.block b (by simp; omega) (fun e => by have := HF.out b e.symm; omega)).trans (Below.heap_alloc _ _ _ (by omega))),
                    fun b hb1 hb2 => (Below.heap_setCell _ _ _ b (by simp; omega)).trans ((hgrow.block b (by simp; omega) (fun e => by have := HF.out b e.symm; omega)).trans (Below.heap_alloc _ _ _ (by omega)))⟩
                 rw [HK.out] at q3 q7 q8
                 have Q3 := Lib.hid q3
                 have Q7 := Lib.hid q7
                 have Q8 := Lib.hid q8
                 clear q3 q5 q6 q7 q8 hown hgrow hat)
    have q7 := Q7.out
    have q8 := Q8.out
    rw [s1] at q7 q8
    exact ⟨q8, ⟨_, Q3.out, q7⟩⟩
  case done =>
    rintro D W' ⟨v', hs, hf⟩ hK
    dsimp only at hs hf
    have hbc := hs.box.cell
    have HSS := Lib.hid hs
    have HK := Lib.hid hK
    clear hs hK hf
    gi_wp2
    refine leaves_marks (v := v') (n₀ := w.heap.size + 1) (fun W' => (results_tmp rfl _ _ _).trans rfl) (fun W' => W'.ownsRow (w.heap.size + 1) 34 2 v' l.length (cellsL l) ∧ Below w.heap.size w W') ?_ ?_ [w1.heap.size] W' ⟨List.pairwise_singleton _ _, fun D' h' => by
      obtain rfl : D' = w1.heap.size := by simpa using h'
      exact ⟨by omega, HK.out⟩⟩ ⟨HSS.out.row, HSS.out.below⟩
    · rintro W' ⟨h1, h2⟩
      refine ⟨v', rfl, ⟨h1.1, ?_⟩, HSS.out.nil, h2⟩
      rcases h1.2 with h | ⟨g, c, cur, e1, e2, e3⟩
      · exact .inl h
      · exact .inr ⟨g, c, cur, e1, by omega, e3⟩
    · rintro W' D ⟨h1, h2⟩ hD hDd
      exact ⟨ownsRow_putObj h1 _ hDd rfl, h2.grown (grownBy_putObj' W' D (.deferred none)) h2.size (fun k e => by cases e; omega)⟩

theorem collect_own (gf : Nat) (lb : Array Value) (l : List Win) (N k : Nat) (w : World) (hG : GivesOwn gf lb l N k w) (hN : N ≤ 1000000000) (henter : ∀ args w, (callFunc gf args).run Try.prog w = .ok (.enter gf args) w) :
    Calls Try.prog 24 #[.func (.func gf) #[] lb] w fun e w' => Row w l e w' := by
  have HA := Lib.hid (append_own gf lb l N k w hG hN henter)
  clear hG
  go_enter Try.func24, Try.ntmps24
  go_wp2_with (go_at_call 36
               (with_reducible refine HA.out.mono ?_)
               rintro e w1 ⟨v, rfl, h1, h2, h3⟩)
  go_ret
  exact ⟨v, rfl, h1, h2, h3⟩
end Go.Proofs.Yteiedknpmlemkaa
