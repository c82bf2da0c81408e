/-
  The program's Gather.
-/
import Derived.Test.YteiedknpmlemkaaWr
import Derived.Test.YteiedknpmlemkaaWj
import Derived.Laws.EntriesVeiled
namespace Go.Proofs.Yteiedknpmlemkaa
open Go Go.RowKit Go.Lib Go.Shelf

set_option maxRecDepth 1000000 in
theorem sort_nil_t : (Ev.acall Try.prog 0 orc0 100000 43 [.raw (.slice none 0 0), .func (.func 32) [] []] h00).map (·.1) = some (.tuple []) := by kernel_rfl
theorem sort_nil (w : World) : Calls Try.prog 43 #[.slice none 0 0, .func (.func 32) #[] #[]] w fun e w' => e = .returned (.tuple #[]) ∧ Below w.heap.size w w' :=
  (closed_val sort_nil_t (vs := #[.slice none 0 0, .func (.func 32) #[] #[]]) (by simp [Ev.VRs_cons, Ev.VRs_nil, Ev.VR])).mono fun e w' ⟨μ', u, h1, h2, h3⟩ => by
    refine ⟨?_, h3⟩
    unfold Ev.VR at h2
    obtain ⟨u', rfl, h4⟩ := h2
    rw [Ev.VRs_nil] at h4
    rw [h1]
    congr 2
    exact Array.toList_inj.1 h4

theorem windows_fn (A : Option Addr) (n cap : Nat) (w : World) : Calls Try.prog 31 #[.slice A n cap] w fun e w' => e = .returned (.func (.func 44) #[] #[.pointer (some ⟨w.heap.size, 0, none⟩)]) ∧ w' = w.alloc (.cells #[.slice A n cap] 32) := by
  have hmf : ∀ (fn : Fn) (first cap : Array Value) (w : World), (Instr.makeFunc fn first cap).run Try.prog w = .ok (.func fn first cap) w := fun _ _ _ _ => rfl
  go_enter Try.func31, Try.ntmps31
  go_wp2
  go_ret
  exact ⟨rfl, rfl⟩
theorem unions_fn (A : Option Addr) (n cap : Nat) (w : World) : Calls Try.prog 29 #[.slice A n cap] w fun e w' => e = .returned (.func (.func 42) #[] #[.pointer (some ⟨w.heap.size, 0, none⟩)]) ∧ w' = w.alloc (.cells #[.slice A n cap] 32) := by
  have hmf : ∀ (fn : Fn) (first cap : Array Value) (w : World), (Instr.makeFunc fn first cap).run Try.prog w = .ok (.func fn first cap) w := fun _ _ _ _ => rfl
  go_enter Try.func29, Try.ntmps29
  go_wp2
  go_ret
  exact ⟨rfl, rfl⟩

theorem row_some {W : World} {base : Nat} {v : Value} {l : List Win} (h : W.ownsRow base 34 2 v l.length (cellsL l)) (hn : l ≠ []) : ∃ g cap, v = .slice (some ⟨g, 0, none⟩) l.length cap := by
  rcases h.2 with ⟨_, h0⟩ | ⟨g, cap, _, rfl, _⟩
  · exact absurd (List.length_eq_zero_iff.1 h0) hn
  · exact ⟨g, cap, rfl⟩

/-- What SortedFunc hands back. -/
def Sorted (w : World) (l : List Win) (e : Ending) (w' : World) : Prop := ∃ l' : List Win, l'.Perm l ∧ Rises l' ∧ l'.length = l.length ∧ Row w l' e w'

set_option maxHeartbeats 800000 in
theorem sorted_any (gf : Nat) (lb : Array Value) (l : List Win) (N : Nat) (w : World) (hG : Gives gf lb l N w) (hN : N ≤ 1000000000) (hl : l.length ≤ 1000000000) (henter : ∀ args w, (callFunc gf args).run Try.prog w = .ok (.enter gf args) w) :
    Calls Try.prog 30 #[.func (.func gf) #[] lb, .func (.func 32) #[] #[]] w fun e w' => Sorted w l e w' := by
  have HC := Lib.hid (collect_any gf lb l N w hG hN henter)
  clear hG
  by_cases hn : l = []
  · subst hn
    go_enter Try.func30, Try.ntmps30
    go_wp2_with (first
      | (go_at_call 24
         (with_reducible refine HC.out.mono ?_)
         rintro e w1 ⟨v, rfl, h1, h2, h3⟩
         obtain rfl := h2 rfl
         have H3 := Lib.hid h3
         clear h1 h2 h3)
      | (go_at_call 43
         (with_reducible refine (sort_nil _).mono ?_)
         rintro e w2 ⟨rfl, h4⟩
         have H4 := Lib.hid h4
         clear h4))
    go_ret
    exact ⟨[], List.Perm.refl _, List.Pairwise.nil, rfl, Row.nil _ _ (H3.out.trans (H4.out.mono H3.out.size))⟩
  · have HN := Lib.hid hn
    go_enter Try.func30, Try.ntmps30
    go_wp2_with (first
      | (go_at_call 24
         (with_reducible refine HC.out.mono ?_)
         rintro e w1 ⟨v, rfl, h1, h2, h3⟩
         obtain ⟨g, cap, rfl⟩ := row_some h1 HN.out
         have H1 := Lib.hid h1
         have H3 := Lib.hid h3
         clear h1 h2 h3)
      | (go_at_call 43
         (with_reducible refine (sort_some l g cap w.heap.size _ H1.out hl).mono ?_)
         rintro e w2 ⟨rfl, l', p1, p2, p3, p4, p5⟩))
    go_ret
    refine ⟨l', p1, p2, p3, _, rfl, by rw [p3]; exact p4, fun e => ?_, H3.out.trans p5⟩
    subst e
    exact absurd (List.length_eq_zero_iff.1 p3.symm) HN.out

theorem enter44 : ∀ args w, (callFunc 44 args).run Try.prog w = .ok (.enter 44 args) w := enters_of Try.func44 (by kernel_rfl) rfl
theorem enter42 : ∀ args w, (callFunc 42 args).run Try.prog w = .ok (.enter 42 args) w := enters_of Try.func42 (by kernel_rfl) rfl

theorem box_cell (w : World) (v : Value) (t : TypeId) : (w.alloc (.cells #[v] t)).cell? ⟨w.heap.size, 0, none⟩ = some v := by
  simp only [World.cell?, World.alloc_heap_new]; rfl

set_option maxRecDepth 100000 in
set_option maxHeartbeats 1600000 in
theorem gather_any (l : List Win) (A : Option Addr) (cap : Nat) (w : World) (hv : Wins w w.heap.size (.slice A l.length cap) l) (hlen : l.length ≤ 1000000) :
    Calls Try.prog 18 #[.slice A l.length cap] w fun e w' => Row w (gatherM l) e w' := by
  obtain ⟨W1, hW1⟩ : ∃ W1, w.alloc (.cells #[.slice A l.length cap] 32) = W1 := ⟨_, rfl⟩
  have s1 : W1.heap.size = w.heap.size + 1 := by rw [← hW1]; simp
  have b1 : Below w.heap.size w W1 := by rw [← hW1]; exact (Below.refl _ _).alloc (Nat.le_refl _) _
  have hfl := List.length_filter_le isW l
  have HG : Hid (Gives 44 #[.pointer (some ⟨w.heap.size, 0, none⟩)] (l.filter isW) l.length W1) := Lib.hid (windows_gives w.heap.size _ l W1 (by omega) (by rw [← hW1]; exact box_cell _ _ _) ((hv.below b1).mono (by omega)) (by omega))
  have HB1 := Lib.hid b1
  have HW1 := Lib.hid hW1
  have HS1 := Lib.hid s1
  clear hv b1 hW1 s1
  go_enter Try.func18, Try.ntmps18
  go_wp2_with (first
    | (go_at_call 31
       (with_reducible refine (windows_fn A l.length cap _).mono ?_)
       rw [HW1.out]
       rintro e wq ⟨rfl, rfl⟩)
    | (go_at_call 30
       (with_reducible refine (sorted_any 44 _ _ _ _ HG.out (by omega) (by omega) enter44).mono ?_)
       rintro e w2 ⟨l', p1, p2, p3, v, rfl, q1, q2, q3⟩
       have HW2 := Lib.hid (wins_of_row q1)
       obtain ⟨A2, cap2, hA2, _⟩ := HW2.out
       have HV := Lib.hid hA2
       subst hA2
       have HB2 := Lib.hid (HB1.out.trans (q3.mono HB1.out.size))
       have HE := Lib.hid (gather_sorted p1 p2)
       have HP3 := Lib.hid p3
       clear p1 p2 p3 q1 q2 q3)
    | (go_at_call 29
       (with_reducible refine (unions_fn A2 l'.length cap2 _).mono ?_)
       rintro e w3 ⟨rfl, hw3⟩
       have b3 : Below w2.heap.size w2 w3 := by rw [hw3]; exact (Below.refl _ _).alloc (Nat.le_refl _) _
       have s3 : w3.heap.size = w2.heap.size + 1 := by rw [hw3]; simp
       have HG3 : Hid (GivesOwn 42 #[.pointer (some ⟨w2.heap.size, 0, none⟩)] (uni (0, 0) l') (uni (0, 0) l').length 2 w3) := Lib.hid (unions_gives w2.heap.size _ l' w3 (by omega) (by rw [hw3]; exact box_cell _ _ _) ((HW2.out.below b3).mono (by omega)) (by have := HP3.out; omega))
       have HB3 := Lib.hid (HB2.out.trans (b3.mono HB2.out.size))
       clear hw3 b3 s3)
    | (go_at_call 24
       (with_reducible refine (collect_own 42 _ _ _ 2 _ HG3.out (by have := HP3.out; have := uni_len l' (0, 0); omega) enter42).mono ?_)
       rw [HE.out]
       rintro e w4 ⟨v, rfl, r1, r2, r3⟩))
  go_ret
  exact Row.from ⟨v, rfl, r1, r2, r3⟩ HB3.out
end Go.Proofs.Yteiedknpmlemkaa
