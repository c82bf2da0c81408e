/-
  The greatest multiple that is not above a time; what is a time; the kinds of windows.
-/
import Derived.Test.YteiedknpmlemkaaWe
import Derived.Test.YteiedknpmlemkaaWd
import Derived.WalkKit
import Derived.ProofKit
namespace Go.Proofs.Yteiedknpmlemkaa
open Go Go.RowKit Go.Lib

/-- The remainder that is not negative. -/
theorem rem_twice (x a : Int) (h : 1 ≤ a) : (x.tmod a + a).tmod a = x % a := by
  have h1 : -a < x.tmod a := Int.lt_tmod_of_pos x (by omega)
  rw [Int.tmod_eq_emod_of_nonneg (by omega), Int.add_emod_right]
  rw [Int.tmod_def, Int.sub_mul_emod_self_left]

def flo (t n : Int) : Int := t - t % n
theorem flo_le (t n : Int) (h : 1 ≤ n) : flo t n ≤ t := by have := Int.emod_nonneg t (show n ≠ 0 by omega); unfold flo; omega
theorem lt_flo (t n : Int) (h : 1 ≤ n) : t < flo t n + n := by have := Int.emod_lt_of_pos t (show 0 < n by omega); unfold flo; omega

abbrev isT (t : Int) : Prop := -1152921504606846976 ≤ t ∧ t ≤ 1152921504606846976

set_option maxHeartbeats 800000 in
theorem floor_any (t n : Int) (h : 1 ≤ n ∧ n ≤ 4294967296) (ht : isT t) (w : World) : Calls Try.prog 38 #[.int .i64 t, .int .i64 n] w fun e w' => e = .returned (.int .i64 (flo t n)) ∧ w' = w := by
  unfold isT at ht
  have h0 : n ≠ 0 := by omega
  have h1 : -n < t.tmod n := Int.lt_tmod_of_pos _ (by omega)
  have h2 : t.tmod n < n := Int.tmod_lt_of_pos _ (by omega)
  have h3 := rem_twice t n h.1
  have h4 : 0 ≤ t % n := Int.emod_nonneg _ h0
  have h5 : t % n < n := Int.emod_lt_of_pos _ (by omega)
  unfold flo
  go_enter Try.func38, Try.ntmps38
  go_wp2
  go_ret
  exact ⟨rfl, rfl⟩

theorem time_any (t : Int) (w : World) : Calls Try.prog 23 #[.int .i64 t] w fun e w' => e = .returned (.bool (decide (-1152921504606846976 ≤ t) && decide (t ≤ 1152921504606846976))) ∧ w' = w := by
  by_cases h1 : -1152921504606846976 ≤ t
  · by_cases h2 : t ≤ 1152921504606846976
    · go_enter Try.func23, Try.ntmps23
      go_wp2
      go_ret
      simp [h1, h2]
    · go_enter Try.func23, Try.ntmps23
      go_wp2
      go_ret
      simp [h2]
  · have hd : decide (-1152921504606846976 ≤ t) = false := by simpa using h1
    rw [hd]
    go_enter Try.func23, Try.ntmps23
    go_wp2
    go_ret
    simp

/-- The closure of a kind: where the time lies, where the operator lies. -/
abbrev kindF (f gt go : Nat) : Value := .func (.func f) #[] #[.pointer (some ⟨gt, 0, none⟩), .pointer (some ⟨go, 0, none⟩)]
abbrev kindMap (gt go : Nat) : Obj := .map #[ent 4 (kindF 37 gt go) 0, ent 5 (kindF 39 gt go) 1, ent 6 (kindF 40 gt go) 2] 3

set_option maxRecDepth 100000 in
set_option maxHeartbeats 800000 in
theorem kinds_any (o : OpD) (t : Int) (w : World) : Calls Try.prog 25 #[o.val, .int .i64 t] w fun e w' => e = .returned (.map (some (w.heap.size + 1 + 1))) ∧ Below w.heap.size w w' ∧
    w'.heap[w.heap.size + 1 + 1]? = some (kindMap (w.heap.size + 1) w.heap.size) ∧ w'.cell? ⟨w.heap.size + 1, 0, none⟩ = some (.int .i64 t) ∧ OpAt w' w.heap.size o ∧ w'.heap.size = w.heap.size + 1 + 1 + 1 := by
  have hmm := @run_makeMap Try.prog
  have hmf : ∀ (fn : Fn) (first cap : Array Value) (w : World), (Instr.makeFunc fn first cap).run Try.prog w = .ok (.func fn first cap) w := fun _ _ _ _ => rfl
  obtain ⟨W2, hW2⟩ : ∃ W2, (w.alloc (.cells #[.int .i64 o.kind, .int .i64 o.a, .int .i64 o.b, .int .i64 o.agg] 23)).alloc (.cells #[.int .i64 t] 2) = W2 := ⟨_, rfl⟩
  have hs : W2.heap.size = w.heap.size + 1 + 1 := by rw [← hW2]; simp
  have i4 := ins4 W2
  have i5 := ins5 W2
  have i6 := ins6 W2
  rw [hs] at i4 i5 i6
  unfold OpD.val
  go_enter Try.func25, Try.ntmps25
  go_wp2
  go_ret
  refine ⟨rfl, ?_, ?_, ?_, ?_, ?_⟩
  · exact Below.alloc (by rw [← hW2]; exact ((Below.refl _ _).alloc (Nat.le_refl _) _).alloc (by simp) _) (by omega) _
  · rw [← hs]; exact World.alloc_heap_new W2 _
  · refine (cell_heap (Below.heap_alloc _ _ _ (by omega))).trans ?_
    have h1 : (w.alloc (.cells #[.int .i64 o.kind, .int .i64 o.a, .int .i64 o.b, .int .i64 o.agg] 23)).heap.size = w.heap.size + 1 := by simp
    rw [← hW2, ← h1]
    simp only [World.cell?, World.alloc_heap_new]
    rfl
  · have := opAt_new w o 23
    refine this.same ((Below.heap_alloc _ _ _ (by omega)).trans ?_)
    rw [← hW2]
    exact Below.heap_alloc _ _ _ (by simp)
  · simp [hs]
end Go.Proofs.Yteiedknpmlemkaa
