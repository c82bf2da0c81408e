/-
  A frame of which a region has written only some slots, written out again.
-/
import Derived.Test.YteiedknpmlemkaaXg
namespace Go.Proofs.Yteiedknpmlemkaa
open Go Go.RowKit Go.Lib Go.Ev

theorem mid_of (t : Array Value) (lo m : Nat) (h : lo + m ≤ t.size) : (t.toList.drop lo).take m = (List.range m).map (fun j => t.getD (lo + j) undef) := by
  refine List.ext_getElem? fun i => ?_
  rw [List.getElem?_take, List.getElem?_map]
  by_cases hi : i < m
  · rw [if_pos hi, List.getElem?_drop, List.getElem?_range hi]
    have h2 : lo + i < t.size := by omega
    simp [Array.getD, h2]
  · rw [if_neg hi, List.getElem?_eq_none (by simp; omega)]
    rfl
/-- lit is t0, but for the slots lo to lo + m, which are t's. -/
theorem frame_of {t t0 lit : Array Value} {lo m : Nat} (hs : t.size = t0.size) (hlo : lo + m ≤ t0.size) (hother : ∀ i, i < lo ∨ lo + m ≤ i → t[i]? = t0[i]?)
    (h1 : lit.toList = t0.toList.take lo ++ ((List.range m).map (fun j => t.getD (lo + j) undef) ++ t0.toList.drop (lo + m))) : t = lit := by
  rw [← mid_of t lo m (by omega)] at h1
  refine Array.toList_inj.1 ?_
  rw [h1]
  refine List.ext_getElem? fun i => ?_
  have hl : t.toList.length = t0.toList.length := by simpa using hs
  have hl0 : t0.toList.length = t0.size := by simp
  by_cases a : i < lo
  · rw [List.getElem?_append_left (by rw [List.length_take]; omega), List.getElem?_take, if_pos a]
    have := hother i (.inl a)
    simpa using this
  · rw [List.getElem?_append_right (by rw [List.length_take]; omega), List.length_take, Nat.min_eq_left (by omega)]
    by_cases b : i < lo + m
    · rw [List.getElem?_append_left (by rw [List.length_take, List.length_drop]; omega), List.getElem?_take, if_pos (by omega), List.getElem?_drop]
      congr 1; omega
    · rw [List.getElem?_append_right (by rw [List.length_take, List.length_drop]; omega), List.length_take, List.length_drop, Nat.min_eq_left (by omega), List.getElem?_drop]
      have := hother i (.inr (by omega))
      rw [show lo + m + (i - lo - m) = i by omega]
      simpa using this
/-- Which slots a region writes: those from lo to lo + m alone. -/
def within (ops : Array Oper) (lo m : Nat) : Bool := ops.toList.all fun o => match o.dst with
  | some d => Nat.ble lo d && Nat.blt d (lo + m)
  | none => true
theorem within_of {ops : Array Oper} {lo m : Nat} (h : within ops lo m = true) {t : Nat} (ht : t < lo ∨ lo + m ≤ t) : ∀ (i : Nat) (o : Oper), ops[i]? = some o → o.dst ≠ some t := by
  intro i o hi hd
  have := List.all_eq_true.1 h o (List.mem_of_getElem? (i := i) (by rw [Array.getElem?_toList]; exact hi))
  rw [hd] at this
  simp only [Bool.and_eq_true, Nat.ble_eq, Nat.blt_eq] at this
  omega
/-- The same, with letters for what was written. -/
theorem frame_let {t t0 : Array Value} (n lo m : Nat) (hs' : t.size = n) (h0 : t0.size = n) (hlo' : lo + m ≤ n) (hother : ∀ i, i < lo ∨ lo + m ≤ i → t[i]? = t0[i]?) :
    ∃ u : Nat → Value, t = (t0.toList.take lo ++ ((List.range' lo m).map u ++ t0.toList.drop (lo + m))).toArray ∧ ∀ i, lo ≤ i → i < lo + m → t[i]? = some (u i) := by
  have hs : t.size = t0.size := by omega
  have hlo : lo + m ≤ t0.size := by omega
  refine ⟨fun i => t.getD i undef, frame_of hs hlo hother ?_, fun i h1 h2 => ?_⟩
  · simp [List.range'_eq_map_range, Function.comp_def]
  · have : i < t.size := by omega
    simp [Array.getD, this]
end Go.Proofs.Yteiedknpmlemkaa
