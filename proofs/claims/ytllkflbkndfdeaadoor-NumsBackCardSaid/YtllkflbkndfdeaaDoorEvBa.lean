/-
  Numbers read: what U finds at a place, by definition; when it is too long.
-/
import Derived.Test.YtllkflbkndfdeaaDoorProg
import Derived.WalkKit
import Derived.ProofKit
import Derived.Below
import Derived.RowKit
namespace Go.Proofs.YtllkflbkndfdeaaDoor
open Go Go.RowKit

def bt (s : ByteArray) (i : Nat) : Nat := (s.data.toList.getD i 0).toNat
theorem bt_lt (s : ByteArray) (i : Nat) : bt s i < 256 := UInt8.toNat_lt _
theorem bt_get (s : ByteArray) (i : Nat) (h : i < s.size) : s[i].toNat = bt s i := by
  have : i < s.data.toList.length := by simpa using h
  unfold bt
  rw [List.getD_eq_getElem?_getD, List.getElem?_eq_getElem this]
  rfl
/-- How many bytes from 128 on stand from a place on. -/
def hiRun (s : ByteArray) : Nat → Nat → Nat
  | 0, _ => 0
  | f + 1, k => if k < s.size ∧ 128 ≤ bt s k then hiRun s f (k + 1) + 1 else 0
def runAt (s : ByteArray) (k : Nat) : Nat := hiRun s s.size k
theorem hiRun_le (s : ByteArray) : ∀ f k, k ≤ s.size → k + hiRun s f k ≤ s.size
  | 0, k, h => h
  | f + 1, k, h => by
    unfold hiRun
    split
    · rename_i hc
      have := hiRun_le s f (k + 1) (by omega)
      omega
    · exact h
theorem hiRun_in (s : ByteArray) : ∀ f k j, j < hiRun s f k → k + j < s.size ∧ 128 ≤ bt s (k + j)
  | 0, k, j, h => by simp [hiRun] at h
  | f + 1, k, j, h => by
    unfold hiRun at h
    split at h
    · rename_i hc
      cases j with
      | zero => exact hc
      | succ j =>
        have := hiRun_in s f (k + 1) j (by omega)
        rw [show k + (j + 1) = k + 1 + j by omega]
        exact this
    · omega
theorem hiRun_end (s : ByteArray) : ∀ f k, s.size ≤ k + f → ¬ (k + hiRun s f k < s.size ∧ 128 ≤ bt s (k + hiRun s f k))
  | 0, k, h => by simp [hiRun]; omega
  | f + 1, k, h => by
    unfold hiRun
    split
    · have := hiRun_end s f (k + 1) (by omega)
      rw [show k + (hiRun s f (k + 1) + 1) = k + 1 + hiRun s f (k + 1) by omega]
      exact this
    · rename_i hc
      simpa using hc
theorem inRun {s : ByteArray} {k j : Nat} (h : j < runAt s k) : k + j < s.size ∧ 128 ≤ bt s (k + j) := hiRun_in s _ k j h
theorem run_end (s : ByteArray) (k : Nat) : ¬ (k + runAt s k < s.size ∧ 128 ≤ bt s (k + runAt s k)) := hiRun_end s _ k (by omega)
theorem run_le {s : ByteArray} {k : Nat} (h : k ≤ s.size) : k + runAt s k ≤ s.size := hiRun_le s _ k h
/-- It is known by what stands there. -/
theorem run_is {s : ByteArray} {k m : Nat} (h1 : ∀ j, j < m → k + j < s.size ∧ 128 ≤ bt s (k + j)) (h2 : ¬ (k + m < s.size ∧ 128 ≤ bt s (k + m))) : runAt s k = m := by
  rcases Nat.lt_trichotomy (runAt s k) m with h | h | h
  · exact absurd (h1 _ h) (run_end s k)
  · exact h
  · exact absurd (inRun h) h2
/-- The number of the first digits. -/
def val (s : ByteArray) (k : Nat) : Nat → Nat
  | 0 => 0
  | j + 1 => val s k j * 128 + bt s (k + j) % 128
/-- What is wrong with the number at a place (none: 0), P1.2. -/
def bad (s : ByteArray) (k : Nat) : Nat :=
  if s.size ≤ k + runAt s k then 3
  else if bt s k = 128 then 5
  else if 10 ≤ runAt s k ∨ (runAt s k = 9 ∧ 129 < bt s k) then 4
  else 0
def num (s : ByteArray) (k : Nat) : Nat := if bad s k = 0 then val s k (runAt s k + 1) else 0
def nxt (s : ByteArray) (k : Nat) : Nat := if bad s k = 0 then k + runAt s k + 1 else k
theorem val_hi (s : ByteArray) (k : Nat) : ∀ j, val s k (j + 1) < 128 ^ j * (bt s k % 128 + 1) ∧ 128 ^ j * (bt s k % 128) ≤ val s k (j + 1)
  | 0 => by simp [val]
  | j + 1 => by
    have ih := val_hi s k j
    have hm := Nat.mod_lt (bt s (k + (j + 1))) (show 0 < 128 by omega)
    rw [val, Nat.pow_succ]
    have e1 : 128 ^ j * 128 * (bt s k % 128 + 1) = 128 ^ j * (bt s k % 128 + 1) * 128 := by rw [Nat.mul_assoc, Nat.mul_comm 128, ← Nat.mul_assoc]
    have e2 : 128 ^ j * 128 * (bt s k % 128) = 128 ^ j * (bt s k % 128) * 128 := by rw [Nat.mul_assoc, Nat.mul_comm 128, ← Nat.mul_assoc]
    rw [e1, e2]
    omega
/-- Too long: found ahead of one of its digits. -/
theorem long_iff {s : ByteArray} {k : Nat} (h2 : bt s k ≠ 128) : (∃ j, j ≤ runAt s k ∧ 144115188075855872 ≤ val s k j) ↔ (10 ≤ runAt s k ∨ (runAt s k = 9 ∧ 129 < bt s k)) := by
  have hb := bt_lt s k
  have p8 : (128 : Nat) ^ 8 = 72057594037927936 := by decide
  have p9 : (128 : Nat) ^ 9 = 9223372036854775808 := by decide
  have small : ∀ j, j ≤ 8 → val s k j < 72057594037927936 := by
    intro j hj
    cases j with
    | zero => simp [val]
    | succ j =>
      have := (val_hi s k j).1
      have hp : (128 : Nat) ^ j * (bt s k % 128 + 1) ≤ 128 ^ j * 128 := Nat.mul_le_mul_left _ (by omega)
      have hp2 : (128 : Nat) ^ (j + 1) ≤ 128 ^ 8 := Nat.pow_le_pow_right (by omega) hj
      rw [Nat.pow_succ] at hp2
      omega
  constructor
  · rintro ⟨j, hj, hv⟩
    rcases Nat.lt_or_ge (runAt s k) 10 with h | h
    · right
      have h9 : j = 9 := by
        rcases Nat.lt_or_ge j 9 with h' | h'
        · have := small j (by omega); omega
        · omega
      subst h9
      have this : val s k 9 < 128 ^ 8 * (bt s k % 128 + 1) := (val_hi s k 8).1
      rw [p8] at this
      have h128 := (inRun (s := s) (k := k) (j := 0) (by omega)).2
      simp only [Nat.add_zero] at h128
      refine ⟨by omega, ?_⟩
      omega
    · exact .inl h
  · intro h
    have h128 := (inRun (s := s) (k := k) (j := 0) (by omega)).2
    simp only [Nat.add_zero] at h128
    rcases h with h | ⟨h, hb2⟩
    · refine ⟨10, h, ?_⟩
      have this9 : 128 ^ 9 * (bt s k % 128) ≤ val s k 10 := (val_hi s k 9).2
      rw [p9] at this9
      have : 9223372036854775808 * 1 ≤ 9223372036854775808 * (bt s k % 128) := Nat.mul_le_mul_left _ (by omega)
      omega
    · refine ⟨9, by omega, ?_⟩
      have this : 128 ^ 8 * (bt s k % 128) ≤ val s k 9 := (val_hi s k 8).2
      rw [p8] at this
      have : 72057594037927936 * 2 ≤ 72057594037927936 * (bt s k % 128) := Nat.mul_le_mul_left _ (by omega)
      omega
end Go.Proofs.YtllkflbkndfdeaaDoor
