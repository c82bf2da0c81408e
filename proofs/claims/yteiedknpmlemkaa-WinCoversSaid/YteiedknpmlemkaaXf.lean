/-
  What WinCovers says, as mathematics: the windows of an operator stand on a grid.
-/
import Derived.Test.YteiedknpmlemkaaXc
namespace Go.Proofs.Yteiedknpmlemkaa
open Go Go.RowKit Go.Lib Go.Shelf

/-- What is known of the i-th window of a grid, its beginning being x0. -/
structure GridAt (T a B : Int) (q i : Nat) (x0 : Int) : Prop where
  le : x0 ≤ T
  lt : T < x0 + a
  rem : x0.tmod B = 0
  low : i = 0 → x0 - B + a ≤ T
  high : i + 1 = q → T < x0 + B
  b1 : -2305843009213693952 ≤ x0
  b2 : x0 ≤ 2305843009213693952
  mem0 : isT x0 → (x0, x0 + a) ∈ slideM q x0 a B
  mem1 : isT (x0 + a - 1) → (x0, x0 + a) ∈ slideM q (x0 + a - 1) a B

theorem flo_mul (c B : Int) (hB : 1 ≤ B) : flo (B * c) B = B * c := by
  unfold flo
  rw [Int.mul_emod_right]; omega
theorem flo_mul_less (c B : Int) (hB : 1 ≤ B) : flo (B * c - 1) B = B * c - B := by
  have h : (B * c - 1) % B = B - 1 := by
    have e : B * c - 1 = (B - 1) + B * (c - 1) := by rw [Int.mul_sub]; omega
    rw [e, Int.add_mul_emod_self_left]
    exact Int.emod_eq_of_lt (by omega) (by omega)
  unfold flo
  rw [h]; omega
theorem grid_at {T a B : Int} {q : Nat} (hT : isT T) (ha : a ≤ 1073741824) (hB : 1 ≤ B) (hq : a = q * B) (hq1 : 1 ≤ q) (i : Nat) (hi : i < q) : GridAt T a B q i (flo T B - a + B + i * B) := by
  have h1 := flo_le T B hB
  have h2 := lt_flo T B hB
  have hs : B ≤ a := by
    have := Int.mul_le_mul_of_nonneg_right (a := (1 : Int)) (b := q) (c := B) (by omega) (by omega)
    omega
  have hfs := flo_small hT (n := B) ⟨hB, by omega⟩
  obtain ⟨c, hc⟩ : ∃ c, flo T B = B * c := ⟨T / B, by unfold flo; have := Int.mul_ediv_add_emod T B; omega⟩
  obtain ⟨m, hm⟩ : ∃ m : Int, (i : Int) * B = m := ⟨_, rfl⟩
  have m0 : 0 ≤ m := by rw [← hm]; exact Int.mul_nonneg (by omega) (by omega)
  have m1 : m + B ≤ a := by
    have := Int.mul_le_mul_of_nonneg_right (a := (i : Int) + 1) (b := q) (c := B) (by omega) (by omega)
    rw [Int.add_mul, hm] at this
    omega
  have mz : i = 0 → m = 0 := fun e => by rw [← hm, e]; simp
  have me : i + 1 = q → m + B = a := fun e => by
    rw [hq, ← e, Int.natCast_add, Int.add_mul, hm]; simp
  obtain ⟨d, hd⟩ : ∃ d, flo T B - a + B + m = B * d := ⟨c - q + 1 + i, by
    rw [hc, hq, ← hm, Int.mul_add, Int.mul_add, Int.mul_sub, Int.mul_comm B q, Int.mul_comm B i]; omega⟩
  have e2 : B * d + a = B * (d + q) := by rw [Int.mul_add, hq, Int.mul_comm B q]
  rw [hm]
  have hqq : ((q - 1 : Nat) : Int) * B = a - B := by
    have : ((q - 1 : Nat) : Int) = (q : Int) - 1 := by omega
    rw [this, Int.sub_mul, ← hq]; omega
  refine ⟨by omega, by omega, by rw [hd]; exact Int.mul_tmod_right _ _, fun e => by have := mz e; omega, fun e => by have := me e; omega, by omega, by omega, fun _ => ?_, fun _ => ?_⟩
  · refine List.mem_map.2 ⟨q - 1, List.mem_range.2 (by omega), ?_⟩
    unfold slideAt
    rw [hd, flo_mul d B hB, hqq]
    refine Prod.ext ?_ ?_ <;> (dsimp only; omega)
  · refine List.mem_map.2 ⟨0, List.mem_range.2 (by omega), ?_⟩
    unfold slideAt
    rw [hd, e2, flo_mul_less _ B hB, ← e2]
    refine Prod.ext ?_ ?_ <;> (simp only [Int.natCast_zero, Int.zero_mul]; omega)

theorem slideM_get {q : Nat} {t a B : Int} {i : Nat} (h : i < q) : (slideM q t a B)[i]? = some (flo t B - a + B + i * B, flo t B - a + B + i * B + a) := by
  unfold slideM
  rw [List.getElem?_map, List.getElem?_range h]
  rfl

theorem allows_4 (a : Int) (h : 1 ≤ a ∧ a ≤ 1073741824) : allowsM ⟨4, a, 0, 0⟩ = true := by simp [allowsM, kindRow, fitsM, h]
theorem allows_6 (a : Int) (h : 1 ≤ a ∧ a ≤ 1073741824) : allowsM ⟨6, a, 0, 0⟩ = true := by simp [allowsM, kindRow, fitsM, h]
theorem tdiv_mul (B : Int) (q : Nat) (hB : 1 ≤ B) : ((q : Int) * B).tdiv B = q := Int.mul_tdiv_cancel _ (by omega)
theorem allows_5 (B : Int) (q : Nat) (hB : 1 ≤ B) (hq : 1 ≤ q ∧ q ≤ 4) (h : (q : Int) * B ≤ 1073741824) : allowsM ⟨5, q * B, B, 0⟩ = true := by
  have h1 : (1 : Int) * B ≤ q * B := Int.mul_le_mul_of_nonneg_right (by omega) (by omega)
  have h2 : ((q : Int) * B).tmod B = 0 := Int.mul_tmod_left _ _
  simp [allowsM, kindRow, fitsM, tdiv_mul B q hB, h2]
  omega
theorem of_grid4 (a t : Int) (h : 1 ≤ a ∧ a ≤ 1073741824) (ht : isT t) : ofM ⟨4, a, 0, 0⟩ t = slideM 1 t a a := by
  unfold ofM
  rw [if_pos ⟨allows_4 a h, by simp [kindRow], ht⟩, if_neg (by simp), if_neg (by simp)]
  simp [slideM, slideAt]
theorem of_grid6 (a t : Int) (h : 1 ≤ a ∧ a ≤ 1073741824) (ht : isT t) : ofM ⟨6, a, 0, 0⟩ t = [(t, t + a)] := by
  unfold ofM
  rw [if_pos ⟨allows_6 a h, by simp [kindRow], ht⟩, if_pos rfl]
theorem of_grid5 (B : Int) (q : Nat) (t : Int) (hB : 1 ≤ B) (hq : 1 ≤ q ∧ q ≤ 4) (h : (q : Int) * B ≤ 1073741824) (ht : isT t) : ofM ⟨5, q * B, B, 0⟩ t = slideM q t (q * B) B := by
  unfold ofM
  rw [if_pos ⟨allows_5 B q hB hq h, by simp [kindRow], ht⟩, if_neg (by simp), if_pos rfl]
  simp only [tdiv_mul B q hB, Int.toNat_natCast]
end Go.Proofs.Yteiedknpmlemkaa
