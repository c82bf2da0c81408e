/-
  WinCovers of any draft, and any time.
-/
import Derived.Test.YteiedknpmlemkaaXy
import Derived.Test.YteiedknpmlemkaaXz
namespace Go.Proofs.Yteiedknpmlemkaa
open Go Go.RowKit Go.Lib Go.Shelf

theorem covers_any (x : KindD) (ok : x.ok) (t : Int) (w : World) : Calls Try.prog 5 #[x.val, .int .i64 t] w fun e w' => e = .returned (.bool true) ∧ Below w.heap.size w w' := by
  obtain ⟨q0, s, v⟩ := x
  obtain ⟨h1, h2, h3⟩ := ok
  dsimp only at h1 h2 h3
  have hm : q0 % 3 = 0 ∨ q0 % 3 = 1 ∨ q0 % 3 = 2 := by omega
  have hB : 1 ≤ 1 + s % 1000000 ∧ 1 + s % 1000000 ≤ 1000000 := by omega
  obtain ⟨B, hBe⟩ : ∃ B, 1 + s % 1000000 = B := ⟨_, rfl⟩
  rw [hBe] at hB
  rcases hm with h | h | h
  · refine covers_4 q0 s v t B hB.1 (by omega) h1 h2 h3 ?_ (fun t ht => of_grid4 B t ⟨hB.1, by omega⟩ ht) w
    unfold draftM
    rw [h]
    simp [hBe]
  · obtain ⟨q, hq⟩ : ∃ q : Nat, 1 + v % 4 = (q : Int) := ⟨(1 + v % 4).toNat, by omega⟩
    have hq4 : 1 ≤ q ∧ q ≤ 4 := by omega
    obtain ⟨a, ha⟩ : ∃ a : Int, q * B = a := ⟨_, rfl⟩
    have h5 : (q : Int) * B ≤ 4 * B := Int.mul_le_mul_of_nonneg_right (by omega) (by omega)
    have h6 : (1 : Int) * B ≤ q * B := Int.mul_le_mul_of_nonneg_right (by omega) (by omega)
    refine covers_5 q0 s v t a B q hB.1 hq4 ha.symm (by omega) (by omega) h1 h2 h3 ?_ (fun t ht => by rw [← ha]; exact of_grid5 B q t hB.1 hq4 (by omega) ht) w
    unfold draftM
    rw [h]
    simp [hBe, hq, ← ha, Int.mul_comm]
  · refine covers_6 q0 s v t B hB.1 (by omega) h1 h2 h3 ?_ (fun t ht => of_grid6 B t ⟨hB.1, by omega⟩ ht) w
    unfold draftM
    rw [h]
    simp [hBe]
end Go.Proofs.Yteiedknpmlemkaa
