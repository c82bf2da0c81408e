/-
  Whether an operator fits its kind: the conditions of each row, allows, Check and Class.
-/
import Derived.Test.YteiedknpmlemkaaWa
namespace Go.Proofs.Yteiedknpmlemkaa
open Go Go.RowKit Go.Lib

theorem in_yes (n l m : Int) (h : l ≤ n ∧ n ≤ m) (w : World) : Calls Try.prog 46 #[.int .i64 n, .int .i64 l, .int .i64 m] w fun e w' => e = .returned (.bool true) ∧ w' = w :=
  (in_any n l m w).mono fun e w' hh => ⟨by rw [hh.1]; simp [h.1, h.2], hh.2⟩
theorem in_no (n l m : Int) (h : ¬ (l ≤ n ∧ n ≤ m)) (w : World) : Calls Try.prog 46 #[.int .i64 n, .int .i64 l, .int .i64 m] w fun e w' => e = .returned (.bool false) ∧ w' = w :=
  (in_any n l m w).mono fun e w' hh => ⟨by rw [hh.1]; congr 2; simpa using h, hh.2⟩

theorem size_yes (a : Int) (h : 1 ≤ a ∧ a ≤ 1073741824) (w : World) : Calls Try.prog 59 #[.int .i64 a] w fun e w' => e = .returned (.bool true) ∧ w' = w := by
  go_enter Try.func59, Try.ntmps59
  go_wp2_with (go_at_call 46
               (with_reducible refine (in_yes _ _ _ (by omega) _).mono ?_)
               rintro e w1 ⟨rfl, rfl⟩)
  go_ret
  simp
theorem size_no (a : Int) (h : ¬ (1 ≤ a ∧ a ≤ 1073741824)) (w : World) : Calls Try.prog 59 #[.int .i64 a] w fun e w' => e = .returned (.bool false) ∧ w' = w := by
  go_enter Try.func59, Try.ntmps59
  go_wp2_with (go_at_call 46
               (with_reducible refine (in_no _ _ _ (by omega) _).mono ?_)
               rintro e w1 ⟨rfl, rfl⟩)
  go_ret
  simp

def fitsM (f : Nat) (a b : Int) : Bool :=
  if f = 54 then true else if f = 56 then decide ((1 ≤ a ∧ a ≤ 4294967295) ∧ 0 ≤ b ∧ b ≤ 4294967295)
  else if f = 58 then decide ((1 ≤ a ∧ a ≤ 1073741824) ∧ 0 ≤ b ∧ b ≤ a - 1) else if f = 61 then decide (1 ≤ a ∧ a ≤ 3)
  else if f = 63 then decide ((1 ≤ a ∧ a ≤ 1073741824) ∧ b = 0) else if f = 64 then decide ((1 ≤ a ∧ a ≤ 1073741824) ∧ 1 ≤ b ∧ a.tmod b = 0 ∧ a.tdiv b ≤ 4) else false

/-- What is asked of a row's function of conditions. -/
abbrev Fits (f : Nat) : Prop := ∀ (a b : Int) (w : World), Calls Try.prog f #[.int .i64 a, .int .i64 b] w fun e w' => e = .returned (.bool (fitsM f a b)) ∧ w' = w

theorem fits26 : Fits 47 := by
  intro a b w
  have h : fitsM 47 a b = false := by simp [fitsM]
  rw [h]
  go_enter Try.func47, Try.ntmps47
  go_wp2
  go_ret
  simp
theorem fits32 : Fits 54 := by
  intro a b w
  have h : fitsM 54 a b = true := by simp [fitsM]
  rw [h]
  go_enter Try.func54, Try.ntmps54
  go_wp2
  go_ret
  simp
theorem fits34 : Fits 56 := by
  intro a b w
  have h : fitsM 56 a b = decide ((1 ≤ a ∧ a ≤ 4294967295) ∧ 0 ≤ b ∧ b ≤ 4294967295) := by simp [fitsM]
  rw [h]
  by_cases h1 : 1 ≤ a ∧ a ≤ 4294967295
  · by_cases h2 : 0 ≤ b ∧ b ≤ 4294967295
    · rw [decide_eq_true ⟨h1, h2⟩]
      go_enter Try.func56, Try.ntmps56
      go_wp2_with (go_at_call 46
                   (with_reducible refine (in_yes _ _ _ (by omega) _).mono ?_)
                   rintro e w1 ⟨rfl, rfl⟩)
      go_ret
      simp
    · rw [decide_eq_false (fun h => h2 h.2)]
      go_enter Try.func56, Try.ntmps56
      go_wp2_with (first
        | (go_at_call 46
           (with_reducible refine (in_yes a _ _ (by omega) _).mono ?_)
           rintro e w1 ⟨rfl, rfl⟩)
        | (go_at_call 46
           (with_reducible refine (in_no b _ _ (by omega) _).mono ?_)
           rintro e w1 ⟨rfl, rfl⟩))
      go_ret
      simp
  · rw [decide_eq_false (fun h => h1 h.1)]
    go_enter Try.func56, Try.ntmps56
    go_wp2_with (go_at_call 46
                 (with_reducible refine (in_no a _ _ (by omega) _).mono ?_)
                 rintro e w1 ⟨rfl, rfl⟩)
    go_ret
    simp
theorem fits36 : Fits 58 := by
  intro a b w
  have h : fitsM 58 a b = decide ((1 ≤ a ∧ a ≤ 1073741824) ∧ 0 ≤ b ∧ b ≤ a - 1) := by simp [fitsM]
  rw [h]
  by_cases h1 : 1 ≤ a ∧ a ≤ 1073741824
  · by_cases h2 : 0 ≤ b ∧ b ≤ a - 1
    · rw [decide_eq_true ⟨h1, h2⟩]
      go_enter Try.func58, Try.ntmps58
      go_wp2_with (first
        | (go_at_call 59
           (with_reducible refine (size_yes a (by omega) _).mono ?_)
           rintro e w1 ⟨rfl, rfl⟩)
        | (go_at_call 46
           (with_reducible refine (in_yes b 0 (a - 1) (by omega) _).mono ?_)
           rintro e w1 ⟨rfl, rfl⟩))
      go_ret
      simp
    · rw [decide_eq_false (fun h => h2 h.2)]
      go_enter Try.func58, Try.ntmps58
      go_wp2_with (first
        | (go_at_call 59
           (with_reducible refine (size_yes a (by omega) _).mono ?_)
           rintro e w1 ⟨rfl, rfl⟩)
        | (go_at_call 46
           (with_reducible refine (in_no b 0 (a - 1) (by omega) _).mono ?_)
           rintro e w1 ⟨rfl, rfl⟩))
      go_ret
      simp
  · rw [decide_eq_false (fun h => h1 h.1)]
    go_enter Try.func58, Try.ntmps58
    go_wp2_with (go_at_call 59
                 (with_reducible refine (size_no a (by omega) _).mono ?_)
                 rintro e w1 ⟨rfl, rfl⟩)
    go_ret
    simp
theorem fits39 : Fits 61 := by
  intro a b w
  have h : fitsM 61 a b = decide (1 ≤ a ∧ a ≤ 3) := by simp [fitsM]
  rw [h]
  by_cases h1 : 1 ≤ a ∧ a ≤ 3
  · rw [decide_eq_true h1]
    go_enter Try.func61, Try.ntmps61
    go_wp2_with (go_at_call 46
                 (with_reducible refine (in_yes a _ _ (by omega) _).mono ?_)
                 rintro e w1 ⟨rfl, rfl⟩)
    go_ret
    simp
  · rw [decide_eq_false h1]
    go_enter Try.func61, Try.ntmps61
    go_wp2_with (go_at_call 46
                 (with_reducible refine (in_no a _ _ (by omega) _).mono ?_)
                 rintro e w1 ⟨rfl, rfl⟩)
    go_ret
    simp
theorem fits41 : Fits 63 := by
  intro a b w
  have h : fitsM 63 a b = decide ((1 ≤ a ∧ a ≤ 1073741824) ∧ b = 0) := by simp [fitsM]
  rw [h]
  by_cases h1 : 1 ≤ a ∧ a ≤ 1073741824
  · by_cases h2 : b = 0
    · rw [decide_eq_true ⟨h1, h2⟩]
      go_enter Try.func63, Try.ntmps63
      go_wp2_with (go_at_call 59
                   (with_reducible refine (size_yes a (by omega) _).mono ?_)
                   rintro e w1 ⟨rfl, rfl⟩)
      go_ret
      simp
    · rw [decide_eq_false (fun h => h2 h.2)]
      go_enter Try.func63, Try.ntmps63
      go_wp2_with (go_at_call 59
                   (with_reducible refine (size_yes a (by omega) _).mono ?_)
                   rintro e w1 ⟨rfl, rfl⟩)
      go_ret
      simp [h2]
  · rw [decide_eq_false (fun h => h1 h.1)]
    go_enter Try.func63, Try.ntmps63
    go_wp2_with (go_at_call 59
                 (with_reducible refine (size_no a (by omega) _).mono ?_)
                 rintro e w1 ⟨rfl, rfl⟩)
    go_ret
    simp
theorem fits42 : Fits 64 := by
  intro a b w
  have h : fitsM 64 a b = decide ((1 ≤ a ∧ a ≤ 1073741824) ∧ 1 ≤ b ∧ a.tmod b = 0 ∧ a.tdiv b ≤ 4) := by simp [fitsM]
  rw [h]
  by_cases h1 : 1 ≤ a ∧ a ≤ 1073741824
  · by_cases h2 : 1 ≤ b
    · have hb0 : b ≠ 0 := by omega
      have hq : (0 : Int) ≤ a.tdiv b ∧ a.tdiv b ≤ a := by
        rw [Int.tdiv_eq_ediv_of_nonneg (by omega)]
        exact ⟨Int.ediv_nonneg (by omega) (by omega), Int.ediv_le_self _ (by omega)⟩
      have hr : a.tmod b = a % b := Int.tmod_eq_emod_of_nonneg (by omega)
      rw [hr]
      by_cases h3 : a % b = 0
      · by_cases h4 : a.tdiv b ≤ 4
        · rw [decide_eq_true ⟨h1, h2, h3, h4⟩]
          go_enter Try.func64, Try.ntmps64
          go_wp2_with (go_at_call 59
                       (with_reducible refine (size_yes a (by omega) _).mono ?_)
                       rintro e w1 ⟨rfl, rfl⟩)
          go_ret
          simp [h3, h4]
        · rw [decide_eq_false (fun h => h4 h.2.2.2)]
          go_enter Try.func64, Try.ntmps64
          go_wp2_with (go_at_call 59
                       (with_reducible refine (size_yes a (by omega) _).mono ?_)
                       rintro e w1 ⟨rfl, rfl⟩)
          go_ret
          simp [h3, h4]
      · rw [decide_eq_false (fun h => h3 h.2.2.1)]
        go_enter Try.func64, Try.ntmps64
        go_wp2_with (go_at_call 59
                     (with_reducible refine (size_yes a (by omega) _).mono ?_)
                     rintro e w1 ⟨rfl, rfl⟩)
        go_ret
        simp [h3]
    · rw [decide_eq_false (fun h => h2 h.2.1)]
      go_enter Try.func64, Try.ntmps64
      go_wp2_with (go_at_call 59
                   (with_reducible refine (size_yes a (by omega) _).mono ?_)
                   rintro e w1 ⟨rfl, rfl⟩)
      go_ret
      simp [h2]
  · rw [decide_eq_false (fun h => h1 h.1)]
    go_enter Try.func64, Try.ntmps64
    go_wp2_with (go_at_call 59
                 (with_reducible refine (size_no a (by omega) _).mono ?_)
                 rintro e w1 ⟨rfl, rfl⟩)
    go_ret
    simp

def allowsM (o : OpD) : Bool := decide (0 ≤ o.agg ∧ o.agg ≤ (kindRow o.kind).2.1) && fitsM (kindRow o.kind).2.2.1 o.a o.b

set_option maxHeartbeats 800000 in
theorem allows_any (o : OpD) (w : World) : Calls Try.prog 35 #[rowV o.kind, o.val] w fun e w' => e = .returned (.bool (allowsM o)) ∧ Below w.heap.size w w' := by
  obtain ⟨c, la, f, r, hrow, hf⟩ : ∃ c la f r, kindRow o.kind = (c, la, f, r) ∧ f ∈ [47, 54, 56, 58, 61, 63, 64] := by
    unfold kindRow
    repeat' split
    all_goals exact ⟨_, _, _, _, rfl, by simp⟩
  unfold allowsM rowV OpD.val
  rw [hrow]
  dsimp only
  by_cases h1 : 0 ≤ o.agg ∧ o.agg ≤ la
  · rw [decide_eq_true h1, Bool.true_and]
    simp only [List.mem_cons, List.not_mem_nil, or_false] at hf
    rcases hf with rfl | rfl | rfl | rfl | rfl | rfl | rfl <;>
    · go_enter Try.func35, Try.ntmps35
      go_wp2_with (first
        | (go_at_call 46
           (with_reducible refine (in_yes o.agg 0 la h1 _).mono ?_)
           rintro e w1 ⟨rfl, rfl⟩)
        | (go_at_call 47
           (with_reducible refine (fits26 o.a o.b _).mono ?_)
           rintro e w2 ⟨rfl, rfl⟩)
        | (go_at_call 54
           (with_reducible refine (fits32 o.a o.b _).mono ?_)
           rintro e w2 ⟨rfl, rfl⟩)
        | (go_at_call 56
           (with_reducible refine (fits34 o.a o.b _).mono ?_)
           rintro e w2 ⟨rfl, rfl⟩)
        | (go_at_call 58
           (with_reducible refine (fits36 o.a o.b _).mono ?_)
           rintro e w2 ⟨rfl, rfl⟩)
        | (go_at_call 61
           (with_reducible refine (fits39 o.a o.b _).mono ?_)
           rintro e w2 ⟨rfl, rfl⟩)
        | (go_at_call 63
           (with_reducible refine (fits41 o.a o.b _).mono ?_)
           rintro e w2 ⟨rfl, rfl⟩)
        | (go_at_call 64
           (with_reducible refine (fits42 o.a o.b _).mono ?_)
           rintro e w2 ⟨rfl, rfl⟩))
      go_ret
      exact ⟨rfl, (Below.refl _ _).alloc (Nat.le_refl _) _ |>.alloc (by simp) _⟩
  · rw [decide_eq_false h1, Bool.false_and]
    go_enter Try.func35, Try.ntmps35
    go_wp2_with (go_at_call 46
                 (with_reducible refine (in_no o.agg 0 la h1 _).mono ?_)
                 rintro e w1 ⟨rfl, rfl⟩)
    go_ret
    exact ⟨rfl, (Below.refl _ _).alloc (Nat.le_refl _) _ |>.alloc (by simp) _⟩
end Go.Proofs.Yteiedknpmlemkaa
