/-
  The document's own checks of an operator come to the same as the program's.
-/
import Derived.Test.YteiedknpmlemkaaWb
namespace Go.Proofs.Yteiedknpmlemkaa
open Go Go.RowKit Go.Lib

theorem rin_any (n l m : Int) (w : World) : Calls Try.prog 41 #[.int .i64 n, .int .i64 l, .int .i64 m] w fun e w' => e = .returned (.bool (decide (l ≤ n) && decide (n ≤ m))) ∧ w' = w := by
  by_cases h1 : l ≤ n
  · by_cases h2 : n ≤ m
    · go_enter Try.func41, Try.ntmps41
      go_wp2
      go_ret
      simp [h1, h2]
    · go_enter Try.func41, Try.ntmps41
      go_wp2
      go_ret
      simp [h2]
  · have hd : decide (l ≤ n) = false := by simpa using h1
    rw [hd]
    go_enter Try.func41, Try.ntmps41
    go_wp2
    go_ret
    simp
theorem rin_yes (n l m : Int) (h : l ≤ n ∧ n ≤ m) (w : World) : Calls Try.prog 41 #[.int .i64 n, .int .i64 l, .int .i64 m] w fun e w' => e = .returned (.bool true) ∧ w' = w :=
  (rin_any n l m w).mono fun e w' hh => ⟨by rw [hh.1]; simp [h.1, h.2], hh.2⟩
theorem rin_no (n l m : Int) (h : ¬ (l ≤ n ∧ n ≤ m)) (w : World) : Calls Try.prog 41 #[.int .i64 n, .int .i64 l, .int .i64 m] w fun e w' => e = .returned (.bool false) ∧ w' = w :=
  (rin_any n l m w).mono fun e w' hh => ⟨by rw [hh.1]; congr 2; simpa using h, hh.2⟩

def boxOf (k a b g : Int) : Obj := .cells #[.int .i64 k, .int .i64 a, .int .i64 b, .int .i64 g] 23

set_option maxHeartbeats 800000 in
theorem rclass_any (k a b g : Int) (w : World) : Calls Try.prog 27 #[.agg #[.int .i64 k, .int .i64 a, .int .i64 b, .int .i64 g]] w fun e w' => e = .returned (.int .i64 (kindRow k).1) ∧ w' = w.alloc (boxOf k a b g) := by
  by_cases hk : k ∈ [(0 : Int), 1, 2, 3, 4, 5, 6, 7]
  · simp only [List.mem_cons, List.not_mem_nil, or_false] at hk
    rcases hk with rfl | rfl | rfl | rfl | rfl | rfl | rfl | rfl <;>
    · go_enter Try.func27, Try.ntmps27
      go_wp2
      go_ret
      exact ⟨rfl, rfl⟩
  · simp only [List.mem_cons, List.not_mem_nil, or_false, not_or] at hk
    obtain ⟨h0, h1, h2, h3, h4, h5, h6, h7⟩ := hk
    have hr : (kindRow k).1 = -1 := by unfold kindRow; simp [*]
    rw [hr]
    go_enter Try.func27, Try.ntmps27
    go_wp2
    go_ret
    exact ⟨rfl, rfl⟩
set_option maxHeartbeats 800000 in
theorem may0_agg (a b g : Int) (h : ¬ g = 0) (w : World) : Calls Try.prog 26 #[.agg #[.int .i64 0, .int .i64 a, .int .i64 b, .int .i64 g]] w fun e w' => e = .returned (.bool false) ∧ w' = (w.alloc (boxOf 0 a b g)).alloc (boxOf 0 a b g) := by
  go_enter Try.func26, Try.ntmps26
  go_wp2_with (first
    | (go_at_call 27
       (with_reducible refine (rclass_any _ a b g _).mono ?_)
       rintro e w1 ⟨rfl, rfl⟩
       unfold boxOf))
  go_ret
  first | exact ⟨rfl, rfl⟩ | exact ⟨by simp [*], rfl⟩
set_option maxHeartbeats 800000 in
theorem may0_yes (a b g : Int) (hg : g = 0) (w : World) : Calls Try.prog 26 #[.agg #[.int .i64 0, .int .i64 a, .int .i64 b, .int .i64 g]] w fun e w' => e = .returned (.bool true) ∧ w' = (w.alloc (boxOf 0 a b g)).alloc (boxOf 0 a b g) := by
  subst hg
  go_enter Try.func26, Try.ntmps26
  go_wp2_with (first
    | (go_at_call 27
       (with_reducible refine (rclass_any _ a b 0 _).mono ?_)
       rintro e w1 ⟨rfl, rfl⟩
       unfold boxOf))
  go_ret
  first | exact ⟨rfl, rfl⟩ | exact ⟨by simp [*], rfl⟩
set_option maxHeartbeats 800000 in
theorem may1_agg (a b g : Int) (h : ¬ g = 0) (w : World) : Calls Try.prog 26 #[.agg #[.int .i64 1, .int .i64 a, .int .i64 b, .int .i64 g]] w fun e w' => e = .returned (.bool false) ∧ w' = (w.alloc (boxOf 1 a b g)).alloc (boxOf 1 a b g) := by
  go_enter Try.func26, Try.ntmps26
  go_wp2_with (first
    | (go_at_call 27
       (with_reducible refine (rclass_any _ a b g _).mono ?_)
       rintro e w1 ⟨rfl, rfl⟩
       unfold boxOf))
  go_ret
  first | exact ⟨rfl, rfl⟩ | exact ⟨by simp [*], rfl⟩
set_option maxHeartbeats 800000 in
theorem may1_a (a b g : Int) (hg : g = 0) (h1 : ¬ (1 ≤ a ∧ a ≤ 4294967295)) (w : World) : Calls Try.prog 26 #[.agg #[.int .i64 1, .int .i64 a, .int .i64 b, .int .i64 g]] w fun e w' => e = .returned (.bool false) ∧ w' = (w.alloc (boxOf 1 a b g)).alloc (boxOf 1 a b g) := by
  subst hg
  go_enter Try.func26, Try.ntmps26
  go_wp2_with (first
    | (go_at_call 27
       (with_reducible refine (rclass_any _ a b 0 _).mono ?_)
       rintro e w1 ⟨rfl, rfl⟩
       unfold boxOf)
    | (go_at_call 41
       (with_reducible refine (rin_no a _ _ (by omega) _).mono ?_)
       rintro e w1 ⟨rfl, rfl⟩))
  go_ret
  first | exact ⟨rfl, rfl⟩ | exact ⟨by simp [*], rfl⟩
set_option maxHeartbeats 800000 in
theorem may1_b (a b g : Int) (hg : g = 0) (h1 : 1 ≤ a ∧ a ≤ 4294967295) (h2 : ¬ (0 ≤ b ∧ b ≤ 4294967295)) (w : World) : Calls Try.prog 26 #[.agg #[.int .i64 1, .int .i64 a, .int .i64 b, .int .i64 g]] w fun e w' => e = .returned (.bool false) ∧ w' = (w.alloc (boxOf 1 a b g)).alloc (boxOf 1 a b g) := by
  subst hg
  go_enter Try.func26, Try.ntmps26
  go_wp2_with (first
    | (go_at_call 27
       (with_reducible refine (rclass_any _ a b 0 _).mono ?_)
       rintro e w1 ⟨rfl, rfl⟩
       unfold boxOf)
    | (go_at_call 41
       (with_reducible refine (rin_yes a 1 _ (by omega) _).mono ?_)
       rintro e w1 ⟨rfl, rfl⟩)
    | (go_at_call 41
       (with_reducible refine (rin_no b 0 _ (by omega) _).mono ?_)
       rintro e w1 ⟨rfl, rfl⟩))
  go_ret
  first | exact ⟨rfl, rfl⟩ | exact ⟨by simp [*], rfl⟩
set_option maxHeartbeats 800000 in
theorem may1_yes (a b g : Int) (hg : g = 0) (h1 : 1 ≤ a ∧ a ≤ 4294967295) (h2 : 0 ≤ b ∧ b ≤ 4294967295) (w : World) : Calls Try.prog 26 #[.agg #[.int .i64 1, .int .i64 a, .int .i64 b, .int .i64 g]] w fun e w' => e = .returned (.bool true) ∧ w' = (w.alloc (boxOf 1 a b g)).alloc (boxOf 1 a b g) := by
  subst hg
  go_enter Try.func26, Try.ntmps26
  go_wp2_with (first
    | (go_at_call 27
       (with_reducible refine (rclass_any _ a b 0 _).mono ?_)
       rintro e w1 ⟨rfl, rfl⟩
       unfold boxOf)
    | (go_at_call 41
       (with_reducible refine (rin_yes a 1 _ (by omega) _).mono ?_)
       rintro e w1 ⟨rfl, rfl⟩)
    | (go_at_call 41
       (with_reducible refine (rin_yes b 0 _ (by omega) _).mono ?_)
       rintro e w1 ⟨rfl, rfl⟩))
  go_ret
  first | exact ⟨rfl, rfl⟩ | exact ⟨by simp [*], rfl⟩
set_option maxHeartbeats 800000 in
theorem may2_agg (a b g : Int) (h : ¬ g = 0) (w : World) : Calls Try.prog 26 #[.agg #[.int .i64 2, .int .i64 a, .int .i64 b, .int .i64 g]] w fun e w' => e = .returned (.bool false) ∧ w' = (w.alloc (boxOf 2 a b g)).alloc (boxOf 2 a b g) := by
  go_enter Try.func26, Try.ntmps26
  go_wp2_with (first
    | (go_at_call 27
       (with_reducible refine (rclass_any _ a b g _).mono ?_)
       rintro e w1 ⟨rfl, rfl⟩
       unfold boxOf))
  go_ret
  first | exact ⟨rfl, rfl⟩ | exact ⟨by simp [*], rfl⟩
set_option maxHeartbeats 800000 in
theorem may2_a (a b g : Int) (hg : g = 0) (h1 : ¬ (1 ≤ a ∧ a ≤ 1073741824)) (w : World) : Calls Try.prog 26 #[.agg #[.int .i64 2, .int .i64 a, .int .i64 b, .int .i64 g]] w fun e w' => e = .returned (.bool false) ∧ w' = (w.alloc (boxOf 2 a b g)).alloc (boxOf 2 a b g) := by
  subst hg
  go_enter Try.func26, Try.ntmps26
  go_wp2_with (first
    | (go_at_call 27
       (with_reducible refine (rclass_any _ a b 0 _).mono ?_)
       rintro e w1 ⟨rfl, rfl⟩
       unfold boxOf)
    | (go_at_call 41
       (with_reducible refine (rin_no a _ _ (by omega) _).mono ?_)
       rintro e w1 ⟨rfl, rfl⟩))
  go_ret
  first | exact ⟨rfl, rfl⟩ | exact ⟨by simp [*], rfl⟩
set_option maxHeartbeats 800000 in
theorem may2_b (a b g : Int) (hg : g = 0) (h1 : 1 ≤ a ∧ a ≤ 1073741824) (h2 : ¬ (0 ≤ b ∧ b ≤ a - 1)) (w : World) : Calls Try.prog 26 #[.agg #[.int .i64 2, .int .i64 a, .int .i64 b, .int .i64 g]] w fun e w' => e = .returned (.bool false) ∧ w' = (w.alloc (boxOf 2 a b g)).alloc (boxOf 2 a b g) := by
  subst hg
  go_enter Try.func26, Try.ntmps26
  go_wp2_with (first
    | (go_at_call 27
       (with_reducible refine (rclass_any _ a b 0 _).mono ?_)
       rintro e w1 ⟨rfl, rfl⟩
       unfold boxOf)
    | (go_at_call 41
       (with_reducible refine (rin_yes a 1 _ (by omega) _).mono ?_)
       rintro e w1 ⟨rfl, rfl⟩)
    | (go_at_call 41
       (with_reducible refine (rin_no b 0 (a - 1) (by omega) _).mono ?_)
       rintro e w1 ⟨rfl, rfl⟩))
  go_ret
  first | exact ⟨rfl, rfl⟩ | exact ⟨by simp [*], rfl⟩
set_option maxHeartbeats 800000 in
theorem may2_yes (a b g : Int) (hg : g = 0) (h1 : 1 ≤ a ∧ a ≤ 1073741824) (h2 : 0 ≤ b ∧ b ≤ a - 1) (w : World) : Calls Try.prog 26 #[.agg #[.int .i64 2, .int .i64 a, .int .i64 b, .int .i64 g]] w fun e w' => e = .returned (.bool true) ∧ w' = (w.alloc (boxOf 2 a b g)).alloc (boxOf 2 a b g) := by
  subst hg
  go_enter Try.func26, Try.ntmps26
  go_wp2_with (first
    | (go_at_call 27
       (with_reducible refine (rclass_any _ a b 0 _).mono ?_)
       rintro e w1 ⟨rfl, rfl⟩
       unfold boxOf)
    | (go_at_call 41
       (with_reducible refine (rin_yes a 1 _ (by omega) _).mono ?_)
       rintro e w1 ⟨rfl, rfl⟩)
    | (go_at_call 41
       (with_reducible refine (rin_yes b 0 (a - 1) (by omega) _).mono ?_)
       rintro e w1 ⟨rfl, rfl⟩))
  go_ret
  first | exact ⟨rfl, rfl⟩ | exact ⟨by simp [*], rfl⟩
set_option maxHeartbeats 800000 in
theorem may3_agg (a b g : Int) (h : ¬ g = 0) (w : World) : Calls Try.prog 26 #[.agg #[.int .i64 3, .int .i64 a, .int .i64 b, .int .i64 g]] w fun e w' => e = .returned (.bool false) ∧ w' = (w.alloc (boxOf 3 a b g)).alloc (boxOf 3 a b g) := by
  go_enter Try.func26, Try.ntmps26
  go_wp2_with (first
    | (go_at_call 27
       (with_reducible refine (rclass_any _ a b g _).mono ?_)
       rintro e w1 ⟨rfl, rfl⟩
       unfold boxOf))
  go_ret
  first | exact ⟨rfl, rfl⟩ | exact ⟨by simp [*], rfl⟩
set_option maxHeartbeats 800000 in
theorem may3_a (a b g : Int) (hg : g = 0) (h1 : ¬ (1 ≤ a ∧ a ≤ 3)) (w : World) : Calls Try.prog 26 #[.agg #[.int .i64 3, .int .i64 a, .int .i64 b, .int .i64 g]] w fun e w' => e = .returned (.bool false) ∧ w' = (w.alloc (boxOf 3 a b g)).alloc (boxOf 3 a b g) := by
  subst hg
  go_enter Try.func26, Try.ntmps26
  go_wp2_with (first
    | (go_at_call 27
       (with_reducible refine (rclass_any _ a b 0 _).mono ?_)
       rintro e w1 ⟨rfl, rfl⟩
       unfold boxOf)
    | (go_at_call 41
       (with_reducible refine (rin_no a _ _ (by omega) _).mono ?_)
       rintro e w1 ⟨rfl, rfl⟩))
  go_ret
  first | exact ⟨rfl, rfl⟩ | exact ⟨by simp [*], rfl⟩
set_option maxHeartbeats 800000 in
theorem may3_yes (a b g : Int) (hg : g = 0) (h1 : 1 ≤ a ∧ a ≤ 3) (w : World) : Calls Try.prog 26 #[.agg #[.int .i64 3, .int .i64 a, .int .i64 b, .int .i64 g]] w fun e w' => e = .returned (.bool true) ∧ w' = (w.alloc (boxOf 3 a b g)).alloc (boxOf 3 a b g) := by
  subst hg
  go_enter Try.func26, Try.ntmps26
  go_wp2_with (first
    | (go_at_call 27
       (with_reducible refine (rclass_any _ a b 0 _).mono ?_)
       rintro e w1 ⟨rfl, rfl⟩
       unfold boxOf)
    | (go_at_call 41
       (with_reducible refine (rin_yes a 1 _ (by omega) _).mono ?_)
       rintro e w1 ⟨rfl, rfl⟩))
  go_ret
  first | exact ⟨rfl, rfl⟩ | exact ⟨by simp [*], rfl⟩
set_option maxHeartbeats 800000 in
theorem may4_low (a b g : Int) (h : g < 0) (w : World) : Calls Try.prog 26 #[.agg #[.int .i64 4, .int .i64 a, .int .i64 b, .int .i64 g]] w fun e w' => e = .returned (.bool false) ∧ w' = (w.alloc (boxOf 4 a b g)).alloc (boxOf 4 a b g) := by
  go_enter Try.func26, Try.ntmps26
  go_wp2_with (first
    | (go_at_call 27
       (with_reducible refine (rclass_any _ a b g _).mono ?_)
       rintro e w1 ⟨rfl, rfl⟩
       unfold boxOf))
  go_ret
  first | exact ⟨rfl, rfl⟩ | exact ⟨by simp [*], rfl⟩
set_option maxHeartbeats 800000 in
theorem may4_high (a b g : Int) (h0 : 0 ≤ g) (h : 3 < g) (w : World) : Calls Try.prog 26 #[.agg #[.int .i64 4, .int .i64 a, .int .i64 b, .int .i64 g]] w fun e w' => e = .returned (.bool false) ∧ w' = (w.alloc (boxOf 4 a b g)).alloc (boxOf 4 a b g) := by
  go_enter Try.func26, Try.ntmps26
  go_wp2_with (first
    | (go_at_call 27
       (with_reducible refine (rclass_any _ a b g _).mono ?_)
       rintro e w1 ⟨rfl, rfl⟩
       unfold boxOf))
  go_ret
  first | exact ⟨rfl, rfl⟩ | exact ⟨by simp [*], rfl⟩
set_option maxHeartbeats 800000 in
theorem may4_a (a b g : Int) (h0 : 0 ≤ g) (h3 : g ≤ 3) (h1 : ¬ (1 ≤ a ∧ a ≤ 1073741824)) (w : World) : Calls Try.prog 26 #[.agg #[.int .i64 4, .int .i64 a, .int .i64 b, .int .i64 g]] w fun e w' => e = .returned (.bool false) ∧ w' = (w.alloc (boxOf 4 a b g)).alloc (boxOf 4 a b g) := by
  go_enter Try.func26, Try.ntmps26
  go_wp2_with (first
    | (go_at_call 27
       (with_reducible refine (rclass_any _ a b g _).mono ?_)
       rintro e w1 ⟨rfl, rfl⟩
       unfold boxOf)
    | (go_at_call 41
       (with_reducible refine (rin_no a _ _ (by omega) _).mono ?_)
       rintro e w1 ⟨rfl, rfl⟩))
  go_ret
  first | exact ⟨rfl, rfl⟩ | exact ⟨by simp [*], rfl⟩
set_option maxHeartbeats 800000 in
theorem may4_b (a b g : Int) (h0 : 0 ≤ g) (h3 : g ≤ 3) (h1 : 1 ≤ a ∧ a ≤ 1073741824) (h2 : ¬ b = 0) (w : World) : Calls Try.prog 26 #[.agg #[.int .i64 4, .int .i64 a, .int .i64 b, .int .i64 g]] w fun e w' => e = .returned (.bool false) ∧ w' = (w.alloc (boxOf 4 a b g)).alloc (boxOf 4 a b g) := by
  go_enter Try.func26, Try.ntmps26
  go_wp2_with (first
    | (go_at_call 27
       (with_reducible refine (rclass_any _ a b g _).mono ?_)
       rintro e w1 ⟨rfl, rfl⟩
       unfold boxOf)
    | (go_at_call 41
       (with_reducible refine (rin_yes a 1 _ (by omega) _).mono ?_)
       rintro e w1 ⟨rfl, rfl⟩))
  go_ret
  first | exact ⟨rfl, rfl⟩ | exact ⟨by simp [*], rfl⟩
set_option maxHeartbeats 800000 in
theorem may4_yes (a b g : Int) (h0 : 0 ≤ g) (h3 : g ≤ 3) (h1 : 1 ≤ a ∧ a ≤ 1073741824) (h2 : b = 0) (w : World) : Calls Try.prog 26 #[.agg #[.int .i64 4, .int .i64 a, .int .i64 b, .int .i64 g]] w fun e w' => e = .returned (.bool true) ∧ w' = (w.alloc (boxOf 4 a b g)).alloc (boxOf 4 a b g) := by
  subst h2
  go_enter Try.func26, Try.ntmps26
  go_wp2_with (first
    | (go_at_call 27
       (with_reducible refine (rclass_any _ a 0 g _).mono ?_)
       rintro e w1 ⟨rfl, rfl⟩
       unfold boxOf)
    | (go_at_call 41
       (with_reducible refine (rin_yes a 1 _ (by omega) _).mono ?_)
       rintro e w1 ⟨rfl, rfl⟩))
  go_ret
  first | exact ⟨rfl, rfl⟩ | exact ⟨by simp [*], rfl⟩
set_option maxHeartbeats 800000 in
theorem may5_low (a b g : Int) (h : g < 0) (w : World) : Calls Try.prog 26 #[.agg #[.int .i64 5, .int .i64 a, .int .i64 b, .int .i64 g]] w fun e w' => e = .returned (.bool false) ∧ w' = (w.alloc (boxOf 5 a b g)).alloc (boxOf 5 a b g) := by
  go_enter Try.func26, Try.ntmps26
  go_wp2_with (first
    | (go_at_call 27
       (with_reducible refine (rclass_any _ a b g _).mono ?_)
       rintro e w1 ⟨rfl, rfl⟩
       unfold boxOf))
  go_ret
  first | exact ⟨rfl, rfl⟩ | exact ⟨by simp [*], rfl⟩
set_option maxHeartbeats 800000 in
theorem may5_high (a b g : Int) (h0 : 0 ≤ g) (h : 3 < g) (w : World) : Calls Try.prog 26 #[.agg #[.int .i64 5, .int .i64 a, .int .i64 b, .int .i64 g]] w fun e w' => e = .returned (.bool false) ∧ w' = (w.alloc (boxOf 5 a b g)).alloc (boxOf 5 a b g) := by
  go_enter Try.func26, Try.ntmps26
  go_wp2_with (first
    | (go_at_call 27
       (with_reducible refine (rclass_any _ a b g _).mono ?_)
       rintro e w1 ⟨rfl, rfl⟩
       unfold boxOf))
  go_ret
  first | exact ⟨rfl, rfl⟩ | exact ⟨by simp [*], rfl⟩
set_option maxHeartbeats 800000 in
theorem may5_a (a b g : Int) (h0 : 0 ≤ g) (h3 : g ≤ 3) (h1 : ¬ (1 ≤ a ∧ a ≤ 1073741824)) (w : World) : Calls Try.prog 26 #[.agg #[.int .i64 5, .int .i64 a, .int .i64 b, .int .i64 g]] w fun e w' => e = .returned (.bool false) ∧ w' = (w.alloc (boxOf 5 a b g)).alloc (boxOf 5 a b g) := by
  go_enter Try.func26, Try.ntmps26
  go_wp2_with (first
    | (go_at_call 27
       (with_reducible refine (rclass_any _ a b g _).mono ?_)
       rintro e w1 ⟨rfl, rfl⟩
       unfold boxOf)
    | (go_at_call 41
       (with_reducible refine (rin_no a _ _ (by omega) _).mono ?_)
       rintro e w1 ⟨rfl, rfl⟩))
  go_ret
  first | exact ⟨rfl, rfl⟩ | exact ⟨by simp [*], rfl⟩
set_option maxHeartbeats 800000 in
theorem may5_b (a b g : Int) (h0 : 0 ≤ g) (h3 : g ≤ 3) (h1 : 1 ≤ a ∧ a ≤ 1073741824) (h2 : ¬ 0 < b) (w : World) : Calls Try.prog 26 #[.agg #[.int .i64 5, .int .i64 a, .int .i64 b, .int .i64 g]] w fun e w' => e = .returned (.bool false) ∧ w' = (w.alloc (boxOf 5 a b g)).alloc (boxOf 5 a b g) := by
  go_enter Try.func26, Try.ntmps26
  go_wp2_with (first
    | (go_at_call 27
       (with_reducible refine (rclass_any _ a b g _).mono ?_)
       rintro e w1 ⟨rfl, rfl⟩
       unfold boxOf)
    | (go_at_call 41
       (with_reducible refine (rin_yes a 1 _ (by omega) _).mono ?_)
       rintro e w1 ⟨rfl, rfl⟩))
  go_ret
  first | exact ⟨rfl, rfl⟩ | exact ⟨by simp [*], rfl⟩
set_option maxHeartbeats 800000 in
theorem may5_m (a b g : Int) (h0 : 0 ≤ g) (h3 : g ≤ 3) (h1 : 1 ≤ a ∧ a ≤ 1073741824) (h2 : 0 < b) (h4 : ¬ a % b = 0) (w : World) : Calls Try.prog 26 #[.agg #[.int .i64 5, .int .i64 a, .int .i64 b, .int .i64 g]] w fun e w' => e = .returned (.bool false) ∧ w' = (w.alloc (boxOf 5 a b g)).alloc (boxOf 5 a b g) := by
  have hb0 : b ≠ 0 := by omega
  have hq : (0 : Int) ≤ a.tdiv b ∧ a.tdiv b ≤ a := by
    rw [Int.tdiv_eq_ediv_of_nonneg (by omega)]
    exact ⟨Int.ediv_nonneg (by omega) (by omega), Int.ediv_le_self _ (by omega)⟩
  go_enter Try.func26, Try.ntmps26
  go_wp2_with (first
    | (go_at_call 27
       (with_reducible refine (rclass_any _ a b g _).mono ?_)
       rintro e w1 ⟨rfl, rfl⟩
       unfold boxOf)
    | (go_at_call 41
       (with_reducible refine (rin_yes a 1 _ (by omega) _).mono ?_)
       rintro e w1 ⟨rfl, rfl⟩))
  go_ret
  first | exact ⟨rfl, rfl⟩ | exact ⟨by simp [*], rfl⟩
set_option maxHeartbeats 800000 in
theorem may5_q (a b g : Int) (h0 : 0 ≤ g) (h3 : g ≤ 3) (h1 : 1 ≤ a ∧ a ≤ 1073741824) (h2 : 0 < b) (h4 : a % b = 0) (h5 : ¬ a.tdiv b ≤ 4) (w : World) : Calls Try.prog 26 #[.agg #[.int .i64 5, .int .i64 a, .int .i64 b, .int .i64 g]] w fun e w' => e = .returned (.bool false) ∧ w' = (w.alloc (boxOf 5 a b g)).alloc (boxOf 5 a b g) := by
  have hb0 : b ≠ 0 := by omega
  have hq : (0 : Int) ≤ a.tdiv b ∧ a.tdiv b ≤ a := by
    rw [Int.tdiv_eq_ediv_of_nonneg (by omega)]
    exact ⟨Int.ediv_nonneg (by omega) (by omega), Int.ediv_le_self _ (by omega)⟩
  go_enter Try.func26, Try.ntmps26
  go_wp2_with (first
    | (go_at_call 27
       (with_reducible refine (rclass_any _ a b g _).mono ?_)
       rintro e w1 ⟨rfl, rfl⟩
       unfold boxOf)
    | (go_at_call 41
       (with_reducible refine (rin_yes a 1 _ (by omega) _).mono ?_)
       rintro e w1 ⟨rfl, rfl⟩))
  go_ret
  first | exact ⟨rfl, rfl⟩ | exact ⟨by simp [*], rfl⟩
set_option maxHeartbeats 800000 in
theorem may5_yes (a b g : Int) (h0 : 0 ≤ g) (h3 : g ≤ 3) (h1 : 1 ≤ a ∧ a ≤ 1073741824) (h2 : 0 < b) (h4 : a % b = 0) (h5 : a.tdiv b ≤ 4) (w : World) : Calls Try.prog 26 #[.agg #[.int .i64 5, .int .i64 a, .int .i64 b, .int .i64 g]] w fun e w' => e = .returned (.bool true) ∧ w' = (w.alloc (boxOf 5 a b g)).alloc (boxOf 5 a b g) := by
  have hb0 : b ≠ 0 := by omega
  have hq : (0 : Int) ≤ a.tdiv b ∧ a.tdiv b ≤ a := by
    rw [Int.tdiv_eq_ediv_of_nonneg (by omega)]
    exact ⟨Int.ediv_nonneg (by omega) (by omega), Int.ediv_le_self _ (by omega)⟩
  go_enter Try.func26, Try.ntmps26
  go_wp2_with (first
    | (go_at_call 27
       (with_reducible refine (rclass_any _ a b g _).mono ?_)
       rintro e w1 ⟨rfl, rfl⟩
       unfold boxOf)
    | (go_at_call 41
       (with_reducible refine (rin_yes a 1 _ (by omega) _).mono ?_)
       rintro e w1 ⟨rfl, rfl⟩))
  go_ret
  first | exact ⟨rfl, rfl⟩ | exact ⟨by simp [*], rfl⟩
set_option maxHeartbeats 800000 in
theorem may6_low (a b g : Int) (h : g < 0) (w : World) : Calls Try.prog 26 #[.agg #[.int .i64 6, .int .i64 a, .int .i64 b, .int .i64 g]] w fun e w' => e = .returned (.bool false) ∧ w' = (w.alloc (boxOf 6 a b g)).alloc (boxOf 6 a b g) := by
  go_enter Try.func26, Try.ntmps26
  go_wp2_with (first
    | (go_at_call 27
       (with_reducible refine (rclass_any _ a b g _).mono ?_)
       rintro e w1 ⟨rfl, rfl⟩
       unfold boxOf))
  go_ret
  first | exact ⟨rfl, rfl⟩ | exact ⟨by simp [*], rfl⟩
set_option maxHeartbeats 800000 in
theorem may6_high (a b g : Int) (h0 : 0 ≤ g) (h : 3 < g) (w : World) : Calls Try.prog 26 #[.agg #[.int .i64 6, .int .i64 a, .int .i64 b, .int .i64 g]] w fun e w' => e = .returned (.bool false) ∧ w' = (w.alloc (boxOf 6 a b g)).alloc (boxOf 6 a b g) := by
  go_enter Try.func26, Try.ntmps26
  go_wp2_with (first
    | (go_at_call 27
       (with_reducible refine (rclass_any _ a b g _).mono ?_)
       rintro e w1 ⟨rfl, rfl⟩
       unfold boxOf))
  go_ret
  first | exact ⟨rfl, rfl⟩ | exact ⟨by simp [*], rfl⟩
set_option maxHeartbeats 800000 in
theorem may6_a (a b g : Int) (h0 : 0 ≤ g) (h3 : g ≤ 3) (h1 : ¬ (1 ≤ a ∧ a ≤ 1073741824)) (w : World) : Calls Try.prog 26 #[.agg #[.int .i64 6, .int .i64 a, .int .i64 b, .int .i64 g]] w fun e w' => e = .returned (.bool false) ∧ w' = (w.alloc (boxOf 6 a b g)).alloc (boxOf 6 a b g) := by
  go_enter Try.func26, Try.ntmps26
  go_wp2_with (first
    | (go_at_call 27
       (with_reducible refine (rclass_any _ a b g _).mono ?_)
       rintro e w1 ⟨rfl, rfl⟩
       unfold boxOf)
    | (go_at_call 41
       (with_reducible refine (rin_no a _ _ (by omega) _).mono ?_)
       rintro e w1 ⟨rfl, rfl⟩))
  go_ret
  first | exact ⟨rfl, rfl⟩ | exact ⟨by simp [*], rfl⟩
set_option maxHeartbeats 800000 in
theorem may6_b (a b g : Int) (h0 : 0 ≤ g) (h3 : g ≤ 3) (h1 : 1 ≤ a ∧ a ≤ 1073741824) (h2 : ¬ b = 0) (w : World) : Calls Try.prog 26 #[.agg #[.int .i64 6, .int .i64 a, .int .i64 b, .int .i64 g]] w fun e w' => e = .returned (.bool false) ∧ w' = (w.alloc (boxOf 6 a b g)).alloc (boxOf 6 a b g) := by
  go_enter Try.func26, Try.ntmps26
  go_wp2_with (first
    | (go_at_call 27
       (with_reducible refine (rclass_any _ a b g _).mono ?_)
       rintro e w1 ⟨rfl, rfl⟩
       unfold boxOf)
    | (go_at_call 41
       (with_reducible refine (rin_yes a 1 _ (by omega) _).mono ?_)
       rintro e w1 ⟨rfl, rfl⟩))
  go_ret
  first | exact ⟨rfl, rfl⟩ | exact ⟨by simp [*], rfl⟩
set_option maxHeartbeats 800000 in
theorem may6_yes (a b g : Int) (h0 : 0 ≤ g) (h3 : g ≤ 3) (h1 : 1 ≤ a ∧ a ≤ 1073741824) (h2 : b = 0) (w : World) : Calls Try.prog 26 #[.agg #[.int .i64 6, .int .i64 a, .int .i64 b, .int .i64 g]] w fun e w' => e = .returned (.bool true) ∧ w' = (w.alloc (boxOf 6 a b g)).alloc (boxOf 6 a b g) := by
  subst h2
  go_enter Try.func26, Try.ntmps26
  go_wp2_with (first
    | (go_at_call 27
       (with_reducible refine (rclass_any _ a 0 g _).mono ?_)
       rintro e w1 ⟨rfl, rfl⟩
       unfold boxOf)
    | (go_at_call 41
       (with_reducible refine (rin_yes a 1 _ (by omega) _).mono ?_)
       rintro e w1 ⟨rfl, rfl⟩))
  go_ret
  first | exact ⟨rfl, rfl⟩ | exact ⟨by simp [*], rfl⟩
set_option maxHeartbeats 800000 in
theorem may7_agg (a b g : Int) (h : ¬ g = 0) (w : World) : Calls Try.prog 26 #[.agg #[.int .i64 7, .int .i64 a, .int .i64 b, .int .i64 g]] w fun e w' => e = .returned (.bool false) ∧ w' = (w.alloc (boxOf 7 a b g)).alloc (boxOf 7 a b g) := by
  go_enter Try.func26, Try.ntmps26
  go_wp2_with (first
    | (go_at_call 27
       (with_reducible refine (rclass_any _ a b g _).mono ?_)
       rintro e w1 ⟨rfl, rfl⟩
       unfold boxOf))
  go_ret
  first | exact ⟨rfl, rfl⟩ | exact ⟨by simp [*], rfl⟩
set_option maxHeartbeats 800000 in
theorem may7_a (a b g : Int) (hg : g = 0) (h1 : ¬ (1 ≤ a ∧ a ≤ 1073741824)) (w : World) : Calls Try.prog 26 #[.agg #[.int .i64 7, .int .i64 a, .int .i64 b, .int .i64 g]] w fun e w' => e = .returned (.bool false) ∧ w' = (w.alloc (boxOf 7 a b g)).alloc (boxOf 7 a b g) := by
  subst hg
  go_enter Try.func26, Try.ntmps26
  go_wp2_with (first
    | (go_at_call 27
       (with_reducible refine (rclass_any _ a b 0 _).mono ?_)
       rintro e w1 ⟨rfl, rfl⟩
       unfold boxOf)
    | (go_at_call 41
       (with_reducible refine (rin_no a _ _ (by omega) _).mono ?_)
       rintro e w1 ⟨rfl, rfl⟩))
  go_ret
  first | exact ⟨rfl, rfl⟩ | exact ⟨by simp [*], rfl⟩
set_option maxHeartbeats 800000 in
theorem may7_b (a b g : Int) (hg : g = 0) (h1 : 1 ≤ a ∧ a ≤ 1073741824) (h2 : ¬ b = 0) (w : World) : Calls Try.prog 26 #[.agg #[.int .i64 7, .int .i64 a, .int .i64 b, .int .i64 g]] w fun e w' => e = .returned (.bool false) ∧ w' = (w.alloc (boxOf 7 a b g)).alloc (boxOf 7 a b g) := by
  subst hg
  go_enter Try.func26, Try.ntmps26
  go_wp2_with (first
    | (go_at_call 27
       (with_reducible refine (rclass_any _ a b 0 _).mono ?_)
       rintro e w1 ⟨rfl, rfl⟩
       unfold boxOf)
    | (go_at_call 41
       (with_reducible refine (rin_yes a 1 _ (by omega) _).mono ?_)
       rintro e w1 ⟨rfl, rfl⟩))
  go_ret
  first | exact ⟨rfl, rfl⟩ | exact ⟨by simp [*], rfl⟩
set_option maxHeartbeats 800000 in
theorem may7_yes (a b g : Int) (hg : g = 0) (h1 : 1 ≤ a ∧ a ≤ 1073741824) (h2 : b = 0) (w : World) : Calls Try.prog 26 #[.agg #[.int .i64 7, .int .i64 a, .int .i64 b, .int .i64 g]] w fun e w' => e = .returned (.bool true) ∧ w' = (w.alloc (boxOf 7 a b g)).alloc (boxOf 7 a b g) := by
  subst hg
  subst h2
  go_enter Try.func26, Try.ntmps26
  go_wp2_with (first
    | (go_at_call 27
       (with_reducible refine (rclass_any _ a 0 0 _).mono ?_)
       rintro e w1 ⟨rfl, rfl⟩
       unfold boxOf)
    | (go_at_call 41
       (with_reducible refine (rin_yes a 1 _ (by omega) _).mono ?_)
       rintro e w1 ⟨rfl, rfl⟩))
  go_ret
  first | exact ⟨rfl, rfl⟩ | exact ⟨by simp [*], rfl⟩

set_option maxHeartbeats 800000 in
theorem mayX (k a b g : Int) (hk : k ∉ [(0 : Int), 1, 2, 3, 4, 5, 6, 7]) (w : World) : Calls Try.prog 26 #[.agg #[.int .i64 k, .int .i64 a, .int .i64 b, .int .i64 g]] w fun e w' => e = .returned (.bool false) ∧ w' = (w.alloc (boxOf k a b g)).alloc (boxOf k a b g) := by
  have hr : (kindRow k).1 = -1 := by unfold kindRow; simp at hk; simp [hk]
  have HR := Lib.hid hr
  simp only [List.mem_cons, List.not_mem_nil, or_false, not_or] at hk
  obtain ⟨h0, h1, h2, h3, h4, h5, h6, h7⟩ := hk
  by_cases hg : g = 0
  · subst hg
    go_enter Try.func26, Try.ntmps26
    go_wp2_with (go_at_call 27
                 (with_reducible refine (rclass_any k a b 0 _).mono ?_)
                 rw [HR.out]
                 rintro e w1 ⟨rfl, rfl⟩
                 unfold boxOf)
    go_ret
    exact ⟨rfl, rfl⟩
  · go_enter Try.func26, Try.ntmps26
    go_wp2_with (go_at_call 27
                 (with_reducible refine (rclass_any k a b g _).mono ?_)
                 rw [HR.out]
                 rintro e w1 ⟨rfl, rfl⟩
                 unfold boxOf)
    go_ret
    exact ⟨rfl, rfl⟩

/-- The document's answer: whether an operator may be. -/
theorem may_any (o : OpD) (w : World) : Calls Try.prog 26 #[o.val] w fun e w' => e = .returned (.bool (allowsM o)) ∧ w' = (w.alloc (boxOf o.kind o.a o.b o.agg)).alloc (boxOf o.kind o.a o.b o.agg) := by
  obtain ⟨k, a, b, g⟩ := o
  by_cases hk : k ∈ [(0 : Int), 1, 2, 3, 4, 5, 6, 7]
  · have yes : ∀ {v : Bool}, allowsM ⟨k, a, b, g⟩ = v → (Calls Try.prog 26 #[.agg #[.int .i64 k, .int .i64 a, .int .i64 b, .int .i64 g]] w fun e w' => e = .returned (.bool v) ∧ w' = (w.alloc (boxOf k a b g)).alloc (boxOf k a b g)) →
        Calls Try.prog 26 #[OpD.val ⟨k, a, b, g⟩] w fun e w' => e = .returned (.bool (allowsM ⟨k, a, b, g⟩)) ∧ w' = (w.alloc (boxOf k a b g)).alloc (boxOf k a b g) := by
      intro v hv h; rw [hv]; exact h
    simp only [List.mem_cons, List.not_mem_nil, or_false] at hk
    rcases hk with rfl | rfl | rfl | rfl | rfl | rfl | rfl | rfl
    · by_cases hg : g = 0
      · exact yes (by simp [allowsM, kindRow, fitsM, hg]) (may0_yes a b g hg w)
      · exact yes (by simp [allowsM, kindRow, fitsM]; omega) (may0_agg a b g hg w)
    · by_cases hg : g = 0
      · by_cases h1 : 1 ≤ a ∧ a ≤ 4294967295
        · by_cases h2 : 0 ≤ b ∧ b ≤ 4294967295
          · exact yes (by simp [allowsM, kindRow, fitsM, hg]; omega) (may1_yes a b g hg h1 h2 w)
          · exact yes (by simp [allowsM, kindRow, fitsM, hg]; omega) (may1_b a b g hg h1 h2 w)
        · exact yes (by simp [allowsM, kindRow, fitsM, hg]; omega) (may1_a a b g hg h1 w)
      · exact yes (by simp [allowsM, kindRow, fitsM]; omega) (may1_agg a b g hg w)
    · by_cases hg : g = 0
      · by_cases h1 : 1 ≤ a ∧ a ≤ 1073741824
        · by_cases h2 : 0 ≤ b ∧ b ≤ a - 1
          · exact yes (by simp [allowsM, kindRow, fitsM, hg]; omega) (may2_yes a b g hg h1 h2 w)
          · exact yes (by simp [allowsM, kindRow, fitsM, hg]; omega) (may2_b a b g hg h1 h2 w)
        · exact yes (by simp [allowsM, kindRow, fitsM, hg]; omega) (may2_a a b g hg h1 w)
      · exact yes (by simp [allowsM, kindRow, fitsM]; omega) (may2_agg a b g hg w)
    · by_cases hg : g = 0
      · by_cases h1 : 1 ≤ a ∧ a ≤ 3
        · exact yes (by simp [allowsM, kindRow, fitsM, hg]; omega) (may3_yes a b g hg h1 w)
        · exact yes (by simp [allowsM, kindRow, fitsM, hg]; omega) (may3_a a b g hg h1 w)
      · exact yes (by simp [allowsM, kindRow, fitsM]; omega) (may3_agg a b g hg w)
    · by_cases g0 : 0 ≤ g
      · by_cases g3 : g ≤ 3
        · by_cases h1 : 1 ≤ a ∧ a ≤ 1073741824
          · by_cases h2 : b = 0
            · exact yes (by simp [allowsM, kindRow, fitsM]; omega) (may4_yes a b g g0 g3 h1 h2 w)
            · exact yes (by simp [allowsM, kindRow, fitsM]; omega) (may4_b a b g g0 g3 h1 h2 w)
          · exact yes (by simp [allowsM, kindRow, fitsM]; omega) (may4_a a b g g0 g3 h1 w)
        · exact yes (by simp [allowsM, kindRow, fitsM]; omega) (may4_high a b g g0 (by omega) w)
      · exact yes (by simp [allowsM, kindRow, fitsM]; omega) (may4_low a b g (by omega) w)
    · by_cases g0 : 0 ≤ g
      · by_cases g3 : g ≤ 3
        · by_cases h1 : 1 ≤ a ∧ a ≤ 1073741824
          · have hm : a.tmod b = a % b := Int.tmod_eq_emod_of_nonneg (by omega)
            by_cases h2 : 0 < b
            · by_cases h4 : a % b = 0
              · by_cases h5 : a.tdiv b ≤ 4
                · exact yes (by simp [allowsM, kindRow, fitsM, hm, h4, h5]; omega) (may5_yes a b g g0 g3 h1 h2 h4 h5 w)
                · exact yes (by simp [allowsM, kindRow, fitsM, hm, h4, h5]) (may5_q a b g g0 g3 h1 h2 h4 h5 w)
              · exact yes (by simp [allowsM, kindRow, fitsM, hm, h4]) (may5_m a b g g0 g3 h1 h2 h4 w)
            · have hb1 : ¬ 1 ≤ b := by omega
              exact yes (by simp [allowsM, kindRow, fitsM, hb1]) (may5_b a b g g0 g3 h1 h2 w)
          · exact yes (by simp only [allowsM, kindRow, fitsM]; simp; intro _ _ q1 q2; exact absurd ⟨q1, q2⟩ h1) (may5_a a b g g0 g3 h1 w)
        · exact yes (by simp [allowsM, kindRow]; omega) (may5_high a b g g0 (by omega) w)
      · exact yes (by simp [allowsM, kindRow]; omega) (may5_low a b g (by omega) w)
    · by_cases g0 : 0 ≤ g
      · by_cases g3 : g ≤ 3
        · by_cases h1 : 1 ≤ a ∧ a ≤ 1073741824
          · by_cases h2 : b = 0
            · exact yes (by simp [allowsM, kindRow, fitsM]; omega) (may6_yes a b g g0 g3 h1 h2 w)
            · exact yes (by simp [allowsM, kindRow, fitsM]; omega) (may6_b a b g g0 g3 h1 h2 w)
          · exact yes (by simp [allowsM, kindRow, fitsM]; omega) (may6_a a b g g0 g3 h1 w)
        · exact yes (by simp [allowsM, kindRow, fitsM]; omega) (may6_high a b g g0 (by omega) w)
      · exact yes (by simp [allowsM, kindRow, fitsM]; omega) (may6_low a b g (by omega) w)
    · by_cases hg : g = 0
      · by_cases h1 : 1 ≤ a ∧ a ≤ 1073741824
        · by_cases h2 : b = 0
          · exact yes (by simp [allowsM, kindRow, fitsM, hg]; omega) (may7_yes a b g hg h1 h2 w)
          · exact yes (by simp [allowsM, kindRow, fitsM, hg]; omega) (may7_b a b g hg h1 h2 w)
        · exact yes (by simp [allowsM, kindRow, fitsM, hg]; omega) (may7_a a b g hg h1 w)
      · exact yes (by simp [allowsM, kindRow, fitsM]; omega) (may7_agg a b g hg w)
  · have hv : allowsM ⟨k, a, b, g⟩ = false := by
      have : kindRow k = (-1, 0, 47, 48) := by unfold kindRow; simp at hk; simp [hk]
      unfold allowsM
      simp [this, fitsM]
    rw [hv]
    exact mayX k a b g hk w

def codeM (o : OpD) : Int := if allowsM o = true then 0 else 13

end Go.Proofs.Yteiedknpmlemkaa
