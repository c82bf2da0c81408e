/-
  drafted: whatever is drawn, an operator comes of it.
-/
import Derived.Test.YthebacladmjiiaaOpL
namespace Go.Proofs.Ythebacladmjiiaa
open Go Go.RowKit Go.Lib

structure DrD where
  kind : Int
  a : Int
  b : Int
  agg : Int
  odd : Bool
abbrev DrD.val (d : DrD) : Value := .agg #[.int .u8 d.kind, .int .i64 d.a, .int .i64 d.b, .int .u8 d.agg, .bool d.odd]
def DrD.ok (d : DrD) : Prop := 0 ≤ d.kind ∧ d.kind ≤ 255 ∧ 0 ≤ d.agg ∧ d.agg ≤ 255
def anOp (w : World) (e : Ending) (w' : World) : Prop := ∃ o : OpD, e = .returned o.val ∧ Below w.heap.size w w'

set_option maxRecDepth 100000 in
set_option maxHeartbeats 1600000 in
theorem drafted_odd (k a b g : Int) (hk : 0 ≤ k ∧ k ≤ 255) (hg : 0 ≤ g ∧ g ≤ 255) (w : World) : Calls Try.prog 8 #[.agg #[.int .u8 k, .int .i64 a, .int .i64 b, .int .u8 g, .bool true]] w fun e w' => anOp w e w' := by
  go_enter Try.func8, Try.ntmps8
  go_wp2
  refine bodyPost_ret (results_cell_row rfl _ _ _ _ _ _ _ rfl ((Below.heap_alloc _ _ _ (by simp)).trans (heap_alloc2_new _ _ _)) Try.underlying23 rfl (by kernel_rfl)) rfl ⟨⟨_, _, _, _⟩, rfl, ?_⟩
  exact ((Below.refl _ _).alloc (Nat.le_refl _) _ |>.alloc (by simp) _).alloc (by simp; omega) _

set_option maxRecDepth 100000 in
set_option maxHeartbeats 1600000 in
theorem drafted_0 (k a b g : Int) (hk : 0 ≤ k ∧ k ≤ 255) (hg : 0 ≤ g ∧ g ≤ 255) (hm : k % 8 = 0) (w : World) : Calls Try.prog 8 #[.agg #[.int .u8 k, .int .i64 a, .int .i64 b, .int .u8 g, .bool false]] w fun e w' => anOp w e w' := by
  go_enter Try.func8, Try.ntmps8
  go_wp2
  refine bodyPost_ret (results_cell_row rfl _ _ _ _ _ _ _ rfl ((Below.heap_alloc _ _ _ (by simp)).trans (heap_alloc2_new _ _ _)) Try.underlying23 rfl (by kernel_rfl)) rfl ⟨⟨_, _, _, _⟩, rfl, ?_⟩
  exact ((Below.refl _ _).alloc (Nat.le_refl _) _ |>.alloc (by simp) _).alloc (by simp; omega) _
set_option maxRecDepth 100000 in
set_option maxHeartbeats 1600000 in
theorem drafted_1 (k a b g : Int) (hk : 0 ≤ k ∧ k ≤ 255) (hg : 0 ≤ g ∧ g ≤ 255) (hm : k % 8 = 1) (w : World) : Calls Try.prog 8 #[.agg #[.int .u8 k, .int .i64 a, .int .i64 b, .int .u8 g, .bool false]] w fun e w' => anOp w e w' := by
  go_enter Try.func8, Try.ntmps8
  go_wp2_with (go_at_call 19
               (with_reducible refine (mod_any _ _ (by omega) _).mono ?_)
               rintro e w1 ⟨rfl, rfl⟩)
  refine bodyPost_ret (results_cell_row rfl _ _ _ _ _ _ _ rfl ((Below.heap_alloc _ _ _ (by simp)).trans (heap_alloc2_new _ _ _)) Try.underlying23 rfl (by kernel_rfl)) rfl ⟨⟨_, _, _, _⟩, rfl, ?_⟩
  exact ((Below.refl _ _).alloc (Nat.le_refl _) _ |>.alloc (by simp) _).alloc (by simp; omega) _
set_option maxRecDepth 100000 in
set_option maxHeartbeats 1600000 in
theorem drafted_2 (k a b g : Int) (hk : 0 ≤ k ∧ k ≤ 255) (hg : 0 ≤ g ∧ g ≤ 255) (hm : k % 8 = 2) (w : World) : Calls Try.prog 8 #[.agg #[.int .u8 k, .int .i64 a, .int .i64 b, .int .u8 g, .bool false]] w fun e w' => anOp w e w' := by
  have h20 : 0 ≤ a % 20 ∧ a % 20 < 20 := by omega
  go_enter Try.func8, Try.ntmps8
  go_wp2_with (go_at_call 19
               (with_reducible refine (mod_any _ _ (by omega) _).mono ?_)
               rintro e w1 ⟨rfl, rfl⟩)
  refine bodyPost_ret (results_cell_row rfl _ _ _ _ _ _ _ rfl ((Below.heap_alloc _ _ _ (by simp)).trans (heap_alloc2_new _ _ _)) Try.underlying23 rfl (by kernel_rfl)) rfl ⟨⟨_, _, _, _⟩, rfl, ?_⟩
  exact ((Below.refl _ _).alloc (Nat.le_refl _) _ |>.alloc (by simp) _).alloc (by simp; omega) _
set_option maxRecDepth 100000 in
set_option maxHeartbeats 1600000 in
theorem drafted_3 (k a b g : Int) (hk : 0 ≤ k ∧ k ≤ 255) (hg : 0 ≤ g ∧ g ≤ 255) (hm : k % 8 = 3) (w : World) : Calls Try.prog 8 #[.agg #[.int .u8 k, .int .i64 a, .int .i64 b, .int .u8 g, .bool false]] w fun e w' => anOp w e w' := by
  go_enter Try.func8, Try.ntmps8
  go_wp2_with (go_at_call 19
               (with_reducible refine (mod_any _ _ (by omega) _).mono ?_)
               rintro e w1 ⟨rfl, rfl⟩)
  refine bodyPost_ret (results_cell_row rfl _ _ _ _ _ _ _ rfl ((Below.heap_alloc _ _ _ (by simp)).trans (heap_alloc2_new _ _ _)) Try.underlying23 rfl (by kernel_rfl)) rfl ⟨⟨_, _, _, _⟩, rfl, ?_⟩
  exact ((Below.refl _ _).alloc (Nat.le_refl _) _ |>.alloc (by simp) _).alloc (by simp; omega) _
set_option maxRecDepth 100000 in
set_option maxHeartbeats 1600000 in
theorem drafted_4 (k a b g : Int) (hk : 0 ≤ k ∧ k ≤ 255) (hg : 0 ≤ g ∧ g ≤ 255) (hm : k % 8 = 4) (w : World) : Calls Try.prog 8 #[.agg #[.int .u8 k, .int .i64 a, .int .i64 b, .int .u8 g, .bool false]] w fun e w' => anOp w e w' := by
  go_enter Try.func8, Try.ntmps8
  go_wp2_with (go_at_call 19
               (with_reducible refine (mod_any _ _ (by omega) _).mono ?_)
               rintro e w1 ⟨rfl, rfl⟩)
  refine bodyPost_ret (results_cell_row rfl _ _ _ _ _ _ _ rfl ((Below.heap_alloc _ _ _ (by simp)).trans (heap_alloc2_new _ _ _)) Try.underlying23 rfl (by kernel_rfl)) rfl ⟨⟨_, _, _, _⟩, rfl, ?_⟩
  exact ((Below.refl _ _).alloc (Nat.le_refl _) _ |>.alloc (by simp) _).alloc (by simp; omega) _
set_option maxRecDepth 100000 in
set_option maxHeartbeats 1600000 in
theorem drafted_6 (k a b g : Int) (hk : 0 ≤ k ∧ k ≤ 255) (hg : 0 ≤ g ∧ g ≤ 255) (hm : k % 8 = 6) (w : World) : Calls Try.prog 8 #[.agg #[.int .u8 k, .int .i64 a, .int .i64 b, .int .u8 g, .bool false]] w fun e w' => anOp w e w' := by
  go_enter Try.func8, Try.ntmps8
  go_wp2_with (go_at_call 19
               (with_reducible refine (mod_any _ _ (by omega) _).mono ?_)
               rintro e w1 ⟨rfl, rfl⟩)
  refine bodyPost_ret (results_cell_row rfl _ _ _ _ _ _ _ rfl ((Below.heap_alloc _ _ _ (by simp)).trans (heap_alloc2_new _ _ _)) Try.underlying23 rfl (by kernel_rfl)) rfl ⟨⟨_, _, _, _⟩, rfl, ?_⟩
  exact ((Below.refl _ _).alloc (Nat.le_refl _) _ |>.alloc (by simp) _).alloc (by simp; omega) _
set_option maxRecDepth 100000 in
set_option maxHeartbeats 1600000 in
theorem drafted_7 (k a b g : Int) (hk : 0 ≤ k ∧ k ≤ 255) (hg : 0 ≤ g ∧ g ≤ 255) (hm : k % 8 = 7) (w : World) : Calls Try.prog 8 #[.agg #[.int .u8 k, .int .i64 a, .int .i64 b, .int .u8 g, .bool false]] w fun e w' => anOp w e w' := by
  go_enter Try.func8, Try.ntmps8
  go_wp2_with (go_at_call 19
               (with_reducible refine (mod_any _ _ (by omega) _).mono ?_)
               rintro e w1 ⟨rfl, rfl⟩)
  refine bodyPost_ret (results_cell_row rfl _ _ _ _ _ _ _ rfl ((Below.heap_alloc _ _ _ (by simp)).trans (heap_alloc2_new _ _ _)) Try.underlying23 rfl (by kernel_rfl)) rfl ⟨⟨_, _, _, _⟩, rfl, ?_⟩
  exact ((Below.refl _ _).alloc (Nat.le_refl _) _ |>.alloc (by simp) _).alloc (by simp; omega) _
set_option maxRecDepth 100000 in
set_option maxHeartbeats 1600000 in
theorem drafted_5 (k a b g : Int) (hk : 0 ≤ k ∧ k ≤ 255) (hg : 0 ≤ g ∧ g ≤ 255) (hm : k % 8 = 5) (w : World) : Calls Try.prog 8 #[.agg #[.int .u8 k, .int .i64 a, .int .i64 b, .int .u8 g, .bool false]] w fun e w' => anOp w e w' := by
  go_enter Try.func8, Try.ntmps8
  go_wp2_with (go_at_call 19
               (with_reducible refine (mod_any _ _ (by omega) _).mono ?_)
               rintro e w1 ⟨rfl, rfl⟩)
  go_region_with (go_at_call 19
                  (with_reducible refine (mod_any _ _ (by omega) _).mono ?_)
                  rintro e w1 ⟨rfl, rfl⟩)
  all_goals go_wp2
  all_goals refine bodyPost_ret (results_cell_row rfl _ _ _ _ _ _ _ rfl ((Below.heap_alloc _ _ _ (by simp)).trans (heap_alloc2_new _ _ _)) Try.underlying23 rfl (by kernel_rfl)) rfl ⟨⟨_, _, _, _⟩, rfl, ?_⟩
  all_goals exact Below.drew (((Below.refl _ _).alloc (Nat.le_refl _) _ |>.alloc (by simp) _).alloc (by simp; omega) _)

theorem drafted_any (d : DrD) (ok : d.ok) (w : World) : Calls Try.prog 8 #[d.val] w fun e w' => anOp w e w' := by
  obtain ⟨k, a, b, g, odd⟩ := d
  obtain ⟨h1, h2, h3, h4⟩ := ok
  dsimp only at h1 h2 h3 h4
  cases odd with
  | true => exact drafted_odd k a b g ⟨h1, h2⟩ ⟨h3, h4⟩ w
  | false =>
    have hm : k % 8 = 0 ∨ k % 8 = 1 ∨ k % 8 = 2 ∨ k % 8 = 3 ∨ k % 8 = 4 ∨ k % 8 = 5 ∨ k % 8 = 6 ∨ k % 8 = 7 := by omega
    rcases hm with h | h | h | h | h | h | h | h
    · exact drafted_0 k a b g ⟨h1, h2⟩ ⟨h3, h4⟩ h w
    · exact drafted_1 k a b g ⟨h1, h2⟩ ⟨h3, h4⟩ h w
    · exact drafted_2 k a b g ⟨h1, h2⟩ ⟨h3, h4⟩ h w
    · exact drafted_3 k a b g ⟨h1, h2⟩ ⟨h3, h4⟩ h w
    · exact drafted_4 k a b g ⟨h1, h2⟩ ⟨h3, h4⟩ h w
    · exact drafted_5 k a b g ⟨h1, h2⟩ ⟨h3, h4⟩ h w
    · exact drafted_6 k a b g ⟨h1, h2⟩ ⟨h3, h4⟩ h w
    · exact drafted_7 k a b g ⟨h1, h2⟩ ⟨h3, h4⟩ h w
end Go.Proofs.Ythebacladmjiiaa
