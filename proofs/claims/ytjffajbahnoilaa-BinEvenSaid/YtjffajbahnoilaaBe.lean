/-
  bin.First.
-/
import Derived.Test.YtjffajbahnoilaaBd
import Derived.LoopN
import Derived.Deep.RegionWith
import Derived.Lib.SmallJoins
namespace Go.Proofs.Ytjffajbahnoilaa
open Go Go.RowKit Go.Lib

/-- Who has the bins. -/
def firstL (a : Nat) : List Int := (List.range 8).map (fun b => 1 + ((b % a : Nat) : Int))
def firstM (a : Int) : List Int := if 1 ≤ a ∧ a ≤ 3 then firstL a.toNat else [0, 0, 0, 0, 0, 0, 0, 0]
def arr (l : List Int) : Value := .agg (l.map (Value.int .i64)).toArray

theorem firstM_no {a : Int} (h : ¬ (1 ≤ a ∧ a ≤ 3)) : firstM a = [0, 0, 0, 0, 0, 0, 0, 0] := if_neg h

theorem below2 (w : World) (a b : Obj) : Below w.heap.size w ((w.alloc a).alloc b) := ((Below.refl _ _).alloc (Nat.le_refl _) _).alloc (by simp) _

set_option maxRecDepth 100000 in
theorem first_less (a : Int) (h : a < 1) (w : World) : Calls Try.prog 8 #[.int .i64 a] w fun e w' => e = .returned (arr (firstM a)) ∧ Below w.heap.size w w' := by
  have h1 : ¬ (1 ≤ a ∧ a ≤ 3) := by omega
  rw [firstM_no h1]
  go_enter Try.func8, Try.ntmps8
  go_wp2
  go_returns
  exact ⟨rfl, below2 _ _ _⟩

set_option maxRecDepth 100000 in
theorem first_more (a : Int) (h : 3 < a) (w : World) : Calls Try.prog 8 #[.int .i64 a] w fun e w' => e = .returned (arr (firstM a)) ∧ Below w.heap.size w w' := by
  have h1 : ¬ (1 ≤ a ∧ a ≤ 3) := by omega
  have h2 : ¬ a < 1 := by omega
  have h3 : a > 3 := h
  rw [firstM_no h1]
  go_enter Try.func8, Try.ntmps8
  go_wp2
  go_returns
  exact ⟨rfl, below2 _ _ _⟩

def z8 : Array Value := #[.int .i64 0, .int .i64 0, .int .i64 0, .int .i64 0, .int .i64 0, .int .i64 0, .int .i64 0, .int .i64 0]
def u3 : Array Value := #[.int .i64 1, .int .i64 2, .int .i64 3]
def ws3 (a : Nat) : List Int := [1, 2, 3].take a

theorem cyc_in (a : Nat) (w w3 W : World) (hw3 : w3 = ((w.alloc (.cells z8 26)).alloc (.cells z8 26)).alloc (.cells u3 37)) (hW : Below (w.heap.size + 3) w3 W) :
    Calls Try.prog 17 #[.slice (some ⟨w.heap.size + 1 + 1, 0, none⟩) a 3] W fun e w' => ∃ gb, e = .returned (.func (.func 18) #[] #[.pointer (some ⟨gb, 0, none⟩)]) ∧
      (w.heap.size + 3 ≤ gb ∧ Below (w.heap.size + 3) w3 w' ∧ w'.heap[gb]? = some (.cells #[.slice (some ⟨w.heap.size + 1 + 1, 0, none⟩) a 3] 23 (0, 0))) := by
  refine (cycle_any _ _ _ _).mono ?_
  rintro e w' ⟨rfl, rfl⟩
  have s3 : w3.heap.size = w.heap.size + 3 := by rw [hw3]; simp
  have := hW.size
  exact ⟨_, rfl, by omega, hW.alloc (by omega) _, World.alloc_heap_new W _⟩

theorem deal_in (a : Nat) (ha : 1 ≤ a ∧ a ≤ 3) (w w3 W : World) (gb : Nat) (hw3 : w3 = ((w.alloc (.cells z8 26)).alloc (.cells z8 26)).alloc (.cells u3 37)) (hgb : w.heap.size + 3 ≤ gb) (hW : Below (w.heap.size + 3) w3 W) (hb : W.heap[gb]? = some (.cells #[.slice (some ⟨w.heap.size + 1 + 1, 0, none⟩) a 3] 23 (0, 0))) :
    Calls Try.prog 16 #[.slice (some ⟨w.heap.size + 1, 0, none⟩) 8 8, .func (.func 18) #[] #[.pointer (some ⟨gb, 0, none⟩)]] W fun e w' => ∃ v, e = .returned v ∧
      (w'.heap[w.heap.size + 1]? = some (.cells ((List.range 8).map (turn (ws3 a) a)).toArray 26 (0, 0)) ∧ w'.heap[w.heap.size]? = some (.cells z8 26 (0, 0)) ∧ Below w.heap.size w w') := by
  have s3 : w3.heap.size = w.heap.size + 3 := by rw [hw3]; simp
  have hs := hW.size
  have h0 : w3.heap[w.heap.size]? = some (.cells z8 26 (0, 0)) := by
    rw [hw3, Below.heap_alloc _ _ _ (by simp; omega), Below.heap_alloc _ _ _ (by simp)]; exact World.alloc_heap_new w _
  have h1 : w3.heap[w.heap.size + 1]? = some (.cells z8 26 (0, 0)) := by
    rw [hw3, Below.heap_alloc _ _ _ (by simp)]
    have := World.alloc_heap_new (w.alloc (.cells z8 26)) (.cells z8 26)
    simpa using this
  have h2 : w3.heap[w.heap.size + 2]? = some (.cells u3 37 (0, 0)) := by
    rw [hw3]
    have := World.alloc_heap_new ((w.alloc (.cells z8 26)).alloc (.cells z8 26)) (.cells u3 37)
    simpa using this
  have hB : Below w.heap.size w w3 := by rw [hw3]; exact (((Below.refl _ _).alloc (Nat.le_refl _) _).alloc (by simp) _).alloc (by simp; omega) _
  have hgl := (Array.getElem?_eq_some_iff.1 hb).1
  have hz : z8.toList.length = 8 := rfl
  have hd := deal_any (w.heap.size + 1) 26 (ws3 a) a (by simp [ws3]; omega) z8.toList 3 8 gb ⟨w.heap.size + 1 + 1, 0, none⟩ W (by omega) (by unfold maxLen; omega) (by rw [hz]; unfold maxLen; omega) hgl (by omega) (by show w.heap.size + 1 + 1 < _; omega) (by show w.heap.size + 1 + 1 ≠ _; omega) ((hW.block _ (by omega)).trans h1)
    ((Ev.cell_of_block hb).trans rfl) ?_
  · rw [hz] at hd
    refine hd.mono ?_
    rintro e w' ⟨⟨v, rfl⟩, q1, q2⟩
    refine ⟨v, rfl, q1, (q2.old _ (by omega) (by omega)).trans ((hW.block _ (by omega)).trans h0), ?_⟩
    have hB2 := hB.trans (hW.mono (by omega))
    exact ⟨q2.os.trans hB2.os, q2.tape.trans hB2.tape, q2.output.trans hB2.output, Nat.le_trans hB2.size q2.size, fun k hk => (q2.old k (by omega) (by omega)).trans (hB2.block k hk)⟩
  · intro j z hj
    have hj3 : j < 3 := by
      have := (List.getElem?_eq_some_iff.1 hj).1
      simp [ws3] at this; omega
    rw [Ev.add_lit, Ev.cell_of_block ((hW.block _ (by omega)).trans h2)]
    have hj2 : [(1 : Int), 2, 3][j]? = some z := by
      unfold ws3 at hj
      rw [List.getElem?_take] at hj
      split at hj
      · exact hj
      · cases hj
    have : j = 0 ∨ j = 1 ∨ j = 2 := by omega
    rcases this with rfl | rfl | rfl <;> (simp at hj2; subst hj2; rfl)

def stored8 (W : World) (g : Nat) (a0 a1 a2 a3 a4 a5 a6 a7 : Value) : World :=
  (((((((W.setCell ⟨g, 0, none⟩ a0).setCell ⟨g, 1, none⟩ a1).setCell ⟨g, 2, none⟩ a2).setCell ⟨g, 3, none⟩ a3).setCell ⟨g, 4, none⟩ a4).setCell ⟨g, 5, none⟩ a5).setCell ⟨g, 6, none⟩ a6).setCell ⟨g, 7, none⟩ a7
theorem stored8_row {W : World} {g : Nat} {t : TypeId} (a0 a1 a2 a3 a4 a5 a6 a7 : Value) (h' : W.heap[g]? = some (.cells z8 t (0, 0))) : (stored8 W g a0 a1 a2 a3 a4 a5 a6 a7).heap[g]? = some (.cells #[a0, a1, a2, a3, a4, a5, a6, a7] t (0, 0)) := by
  have h : W.heap[g]? = some (.cells #[.int .i64 0, .int .i64 0, .int .i64 0, .int .i64 0, .int .i64 0, .int .i64 0, .int .i64 0, .int .i64 0] t (0, 0)) := h'
  have h0 : (W.setCell ⟨g, 0, none⟩ a0).heap[g]? = some (.cells #[a0, .int .i64 0, .int .i64 0, .int .i64 0, .int .i64 0, .int .i64 0, .int .i64 0, .int .i64 0] t (0, 0)) := Go.Joins.block_setCell (i := 0) h _
  have h1 : ((W.setCell ⟨g, 0, none⟩ a0).setCell ⟨g, 1, none⟩ a1).heap[g]? = some (.cells #[a0, a1, .int .i64 0, .int .i64 0, .int .i64 0, .int .i64 0, .int .i64 0, .int .i64 0] t (0, 0)) := Go.Joins.block_setCell (i := 1) h0 _
  have h2 : (((W.setCell ⟨g, 0, none⟩ a0).setCell ⟨g, 1, none⟩ a1).setCell ⟨g, 2, none⟩ a2).heap[g]? = some (.cells #[a0, a1, a2, .int .i64 0, .int .i64 0, .int .i64 0, .int .i64 0, .int .i64 0] t (0, 0)) := Go.Joins.block_setCell (i := 2) h1 _
  have h3 : ((((W.setCell ⟨g, 0, none⟩ a0).setCell ⟨g, 1, none⟩ a1).setCell ⟨g, 2, none⟩ a2).setCell ⟨g, 3, none⟩ a3).heap[g]? = some (.cells #[a0, a1, a2, a3, .int .i64 0, .int .i64 0, .int .i64 0, .int .i64 0] t (0, 0)) := Go.Joins.block_setCell (i := 3) h2 _
  have h4 : (((((W.setCell ⟨g, 0, none⟩ a0).setCell ⟨g, 1, none⟩ a1).setCell ⟨g, 2, none⟩ a2).setCell ⟨g, 3, none⟩ a3).setCell ⟨g, 4, none⟩ a4).heap[g]? = some (.cells #[a0, a1, a2, a3, a4, .int .i64 0, .int .i64 0, .int .i64 0] t (0, 0)) := Go.Joins.block_setCell (i := 4) h3 _
  have h5 : ((((((W.setCell ⟨g, 0, none⟩ a0).setCell ⟨g, 1, none⟩ a1).setCell ⟨g, 2, none⟩ a2).setCell ⟨g, 3, none⟩ a3).setCell ⟨g, 4, none⟩ a4).setCell ⟨g, 5, none⟩ a5).heap[g]? = some (.cells #[a0, a1, a2, a3, a4, a5, .int .i64 0, .int .i64 0] t (0, 0)) := Go.Joins.block_setCell (i := 5) h4 _
  have h6 : (((((((W.setCell ⟨g, 0, none⟩ a0).setCell ⟨g, 1, none⟩ a1).setCell ⟨g, 2, none⟩ a2).setCell ⟨g, 3, none⟩ a3).setCell ⟨g, 4, none⟩ a4).setCell ⟨g, 5, none⟩ a5).setCell ⟨g, 6, none⟩ a6).heap[g]? = some (.cells #[a0, a1, a2, a3, a4, a5, a6, .int .i64 0] t (0, 0)) := Go.Joins.block_setCell (i := 6) h5 _
  have h7 : ((((((((W.setCell ⟨g, 0, none⟩ a0).setCell ⟨g, 1, none⟩ a1).setCell ⟨g, 2, none⟩ a2).setCell ⟨g, 3, none⟩ a3).setCell ⟨g, 4, none⟩ a4).setCell ⟨g, 5, none⟩ a5).setCell ⟨g, 6, none⟩ a6).setCell ⟨g, 7, none⟩ a7).heap[g]? = some (.cells #[a0, a1, a2, a3, a4, a5, a6, a7] t (0, 0)) := Go.Joins.block_setCell (i := 7) h6 _
  exact h7
theorem stored8_below {w W : World} {B g : Nat} {a0 a1 a2 a3 a4 a5 a6 a7 : Value} (h : B ≤ g) (hb : Below B w W) : Below B w (stored8 W g a0 a1 a2 a3 a4 a5 a6 a7) :=
  (((((((hb.setCell (p := ⟨g, 0, none⟩) h _).setCell (p := ⟨g, 1, none⟩) h _).setCell (p := ⟨g, 2, none⟩) h _).setCell (p := ⟨g, 3, none⟩) h _).setCell (p := ⟨g, 4, none⟩) h _).setCell (p := ⟨g, 5, none⟩) h _).setCell (p := ⟨g, 6, none⟩) h _).setCell (p := ⟨g, 7, none⟩) h _

set_option maxRecDepth 100000 in
theorem first_1 (w : World) : Calls Try.prog 8 #[.int .i64 1] w fun e w' => e = .returned (arr (firstL 1)) ∧ Below w.heap.size w w' := by
  have T : ((List.range 8).map (turn (ws3 1) 1)).toArray = #[.int .i64 1, .int .i64 1, .int .i64 1, .int .i64 1, .int .i64 1, .int .i64 1, .int .i64 1, .int .i64 1] := by rfl
  have HC := fun w3 W h1 h2 => Lib.hid (cyc_in 1 w w3 W h1 h2)
  have HD := fun w3 W gb h1 h2 h3 h4 => Lib.hid (deal_in 1 (by omega) w w3 W gb h1 h2 h3 h4)
  rw [T] at HD
  unfold z8 u3 at HC HD
  go_enter Try.func8, Try.ntmps8
  go_wp2
  refine wp_loop_rounds 4 ?_
  rw [rounds_succ]
  go_wp2
  rw [rounds_succ]
  go_wp2
  rw [rounds_succ]
  go_wp2
  rw [rounds_succ]
  go_wp2
  obtain ⟨w3, hw3⟩ : ∃ w3, w3 = ((w.alloc (.cells #[.int .i64 0, .int .i64 0, .int .i64 0, .int .i64 0, .int .i64 0, .int .i64 0, .int .i64 0, .int .i64 0] 26)).alloc (.cells #[.int .i64 0, .int .i64 0, .int .i64 0, .int .i64 0, .int .i64 0, .int .i64 0, .int .i64 0, .int .i64 0] 26)).alloc (.cells #[.int .i64 1, .int .i64 2, .int .i64 3] 37) := ⟨_, rfl⟩
  rw [← hw3]
  have HC := HC w3
  have HW3 := Lib.hid hw3
  clear hw3
  have hs : Hid (Below (w.heap.size + 3) w3 w3.drew) := Lib.hid ((Below.refl _ _).drew)
  have hs0 : Hid (Below (w.heap.size + 3) w3 w3) := Lib.hid (Below.refl _ _)
  go_region_with (first
    | (go_at_call 17
       (with_reducible refine (HC _ HW3.out (by first | exact hs.out | exact hs0.out)).out.mono ?_)
       rintro e w1 ⟨gb, rfl, hgb⟩
       have hgb := Lib.hid hgb)
    | (go_at_call 16
       (with_reducible refine (HD w3 _ gb HW3.out hgb.out.1 hgb.out.2.1 hgb.out.2.2).out.mono ?_)
       rintro e w2 ⟨v, rfl, hfin⟩
       have hfin := Lib.hid hfin))
  have d0 : w2.cell? ⟨w.heap.size + 1, 0, none⟩ = some (.int .i64 1) := by rw [Ev.cell_of_block hfin.out.1]; rfl
  have d1 : w2.cell? ⟨w.heap.size + 1, 1, none⟩ = some (.int .i64 1) := by rw [Ev.cell_of_block hfin.out.1]; rfl
  have d2 : w2.cell? ⟨w.heap.size + 1, 2, none⟩ = some (.int .i64 1) := by rw [Ev.cell_of_block hfin.out.1]; rfl
  have d3 : w2.cell? ⟨w.heap.size + 1, 3, none⟩ = some (.int .i64 1) := by rw [Ev.cell_of_block hfin.out.1]; rfl
  have d4 : w2.cell? ⟨w.heap.size + 1, 4, none⟩ = some (.int .i64 1) := by rw [Ev.cell_of_block hfin.out.1]; rfl
  have d5 : w2.cell? ⟨w.heap.size + 1, 5, none⟩ = some (.int .i64 1) := by rw [Ev.cell_of_block hfin.out.1]; rfl
  have d6 : w2.cell? ⟨w.heap.size + 1, 6, none⟩ = some (.int .i64 1) := by rw [Ev.cell_of_block hfin.out.1]; rfl
  have d7 : w2.cell? ⟨w.heap.size + 1, 7, none⟩ = some (.int .i64 1) := by rw [Ev.cell_of_block hfin.out.1]; rfl
  have e0 : w2.cell? ⟨w.heap.size, 0, none⟩ = some (.int .i64 0) := by rw [Ev.cell_of_block hfin.out.2.1]; rfl
  have e1 : w2.cell? ⟨w.heap.size, 1, none⟩ = some (.int .i64 0) := by rw [Ev.cell_of_block hfin.out.2.1]; rfl
  have e2 : w2.cell? ⟨w.heap.size, 2, none⟩ = some (.int .i64 0) := by rw [Ev.cell_of_block hfin.out.2.1]; rfl
  have e3 : w2.cell? ⟨w.heap.size, 3, none⟩ = some (.int .i64 0) := by rw [Ev.cell_of_block hfin.out.2.1]; rfl
  have e4 : w2.cell? ⟨w.heap.size, 4, none⟩ = some (.int .i64 0) := by rw [Ev.cell_of_block hfin.out.2.1]; rfl
  have e5 : w2.cell? ⟨w.heap.size, 5, none⟩ = some (.int .i64 0) := by rw [Ev.cell_of_block hfin.out.2.1]; rfl
  have e6 : w2.cell? ⟨w.heap.size, 6, none⟩ = some (.int .i64 0) := by rw [Ev.cell_of_block hfin.out.2.1]; rfl
  have e7 : w2.cell? ⟨w.heap.size, 7, none⟩ = some (.int .i64 0) := by rw [Ev.cell_of_block hfin.out.2.1]; rfl
  have f0 : w2.frozen? ⟨w.heap.size, 0, none⟩ = false := by simp [World.frozen?, hfin.out.2.1]
  have f1 : w2.frozen? ⟨w.heap.size, 1, none⟩ = false := by simp [World.frozen?, hfin.out.2.1]
  have f2 : w2.frozen? ⟨w.heap.size, 2, none⟩ = false := by simp [World.frozen?, hfin.out.2.1]
  have f3 : w2.frozen? ⟨w.heap.size, 3, none⟩ = false := by simp [World.frozen?, hfin.out.2.1]
  have f4 : w2.frozen? ⟨w.heap.size, 4, none⟩ = false := by simp [World.frozen?, hfin.out.2.1]
  have f5 : w2.frozen? ⟨w.heap.size, 5, none⟩ = false := by simp [World.frozen?, hfin.out.2.1]
  have f6 : w2.frozen? ⟨w.heap.size, 6, none⟩ = false := by simp [World.frozen?, hfin.out.2.1]
  have f7 : w2.frozen? ⟨w.heap.size, 7, none⟩ = false := by simp [World.frozen?, hfin.out.2.1]
  go_wp2
  refine bodyPost_ret (v := arr (firstL 1)) ?_ rfl ⟨rfl, stored8_below (Nat.le_refl _) hfin.out.2.2⟩
  exact results_cell_row (p := 2) (ty := 26) (by kernel_rfl) _ _ _ _ _ (0, 0) _ rfl (stored8_row _ _ _ _ _ _ _ _ hfin.out.2.1) Try.underlying26 rfl (by kernel_rfl)

set_option maxRecDepth 100000 in
theorem first_2 (w : World) : Calls Try.prog 8 #[.int .i64 2] w fun e w' => e = .returned (arr (firstL 2)) ∧ Below w.heap.size w w' := by
  have T : ((List.range 8).map (turn (ws3 2) 2)).toArray = #[.int .i64 1, .int .i64 2, .int .i64 1, .int .i64 2, .int .i64 1, .int .i64 2, .int .i64 1, .int .i64 2] := by rfl
  have HC := fun w3 W h1 h2 => Lib.hid (cyc_in 2 w w3 W h1 h2)
  have HD := fun w3 W gb h1 h2 h3 h4 => Lib.hid (deal_in 2 (by omega) w w3 W gb h1 h2 h3 h4)
  rw [T] at HD
  unfold z8 u3 at HC HD
  go_enter Try.func8, Try.ntmps8
  go_wp2
  refine wp_loop_rounds 4 ?_
  rw [rounds_succ]
  go_wp2
  rw [rounds_succ]
  go_wp2
  rw [rounds_succ]
  go_wp2
  rw [rounds_succ]
  go_wp2
  obtain ⟨w3, hw3⟩ : ∃ w3, w3 = ((w.alloc (.cells #[.int .i64 0, .int .i64 0, .int .i64 0, .int .i64 0, .int .i64 0, .int .i64 0, .int .i64 0, .int .i64 0] 26)).alloc (.cells #[.int .i64 0, .int .i64 0, .int .i64 0, .int .i64 0, .int .i64 0, .int .i64 0, .int .i64 0, .int .i64 0] 26)).alloc (.cells #[.int .i64 1, .int .i64 2, .int .i64 3] 37) := ⟨_, rfl⟩
  rw [← hw3]
  have HC := HC w3
  have HW3 := Lib.hid hw3
  clear hw3
  have hs : Hid (Below (w.heap.size + 3) w3 w3.drew) := Lib.hid ((Below.refl _ _).drew)
  have hs0 : Hid (Below (w.heap.size + 3) w3 w3) := Lib.hid (Below.refl _ _)
  go_region_with (first
    | (go_at_call 17
       (with_reducible refine (HC _ HW3.out (by first | exact hs.out | exact hs0.out)).out.mono ?_)
       rintro e w1 ⟨gb, rfl, hgb⟩
       have hgb := Lib.hid hgb)
    | (go_at_call 16
       (with_reducible refine (HD w3 _ gb HW3.out hgb.out.1 hgb.out.2.1 hgb.out.2.2).out.mono ?_)
       rintro e w2 ⟨v, rfl, hfin⟩
       have hfin := Lib.hid hfin))
  have d0 : w2.cell? ⟨w.heap.size + 1, 0, none⟩ = some (.int .i64 1) := by rw [Ev.cell_of_block hfin.out.1]; rfl
  have d1 : w2.cell? ⟨w.heap.size + 1, 1, none⟩ = some (.int .i64 2) := by rw [Ev.cell_of_block hfin.out.1]; rfl
  have d2 : w2.cell? ⟨w.heap.size + 1, 2, none⟩ = some (.int .i64 1) := by rw [Ev.cell_of_block hfin.out.1]; rfl
  have d3 : w2.cell? ⟨w.heap.size + 1, 3, none⟩ = some (.int .i64 2) := by rw [Ev.cell_of_block hfin.out.1]; rfl
  have d4 : w2.cell? ⟨w.heap.size + 1, 4, none⟩ = some (.int .i64 1) := by rw [Ev.cell_of_block hfin.out.1]; rfl
  have d5 : w2.cell? ⟨w.heap.size + 1, 5, none⟩ = some (.int .i64 2) := by rw [Ev.cell_of_block hfin.out.1]; rfl
  have d6 : w2.cell? ⟨w.heap.size + 1, 6, none⟩ = some (.int .i64 1) := by rw [Ev.cell_of_block hfin.out.1]; rfl
  have d7 : w2.cell? ⟨w.heap.size + 1, 7, none⟩ = some (.int .i64 2) := by rw [Ev.cell_of_block hfin.out.1]; rfl
  have e0 : w2.cell? ⟨w.heap.size, 0, none⟩ = some (.int .i64 0) := by rw [Ev.cell_of_block hfin.out.2.1]; rfl
  have e1 : w2.cell? ⟨w.heap.size, 1, none⟩ = some (.int .i64 0) := by rw [Ev.cell_of_block hfin.out.2.1]; rfl
  have e2 : w2.cell? ⟨w.heap.size, 2, none⟩ = some (.int .i64 0) := by rw [Ev.cell_of_block hfin.out.2.1]; rfl
  have e3 : w2.cell? ⟨w.heap.size, 3, none⟩ = some (.int .i64 0) := by rw [Ev.cell_of_block hfin.out.2.1]; rfl
  have e4 : w2.cell? ⟨w.heap.size, 4, none⟩ = some (.int .i64 0) := by rw [Ev.cell_of_block hfin.out.2.1]; rfl
  have e5 : w2.cell? ⟨w.heap.size, 5, none⟩ = some (.int .i64 0) := by rw [Ev.cell_of_block hfin.out.2.1]; rfl
  have e6 : w2.cell? ⟨w.heap.size, 6, none⟩ = some (.int .i64 0) := by rw [Ev.cell_of_block hfin.out.2.1]; rfl
  have e7 : w2.cell? ⟨w.heap.size, 7, none⟩ = some (.int .i64 0) := by rw [Ev.cell_of_block hfin.out.2.1]; rfl
  have f0 : w2.frozen? ⟨w.heap.size, 0, none⟩ = false := by simp [World.frozen?, hfin.out.2.1]
  have f1 : w2.frozen? ⟨w.heap.size, 1, none⟩ = false := by simp [World.frozen?, hfin.out.2.1]
  have f2 : w2.frozen? ⟨w.heap.size, 2, none⟩ = false := by simp [World.frozen?, hfin.out.2.1]
  have f3 : w2.frozen? ⟨w.heap.size, 3, none⟩ = false := by simp [World.frozen?, hfin.out.2.1]
  have f4 : w2.frozen? ⟨w.heap.size, 4, none⟩ = false := by simp [World.frozen?, hfin.out.2.1]
  have f5 : w2.frozen? ⟨w.heap.size, 5, none⟩ = false := by simp [World.frozen?, hfin.out.2.1]
  have f6 : w2.frozen? ⟨w.heap.size, 6, none⟩ = false := by simp [World.frozen?, hfin.out.2.1]
  have f7 : w2.frozen? ⟨w.heap.size, 7, none⟩ = false := by simp [World.frozen?, hfin.out.2.1]
  go_wp2
  refine bodyPost_ret (v := arr (firstL 2)) ?_ rfl ⟨rfl, stored8_below (Nat.le_refl _) hfin.out.2.2⟩
  exact results_cell_row (p := 2) (ty := 26) (by kernel_rfl) _ _ _ _ _ (0, 0) _ rfl (stored8_row _ _ _ _ _ _ _ _ hfin.out.2.1) Try.underlying26 rfl (by kernel_rfl)

set_option maxRecDepth 100000 in
theorem first_3 (w : World) : Calls Try.prog 8 #[.int .i64 3] w fun e w' => e = .returned (arr (firstL 3)) ∧ Below w.heap.size w w' := by
  have T : ((List.range 8).map (turn (ws3 3) 3)).toArray = #[.int .i64 1, .int .i64 2, .int .i64 3, .int .i64 1, .int .i64 2, .int .i64 3, .int .i64 1, .int .i64 2] := by rfl
  have HC := fun w3 W h1 h2 => Lib.hid (cyc_in 3 w w3 W h1 h2)
  have HD := fun w3 W gb h1 h2 h3 h4 => Lib.hid (deal_in 3 (by omega) w w3 W gb h1 h2 h3 h4)
  rw [T] at HD
  unfold z8 u3 at HC HD
  go_enter Try.func8, Try.ntmps8
  go_wp2
  refine wp_loop_rounds 4 ?_
  rw [rounds_succ]
  go_wp2
  rw [rounds_succ]
  go_wp2
  rw [rounds_succ]
  go_wp2
  rw [rounds_succ]
  go_wp2
  obtain ⟨w3, hw3⟩ : ∃ w3, w3 = ((w.alloc (.cells #[.int .i64 0, .int .i64 0, .int .i64 0, .int .i64 0, .int .i64 0, .int .i64 0, .int .i64 0, .int .i64 0] 26)).alloc (.cells #[.int .i64 0, .int .i64 0, .int .i64 0, .int .i64 0, .int .i64 0, .int .i64 0, .int .i64 0, .int .i64 0] 26)).alloc (.cells #[.int .i64 1, .int .i64 2, .int .i64 3] 37) := ⟨_, rfl⟩
  rw [← hw3]
  have HC := HC w3
  have HW3 := Lib.hid hw3
  clear hw3
  have hs : Hid (Below (w.heap.size + 3) w3 w3.drew) := Lib.hid ((Below.refl _ _).drew)
  have hs0 : Hid (Below (w.heap.size + 3) w3 w3) := Lib.hid (Below.refl _ _)
  go_region_with (first
    | (go_at_call 17
       (with_reducible refine (HC _ HW3.out (by first | exact hs.out | exact hs0.out)).out.mono ?_)
       rintro e w1 ⟨gb, rfl, hgb⟩
       have hgb := Lib.hid hgb)
    | (go_at_call 16
       (with_reducible refine (HD w3 _ gb HW3.out hgb.out.1 hgb.out.2.1 hgb.out.2.2).out.mono ?_)
       rintro e w2 ⟨v, rfl, hfin⟩
       have hfin := Lib.hid hfin))
  have d0 : w2.cell? ⟨w.heap.size + 1, 0, none⟩ = some (.int .i64 1) := by rw [Ev.cell_of_block hfin.out.1]; rfl
  have d1 : w2.cell? ⟨w.heap.size + 1, 1, none⟩ = some (.int .i64 2) := by rw [Ev.cell_of_block hfin.out.1]; rfl
  have d2 : w2.cell? ⟨w.heap.size + 1, 2, none⟩ = some (.int .i64 3) := by rw [Ev.cell_of_block hfin.out.1]; rfl
  have d3 : w2.cell? ⟨w.heap.size + 1, 3, none⟩ = some (.int .i64 1) := by rw [Ev.cell_of_block hfin.out.1]; rfl
  have d4 : w2.cell? ⟨w.heap.size + 1, 4, none⟩ = some (.int .i64 2) := by rw [Ev.cell_of_block hfin.out.1]; rfl
  have d5 : w2.cell? ⟨w.heap.size + 1, 5, none⟩ = some (.int .i64 3) := by rw [Ev.cell_of_block hfin.out.1]; rfl
  have d6 : w2.cell? ⟨w.heap.size + 1, 6, none⟩ = some (.int .i64 1) := by rw [Ev.cell_of_block hfin.out.1]; rfl
  have d7 : w2.cell? ⟨w.heap.size + 1, 7, none⟩ = some (.int .i64 2) := by rw [Ev.cell_of_block hfin.out.1]; rfl
  have e0 : w2.cell? ⟨w.heap.size, 0, none⟩ = some (.int .i64 0) := by rw [Ev.cell_of_block hfin.out.2.1]; rfl
  have e1 : w2.cell? ⟨w.heap.size, 1, none⟩ = some (.int .i64 0) := by rw [Ev.cell_of_block hfin.out.2.1]; rfl
  have e2 : w2.cell? ⟨w.heap.size, 2, none⟩ = some (.int .i64 0) := by rw [Ev.cell_of_block hfin.out.2.1]; rfl
  have e3 : w2.cell? ⟨w.heap.size, 3, none⟩ = some (.int .i64 0) := by rw [Ev.cell_of_block hfin.out.2.1]; rfl
  have e4 : w2.cell? ⟨w.heap.size, 4, none⟩ = some (.int .i64 0) := by rw [Ev.cell_of_block hfin.out.2.1]; rfl
  have e5 : w2.cell? ⟨w.heap.size, 5, none⟩ = some (.int .i64 0) := by rw [Ev.cell_of_block hfin.out.2.1]; rfl
  have e6 : w2.cell? ⟨w.heap.size, 6, none⟩ = some (.int .i64 0) := by rw [Ev.cell_of_block hfin.out.2.1]; rfl
  have e7 : w2.cell? ⟨w.heap.size, 7, none⟩ = some (.int .i64 0) := by rw [Ev.cell_of_block hfin.out.2.1]; rfl
  have f0 : w2.frozen? ⟨w.heap.size, 0, none⟩ = false := by simp [World.frozen?, hfin.out.2.1]
  have f1 : w2.frozen? ⟨w.heap.size, 1, none⟩ = false := by simp [World.frozen?, hfin.out.2.1]
  have f2 : w2.frozen? ⟨w.heap.size, 2, none⟩ = false := by simp [World.frozen?, hfin.out.2.1]
  have f3 : w2.frozen? ⟨w.heap.size, 3, none⟩ = false := by simp [World.frozen?, hfin.out.2.1]
  have f4 : w2.frozen? ⟨w.heap.size, 4, none⟩ = false := by simp [World.frozen?, hfin.out.2.1]
  have f5 : w2.frozen? ⟨w.heap.size, 5, none⟩ = false := by simp [World.frozen?, hfin.out.2.1]
  have f6 : w2.frozen? ⟨w.heap.size, 6, none⟩ = false := by simp [World.frozen?, hfin.out.2.1]
  have f7 : w2.frozen? ⟨w.heap.size, 7, none⟩ = false := by simp [World.frozen?, hfin.out.2.1]
  go_wp2
  refine bodyPost_ret (v := arr (firstL 3)) ?_ rfl ⟨rfl, stored8_below (Nat.le_refl _) hfin.out.2.2⟩
  exact results_cell_row (p := 2) (ty := 26) (by kernel_rfl) _ _ _ _ _ (0, 0) _ rfl (stored8_row _ _ _ _ _ _ _ _ hfin.out.2.1) Try.underlying26 rfl (by kernel_rfl)

theorem first_any (a : Int) (w : World) : Calls Try.prog 8 #[.int .i64 a] w fun e w' => e = .returned (arr (firstM a)) ∧ Below w.heap.size w w' := by
  rcases Int.lt_or_le a 1 with h | h
  · exact first_less a h w
  · rcases Int.lt_or_le 3 a with h3 | h3
    · exact first_more a h3 w
    · have : a = 1 ∨ a = 2 ∨ a = 3 := by omega
      rcases this with rfl | rfl | rfl
      · exact first_1 w
      · exact first_2 w
      · exact first_3 w
end Go.Proofs.Ytjffajbahnoilaa
