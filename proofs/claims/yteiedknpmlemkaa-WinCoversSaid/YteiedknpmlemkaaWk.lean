/-
  slices.SortFunc of windows by their beginnings.
-/
import Derived.Shelf.SlSortCmp.WholeK
import Derived.Shelf.SlicesG.Cmp
import Derived.Test.YteiedknpmlemkaaShelf
import Derived.Test.YteiedknpmlemkaaWh
namespace Go.Proofs.Yteiedknpmlemkaa
open Go Go.RowKit Go.Lib Go.Shelf

theorem cellsL_len (l : List Win) : (cellsL l).length = l.length * 2 := by
  induction l with
  | nil => rfl
  | cons x l ih =>
    have : cellsL (x :: l) = wcells x ++ cellsL l := by simp [cellsL]
    rw [this, List.length_append, ih]
    simp [wcells]; omega
theorem cellsL_cons (x : Win) (l : List Win) : cellsL (x :: l) = .int .i64 x.1 :: .int .i64 x.2 :: cellsL l := by simp [cellsL, wcells]
theorem cellsL_get : ∀ (l : List Win) (t : Nat), t < l.length * 2 → (cellsL l)[t]! = (wcells l[t / 2]!)[t % 2]!
  | [], t, h => by simp at h
  | x :: l, 0, _ => by rw [cellsL_cons]; rfl
  | x :: l, 1, _ => by rw [cellsL_cons]; rfl
  | x :: l, t + 2, h => by
    have h' : t < l.length * 2 := by simp at h; omega
    rw [cellsL_cons, show (t + 2) / 2 = t / 2 + 1 by omega, show (t + 2) % 2 = t % 2 by omega]
    simp only [List.getElem!_cons_succ]
    exact cellsL_get l t h'
theorem flat_cells (l : List Win) : (Sort.flatK wcells 2 l.toArray).toList = cellsL l := by
  refine List.ext_getElem (by simp [cellsL_len]) fun t h1 h2 => ?_
  have ht : t < l.length * 2 := by rw [cellsL_len] at h2; exact h2
  have a := Sort.get_flatK wcells 2 l.toArray t (by simpa using ht)
  have b := cellsL_get l t ht
  rw [getElem!_pos _ t h2] at b
  rw [getElem!_pos _ t (by simpa using ht)] at a
  rw [b, Array.getElem_toList, a]
  simp

theorem cells_put (l : List Win) (cur : Array Value) (h : l.length * 2 ≤ cur.size) : (Sort.putCells id 0 (Sort.flatK wcells 2 l.toArray) cur).toList.take (l.length * 2) = cellsL l := by
  rw [← flat_cells]
  refine List.ext_getElem (by simp [Sort.putCells, h]) fun t h1 h2 => ?_
  have ht : t < l.length * 2 := by simpa using h2
  simp only [Sort.putCells, List.getElem_take, Array.getElem_toList, Array.getElem_mapIdx, Sort.size_flatK, Nat.zero_le, true_and, Nat.zero_add, List.size_toArray, id, Nat.sub_zero]
  rw [if_pos ht, getElem!_pos _ t (by simpa using ht)]

theorem sort_heap {w : World} {g n : Nat} {cur : Array Value} {d : Array Win} {os : Array Obj} (h : w.heap[g]? = some (.cells cur 34 (0, 0))) :
    (sortWorldK wcells 2 w g 0 n d os).heap[g]? = some (.cells (Sort.putCells id 0 (Sort.flatK wcells 2 d) cur) 34 (0, 0)) := by
  have hlt : g < w.heap.size := (Array.getElem?_eq_some_iff.1 h).1
  show ((w.heap.modify g (Sort.onCells (Sort.putCells id 0 (Sort.flatK wcells 2 d)))) ++ os)[g]? = _
  rw [Array.getElem?_append_left (by simpa using hlt), Array.getElem?_modify]
  simp [h, Sort.onCells]
theorem sort_below (w : World) (g n B : Nat) (d : Array Win) (os : Array Obj) (hB : B ≤ g) (hg : g < w.heap.size) : Below B w (sortWorldK wcells 2 w g 0 n d os) := by
  refine ⟨rfl, rfl, rfl, ?_, fun k hk => ?_⟩
  · show w.heap.size ≤ ((w.heap.modify g (Sort.onCells (Sort.putCells id 0 (Sort.flatK wcells 2 d)))) ++ os).size
    simp
  · show ((w.heap.modify g (Sort.onCells (Sort.putCells id 0 (Sort.flatK wcells 2 d)))) ++ os)[k]? = _
    rw [Array.getElem?_append_left (by simp; omega), Array.getElem?_modify, if_neg (by omega)]

theorem isAgg34 : ∀ w, (isAgg 34).run Try.prog w = .ok true w := fun w => by kernel_rfl
theorem sizeOf34 : ∀ w, (Go.sizeOf 34).run Try.prog w = .ok 2 w := fun w => by kernel_rfl

set_option maxHeartbeats 1000000 in
theorem byStart_any (x y : Win) (W : World) : Calls Try.prog 32 #[.agg #[.int .i64 x.1, .int .i64 x.2], .agg #[.int .i64 y.1, .int .i64 y.2]] W fun e w' => e = .returned (.int .i64 (Lib.compareInt x.1 y.1)) ∧ ∃ q os', w' = Sort.grow (W.drewN q) os' := by
  have hcon := fun W' => AnyG.cmp_Compare_int Try.cmpInt x.1 y.1 W'
  change ∀ W', Calls Try.prog 45 _ _ _ at hcon
  generalize Lib.compareInt x.1 y.1 = r at hcon ⊢
  have H := fun W => Lib.hid (hcon W)
  clear hcon
  go_enter Try.func32, Try.ntmps32
  go_wp2_with (go_at_call 45; refine (H _).out.mono ?_; rintro e w' ⟨rfl, rfl⟩)
  go_ret
  exact ⟨rfl, 0, _, by rw [Sort.alloc_eq_grow, Sort.alloc_eq_grow, Sort.grow_grow]; rfl⟩

theorem ltLo (x y : Win) : ltOf (fun x y : Win => Lib.compareInt x.1 y.1) x y = decide (x.1 < y.1) := by
  unfold ltOf Lib.compareInt
  by_cases h1 : x.1 < y.1
  · simp [h1]
  · by_cases h2 : y.1 < x.1 <;> simp [h1, h2]
theorem swoLo : Sort.SWO (ltOf fun x y : Win => Lib.compareInt x.1 y.1) where
  irrefl x := by rw [ltLo]; simp
  trans x y z h1 h2 := by rw [ltLo] at *; simp at *; omega
  ntrans x y z h1 h2 := by rw [ltLo] at *; simp at *; omega

theorem enter32 : ∀ args w, (callFunc 32 args).run Try.prog w = .ok (.enter 32 args) w := enters_of Try.func32 (by kernel_rfl) rfl

/-- Sorted by the beginnings. -/
def Rises (l : List Win) : Prop := l.Pairwise (fun x y => x.1 ≤ y.1)

theorem sort_some (l : List Win) (g cap base : Nat) (w : World) (hown : w.ownsRow base 34 2 (.slice (some ⟨g, 0, none⟩) l.length cap) l.length (cellsL l)) (hlen : l.length ≤ 1000000000) :
    Calls Try.prog 43 #[.slice (some ⟨g, 0, none⟩) l.length cap, .func (.func 32) #[] #[]] w fun e w' => e = .returned (.tuple #[]) ∧ ∃ l' : List Win, l'.Perm l ∧ Rises l' ∧ l'.length = l.length ∧
      w'.ownsRow base 34 2 (.slice (some ⟨g, 0, none⟩) l.length cap) l.length (cellsL l') ∧ Below base w w' := by
  obtain ⟨hl, h | ⟨g', cap', cur, e1, hb, hc, hcap, hm, hcs, htk⟩⟩ := hown
  · simp at h
  · simp only [Value.slice.injEq, Option.some.injEq, Addr.mk.injEq, and_true, true_and] at e1
    obtain ⟨rfl, rfl⟩ := e1
    have hlt : g < w.heap.size := (Array.getElem?_eq_some_iff.1 hc).1
    have hn : l.length * 2 ≤ cur.size := by rw [hcs]; omega
    have hH : Sort.HoldsK wcells 2 w g 0 l.toArray := by
      intro j hj
      have hj' : j < l.length * 2 := by simpa using hj
      refine ⟨?_, ?_⟩
      · have e : (Sort.flatK wcells 2 l.toArray)[j]! = (cellsL l)[j]! := by rw [← flat_cells]; simp [Array.getElem!_eq_getD, Array.getD_eq_getD_getElem?]
        have hjc : j < (cellsL l).length := by rw [cellsL_len]; exact hj'
        have e2 : (cellsL l)[j]! = cur[j] := by
          rw [getElem!_pos (cellsL l) j hjc]
          simp only [← htk, List.getElem_take, Array.getElem_toList]
        rw [e, e2]
        simp only [World.cell?, hc, Nat.zero_add]
        simp [show j < cur.size by omega]
      · simp [World.frozen?, hc]
    have h := AnyQ.slices_SortFunc Try.sortW 2 isAgg34 sizeOf34 wcells (fun _ => rfl) (fun x v hv => oneCells x v hv) (fun x y => Lib.compareInt x.1 y.1) swoLo 32 #[] g 0 cap l.toArray w enter32
      (fun _ _ _ _ x y => byStart_any x y _) hH hlt (by simp; omega)
    refine Calls.mono h ?_
    rintro e w' ⟨rfl, d', n, os, hp, hs, rfl⟩
    refine ⟨rfl, d'.toList, ?_, ?_, ?_, ?_, sort_below w g n base d' os hb hlt⟩
    · have := hp.2.2
      have hz := hp.1
      rw [Array.extract_eq_self_of_le (by simp at hz ⊢; omega), Array.extract_eq_self_of_le (by simp)] at this
      simpa using this
    · unfold Rises
      rw [List.pairwise_iff_getElem]
      intro i j hi hj hij
      have hz := hp.1
      have := hs i j (Nat.zero_le _) hij (by simp at hz hj ⊢; omega)
      rw [ltLo] at this
      simp only [Array.length_toList] at hi hj
      rw [getElem!_pos d' i hi, getElem!_pos d' j hj] at this
      simp at this
      simpa using this
    · have hz := hp.1
      simpa using hz
    · have hz := hp.1
      have hz' : d'.toList.length = l.length := by simpa using hz
      refine ⟨by rw [cellsL_len, hz'], .inr ⟨g, cap, _, rfl, hb, sort_heap hc, hcap, hm, by simp [Sort.putCells, hcs], ?_⟩⟩
      have := cells_put d'.toList cur (by rw [hz']; exact hn)
      rw [hz'] at this
      simpa using this
end Go.Proofs.Yteiedknpmlemkaa
