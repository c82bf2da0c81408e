/-
  Whether two windows are one.
-/
import Derived.Test.YteiedknpmlemkaaWn
import Derived.ChangeKeysEq
namespace Go.Proofs.Yteiedknpmlemkaa
open Go Go.RowKit Go.Lib Go.Shelf

theorem cells2 : Try.prog.cellsOf 2 = 1 := by kernel_rfl
theorem arr34 : Try.prog.underlying 34 = some (.array 2 2) := by kernel_rfl
theorem guard34 : Try.prog.eqGuardType Try.prog.depth 34 = false := by kernel_rfl
theorem info2s : (Try.prog.info? 2).isSome = true := by kernel_rfl
theorem info2 : ∃ i, Try.prog.info? 2 = some i := Option.isSome_iff_exists.1 info2s
theorem part2 (xs : Array Value) (off : Nat) (x : Int) (hv : xs[off]? = some (.int .i64 x)) (w : World) : (part 2 xs off).run Try.prog w = .ok (.int .i64 x) w := by
  simp [part, isAgg, run_underlying Try.underlying2, hv]
theorem win_eq (a0 a1 b0 b1 : Int) (w : World) : (Op.equalIn 10000 34 (.agg #[.int .i64 a0, .int .i64 a1]) (.agg #[.int .i64 b0, .int .i64 b1])).run Try.prog w = .ok (decide (a0 = b0 ∧ a1 = b1)) w := by
  obtain ⟨i, hi⟩ := info2
  rw [run_equalIn_array w 9999 _ _ arr34 hi, cells2]
  have p0 := fun w => part2 #[.int .i64 a0, .int .i64 a1] 0 a0 rfl w
  have p1 := fun w => part2 #[.int .i64 a0, .int .i64 a1] 1 a1 rfl w
  have q0 := fun w => part2 #[.int .i64 b0, .int .i64 b1] 0 b0 rfl w
  have q1 := fun w => part2 #[.int .i64 b0, .int .i64 b1] 1 b1 rfl w
  have e : ∀ (a b : Int) w, (Op.equalIn 9999 2 (.int .i64 a) (.int .i64 b)).run Try.prog w = .ok (a == b) w := fun a b w => by rw [run_equalIn_int w 9998 2 .i64 .i64 _ _ Try.underlying2]
  by_cases h0 : a0 = b0
  · subst h0
    by_cases h1 : a1 = b1
    · subst h1
      simp [Op.eqItems, List.range_succ, p0, p1, q0, q1, e]
    · simp [Op.eqItems, List.range_succ, p0, p1, q0, q1, e, h1]
  · simp [Op.eqItems, List.range_succ, p0, p1, q0, q1, e, h0]

/-- What unions makes of windows in their order; now: the one that is being joined, or two zeros. -/
def uni : Win → List Win → List Win
  | now, [] => if now = (0, 0) then [] else [now]
  | now, x :: r => if now = (0, 0) then uni x r else if meetM now x = true then uni (joinM now x) r else now :: uni x r
theorem uni_len : ∀ (l : List Win) (now : Win), (uni now l).length ≤ l.length + 1
  | [], now => by unfold uni; split <;> simp
  | x :: r, now => by
    unfold uni
    split
    · exact Nat.le_trans (uni_len r x) (by simp)
    · split
      · exact Nat.le_trans (uni_len r _) (by simp)
      · have := uni_len r x
        simp; omega

theorem set_heap {W : World} {g : Nat} {c : Array Value} {t : TypeId} {fr : Nat × Nat} (h : W.heap[g]? = some (.cells c t fr)) (o : Nat) (v : Value) : (W.setCell ⟨g, o, none⟩ v).heap[g]? = some (.cells (c.setIfInBounds o v) t fr) := by
  rw [Sort.setCell_eq]
  show (W.heap.modify g _)[g]? = _
  rw [Array.getElem?_modify, if_pos rfl, h]
  rfl
theorem set2_heap {W : World} {g : Nat} {a b : Value} (h : W.heap[g]? = some (.cells #[a, b] 34 (0, 0))) (u v : Value) :
    ((W.setCell ⟨g, 0, none⟩ u).setCell ⟨g, 1, none⟩ v).heap[g]? = some (.cells #[u, v] 34 (0, 0)) := set_heap (set_heap h 0 u) 1 v
theorem grown_set (W : World) (b o : Nat) (v : Value) : W.grownBy (W.setCell ⟨b, o, none⟩ v) (some b) :=
  ⟨rfl, rfl, rfl, (KeepsWalks.setCell W _ v).size, fun k _ hk => Below.heap_setCell _ _ _ k (fun e => hk (by rw [e]))⟩
theorem cells_c0 {W : World} {g : Nat} {a b : Value} (h : W.heap[g]? = some (.cells #[a, b] 34 (0, 0))) : W.cell? ⟨g, 0, none⟩ = some a := by simp [World.cell?, h]
theorem cells_c1 {W : World} {g : Nat} {a b : Value} (h : W.heap[g]? = some (.cells #[a, b] 34 (0, 0))) : W.cell? ⟨g, 1, none⟩ = some b := by simp [World.cell?, h]
theorem cells_f {W : World} {g o : Nat} {a b : Value} (h : W.heap[g]? = some (.cells #[a, b] 34 (0, 0))) : W.frozen? ⟨g, o, none⟩ = false := by simp [World.frozen?, h]
end Go.Proofs.Yteiedknpmlemkaa
