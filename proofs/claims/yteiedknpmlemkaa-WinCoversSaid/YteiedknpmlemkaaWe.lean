/-
  The map of the kinds of windows: how it is laid, and looked up.
-/
import Derived.Test.YteiedknpmlemkaaRows
import Derived.Maps.Own
import Derived.OwnWalk
import Derived.RangeFuncRecord
import Derived.Lib.Hide
namespace Go.Proofs.Yteiedknpmlemkaa
open Go Go.RowKit Go.Lib Go.MapKept Go.ChangeMaps

abbrev ent (k : Int) (v : Value) (n : Nat) : MapEntry := { key := .int .i64 k, val := v, born := n }
theorem und55 (W : World) : (underlying 55).run Try.prog W = .ok (.map 3 54) W := by kernel_rfl
theorem chk3 (k : Int) (b : Bool) (W : World) : (Instr.checkKey b 10000 3 (.int .i64 k)).run Try.prog W = .ok () W := by kernel_rfl
theorem set_alloc (W : World) (o o' : Obj) : { (W.alloc o) with heap := (W.alloc o).heap.setIfInBounds W.heap.size o' } = W.alloc o' := by
  cases W
  simp only [World.alloc]
  congr 1
  simp only [Array.setIfInBounds, Array.size_push, Nat.lt_succ_self, dite_true]
  simp [Array.set_push]
theorem find0 (k : Int) (W : World) : (Instr.findKey 3 (.int .i64 k) []).run Try.prog W = .ok none W := by kernel_rfl
theorem find5 (v : Value) (W : World) : (Instr.findKey 3 (.int .i64 5) [ent 4 v 0]).run Try.prog W = .ok none W := by kernel_rfl
theorem find6 (v u : Value) (W : World) : (Instr.findKey 3 (.int .i64 6) [ent 4 v 0, ent 5 u 1]).run Try.prog W = .ok none W := by kernel_rfl
theorem ins4 (W : World) (v : Value) : (Instr.mapUpdate 55 (.map (some W.heap.size)) (.int .i64 4) v).run Try.prog (W.alloc (.map #[] 0)) = .ok () (W.alloc (.map #[ent 4 v 0] 1)) := by
  have h := World.alloc_heap_new W (.map #[] 0)
  simp only [Instr.mapUpdate, Sem.run_bind, Result.andThen, und55, Go.MapKept.run_getObj_map h, chk3, find0, Go.MapKept.run_setObj_map _ h, set_alloc]
  simp
theorem ins5 (W : World) (v u : Value) : (Instr.mapUpdate 55 (.map (some W.heap.size)) (.int .i64 5) u).run Try.prog (W.alloc (.map #[ent 4 v 0] 1)) = .ok () (W.alloc (.map #[ent 4 v 0, ent 5 u 1] 2)) := by
  have h := World.alloc_heap_new W (.map #[ent 4 v 0] 1)
  simp only [Instr.mapUpdate, Sem.run_bind, Result.andThen, und55, Go.MapKept.run_getObj_map h, chk3, find5, Go.MapKept.run_setObj_map _ h, set_alloc]
  simp
theorem ins6 (W : World) (v u t : Value) : (Instr.mapUpdate 55 (.map (some W.heap.size)) (.int .i64 6) t).run Try.prog (W.alloc (.map #[ent 4 v 0, ent 5 u 1] 2)) = .ok () (W.alloc (.map #[ent 4 v 0, ent 5 u 1, ent 6 t 2] 3)) := by
  have h := World.alloc_heap_new W (.map #[ent 4 v 0, ent 5 u 1] 2)
  simp only [Instr.mapUpdate, Sem.run_bind, Result.andThen, und55, Go.MapKept.run_getObj_map h, chk3, find6, Go.MapKept.run_setObj_map _ h, set_alloc]
  simp
theorem look4 {W : World} {b : Nat} (v u t : Value) (h : W.heap[b]? = some (.map #[ent 4 v 0, ent 5 u 1, ent 6 t 2] 3)) : (Instr.lookup 55 (.map (some b)) (.int .i64 4) false).run Try.prog W = .ok v W := by
  have f : (Instr.findKey 3 (.int .i64 4) [ent 4 v 0, ent 5 u 1, ent 6 t 2]).run Try.prog W = .ok (some (0, v)) W := by kernel_rfl
  simp only [Instr.lookup, Sem.run_bind, Sem.run_pure, Result.andThen, und55, Go.MapKept.run_getObj_map h, chk3, f]
  rfl
theorem look5 {W : World} {b : Nat} (v u t : Value) (h : W.heap[b]? = some (.map #[ent 4 v 0, ent 5 u 1, ent 6 t 2] 3)) : (Instr.lookup 55 (.map (some b)) (.int .i64 5) false).run Try.prog W = .ok u W := by
  have f : (Instr.findKey 3 (.int .i64 5) [ent 4 v 0, ent 5 u 1, ent 6 t 2]).run Try.prog W = .ok (some (1, u)) W := by kernel_rfl
  simp only [Instr.lookup, Sem.run_bind, Sem.run_pure, Result.andThen, und55, Go.MapKept.run_getObj_map h, chk3, f]
  rfl
theorem look6 {W : World} {b : Nat} (v u t : Value) (h : W.heap[b]? = some (.map #[ent 4 v 0, ent 5 u 1, ent 6 t 2] 3)) : (Instr.lookup 55 (.map (some b)) (.int .i64 6) false).run Try.prog W = .ok t W := by
  have f : (Instr.findKey 3 (.int .i64 6) [ent 4 v 0, ent 5 u 1, ent 6 t 2]).run Try.prog W = .ok (some (2, t)) W := by kernel_rfl
  simp only [Instr.lookup, Sem.run_bind, Sem.run_pure, Result.andThen, und55, Go.MapKept.run_getObj_map h, chk3, f]
  rfl
end Go.Proofs.Yteiedknpmlemkaa
