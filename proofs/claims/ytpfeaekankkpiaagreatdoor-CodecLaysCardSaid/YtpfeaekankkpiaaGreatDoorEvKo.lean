/-
  What comes in for the codec, opened: bytes, messages, items.
-/
import Derived.Test.YtpfeaekankkpiaaGreatDoorEvT
import Derived.Test.YtpfeaekankkpiaaGreatDoorEvKh
import Derived.ChangeVars
import Derived.ChangeSlices
namespace Go.Proofs.YtpfeaekankkpiaaGreatDoor
open Go Go.ChangeShapes Go.WideShapes Go.ChangeAt Go.RowKit Go.Lib

theorem one_2 : Tryz.prog.cellsOf 2 = 1 := by kernel_rfl
theorem one_3 : Tryz.prog.cellsOf 3 = 1 := by kernel_rfl
theorem one_4 : Tryz.prog.cellsOf 4 = 1 := by kernel_rfl
theorem one_5 : Tryz.prog.cellsOf 5 = 1 := by kernel_rfl
theorem one_23 : Tryz.prog.cellsOf 23 = 1 := by kernel_rfl
theorem one_41 : Tryz.prog.cellsOf 41 = 1 := by kernel_rfl
theorem one_26 : Tryz.prog.cellsOf 26 = 1 := by kernel_rfl
theorem one_31 : Tryz.prog.cellsOf 31 = 1 := by kernel_rfl
theorem w64_of {n : Int} (h : (Lit.int .i64 n).wf = true) : w64 n := ⟨(bd_i64 h).1, (bd_i64 h).2⟩
theorem IntsAt.take {W : World} {B k : Nat} {A : Option Addr} {l : List Int} (h : IntsAt W B A l) : IntsAt W B A (l.take k) := by
  rcases h with rfl | ⟨ad, rfl, hb, hc⟩
  · exact .inl (by simp)
  · refine .inr ⟨ad, rfl, hb, fun j z hz => hc j z ?_⟩
    rw [List.getElem?_take] at hz
    split at hz
    · exact hz
    · cases hz
theorem EntsAt.take {W : World} {B k : Nat} {A : Option Addr} {l : List EntD} (h : EntsAt W B A l) : EntsAt W B A (l.take k) := by
  rcases h with rfl | ⟨ad, rfl, hb, hc⟩
  · exact .inl (by simp)
  · refine .inr ⟨ad, rfl, hb, fun j z hz => hc j z ?_⟩
    rw [List.getElem?_take] at hz
    split at hz
    · exact hz
    · cases hz
theorem arr_rec {cs : List Value} (h : cs.length = 6) : ∃ c0 c1 c2 c3 c4 c5, cs = [c0, c1, c2, c3, c4, c5] := by
  match cs, h with
  | [c0, c1, c2, c3, c4, c5], _ => exact ⟨c0, c1, c2, c3, c4, c5, rfl⟩
theorem cells_rec : Tryz.prog.cellsOf 25 = 6 := by kernel_rfl
set_option maxRecDepth 100000 in
theorem fields_rec {H : Type} {enc : TypeId × Value → H} {W : World} {fuel : Nat} {cs : List Value} {x : DataW H × List MemPlace} (hf : DataW.trod enc Tryz.prog W 0 (fun _ => true) true fuel 25 cs = some x) (hlt : ∀ p ∈ x.2, p.block < W.heap.size) : ∃ o : RecD, o.ok ∧ cs = [.int .u32 o.key, .int .i64 o.time, .int .i64 o.val, .int .u8 o.side, .bool o.err, .bool o.late] := by
  obtain ⟨ys, n', _, rfl, hlen, hyl, hfd⟩ := DataW.trod_struct Tryz.underlying25 hf
  rw [cells_rec] at hlen
  obtain ⟨c0, c1, c2, c3, c4, c5, rfl⟩ := arr_rec hlen
  have f0 : DataW.trod enc Tryz.prog W 0 (fun _ => true) true n' 23 (([c0, c1, c2, c3, c4, c5].drop 0).take (Tryz.prog.cellsOf 23)) = ys[0]? := hfd 0 _ rfl
  have f1 : DataW.trod enc Tryz.prog W 0 (fun _ => true) true n' 2 (([c0, c1, c2, c3, c4, c5].drop 1).take (Tryz.prog.cellsOf 2)) = ys[1]? := hfd 1 _ rfl
  have f2 : DataW.trod enc Tryz.prog W 0 (fun _ => true) true n' 2 (([c0, c1, c2, c3, c4, c5].drop 2).take (Tryz.prog.cellsOf 2)) = ys[2]? := hfd 2 _ rfl
  have f3 : DataW.trod enc Tryz.prog W 0 (fun _ => true) true n' 5 (([c0, c1, c2, c3, c4, c5].drop 3).take (Tryz.prog.cellsOf 5)) = ys[3]? := hfd 3 _ rfl
  have f4 : DataW.trod enc Tryz.prog W 0 (fun _ => true) true n' 4 (([c0, c1, c2, c3, c4, c5].drop 4).take (Tryz.prog.cellsOf 4)) = ys[4]? := hfd 4 _ rfl
  have f5 : DataW.trod enc Tryz.prog W 0 (fun _ => true) true n' 4 (([c0, c1, c2, c3, c4, c5].drop 5).take (Tryz.prog.cellsOf 4)) = ys[5]? := hfd 5 _ rfl
  rw [one_23] at f0
  rw [one_2] at f1
  rw [one_2] at f2
  rw [one_5] at f3
  rw [one_4] at f4
  rw [one_4] at f5
  simp only [List.drop_zero, List.take_succ_cons, List.take_zero, List.drop_succ_cons] at f0 f1 f2 f3 f4 f5
  have l0 : 0 < ys.length := by rw [hyl]; decide
  have g0 : ys[0]? = some (ys[0]'l0) := List.getElem?_eq_getElem _
  have l1 : 1 < ys.length := by rw [hyl]; decide
  have g1 : ys[1]? = some (ys[1]'l1) := List.getElem?_eq_getElem _
  have l2 : 2 < ys.length := by rw [hyl]; decide
  have g2 : ys[2]? = some (ys[2]'l2) := List.getElem?_eq_getElem _
  have l3 : 3 < ys.length := by rw [hyl]; decide
  have g3 : ys[3]? = some (ys[3]'l3) := List.getElem?_eq_getElem _
  have l4 : 4 < ys.length := by rw [hyl]; decide
  have g4 : ys[4]? = some (ys[4]'l4) := List.getElem?_eq_getElem _
  have l5 : 5 < ys.length := by rw [hyl]; decide
  have g5 : ys[5]? = some (ys[5]'l5) := List.getElem?_eq_getElem _
  obtain ⟨z0, e0, _, w0⟩ := DataW.trod_int Tryz.underlying23 (f0.trans g0)
  obtain ⟨z1, e1, _, w1⟩ := DataW.trod_int Tryz.underlying2 (f1.trans g1)
  obtain ⟨z2, e2, _, w2⟩ := DataW.trod_int Tryz.underlying2 (f2.trans g2)
  obtain ⟨z3, e3, _, w3⟩ := DataW.trod_int Tryz.underlying5 (f3.trans g3)
  obtain ⟨z4, e4, _⟩ := DataW.trod_bool Tryz.underlying4 (f4.trans g4)
  obtain ⟨z5, e5, _⟩ := DataW.trod_bool Tryz.underlying4 (f5.trans g5)
  simp only [List.cons.injEq, and_true] at e0 e1 e2 e3 e4 e5
  subst e0
  subst e1
  subst e2
  subst e3
  subst e4
  subst e5
  obtain ⟨k0, rfl, b0⟩ := bd_u32 w0
  obtain ⟨k3, rfl, b3⟩ := bd_u8 w3
  exact ⟨⟨k0, z1, z2, k3, z4, z5⟩, ⟨b0, w64_of w1, w64_of w2, b3⟩, rfl⟩
theorem arr_opn {cs : List Value} (h : cs.length = 4) : ∃ c0 c1 c2 c3, cs = [c0, c1, c2, c3] := by
  match cs, h with
  | [c0, c1, c2, c3], _ => exact ⟨c0, c1, c2, c3, rfl⟩
theorem cells_opn : Tryz.prog.cellsOf 28 = 4 := by kernel_rfl
set_option maxRecDepth 100000 in
theorem fields_opn {H : Type} {enc : TypeId × Value → H} {W : World} {fuel : Nat} {cs : List Value} {x : DataW H × List MemPlace} (hf : DataW.trod enc Tryz.prog W 0 (fun _ => true) true fuel 28 cs = some x) (hlt : ∀ p ∈ x.2, p.block < W.heap.size) : ∃ o : OpnD, o.ok ∧ cs = [.int .i64 o.kind, .int .i64 o.a, .int .i64 o.b, .int .i64 o.agg] := by
  obtain ⟨ys, n', _, rfl, hlen, hyl, hfd⟩ := DataW.trod_struct Tryz.underlying28 hf
  rw [cells_opn] at hlen
  obtain ⟨c0, c1, c2, c3, rfl⟩ := arr_opn hlen
  have f0 : DataW.trod enc Tryz.prog W 0 (fun _ => true) true n' 3 (([c0, c1, c2, c3].drop 0).take (Tryz.prog.cellsOf 3)) = ys[0]? := hfd 0 _ rfl
  have f1 : DataW.trod enc Tryz.prog W 0 (fun _ => true) true n' 2 (([c0, c1, c2, c3].drop 1).take (Tryz.prog.cellsOf 2)) = ys[1]? := hfd 1 _ rfl
  have f2 : DataW.trod enc Tryz.prog W 0 (fun _ => true) true n' 2 (([c0, c1, c2, c3].drop 2).take (Tryz.prog.cellsOf 2)) = ys[2]? := hfd 2 _ rfl
  have f3 : DataW.trod enc Tryz.prog W 0 (fun _ => true) true n' 3 (([c0, c1, c2, c3].drop 3).take (Tryz.prog.cellsOf 3)) = ys[3]? := hfd 3 _ rfl
  rw [one_3] at f0
  rw [one_2] at f1
  rw [one_2] at f2
  rw [one_3] at f3
  simp only [List.drop_zero, List.take_succ_cons, List.take_zero, List.drop_succ_cons] at f0 f1 f2 f3
  have l0 : 0 < ys.length := by rw [hyl]; decide
  have g0 : ys[0]? = some (ys[0]'l0) := List.getElem?_eq_getElem _
  have l1 : 1 < ys.length := by rw [hyl]; decide
  have g1 : ys[1]? = some (ys[1]'l1) := List.getElem?_eq_getElem _
  have l2 : 2 < ys.length := by rw [hyl]; decide
  have g2 : ys[2]? = some (ys[2]'l2) := List.getElem?_eq_getElem _
  have l3 : 3 < ys.length := by rw [hyl]; decide
  have g3 : ys[3]? = some (ys[3]'l3) := List.getElem?_eq_getElem _
  obtain ⟨z0, e0, _, w0⟩ := DataW.trod_int Tryz.underlying3 (f0.trans g0)
  obtain ⟨z1, e1, _, w1⟩ := DataW.trod_int Tryz.underlying2 (f1.trans g1)
  obtain ⟨z2, e2, _, w2⟩ := DataW.trod_int Tryz.underlying2 (f2.trans g2)
  obtain ⟨z3, e3, _, w3⟩ := DataW.trod_int Tryz.underlying3 (f3.trans g3)
  simp only [List.cons.injEq, and_true] at e0 e1 e2 e3
  subst e0
  subst e1
  subst e2
  subst e3
  exact ⟨⟨z0, z1, z2, z3⟩, ⟨w64_of w0, w64_of w1, w64_of w2, w64_of w3⟩, rfl⟩
theorem arr_acc {cs : List Value} (h : cs.length = 5) : ∃ c0 c1 c2 c3 c4, cs = [c0, c1, c2, c3, c4] := by
  match cs, h with
  | [c0, c1, c2, c3, c4], _ => exact ⟨c0, c1, c2, c3, c4, rfl⟩
theorem cells_acc : Tryz.prog.cellsOf 43 = 5 := by kernel_rfl
set_option maxRecDepth 100000 in
theorem fields_acc {H : Type} {enc : TypeId × Value → H} {W : World} {fuel : Nat} {cs : List Value} {x : DataW H × List MemPlace} (hf : DataW.trod enc Tryz.prog W 0 (fun _ => true) true fuel 43 cs = some x) (hlt : ∀ p ∈ x.2, p.block < W.heap.size) : ∃ o : AccD, o.ok ∧ cs = [.int .i64 o.n, .int .i64 o.hi, .int .u64 o.lo, .int .i64 o.min, .int .i64 o.max] := by
  obtain ⟨ys, n', _, rfl, hlen, hyl, hfd⟩ := DataW.trod_struct Tryz.underlying43 hf
  rw [cells_acc] at hlen
  obtain ⟨c0, c1, c2, c3, c4, rfl⟩ := arr_acc hlen
  have f0 : DataW.trod enc Tryz.prog W 0 (fun _ => true) true n' 2 (([c0, c1, c2, c3, c4].drop 0).take (Tryz.prog.cellsOf 2)) = ys[0]? := hfd 0 _ rfl
  have f1 : DataW.trod enc Tryz.prog W 0 (fun _ => true) true n' 2 (([c0, c1, c2, c3, c4].drop 1).take (Tryz.prog.cellsOf 2)) = ys[1]? := hfd 1 _ rfl
  have f2 : DataW.trod enc Tryz.prog W 0 (fun _ => true) true n' 41 (([c0, c1, c2, c3, c4].drop 2).take (Tryz.prog.cellsOf 41)) = ys[2]? := hfd 2 _ rfl
  have f3 : DataW.trod enc Tryz.prog W 0 (fun _ => true) true n' 2 (([c0, c1, c2, c3, c4].drop 3).take (Tryz.prog.cellsOf 2)) = ys[3]? := hfd 3 _ rfl
  have f4 : DataW.trod enc Tryz.prog W 0 (fun _ => true) true n' 2 (([c0, c1, c2, c3, c4].drop 4).take (Tryz.prog.cellsOf 2)) = ys[4]? := hfd 4 _ rfl
  rw [one_2] at f0
  rw [one_2] at f1
  rw [one_41] at f2
  rw [one_2] at f3
  rw [one_2] at f4
  simp only [List.drop_zero, List.take_succ_cons, List.take_zero, List.drop_succ_cons] at f0 f1 f2 f3 f4
  have l0 : 0 < ys.length := by rw [hyl]; decide
  have g0 : ys[0]? = some (ys[0]'l0) := List.getElem?_eq_getElem _
  have l1 : 1 < ys.length := by rw [hyl]; decide
  have g1 : ys[1]? = some (ys[1]'l1) := List.getElem?_eq_getElem _
  have l2 : 2 < ys.length := by rw [hyl]; decide
  have g2 : ys[2]? = some (ys[2]'l2) := List.getElem?_eq_getElem _
  have l3 : 3 < ys.length := by rw [hyl]; decide
  have g3 : ys[3]? = some (ys[3]'l3) := List.getElem?_eq_getElem _
  have l4 : 4 < ys.length := by rw [hyl]; decide
  have g4 : ys[4]? = some (ys[4]'l4) := List.getElem?_eq_getElem _
  obtain ⟨z0, e0, _, w0⟩ := DataW.trod_int Tryz.underlying2 (f0.trans g0)
  obtain ⟨z1, e1, _, w1⟩ := DataW.trod_int Tryz.underlying2 (f1.trans g1)
  obtain ⟨z2, e2, _, w2⟩ := DataW.trod_int Tryz.underlying41 (f2.trans g2)
  obtain ⟨z3, e3, _, w3⟩ := DataW.trod_int Tryz.underlying2 (f3.trans g3)
  obtain ⟨z4, e4, _, w4⟩ := DataW.trod_int Tryz.underlying2 (f4.trans g4)
  simp only [List.cons.injEq, and_true] at e0 e1 e2 e3 e4
  subst e0
  subst e1
  subst e2
  subst e3
  subst e4
  obtain ⟨k2, rfl, b2⟩ := bd_u64 w2
  exact ⟨⟨z0, z1, k2, z3, z4⟩, ⟨w64_of w0, w64_of w1, b2, w64_of w3, w64_of w4⟩, rfl⟩
theorem arr_ent {cs : List Value} (h : cs.length = 10) : ∃ c0 c1 c2 c3 c4 c5 c6 c7 c8 c9, cs = [c0, c1, c2, c3, c4, c5, c6, c7, c8, c9] := by
  match cs, h with
  | [c0, c1, c2, c3, c4, c5, c6, c7, c8, c9], _ => exact ⟨c0, c1, c2, c3, c4, c5, c6, c7, c8, c9, rfl⟩
theorem cells_ent : Tryz.prog.cellsOf 45 = 10 := by kernel_rfl
set_option maxRecDepth 100000 in
theorem fields_ent {H : Type} {enc : TypeId × Value → H} {W : World} {fuel : Nat} {cs : List Value} {x : DataW H × List MemPlace} (hf : DataW.trod enc Tryz.prog W 0 (fun _ => true) true fuel 45 cs = some x) (hlt : ∀ p ∈ x.2, p.block < W.heap.size) : ∃ o : EntD, o.ok ∧ cs = [.int .i64 o.ver, .int .u32 o.key, .int .i64 o.start, .int .i64 o.end_, .int .u8 o.side, .int .i64 o.acc.n, .int .i64 o.acc.hi, .int .u64 o.acc.lo, .int .i64 o.acc.min, .int .i64 o.acc.max] := by
  obtain ⟨ys, n', _, rfl, hlen, hyl, hfd⟩ := DataW.trod_struct Tryz.underlying45 hf
  rw [cells_ent] at hlen
  obtain ⟨c0, c1, c2, c3, c4, c5, c6, c7, c8, c9, rfl⟩ := arr_ent hlen
  have f0 : DataW.trod enc Tryz.prog W 0 (fun _ => true) true n' 3 (([c0, c1, c2, c3, c4, c5, c6, c7, c8, c9].drop 0).take (Tryz.prog.cellsOf 3)) = ys[0]? := hfd 0 _ rfl
  have f1 : DataW.trod enc Tryz.prog W 0 (fun _ => true) true n' 23 (([c0, c1, c2, c3, c4, c5, c6, c7, c8, c9].drop 1).take (Tryz.prog.cellsOf 23)) = ys[1]? := hfd 1 _ rfl
  have f2 : DataW.trod enc Tryz.prog W 0 (fun _ => true) true n' 2 (([c0, c1, c2, c3, c4, c5, c6, c7, c8, c9].drop 2).take (Tryz.prog.cellsOf 2)) = ys[2]? := hfd 2 _ rfl
  have f3 : DataW.trod enc Tryz.prog W 0 (fun _ => true) true n' 2 (([c0, c1, c2, c3, c4, c5, c6, c7, c8, c9].drop 3).take (Tryz.prog.cellsOf 2)) = ys[3]? := hfd 3 _ rfl
  have f4 : DataW.trod enc Tryz.prog W 0 (fun _ => true) true n' 5 (([c0, c1, c2, c3, c4, c5, c6, c7, c8, c9].drop 4).take (Tryz.prog.cellsOf 5)) = ys[4]? := hfd 4 _ rfl
  have f5 : DataW.trod enc Tryz.prog W 0 (fun _ => true) true n' 43 (([c0, c1, c2, c3, c4, c5, c6, c7, c8, c9].drop 5).take (Tryz.prog.cellsOf 43)) = ys[5]? := hfd 5 _ rfl
  rw [one_3] at f0
  rw [one_23] at f1
  rw [one_2] at f2
  rw [one_2] at f3
  rw [one_5] at f4
  rw [cells_acc] at f5
  simp only [List.drop_zero, List.take_succ_cons, List.take_zero, List.drop_succ_cons] at f0 f1 f2 f3 f4 f5
  have l0 : 0 < ys.length := by rw [hyl]; decide
  have g0 : ys[0]? = some (ys[0]'l0) := List.getElem?_eq_getElem _
  have l1 : 1 < ys.length := by rw [hyl]; decide
  have g1 : ys[1]? = some (ys[1]'l1) := List.getElem?_eq_getElem _
  have l2 : 2 < ys.length := by rw [hyl]; decide
  have g2 : ys[2]? = some (ys[2]'l2) := List.getElem?_eq_getElem _
  have l3 : 3 < ys.length := by rw [hyl]; decide
  have g3 : ys[3]? = some (ys[3]'l3) := List.getElem?_eq_getElem _
  have l4 : 4 < ys.length := by rw [hyl]; decide
  have g4 : ys[4]? = some (ys[4]'l4) := List.getElem?_eq_getElem _
  have l5 : 5 < ys.length := by rw [hyl]; decide
  have g5 : ys[5]? = some (ys[5]'l5) := List.getElem?_eq_getElem _
  obtain ⟨z0, e0, _, w0⟩ := DataW.trod_int Tryz.underlying3 (f0.trans g0)
  obtain ⟨z1, e1, _, w1⟩ := DataW.trod_int Tryz.underlying23 (f1.trans g1)
  obtain ⟨z2, e2, _, w2⟩ := DataW.trod_int Tryz.underlying2 (f2.trans g2)
  obtain ⟨z3, e3, _, w3⟩ := DataW.trod_int Tryz.underlying2 (f3.trans g3)
  obtain ⟨z4, e4, _, w4⟩ := DataW.trod_int Tryz.underlying5 (f4.trans g4)
  obtain ⟨z5, w5, e5⟩ := fields_acc (f5.trans g5) (fun p hp => hlt p (List.mem_flatMap.2 ⟨_, List.getElem_mem l5, hp⟩))
  simp only [List.cons.injEq, and_true] at e0 e1 e2 e3 e4 e5
  subst e0
  subst e1
  subst e2
  subst e3
  subst e4
  obtain ⟨rfl, rfl, rfl, rfl, rfl⟩ := e5
  obtain ⟨k1, rfl, b1⟩ := bd_u32 w1
  obtain ⟨k4, rfl, b4⟩ := bd_u8 w4
  exact ⟨⟨z0, k1, z2, z3, k4, z5⟩, ⟨w64_of w0, b1, w64_of w2, w64_of w3, b4, w5⟩, rfl⟩
theorem arr_item {cs : List Value} (h : cs.length = 8) : ∃ c0 c1 c2 c3 c4 c5 c6 c7, cs = [c0, c1, c2, c3, c4, c5, c6, c7] := by
  match cs, h with
  | [c0, c1, c2, c3, c4, c5, c6, c7], _ => exact ⟨c0, c1, c2, c3, c4, c5, c6, c7, rfl⟩
theorem cells_item : Tryz.prog.cellsOf 37 = 8 := by kernel_rfl
set_option maxRecDepth 100000 in
theorem fields_item {H : Type} {enc : TypeId × Value → H} {W : World} {fuel : Nat} {cs : List Value} {x : DataW H × List MemPlace} (hf : DataW.trod enc Tryz.prog W 0 (fun _ => true) true fuel 37 cs = some x) (hlt : ∀ p ∈ x.2, p.block < W.heap.size) : ∃ o : ItemD, o.ok ∧ cs = [.bool o.isMark, .int .i64 o.time, .int .u32 o.rc.key, .int .i64 o.rc.time, .int .i64 o.rc.val, .int .u8 o.rc.side, .bool o.rc.err, .bool o.rc.late] := by
  obtain ⟨ys, n', _, rfl, hlen, hyl, hfd⟩ := DataW.trod_struct Tryz.underlying37 hf
  rw [cells_item] at hlen
  obtain ⟨c0, c1, c2, c3, c4, c5, c6, c7, rfl⟩ := arr_item hlen
  have f0 : DataW.trod enc Tryz.prog W 0 (fun _ => true) true n' 4 (([c0, c1, c2, c3, c4, c5, c6, c7].drop 0).take (Tryz.prog.cellsOf 4)) = ys[0]? := hfd 0 _ rfl
  have f1 : DataW.trod enc Tryz.prog W 0 (fun _ => true) true n' 2 (([c0, c1, c2, c3, c4, c5, c6, c7].drop 1).take (Tryz.prog.cellsOf 2)) = ys[1]? := hfd 1 _ rfl
  have f2 : DataW.trod enc Tryz.prog W 0 (fun _ => true) true n' 25 (([c0, c1, c2, c3, c4, c5, c6, c7].drop 2).take (Tryz.prog.cellsOf 25)) = ys[2]? := hfd 2 _ rfl
  rw [one_4] at f0
  rw [one_2] at f1
  rw [cells_rec] at f2
  simp only [List.drop_zero, List.take_succ_cons, List.take_zero, List.drop_succ_cons] at f0 f1 f2
  have l0 : 0 < ys.length := by rw [hyl]; decide
  have g0 : ys[0]? = some (ys[0]'l0) := List.getElem?_eq_getElem _
  have l1 : 1 < ys.length := by rw [hyl]; decide
  have g1 : ys[1]? = some (ys[1]'l1) := List.getElem?_eq_getElem _
  have l2 : 2 < ys.length := by rw [hyl]; decide
  have g2 : ys[2]? = some (ys[2]'l2) := List.getElem?_eq_getElem _
  obtain ⟨z0, e0, _⟩ := DataW.trod_bool Tryz.underlying4 (f0.trans g0)
  obtain ⟨z1, e1, _, w1⟩ := DataW.trod_int Tryz.underlying2 (f1.trans g1)
  obtain ⟨z2, w2, e2⟩ := fields_rec (f2.trans g2) (fun p hp => hlt p (List.mem_flatMap.2 ⟨_, List.getElem_mem l2, hp⟩))
  simp only [List.cons.injEq, and_true] at e0 e1 e2
  subst e0
  subst e1
  obtain ⟨rfl, rfl, rfl, rfl, rfl, rfl⟩ := e2
  exact ⟨⟨z0, z1, z2⟩, ⟨w64_of w1, w2⟩, rfl⟩
theorem open_ints {H : Type} {enc : TypeId × Value → H} {W : World} {fuel : Nat} {cs : List Value} {x : DataW H × List MemPlace} (hf : DataW.trod enc Tryz.prog W 0 (fun _ => true) true fuel 26 cs = some x) (hlt : ∀ p ∈ x.2, p.block < W.heap.size) :
    ∃ (A : Option Addr) (c : Nat) (l : List Int), cs = [.slice A l.length c] ∧ l.length ≤ c ∧ c ≤ maxLen ∧ IntsAt W W.heap.size A l ∧ ∀ z ∈ l, w64 z := by
  rcases Go.ChangeShapes.open_ints Tryz.underlying26 Tryz.underlying3 one_3 hf with ⟨rfl, rfl⟩ | ⟨a, len, cap, zs, rfl, _, hl, hm, hz, rfl, hcell, hwz⟩
  · exact ⟨none, 0, [], rfl, Nat.le_refl _, by simp [maxLen], .inl rfl, by simp⟩
  · simp only [if_true] at hz
    have hlen : (zs.take len).length = len := by rw [List.length_take]; omega
    refine ⟨some a, cap, zs.take len, by rw [hlen], by omega, hm, ?_, fun z hz => w64_of (hwz z (List.mem_of_mem_take hz))⟩
    by_cases h0 : len = 0
    · exact .inl (by subst h0; simp)
    · refine .inr ⟨a, rfl, ?_, fun j z hj => ?_⟩
      · obtain ⟨b, off, spot⟩ := a
        exact hlt (.cell b off) (MemPlace.mem_row.2 ⟨0, by omega, by simp⟩)
      · have hjl : j < len := by have := (List.getElem?_eq_some_iff.1 hj).1; omega
        rw [List.getElem?_take, if_pos hjl] at hj
        rw [hcell j (by omega)]
        simp [List.getD, hj]
theorem open_ents {H : Type} {enc : TypeId × Value → H} {W : World} {fuel : Nat} {cs : List Value} {x : DataW H × List MemPlace} (hf : DataW.trod enc Tryz.prog W 0 (fun _ => true) true fuel 31 cs = some x) (hlt : ∀ p ∈ x.2, p.block < W.heap.size) :
    ∃ (A : Option Addr) (c : Nat) (l : List EntD), cs = [.slice A l.length c] ∧ l.length ≤ c ∧ c ≤ maxLen ∧ EntsAt W W.heap.size A l ∧ ∀ z ∈ l, z.ok := by
  rcases Go.Deep.open_slice Tryz.underlying31 hf with ⟨rfl, rfl⟩ | ⟨a, len, cap, m, n, D, Pl, rfl, _, hl, hm, hmm, rfl, hi⟩
  · exact ⟨none, 0, [], rfl, Nat.le_refl _, by simp [maxLen], .inl rfl, by simp⟩
  · simp only [if_true] at hmm
    subst hmm
    have hall : ∀ i, i < len → ∃ z : EntD, z.ok ∧ EntAt W (a.add (i * 10)) z := by
      intro i hil
      obtain ⟨cs, hc, ht⟩ := hi i (by omega)
      rw [cells_ent] at hc
      obtain ⟨_, hcl, hat⟩ := World.cells?_some hc
      obtain ⟨z, hz, rfl⟩ := fields_ent ht (fun p hp => hlt p (List.mem_append_right _ (List.mem_flatMap.2 ⟨i, List.mem_range.2 (by omega), hp⟩)))
      refine ⟨z, hz, ?_⟩
      have q0 := hat (i := 0) (by simp)
      have q1 := hat (i := 1) (by simp)
      have q2 := hat (i := 2) (by simp)
      have q3 := hat (i := 3) (by simp)
      have q4 := hat (i := 4) (by simp)
      have q5 := hat (i := 5) (by simp)
      have q6 := hat (i := 6) (by simp)
      have q7 := hat (i := 7) (by simp)
      have q8 := hat (i := 8) (by simp)
      have q9 := hat (i := 9) (by simp)
      exact ⟨q0, q1, q2, q3, q4, ⟨q5, q6, q7, q8, q9⟩⟩
    obtain ⟨l, hll, hp⟩ := list_of len hall
    subst hll
    refine ⟨some a, _, l, rfl, hl, hm, ?_, fun x hx => ?_⟩
    · by_cases h0 : l = []
      · exact .inl h0
      · refine .inr ⟨a, rfl, ?_, fun j x hx => (hp j x hx).2⟩
        obtain ⟨b, off, spot⟩ := a
        have hpos : 0 < l.length := List.length_pos_iff.2 h0
        refine hlt (.cell b off) (List.mem_append_left _ (MemPlace.mem_row.2 ⟨0, ?_, by simp⟩))
        rw [cells_ent]
        omega
    · obtain ⟨j, hj, rfl⟩ := List.getElem_of_mem hx
      exact (hp j _ (List.getElem?_eq_getElem hj)).1
theorem arr_cmd {cs : List Value} (h : cs.length = 10) : ∃ c0 c1 c2 c3 c4 c5 c6 c7 c8 c9, cs = [c0, c1, c2, c3, c4, c5, c6, c7, c8, c9] := by
  match cs, h with
  | [c0, c1, c2, c3, c4, c5, c6, c7, c8, c9], _ => exact ⟨c0, c1, c2, c3, c4, c5, c6, c7, c8, c9, rfl⟩
theorem cells_cmd : Tryz.prog.cellsOf 30 = 10 := by kernel_rfl
set_option maxRecDepth 100000 in
theorem fields_cmd {H : Type} {enc : TypeId × Value → H} {W : World} {fuel : Nat} {cs : List Value} {x : DataW H × List MemPlace} (hf : DataW.trod enc Tryz.prog W 0 (fun _ => true) true fuel 30 cs = some x) (hlt : ∀ p ∈ x.2, p.block < W.heap.size) : ∃ (o : CmdD) (A : Option Addr) (c : Nat), (∀ k, k ≤ 1000000000000 → CmdD.ok { o with bins := o.bins.take k }) ∧ cs = [.int .i64 o.kind, .int .i64 o.at_, .slice A o.bins.length c, .int .i64 o.dst, .int .i64 o.node, .int .i64 o.op.kind, .int .i64 o.op.a, .int .i64 o.op.b, .int .i64 o.op.agg, .int .i64 o.mode] ∧ o.bins.length ≤ c ∧ c ≤ maxLen ∧ IntsAt W W.heap.size A o.bins := by
  obtain ⟨ys, n', _, rfl, hlen, hyl, hfd⟩ := DataW.trod_struct Tryz.underlying30 hf
  rw [cells_cmd] at hlen
  obtain ⟨c0, c1, c2, c3, c4, c5, c6, c7, c8, c9, rfl⟩ := arr_cmd hlen
  have f0 : DataW.trod enc Tryz.prog W 0 (fun _ => true) true n' 3 (([c0, c1, c2, c3, c4, c5, c6, c7, c8, c9].drop 0).take (Tryz.prog.cellsOf 3)) = ys[0]? := hfd 0 _ rfl
  have f1 : DataW.trod enc Tryz.prog W 0 (fun _ => true) true n' 2 (([c0, c1, c2, c3, c4, c5, c6, c7, c8, c9].drop 1).take (Tryz.prog.cellsOf 2)) = ys[1]? := hfd 1 _ rfl
  have f2 : DataW.trod enc Tryz.prog W 0 (fun _ => true) true n' 26 (([c0, c1, c2, c3, c4, c5, c6, c7, c8, c9].drop 2).take (Tryz.prog.cellsOf 26)) = ys[2]? := hfd 2 _ rfl
  have f3 : DataW.trod enc Tryz.prog W 0 (fun _ => true) true n' 3 (([c0, c1, c2, c3, c4, c5, c6, c7, c8, c9].drop 3).take (Tryz.prog.cellsOf 3)) = ys[3]? := hfd 3 _ rfl
  have f4 : DataW.trod enc Tryz.prog W 0 (fun _ => true) true n' 3 (([c0, c1, c2, c3, c4, c5, c6, c7, c8, c9].drop 4).take (Tryz.prog.cellsOf 3)) = ys[4]? := hfd 4 _ rfl
  have f5 : DataW.trod enc Tryz.prog W 0 (fun _ => true) true n' 28 (([c0, c1, c2, c3, c4, c5, c6, c7, c8, c9].drop 5).take (Tryz.prog.cellsOf 28)) = ys[5]? := hfd 5 _ rfl
  have f6 : DataW.trod enc Tryz.prog W 0 (fun _ => true) true n' 3 (([c0, c1, c2, c3, c4, c5, c6, c7, c8, c9].drop 9).take (Tryz.prog.cellsOf 3)) = ys[6]? := hfd 6 _ rfl
  rw [one_3] at f0
  rw [one_2] at f1
  rw [one_26] at f2
  rw [one_3] at f3
  rw [one_3] at f4
  rw [cells_opn] at f5
  rw [one_3] at f6
  simp only [List.drop_zero, List.take_succ_cons, List.take_zero, List.drop_succ_cons] at f0 f1 f2 f3 f4 f5 f6
  have l0 : 0 < ys.length := by rw [hyl]; decide
  have g0 : ys[0]? = some (ys[0]'l0) := List.getElem?_eq_getElem _
  have l1 : 1 < ys.length := by rw [hyl]; decide
  have g1 : ys[1]? = some (ys[1]'l1) := List.getElem?_eq_getElem _
  have l2 : 2 < ys.length := by rw [hyl]; decide
  have g2 : ys[2]? = some (ys[2]'l2) := List.getElem?_eq_getElem _
  have l3 : 3 < ys.length := by rw [hyl]; decide
  have g3 : ys[3]? = some (ys[3]'l3) := List.getElem?_eq_getElem _
  have l4 : 4 < ys.length := by rw [hyl]; decide
  have g4 : ys[4]? = some (ys[4]'l4) := List.getElem?_eq_getElem _
  have l5 : 5 < ys.length := by rw [hyl]; decide
  have g5 : ys[5]? = some (ys[5]'l5) := List.getElem?_eq_getElem _
  have l6 : 6 < ys.length := by rw [hyl]; decide
  have g6 : ys[6]? = some (ys[6]'l6) := List.getElem?_eq_getElem _
  obtain ⟨z0, e0, _, w0⟩ := DataW.trod_int Tryz.underlying3 (f0.trans g0)
  obtain ⟨z1, e1, _, w1⟩ := DataW.trod_int Tryz.underlying2 (f1.trans g1)
  obtain ⟨A2, k2, z2, e2, b2, m2, a2, w2⟩ := open_ints (f2.trans g2) (fun p hp => hlt p (List.mem_flatMap.2 ⟨_, List.getElem_mem l2, hp⟩))
  obtain ⟨z3, e3, _, w3⟩ := DataW.trod_int Tryz.underlying3 (f3.trans g3)
  obtain ⟨z4, e4, _, w4⟩ := DataW.trod_int Tryz.underlying3 (f4.trans g4)
  obtain ⟨z5, w5, e5⟩ := fields_opn (f5.trans g5) (fun p hp => hlt p (List.mem_flatMap.2 ⟨_, List.getElem_mem l5, hp⟩))
  obtain ⟨z6, e6, _, w6⟩ := DataW.trod_int Tryz.underlying3 (f6.trans g6)
  simp only [List.cons.injEq, and_true] at e0 e1 e2 e3 e4 e5 e6
  subst e0
  subst e1
  subst e2
  subst e3
  subst e4
  obtain ⟨rfl, rfl, rfl, rfl⟩ := e5
  subst e6
  exact ⟨⟨z0, z1, z2, z3, z4, z5, z6⟩, A2, k2, fun k hk => ⟨w64_of w0, w64_of w1, fun z hz => w2 z (List.mem_of_mem_take hz), Nat.le_trans (List.length_take_le _ _) hk, w64_of w3, w64_of w4, w5, w64_of w6⟩, rfl, b2, m2, a2⟩
theorem arr_chk {cs : List Value} (h : cs.length = 4) : ∃ c0 c1 c2 c3, cs = [c0, c1, c2, c3] := by
  match cs, h with
  | [c0, c1, c2, c3], _ => exact ⟨c0, c1, c2, c3, rfl⟩
theorem cells_chk : Tryz.prog.cellsOf 33 = 4 := by kernel_rfl
set_option maxRecDepth 100000 in
theorem fields_chk {H : Type} {enc : TypeId × Value → H} {W : World} {fuel : Nat} {cs : List Value} {x : DataW H × List MemPlace} (hf : DataW.trod enc Tryz.prog W 0 (fun _ => true) true fuel 33 cs = some x) (hlt : ∀ p ∈ x.2, p.block < W.heap.size) : ∃ (o : ChkD) (A : Option Addr) (c : Nat), (∀ k, k ≤ 1000000000000 → ChkD.ok { o with entries := o.entries.take k }) ∧ cs = [.int .i64 o.bin, .int .i64 o.span, .bool o.last, .slice A o.entries.length c] ∧ o.entries.length ≤ c ∧ c ≤ maxLen ∧ EntsAt W W.heap.size A o.entries := by
  obtain ⟨ys, n', _, rfl, hlen, hyl, hfd⟩ := DataW.trod_struct Tryz.underlying33 hf
  rw [cells_chk] at hlen
  obtain ⟨c0, c1, c2, c3, rfl⟩ := arr_chk hlen
  have f0 : DataW.trod enc Tryz.prog W 0 (fun _ => true) true n' 3 (([c0, c1, c2, c3].drop 0).take (Tryz.prog.cellsOf 3)) = ys[0]? := hfd 0 _ rfl
  have f1 : DataW.trod enc Tryz.prog W 0 (fun _ => true) true n' 3 (([c0, c1, c2, c3].drop 1).take (Tryz.prog.cellsOf 3)) = ys[1]? := hfd 1 _ rfl
  have f2 : DataW.trod enc Tryz.prog W 0 (fun _ => true) true n' 4 (([c0, c1, c2, c3].drop 2).take (Tryz.prog.cellsOf 4)) = ys[2]? := hfd 2 _ rfl
  have f3 : DataW.trod enc Tryz.prog W 0 (fun _ => true) true n' 31 (([c0, c1, c2, c3].drop 3).take (Tryz.prog.cellsOf 31)) = ys[3]? := hfd 3 _ rfl
  rw [one_3] at f0
  rw [one_3] at f1
  rw [one_4] at f2
  rw [one_31] at f3
  simp only [List.drop_zero, List.take_succ_cons, List.take_zero, List.drop_succ_cons] at f0 f1 f2 f3
  have l0 : 0 < ys.length := by rw [hyl]; decide
  have g0 : ys[0]? = some (ys[0]'l0) := List.getElem?_eq_getElem _
  have l1 : 1 < ys.length := by rw [hyl]; decide
  have g1 : ys[1]? = some (ys[1]'l1) := List.getElem?_eq_getElem _
  have l2 : 2 < ys.length := by rw [hyl]; decide
  have g2 : ys[2]? = some (ys[2]'l2) := List.getElem?_eq_getElem _
  have l3 : 3 < ys.length := by rw [hyl]; decide
  have g3 : ys[3]? = some (ys[3]'l3) := List.getElem?_eq_getElem _
  obtain ⟨z0, e0, _, w0⟩ := DataW.trod_int Tryz.underlying3 (f0.trans g0)
  obtain ⟨z1, e1, _, w1⟩ := DataW.trod_int Tryz.underlying3 (f1.trans g1)
  obtain ⟨z2, e2, _⟩ := DataW.trod_bool Tryz.underlying4 (f2.trans g2)
  obtain ⟨A3, k3, z3, e3, b3, m3, a3, w3⟩ := open_ents (f3.trans g3) (fun p hp => hlt p (List.mem_flatMap.2 ⟨_, List.getElem_mem l3, hp⟩))
  simp only [List.cons.injEq, and_true] at e0 e1 e2 e3
  subst e0
  subst e1
  subst e2
  subst e3
  exact ⟨⟨z0, z1, z2, z3⟩, A3, k3, fun k hk => ⟨w64_of w0, w64_of w1, fun z hz => w3 z (List.mem_of_mem_take hz), Nat.le_trans (List.length_take_le _ _) hk⟩, rfl, b3, m3, a3⟩
theorem arr_msg {cs : List Value} (h : cs.length = 24) : ∃ c0 c1 c2 c3 c4 c5 c6 c7 c8 c9 c10 c11 c12 c13 c14 c15 c16 c17 c18 c19 c20 c21 c22 c23, cs = [c0, c1, c2, c3, c4, c5, c6, c7, c8, c9, c10, c11, c12, c13, c14, c15, c16, c17, c18, c19, c20, c21, c22, c23] := by
  match cs, h with
  | [c0, c1, c2, c3, c4, c5, c6, c7, c8, c9, c10, c11, c12, c13, c14, c15, c16, c17, c18, c19, c20, c21, c22, c23], _ => exact ⟨c0, c1, c2, c3, c4, c5, c6, c7, c8, c9, c10, c11, c12, c13, c14, c15, c16, c17, c18, c19, c20, c21, c22, c23, rfl⟩
theorem cells_msg : Tryz.prog.cellsOf 35 = 24 := by kernel_rfl
set_option maxRecDepth 100000 in
theorem fields_msg {H : Type} {enc : TypeId × Value → H} {W : World} {fuel : Nat} {cs : List Value} {x : DataW H × List MemPlace} (hf : DataW.trod enc Tryz.prog W 0 (fun _ => true) true fuel 35 cs = some x) (hlt : ∀ p ∈ x.2, p.block < W.heap.size) : ∃ (o : MsgD) (Ab : Option Addr) (cb : Nat) (Ae : Option Addr) (ce : Nat), (∀ k l, k ≤ 1000000000000 → l ≤ 1000000000000 → MsgD.ok { o with cmd := { o.cmd with bins := o.cmd.bins.take k }, chunk := { o.chunk with entries := o.chunk.entries.take l } }) ∧ cs = [.int .i64 o.kind, .int .i64 o.ver, .int .u32 o.rc.key, .int .i64 o.rc.time, .int .i64 o.rc.val, .int .u8 o.rc.side, .bool o.rc.err, .bool o.rc.late, .int .i64 o.time, .int .i64 o.num, .int .i64 o.cmd.kind, .int .i64 o.cmd.at_, .slice Ab o.cmd.bins.length cb, .int .i64 o.cmd.dst, .int .i64 o.cmd.node, .int .i64 o.cmd.op.kind, .int .i64 o.cmd.op.a, .int .i64 o.cmd.op.b, .int .i64 o.cmd.op.agg, .int .i64 o.cmd.mode, .int .i64 o.chunk.bin, .int .i64 o.chunk.span, .bool o.chunk.last, .slice Ae o.chunk.entries.length ce] ∧ o.cmd.bins.length ≤ cb ∧ cb ≤ maxLen ∧ IntsAt W W.heap.size Ab o.cmd.bins ∧ o.chunk.entries.length ≤ ce ∧ ce ≤ maxLen ∧ EntsAt W W.heap.size Ae o.chunk.entries := by
  obtain ⟨ys, n', _, rfl, hlen, hyl, hfd⟩ := DataW.trod_struct Tryz.underlying35 hf
  rw [cells_msg] at hlen
  obtain ⟨c0, c1, c2, c3, c4, c5, c6, c7, c8, c9, c10, c11, c12, c13, c14, c15, c16, c17, c18, c19, c20, c21, c22, c23, rfl⟩ := arr_msg hlen
  have f0 : DataW.trod enc Tryz.prog W 0 (fun _ => true) true n' 3 (([c0, c1, c2, c3, c4, c5, c6, c7, c8, c9, c10, c11, c12, c13, c14, c15, c16, c17, c18, c19, c20, c21, c22, c23].drop 0).take (Tryz.prog.cellsOf 3)) = ys[0]? := hfd 0 _ rfl
  have f1 : DataW.trod enc Tryz.prog W 0 (fun _ => true) true n' 3 (([c0, c1, c2, c3, c4, c5, c6, c7, c8, c9, c10, c11, c12, c13, c14, c15, c16, c17, c18, c19, c20, c21, c22, c23].drop 1).take (Tryz.prog.cellsOf 3)) = ys[1]? := hfd 1 _ rfl
  have f2 : DataW.trod enc Tryz.prog W 0 (fun _ => true) true n' 25 (([c0, c1, c2, c3, c4, c5, c6, c7, c8, c9, c10, c11, c12, c13, c14, c15, c16, c17, c18, c19, c20, c21, c22, c23].drop 2).take (Tryz.prog.cellsOf 25)) = ys[2]? := hfd 2 _ rfl
  have f3 : DataW.trod enc Tryz.prog W 0 (fun _ => true) true n' 2 (([c0, c1, c2, c3, c4, c5, c6, c7, c8, c9, c10, c11, c12, c13, c14, c15, c16, c17, c18, c19, c20, c21, c22, c23].drop 8).take (Tryz.prog.cellsOf 2)) = ys[3]? := hfd 3 _ rfl
  have f4 : DataW.trod enc Tryz.prog W 0 (fun _ => true) true n' 3 (([c0, c1, c2, c3, c4, c5, c6, c7, c8, c9, c10, c11, c12, c13, c14, c15, c16, c17, c18, c19, c20, c21, c22, c23].drop 9).take (Tryz.prog.cellsOf 3)) = ys[4]? := hfd 4 _ rfl
  have f5 : DataW.trod enc Tryz.prog W 0 (fun _ => true) true n' 30 (([c0, c1, c2, c3, c4, c5, c6, c7, c8, c9, c10, c11, c12, c13, c14, c15, c16, c17, c18, c19, c20, c21, c22, c23].drop 10).take (Tryz.prog.cellsOf 30)) = ys[5]? := hfd 5 _ rfl
  have f6 : DataW.trod enc Tryz.prog W 0 (fun _ => true) true n' 33 (([c0, c1, c2, c3, c4, c5, c6, c7, c8, c9, c10, c11, c12, c13, c14, c15, c16, c17, c18, c19, c20, c21, c22, c23].drop 20).take (Tryz.prog.cellsOf 33)) = ys[6]? := hfd 6 _ rfl
  rw [one_3] at f0
  rw [one_3] at f1
  rw [cells_rec] at f2
  rw [one_2] at f3
  rw [one_3] at f4
  rw [cells_cmd] at f5
  rw [cells_chk] at f6
  simp only [List.drop_zero, List.take_succ_cons, List.take_zero, List.drop_succ_cons] at f0 f1 f2 f3 f4 f5 f6
  have l0 : 0 < ys.length := by rw [hyl]; decide
  have g0 : ys[0]? = some (ys[0]'l0) := List.getElem?_eq_getElem _
  have l1 : 1 < ys.length := by rw [hyl]; decide
  have g1 : ys[1]? = some (ys[1]'l1) := List.getElem?_eq_getElem _
  have l2 : 2 < ys.length := by rw [hyl]; decide
  have g2 : ys[2]? = some (ys[2]'l2) := List.getElem?_eq_getElem _
  have l3 : 3 < ys.length := by rw [hyl]; decide
  have g3 : ys[3]? = some (ys[3]'l3) := List.getElem?_eq_getElem _
  have l4 : 4 < ys.length := by rw [hyl]; decide
  have g4 : ys[4]? = some (ys[4]'l4) := List.getElem?_eq_getElem _
  have l5 : 5 < ys.length := by rw [hyl]; decide
  have g5 : ys[5]? = some (ys[5]'l5) := List.getElem?_eq_getElem _
  have l6 : 6 < ys.length := by rw [hyl]; decide
  have g6 : ys[6]? = some (ys[6]'l6) := List.getElem?_eq_getElem _
  obtain ⟨z0, e0, _, w0⟩ := DataW.trod_int Tryz.underlying3 (f0.trans g0)
  obtain ⟨z1, e1, _, w1⟩ := DataW.trod_int Tryz.underlying3 (f1.trans g1)
  obtain ⟨z2, w2, e2⟩ := fields_rec (f2.trans g2) (fun p hp => hlt p (List.mem_flatMap.2 ⟨_, List.getElem_mem l2, hp⟩))
  obtain ⟨z3, e3, _, w3⟩ := DataW.trod_int Tryz.underlying2 (f3.trans g3)
  obtain ⟨z4, e4, _, w4⟩ := DataW.trod_int Tryz.underlying3 (f4.trans g4)
  obtain ⟨z5, A5, k5, w5, e5, b5, m5, a5⟩ := fields_cmd (f5.trans g5) (fun p hp => hlt p (List.mem_flatMap.2 ⟨_, List.getElem_mem l5, hp⟩))
  obtain ⟨z6, A6, k6, w6, e6, b6, m6, a6⟩ := fields_chk (f6.trans g6) (fun p hp => hlt p (List.mem_flatMap.2 ⟨_, List.getElem_mem l6, hp⟩))
  simp only [List.cons.injEq, and_true] at e0 e1 e2 e3 e4 e5 e6
  subst e0
  subst e1
  obtain ⟨rfl, rfl, rfl, rfl, rfl, rfl⟩ := e2
  subst e3
  subst e4
  obtain ⟨rfl, rfl, rfl, rfl, rfl, rfl, rfl, rfl, rfl, rfl⟩ := e5
  obtain ⟨rfl, rfl, rfl, rfl⟩ := e6
  exact ⟨⟨z0, z1, z2, z3, z4, z5, z6⟩, A5, k5, A6, k6, fun k l hk hl => ⟨w64_of w0, w64_of w1, w2, w64_of w3, w64_of w4, w5 k hk, w6 l hl⟩, rfl, b5, m5, a5, b6, m6, a6⟩
set_option maxRecDepth 100000 in
theorem open_msg {H : Type} {enc : TypeId × Value → H} {W : World} {v : Value} {d : DataW H} {ps : List MemPlace} {base : Nat} (hv : Value.okWide Tryz.prog W .any base 35 v) (h : DataW.Trod enc Tryz.prog W 0 (fun _ => true) true 35 v d ps) (hlt : ∀ x ∈ ps, x.block < W.heap.size) : ∃ (o : MsgD) (Ab : Option Addr) (cb : Nat) (Ae : Option Addr) (ce : Nat), (∀ k l, k ≤ 1000000000000 → l ≤ 1000000000000 → MsgD.ok { o with cmd := { o.cmd with bins := o.cmd.bins.take k }, chunk := { o.chunk with entries := o.chunk.entries.take l } }) ∧ v = .agg #[.int .i64 o.kind, .int .i64 o.ver, .int .u32 o.rc.key, .int .i64 o.rc.time, .int .i64 o.rc.val, .int .u8 o.rc.side, .bool o.rc.err, .bool o.rc.late, .int .i64 o.time, .int .i64 o.num, .int .i64 o.cmd.kind, .int .i64 o.cmd.at_, .slice Ab o.cmd.bins.length cb, .int .i64 o.cmd.dst, .int .i64 o.cmd.node, .int .i64 o.cmd.op.kind, .int .i64 o.cmd.op.a, .int .i64 o.cmd.op.b, .int .i64 o.cmd.op.agg, .int .i64 o.cmd.mode, .int .i64 o.chunk.bin, .int .i64 o.chunk.span, .bool o.chunk.last, .slice Ae o.chunk.entries.length ce] ∧ o.cmd.bins.length ≤ cb ∧ cb ≤ maxLen ∧ IntsAt W W.heap.size Ab o.cmd.bins ∧ o.chunk.entries.length ≤ ce ∧ ce ≤ maxLen ∧ EntsAt W W.heap.size Ae o.chunk.entries := by
  obtain ⟨cs, rfl, hsz⟩ := okWide_struct Tryz.underlying35 hv
  obtain ⟨fuel, hf⟩ := h
  obtain ⟨o, Ab, cb, Ae, ce, hk, ho, hr⟩ := fields_msg hf hlt
  refine ⟨o, Ab, cb, Ae, ce, hk, ?_, hr⟩
  simp only [Value.cells] at ho
  congr 1
  exact Array.toList_inj.1 ho
set_option maxRecDepth 100000 in
theorem open_item {H : Type} {enc : TypeId × Value → H} {W : World} {v : Value} {d : DataW H} {ps : List MemPlace} {base : Nat} (hv : Value.okWide Tryz.prog W .any base 37 v) (h : DataW.Trod enc Tryz.prog W 0 (fun _ => true) true 37 v d ps) (hlt : ∀ x ∈ ps, x.block < W.heap.size) : ∃ o : ItemD, o.ok ∧ v = .agg #[.bool o.isMark, .int .i64 o.time, .int .u32 o.rc.key, .int .i64 o.rc.time, .int .i64 o.rc.val, .int .u8 o.rc.side, .bool o.rc.err, .bool o.rc.late] := by
  obtain ⟨cs, rfl, hsz⟩ := okWide_struct Tryz.underlying37 hv
  obtain ⟨fuel, hf⟩ := h
  obtain ⟨o, hk, ho⟩ := fields_item hf hlt
  refine ⟨o, hk, ?_⟩
  simp only [Value.cells] at ho
  congr 1
  exact Array.toList_inj.1 ho
set_option maxRecDepth 100000 in
theorem open_bytes {H : Type} {enc : TypeId × Value → H} {W : World} {v : Value} {d : DataW H} {ps : List MemPlace} {base : Nat} (hv : Value.okWide Tryz.prog W .any base 22 v) (h : DataW.Trod enc Tryz.prog W 0 (fun _ => true) true 22 v d ps) (hlt : ∀ x ∈ ps, x.block < W.heap.size) :
    ∃ (A : Option Addr) (cap : Nat) (Z : List Nat), v = .slice A Z.length cap ∧ Z.length ≤ cap ∧ cap ≤ maxLen ∧ (∀ b ∈ Z, b < 256) ∧ ∀ k, Rd W W.heap.size A (Z.take k).length cap (u8s (Z.take k)) := by
  obtain ⟨a0, len, cap, rfl⟩ := okWide_slice Tryz.underlying22 hv
  obtain ⟨fuel, hf⟩ := h
  rcases Go.ChangeShapes.open_ints Tryz.underlying22 Tryz.underlying5 one_5 hf with ⟨hcs, _⟩ | ⟨a, len', cap', zs, hcs, _, hl, hm, hz, hx, hcell, hwz⟩
  · simp [Value.cells] at hcs
    obtain ⟨rfl, rfl, rfl⟩ := hcs
    exact ⟨none, 0, [], rfl, Nat.le_refl _, by simp [maxLen], by simp, fun k => ⟨by simp [u8s], fun _ => ⟨by simp, rfl⟩, fun _ e => (nomatch e)⟩⟩
  · simp [Value.cells] at hcs
    obtain ⟨rfl, rfl, rfl⟩ := hcs
    simp only [Prod.mk.injEq] at hx
    obtain ⟨rfl, rfl⟩ := hx
    simp only [if_true] at hz
    have hlen : ((zs.take len).map Int.toNat).length = len := by rw [List.length_map, List.length_take]; omega
    refine ⟨some a, cap, (zs.take len).map Int.toNat, by rw [hlen], by omega, hm, ?_, fun k => ⟨by simp [u8s], fun e => (nomatch e), fun ad e => ?_⟩⟩
    · intro x hx
      obtain ⟨z, hz, rfl⟩ := List.mem_map.1 hx
      obtain ⟨q, rfl, hq⟩ := bd_u8 (hwz z (List.mem_of_mem_take hz))
      simpa using hq
    · cases e
      refine ⟨fun h0 => ?_, fun j u hu => ?_⟩
      · have h1 : 0 < len := by rw [List.length_take, hlen] at h0; omega
        obtain ⟨b, off, spot⟩ := a
        exact hlt (.cell b off) (MemPlace.mem_row.2 ⟨0, by omega, by simp⟩)
      · unfold u8s at hu
        rw [List.getElem?_map, List.getElem?_take, List.getElem?_map, List.getElem?_take] at hu
        have hj : j < len := by
          split at hu
          · split at hu
            · assumption
            · simp at hu
          · simp at hu
        have hjz : j < zs.length := by omega
        rw [hcell j hjz]
        split at hu
        · try rw [if_pos hj] at hu
          rw [List.getElem?_eq_getElem hjz] at hu
          obtain ⟨q, hq, _⟩ := bd_u8 (hwz zs[j] (List.getElem_mem _))
          simp only [Option.map_some, Option.some.injEq] at hu
          subst hu
          simp [List.getD, List.getElem?_eq_getElem hjz, hq]
        · simp at hu
end Go.Proofs.YtpfeaekankkpiaaGreatDoor
