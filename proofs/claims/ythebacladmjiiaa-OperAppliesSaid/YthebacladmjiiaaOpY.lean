/-
  A record that came in, with its numbers' bounds.
-/
import Derived.Test.YthebacladmjiiaaOpU
import Derived.Test.YthebacladmjiiaaOpX
namespace Go.Proofs.Ythebacladmjiiaa
open Go Go.ChangeShapes Go.WideShapes Go.ChangeAt Go.RowKit
theorem arr_rcb {cs : List Value} (h : cs.length = 6) : ∃ c0 c1 c2 c3 c4 c5, cs = [c0, c1, c2, c3, c4, c5] := by
  match cs, h with
  | [c0, c1, c2, c3, c4, c5], _ => exact ⟨c0, c1, c2, c3, c4, c5, rfl⟩
theorem cells_rcb : Try.prog.cellsOf 36 = 6 := by kernel_rfl
set_option maxRecDepth 100000 in
theorem fields_rcb {H : Type} {enc : TypeId × Value → H} {W : World} {fuel : Nat} {cs : List Value} {x : DataW H × List MemPlace} (hf : DataW.trod enc Try.prog W 0 (fun _ => true) true fuel 36 cs = some x) : ∃ o : RecD, ((0 ≤ o.key ∧ o.key ≤ 4294967295) ∧ -9223372036854775808 ≤ o.val ∧ o.val < 9223372036854775808) ∧ cs = o.cells := by
  obtain ⟨ys, n', _, _, hlen, hyl, hfd⟩ := DataW.trod_struct Try.underlying36 hf
  rw [cells_rcb] at hlen
  obtain ⟨c0, c1, c2, c3, c4, c5, rfl⟩ := arr_rcb hlen
  have f0 : DataW.trod enc Try.prog W 0 (fun _ => true) true n' 34 (([c0, c1, c2, c3, c4, c5].drop 0).take (Try.prog.cellsOf 34)) = ys[0]? := hfd 0 _ rfl
  have f1 : DataW.trod enc Try.prog W 0 (fun _ => true) true n' 2 (([c0, c1, c2, c3, c4, c5].drop 1).take (Try.prog.cellsOf 2)) = ys[1]? := hfd 1 _ rfl
  have f2 : DataW.trod enc Try.prog W 0 (fun _ => true) true n' 2 (([c0, c1, c2, c3, c4, c5].drop 2).take (Try.prog.cellsOf 2)) = ys[2]? := hfd 2 _ rfl
  have f3 : DataW.trod enc Try.prog W 0 (fun _ => true) true n' 5 (([c0, c1, c2, c3, c4, c5].drop 3).take (Try.prog.cellsOf 5)) = ys[3]? := hfd 3 _ rfl
  have f4 : DataW.trod enc Try.prog W 0 (fun _ => true) true n' 4 (([c0, c1, c2, c3, c4, c5].drop 4).take (Try.prog.cellsOf 4)) = ys[4]? := hfd 4 _ rfl
  have f5 : DataW.trod enc Try.prog W 0 (fun _ => true) true n' 4 (([c0, c1, c2, c3, c4, c5].drop 5).take (Try.prog.cellsOf 4)) = ys[5]? := hfd 5 _ rfl
  rw [one_all.2.2.2.2] at f0
  rw [one_all.1] at f1
  rw [one_all.1] at f2
  rw [one_all.2.2.2.1] at f3
  rw [one_all.2.2.1] at f4
  rw [one_all.2.2.1] at f5
  simp only [List.drop_zero, List.take_succ_cons, List.take_zero, List.drop_succ_cons] at f0 f1 f2 f3 f4 f5
  have g0 : ys[0]? = some (ys[0]'(by rw [hyl]; decide)) := List.getElem?_eq_getElem _
  have g1 : ys[1]? = some (ys[1]'(by rw [hyl]; decide)) := List.getElem?_eq_getElem _
  have g2 : ys[2]? = some (ys[2]'(by rw [hyl]; decide)) := List.getElem?_eq_getElem _
  have g3 : ys[3]? = some (ys[3]'(by rw [hyl]; decide)) := List.getElem?_eq_getElem _
  have g4 : ys[4]? = some (ys[4]'(by rw [hyl]; decide)) := List.getElem?_eq_getElem _
  have g5 : ys[5]? = some (ys[5]'(by rw [hyl]; decide)) := List.getElem?_eq_getElem _
  obtain ⟨z0, e0, _, w0⟩ := DataW.trod_int Try.underlying34 (f0.trans g0)
  obtain ⟨z1, e1, _, w1⟩ := DataW.trod_int Try.underlying2 (f1.trans g1)
  obtain ⟨z2, e2, _, w2⟩ := DataW.trod_int Try.underlying2 (f2.trans g2)
  obtain ⟨z3, e3, _, w3⟩ := DataW.trod_int Try.underlying5 (f3.trans g3)
  obtain ⟨z4, e4, _⟩ := DataW.trod_bool Try.underlying4 (f4.trans g4)
  obtain ⟨z5, e5, _⟩ := DataW.trod_bool Try.underlying4 (f5.trans g5)
  simp only [List.cons.injEq, and_true] at e0 e1 e2 e3 e4 e5
  subst e0 e1 e2 e3 e4 e5
  exact ⟨⟨z0, z1, z2, z3, z4, z5⟩, ⟨bdI_u32 w0, bd_i64 w2⟩, rfl⟩
theorem open_rcb {H : Type} {enc : TypeId × Value → H} {W : World} {v : Value} {d : DataW H} {ps : List MemPlace} {base : Nat} (hv : Value.okWide Try.prog W .any base 36 v) (h : DataW.Trod enc Try.prog W 0 (fun _ => true) true 36 v d ps) : ∃ o : RecD, ((0 ≤ o.key ∧ o.key ≤ 4294967295) ∧ -9223372036854775808 ≤ o.val ∧ o.val < 9223372036854775808) ∧ v = o.v := by
  obtain ⟨cs, rfl, hsz⟩ := okWide_struct Try.underlying36 hv
  obtain ⟨fuel, hf⟩ := h
  obtain ⟨o, hk, ho⟩ := fields_rcb hf
  refine ⟨o, hk, ?_⟩
  simp only [Value.cells] at ho
  congr 1
  exact Array.toList_inj.1 ho
end Go.Proofs.Ythebacladmjiiaa
