/-
  Arguments that came in: operators, drafts, four times, rows of windows.
-/
import Derived.Test.YteiedknpmlemkaaWu
import Derived.ChangeVars
import Derived.ProofKit
import Derived.Carry
import Derived.ChangeMaps5
import Derived.Deep.Slices
import Derived.OpenShut
namespace Go.Proofs.Yteiedknpmlemkaa
open Go Go.ChangeShapes Go.WideShapes Go.ChangeAt Go.RowKit

theorem laidOutHere : laidOutB Try.prog = true := by kernel_rfl
/-- Arguments that a call leaves alone read as they did. -/
theorem trodAll_below {H : Type} {enc : TypeId × Value → H} {P : Program} (hl : laidOutB P = true) {W W' : World} (hb : Below W.heap.size W W') :
    ∀ {ts : List TypeId} {vs : List Value} {ds : List (DataW H)} {ps : List MemPlace}, (∀ t ∈ ts, P.readableRec t = true ∧ t < P.types.size) → DataW.TrodAll enc P W 0 (fun _ => true) true ts vs ds ps → (∀ x ∈ ps, x.block < W.heap.size) →
      DataW.TrodAll enc P W' 0 (fun b => decide (b < W.heap.size)) true ts vs ds ps
  | [], [], [], _, _, h, _ => h
  | [], _ :: _, _, _, _, h, _ => h.elim
  | [], [], _ :: _, _, _, h, _ => h.elim
  | _ :: _, [], _, _, _, h, _ => h.elim
  | _ :: _, _ :: _, [], _, _, h, _ => h.elim
  | t :: ts, v :: vs, d :: ds, ps, hr, h, hlt => by
    obtain ⟨p, q, h1, h2, rfl⟩ := h
    exact ⟨p, q, Below.trod hl (hr t (by simp)).1 (hr t (by simp)).2 h1 hb (fun x hx => hlt x (by simp [hx])), trodAll_below hl hb (fun t ht => hr t (by simp [ht])) h2 (fun x hx => hlt x (by simp [hx])), rfl⟩
theorem bd_u8 {n : Int} (h : (Lit.int .u8 n).wf = true) : ∃ m : Nat, n = (m : Int) ∧ m < 256 := by
  have h' : IntKind.u8.min ≤ n ∧ n ≤ IntKind.u8.max := by simpa [Lit.wf] using h
  have e1 : IntKind.u8.min = 0 := by decide
  have e2 : IntKind.u8.max = 255 := by decide
  rw [e1, e2] at h'
  exact ⟨n.toNat, by omega, by omega⟩
theorem bd_u16 {n : Int} (h : (Lit.int .u16 n).wf = true) : ∃ m : Nat, n = (m : Int) ∧ m < 65536 := by
  have h' : IntKind.u16.min ≤ n ∧ n ≤ IntKind.u16.max := by simpa [Lit.wf] using h
  have e1 : IntKind.u16.min = 0 := by decide
  have e2 : IntKind.u16.max = 65535 := by decide
  rw [e1, e2] at h'
  exact ⟨n.toNat, by omega, by omega⟩
theorem bd_u32 {n : Int} (h : (Lit.int .u32 n).wf = true) : ∃ m : Nat, n = (m : Int) ∧ m < 4294967296 := by
  have h' : IntKind.u32.min ≤ n ∧ n ≤ IntKind.u32.max := by simpa [Lit.wf] using h
  have e1 : IntKind.u32.min = 0 := by decide
  have e2 : IntKind.u32.max = 4294967295 := by decide
  rw [e1, e2] at h'
  exact ⟨n.toNat, by omega, by omega⟩
theorem bd_u64 {n : Int} (h : (Lit.int .u64 n).wf = true) : ∃ m : Nat, n = (m : Int) ∧ m < 18446744073709551616 := by
  have h' : IntKind.u64.min ≤ n ∧ n ≤ IntKind.u64.max := by simpa [Lit.wf] using h
  have e1 : IntKind.u64.min = 0 := by decide
  have e2 : IntKind.u64.max = 18446744073709551615 := by decide
  rw [e1, e2] at h'
  exact ⟨n.toNat, by omega, by omega⟩
theorem bd_i16 {n : Int} (h : (Lit.int .i16 n).wf = true) : -32768 ≤ n ∧ n < 32768 := by
  have h' : IntKind.i16.min ≤ n ∧ n ≤ IntKind.i16.max := by simpa [Lit.wf] using h
  have e1 : IntKind.i16.min = -32768 := by decide
  have e2 : IntKind.i16.max = 32767 := by decide
  rw [e1, e2] at h'
  omega
theorem bd_i64 {n : Int} (h : (Lit.int .i64 n).wf = true) : -9223372036854775808 ≤ n ∧ n < 9223372036854775808 := by
  have h' : IntKind.i64.min ≤ n ∧ n ≤ IntKind.i64.max := by simpa [Lit.wf] using h
  have e1 : IntKind.i64.min = -9223372036854775808 := by decide
  have e2 : IntKind.i64.max = 9223372036854775807 := by decide
  rw [e1, e2] at h'
  omega
theorem list_of {α : Type} {P : Nat → α → Prop} : ∀ n, (∀ i, i < n → ∃ x, P i x) → ∃ l : List α, l.length = n ∧ ∀ j x, l[j]? = some x → P j x
  | 0, _ => ⟨[], rfl, fun j x h => by simp at h⟩
  | n + 1, h => by
    obtain ⟨l, hl, hp⟩ := list_of n (fun i hi => h i (by omega))
    obtain ⟨x, hx⟩ := h n (by omega)
    refine ⟨l ++ [x], by simp [hl], fun j y hy => ?_⟩
    rcases Nat.lt_trichotomy j n with h1 | h1 | h1
    · rw [List.getElem?_append_left (by omega)] at hy
      exact hp j y hy
    · subst h1
      rw [List.getElem?_append_right (by omega), hl] at hy
      simp at hy
      subst hy
      exact hx
    · rw [List.getElem?_append_right (by omega), hl] at hy
      rw [List.getElem?_eq_none (by simp; omega)] at hy
      cases hy
theorem own : ownKnob Try.prog.godebug = none := by kernel_rfl
theorem laidOut : laidOutB Try.prog = true := laidOutHere

theorem one_2 : Try.prog.cellsOf 2 = 1 := by kernel_rfl
theorem one_3 : Try.prog.cellsOf 3 = 1 := by kernel_rfl
theorem one_5 : Try.prog.cellsOf 5 = 1 := by kernel_rfl
theorem one_24 : Try.prog.cellsOf 24 = 1 := by kernel_rfl
theorem bdI_u8 {n : Int} (h : (Lit.int .u8 n).wf = true) : 0 ≤ n ∧ n ≤ 255 := by obtain ⟨m, rfl, h⟩ := bd_u8 h; omega
theorem bdI_u32 {n : Int} (h : (Lit.int .u32 n).wf = true) : 0 ≤ n ∧ n ≤ 4294967295 := by obtain ⟨m, rfl, h⟩ := bd_u32 h; omega

/-- A number that an int64 holds. -/
def isL (n : Int) : Prop := -9223372036854775808 ≤ n ∧ n < 9223372036854775808
theorem isL_of {n : Int} (h : (Lit.int .i64 n).wf = true) : isL n := by unfold isL; exact bd_i64 h
/-- A kind as it is drawn. -/
structure KindD where
  what : Int
  size : Int
  over : Int
abbrev KindD.val (x : KindD) : Value := .agg #[.int .u8 x.what, .int .u32 x.size, .int .u8 x.over]
def KindD.ok (x : KindD) : Prop := (0 ≤ x.what ∧ x.what ≤ 255) ∧ (0 ≤ x.size ∧ x.size ≤ 4294967295) ∧ (0 ≤ x.over ∧ x.over ≤ 255)
def OpD.ok (o : OpD) : Prop := isL o.kind ∧ isL o.a ∧ isL o.b ∧ isL o.agg

theorem arr_op {cs : List Value} (h : cs.length = 4) : ∃ c0 c1 c2 c3, cs = [c0, c1, c2, c3] := by
  match cs, h with
  | [c0, c1, c2, c3], _ => exact ⟨c0, c1, c2, c3, rfl⟩
theorem cells_op : Try.prog.cellsOf 23 = 4 := by kernel_rfl
set_option maxRecDepth 100000 in
theorem fields_op {H : Type} {enc : TypeId × Value → H} {W : World} {fuel : Nat} {cs : List Value} {x : DataW H × List MemPlace} (hf : DataW.trod enc Try.prog W 0 (fun _ => true) true fuel 23 cs = some x) : ∃ o : OpD, o.ok ∧ cs = [.int .i64 o.kind, .int .i64 o.a, .int .i64 o.b, .int .i64 o.agg] := by
  obtain ⟨ys, n', _, _, hlen, hyl, hfd⟩ := DataW.trod_struct Try.underlying23 hf
  rw [cells_op] at hlen
  obtain ⟨c0, c1, c2, c3, rfl⟩ := arr_op hlen
  have f0 : DataW.trod enc Try.prog W 0 (fun _ => true) true n' 3 (([c0, c1, c2, c3].drop 0).take (Try.prog.cellsOf 3)) = ys[0]? := hfd 0 _ rfl
  have f1 : DataW.trod enc Try.prog W 0 (fun _ => true) true n' 2 (([c0, c1, c2, c3].drop 1).take (Try.prog.cellsOf 2)) = ys[1]? := hfd 1 _ rfl
  have f2 : DataW.trod enc Try.prog W 0 (fun _ => true) true n' 2 (([c0, c1, c2, c3].drop 2).take (Try.prog.cellsOf 2)) = ys[2]? := hfd 2 _ rfl
  have f3 : DataW.trod enc Try.prog W 0 (fun _ => true) true n' 3 (([c0, c1, c2, c3].drop 3).take (Try.prog.cellsOf 3)) = ys[3]? := hfd 3 _ rfl
  rw [one_3] at f0
  rw [one_2] at f1
  rw [one_2] at f2
  rw [one_3] at f3
  simp only [List.drop_zero, List.take_succ_cons, List.take_zero, List.drop_succ_cons] at f0 f1 f2 f3
  have g0 : ys[0]? = some (ys[0]'(by rw [hyl]; decide)) := List.getElem?_eq_getElem _
  have g1 : ys[1]? = some (ys[1]'(by rw [hyl]; decide)) := List.getElem?_eq_getElem _
  have g2 : ys[2]? = some (ys[2]'(by rw [hyl]; decide)) := List.getElem?_eq_getElem _
  have g3 : ys[3]? = some (ys[3]'(by rw [hyl]; decide)) := List.getElem?_eq_getElem _
  obtain ⟨z0, e0, _, w0⟩ := DataW.trod_int Try.underlying3 (f0.trans g0)
  obtain ⟨z1, e1, _, w1⟩ := DataW.trod_int Try.underlying2 (f1.trans g1)
  obtain ⟨z2, e2, _, w2⟩ := DataW.trod_int Try.underlying2 (f2.trans g2)
  obtain ⟨z3, e3, _, w3⟩ := DataW.trod_int Try.underlying3 (f3.trans g3)
  simp only [List.cons.injEq, and_true] at e0 e1 e2 e3
  subst e0 e1 e2 e3
  exact ⟨⟨z0, z1, z2, z3⟩, ⟨isL_of w0, isL_of w1, isL_of w2, isL_of w3⟩, rfl⟩
theorem arr_kd {cs : List Value} (h : cs.length = 3) : ∃ c0 c1 c2, cs = [c0, c1, c2] := by
  match cs, h with
  | [c0, c1, c2], _ => exact ⟨c0, c1, c2, rfl⟩
theorem cells_kd : Try.prog.cellsOf 26 = 3 := by kernel_rfl
set_option maxRecDepth 100000 in
theorem fields_kd {H : Type} {enc : TypeId × Value → H} {W : World} {fuel : Nat} {cs : List Value} {x : DataW H × List MemPlace} (hf : DataW.trod enc Try.prog W 0 (fun _ => true) true fuel 26 cs = some x) : ∃ o : KindD, o.ok ∧ cs = [.int .u8 o.what, .int .u32 o.size, .int .u8 o.over] := by
  obtain ⟨ys, n', _, _, hlen, hyl, hfd⟩ := DataW.trod_struct Try.underlying26 hf
  rw [cells_kd] at hlen
  obtain ⟨c0, c1, c2, rfl⟩ := arr_kd hlen
  have f0 : DataW.trod enc Try.prog W 0 (fun _ => true) true n' 5 (([c0, c1, c2].drop 0).take (Try.prog.cellsOf 5)) = ys[0]? := hfd 0 _ rfl
  have f1 : DataW.trod enc Try.prog W 0 (fun _ => true) true n' 24 (([c0, c1, c2].drop 1).take (Try.prog.cellsOf 24)) = ys[1]? := hfd 1 _ rfl
  have f2 : DataW.trod enc Try.prog W 0 (fun _ => true) true n' 5 (([c0, c1, c2].drop 2).take (Try.prog.cellsOf 5)) = ys[2]? := hfd 2 _ rfl
  rw [one_5] at f0
  rw [one_24] at f1
  rw [one_5] at f2
  simp only [List.drop_zero, List.take_succ_cons, List.take_zero, List.drop_succ_cons] at f0 f1 f2
  have g0 : ys[0]? = some (ys[0]'(by rw [hyl]; decide)) := List.getElem?_eq_getElem _
  have g1 : ys[1]? = some (ys[1]'(by rw [hyl]; decide)) := List.getElem?_eq_getElem _
  have g2 : ys[2]? = some (ys[2]'(by rw [hyl]; decide)) := List.getElem?_eq_getElem _
  obtain ⟨z0, e0, _, w0⟩ := DataW.trod_int Try.underlying5 (f0.trans g0)
  obtain ⟨z1, e1, _, w1⟩ := DataW.trod_int Try.underlying24 (f1.trans g1)
  obtain ⟨z2, e2, _, w2⟩ := DataW.trod_int Try.underlying5 (f2.trans g2)
  simp only [List.cons.injEq, and_true] at e0 e1 e2
  subst e0 e1 e2
  exact ⟨⟨z0, z1, z2⟩, ⟨bdI_u8 w0, bdI_u32 w1, bdI_u8 w2⟩, rfl⟩
set_option maxRecDepth 100000 in
theorem open_op {H : Type} {enc : TypeId × Value → H} {W : World} {v : Value} {d : DataW H} {ps : List MemPlace} {base : Nat} (hv : Value.okWide Try.prog W .any base 23 v) (h : DataW.Trod enc Try.prog W 0 (fun _ => true) true 23 v d ps) : ∃ o : OpD, o.ok ∧ v = o.val := by
  obtain ⟨cs, rfl, hsz⟩ := okWide_struct Try.underlying23 hv
  obtain ⟨fuel, hf⟩ := h
  obtain ⟨o, hk, ho⟩ := fields_op hf
  refine ⟨o, hk, ?_⟩
  simp only [Value.cells] at ho
  congr 1
  exact Array.toList_inj.1 ho
set_option maxRecDepth 100000 in
theorem open_kd {H : Type} {enc : TypeId × Value → H} {W : World} {v : Value} {d : DataW H} {ps : List MemPlace} {base : Nat} (hv : Value.okWide Try.prog W .any base 26 v) (h : DataW.Trod enc Try.prog W 0 (fun _ => true) true 26 v d ps) : ∃ o : KindD, o.ok ∧ v = o.val := by
  obtain ⟨cs, rfl, hsz⟩ := okWide_struct Try.underlying26 hv
  obtain ⟨fuel, hf⟩ := h
  obtain ⟨o, hk, ho⟩ := fields_kd hf
  refine ⟨o, hk, ?_⟩
  simp only [Value.cells] at ho
  congr 1
  exact Array.toList_inj.1 ho
set_option maxRecDepth 100000 in
theorem open_i64 {H : Type} {enc : TypeId × Value → H} {W : World} {v : Value} {d : DataW H} {ps : List MemPlace} {base : Nat} (hv : Value.okWide Try.prog W .any base 2 v) (h : DataW.Trod enc Try.prog W 0 (fun _ => true) true 2 v d ps) : ∃ n, v = .int .i64 n ∧ isL n := by
  obtain ⟨fuel, hf⟩ := h
  obtain ⟨z, e, _, hw⟩ := DataW.trod_int Try.underlying2 hf
  obtain ⟨n, rfl, _⟩ := okWide_int Try.underlying2 hv
  simp [Value.cells] at e
  subst e
  exact ⟨_, rfl, isL_of hw⟩
theorem okWide_array {P : Program} {w : World} {r : Reach} {base : Nat} {t e : TypeId} {n : Nat} {v : Value} (ht : P.underlying t = some (.array n e)) (h : Value.okWide P w r base t v) : ∃ cs, v = .agg cs ∧ cs.size = P.cellsOf t := by
  simp only [Value.okWide, ht] at h
  obtain ⟨cs, h1, h2, _⟩ := h
  exact ⟨cs, h1, h2⟩
theorem cells_27 : Try.prog.cellsOf 27 = 4 := by kernel_rfl
theorem arr27 : Try.prog.underlying 27 = some (.array 4 2) := by kernel_rfl
theorem list4 {cs : List Value} (h : cs.length = 4) : ∃ c0 c1 c2 c3, cs = [c0, c1, c2, c3] := by
  match cs, h with
  | [c0, c1, c2, c3], _ => exact ⟨c0, c1, c2, c3, rfl⟩
theorem list2 {cs : List Value} (h : cs.length = 2) : ∃ c0 c1, cs = [c0, c1] := by
  match cs, h with
  | [c0, c1], _ => exact ⟨c0, c1, rfl⟩
set_option maxRecDepth 100000 in
theorem open_four {H : Type} {enc : TypeId × Value → H} {W : World} {v : Value} {d : DataW H} {ps : List MemPlace} {base : Nat} (hv : Value.okWide Try.prog W .any base 27 v) (h : DataW.Trod enc Try.prog W 0 (fun _ => true) true 27 v d ps) :
    ∃ t0 t1 t2 t3, v = .agg #[.int .i64 t0, .int .i64 t1, .int .i64 t2, .int .i64 t3] ∧ isL t0 ∧ isL t1 ∧ isL t2 ∧ isL t3 := by
  obtain ⟨cs, rfl, hsz⟩ := okWide_array arr27 hv
  obtain ⟨fuel, hf⟩ := h
  obtain ⟨ys, n', _, _, hlen, hyl, hfd⟩ := DataW.trod_array arr27 hf
  rw [cells_27] at hlen
  obtain ⟨c0, c1, c2, c3, hcs⟩ := list4 hlen
  rw [hcs, one_2] at hfd
  have f0 := hfd 0 (by omega)
  have f1 := hfd 1 (by omega)
  have f2 := hfd 2 (by omega)
  have f3 := hfd 3 (by omega)
  simp only [Nat.zero_mul, Nat.one_mul, Nat.reduceMul, List.drop_zero, List.take_succ_cons, List.take_zero, List.drop_succ_cons] at f0 f1 f2 f3
  have g0 : ys[0]? = some (ys[0]'(by rw [hyl]; decide)) := List.getElem?_eq_getElem _
  have g1 : ys[1]? = some (ys[1]'(by rw [hyl]; decide)) := List.getElem?_eq_getElem _
  have g2 : ys[2]? = some (ys[2]'(by rw [hyl]; decide)) := List.getElem?_eq_getElem _
  have g3 : ys[3]? = some (ys[3]'(by rw [hyl]; decide)) := List.getElem?_eq_getElem _
  obtain ⟨z0, e0, _, w0⟩ := DataW.trod_int Try.underlying2 (f0.trans g0)
  obtain ⟨z1, e1, _, w1⟩ := DataW.trod_int Try.underlying2 (f1.trans g1)
  obtain ⟨z2, e2, _, w2⟩ := DataW.trod_int Try.underlying2 (f2.trans g2)
  obtain ⟨z3, e3, _, w3⟩ := DataW.trod_int Try.underlying2 (f3.trans g3)
  simp only [List.cons.injEq, and_true] at e0 e1 e2 e3
  subst e0 e1 e2 e3
  refine ⟨z0, z1, z2, z3, ?_, isL_of w0, isL_of w1, isL_of w2, isL_of w3⟩
  simp only [Value.cells] at hcs
  congr 1
  exact Array.toList_inj.1 hcs

theorem cells_34 : Try.prog.cellsOf 34 = 2 := by kernel_rfl
set_option maxRecDepth 100000 in
theorem fields_win {H : Type} {enc : TypeId × Value → H} {W : World} {fuel : Nat} {cs : List Value} {x : DataW H × List MemPlace} (hf : DataW.trod enc Try.prog W 0 (fun _ => true) true fuel 34 cs = some x) : ∃ y : Win, isL y.1 ∧ isL y.2 ∧ cs = [.int .i64 y.1, .int .i64 y.2] := by
  obtain ⟨ys, n', _, _, hlen, hyl, hfd⟩ := DataW.trod_array arr34 hf
  rw [cells_34] at hlen
  obtain ⟨c0, c1, rfl⟩ := list2 hlen
  rw [one_2] at hfd
  have f0 := hfd 0 (by omega)
  have f1 := hfd 1 (by omega)
  simp only [Nat.zero_mul, Nat.one_mul, List.drop_zero, List.take_succ_cons, List.take_zero, List.drop_succ_cons] at f0 f1
  have g0 : ys[0]? = some (ys[0]'(by rw [hyl]; decide)) := List.getElem?_eq_getElem _
  have g1 : ys[1]? = some (ys[1]'(by rw [hyl]; decide)) := List.getElem?_eq_getElem _
  obtain ⟨z0, e0, _, w0⟩ := DataW.trod_int Try.underlying2 (f0.trans g0)
  obtain ⟨z1, e1, _, w1⟩ := DataW.trod_int Try.underlying2 (f1.trans g1)
  simp only [List.cons.injEq, and_true] at e0 e1
  subst e0 e1
  exact ⟨(z0, z1), isL_of w0, isL_of w1, rfl⟩

/-- Windows that came in: they may lie at any address. -/
def WinsIn (W : World) (B : Nat) (A : Option Addr) (l : List Win) : Prop := l = [] ∨ ∃ ad : Addr, A = some ad ∧ ad.block < B ∧ ∀ j x, l[j]? = some x → W.cell? (ad.add (j * 2)) = some (.int .i64 x.1) ∧ W.cell? (ad.add (j * 2 + 1)) = some (.int .i64 x.2)
set_option maxRecDepth 100000 in
theorem open_wins {H : Type} {enc : TypeId × Value → H} {W : World} {v : Value} {d : DataW H} {ps : List MemPlace} {base : Nat} (hv : Value.okWide Try.prog W .any base 32 v) (h : DataW.Trod enc Try.prog W 0 (fun _ => true) true 32 v d ps)
    (hlt : ∀ x ∈ ps, x.block < W.heap.size) : ∃ (A : Option Addr) (cp : Nat) (l : List Win), v = .slice A l.length cp ∧ l.length ≤ maxLen ∧ WinsIn W W.heap.size A l ∧ ∀ x ∈ l, isL x.1 ∧ isL x.2 := by
  obtain ⟨a0, len, cap, rfl⟩ := okWide_slice Try.underlying32 hv
  obtain ⟨fuel, hf⟩ := h
  rcases Go.Deep.open_slice Try.underlying32 hf with ⟨hcs, _⟩ | ⟨a, len', cap', m, n, D, Pl, hcs, _, hl, hm, hmm, hx, hi⟩
  · simp [Value.cells] at hcs
    obtain ⟨rfl, rfl, rfl⟩ := hcs
    exact ⟨none, 0, [], rfl, by simp [maxLen], .inl rfl, by simp⟩
  · simp [Value.cells] at hcs
    obtain ⟨rfl, rfl, rfl⟩ := hcs
    simp only [if_true] at hmm
    subst hmm
    simp only [Prod.mk.injEq] at hx
    obtain ⟨_, rfl⟩ := hx
    have hall : ∀ i, i < len → ∃ x : Win, (isL x.1 ∧ isL x.2) ∧ W.cell? (a.add (i * 2)) = some (.int .i64 x.1) ∧ W.cell? (a.add (i * 2 + 1)) = some (.int .i64 x.2) := by
      intro i hil
      obtain ⟨cs, hc, ht⟩ := hi i (by omega)
      rw [cells_34] at hc
      obtain ⟨_, hcl, hat⟩ := World.cells?_some hc
      obtain ⟨o, hk1, hk2, rfl⟩ := fields_win ht
      refine ⟨o, ⟨hk1, hk2⟩, ?_, ?_⟩
      · have := hat (i := 0) (by omega)
        simpa [Go.Deep.add_add] using this
      · have := hat (i := 1) (by omega)
        simpa [Go.Deep.add_add] using this
    obtain ⟨l, hll, hp⟩ := list_of len hall
    subst hll
    refine ⟨some a, _, l, rfl, by omega, ?_, fun x hx => ?_⟩
    · by_cases h0 : l = []
      · exact .inl h0
      · refine .inr ⟨a, rfl, ?_, fun j x hx => (hp j x hx).2⟩
        obtain ⟨b, off, spot⟩ := a
        have hpos : 0 < l.length := List.length_pos_iff.2 h0
        refine hlt (.cell b off) (List.mem_append_left _ (MemPlace.mem_row.2 ⟨0, ?_, by simp⟩))
        rw [cells_34]
        omega
    · obtain ⟨j, hj⟩ := List.getElem?_of_mem hx
      exact (hp j x hj).1
end Go.Proofs.Yteiedknpmlemkaa
