/-
  WinCovers' region 16: one obligation an operation (printed by wip/tools/win/mkr16.py).
-/
import Derived.Test.YteiedknpmlemkaaEvRt
import Derived.BigQuiet
import Derived.WalkKit
import Derived.Lib.Hide
import Derived.Test.YteiedknpmlemkaaRows
namespace Go.Proofs.Yteiedknpmlemkaa
open Go Go.RowKit Go.Lib Go.Ev

theorem want_false {P : Program} {ops : Array Oper} {i : Nat} {o : Oper} {a : Act} {j t : Nat} {b : Bool} (hg : (ops[i]?).map (fun o => o.guard) = some (some (j, b))) (hi : ops[i]? = some o) (hj : (ops[j]?).bind (fun o => o.dst) = some t) (hv : a.tmps[t]? = some (.bool (!b))) : Region.wanted o (yielded ops a.tmps) = false := by
  rw [hi] at hg
  simp at hg
  cases b <;> simp_all [Region.wanted, yielded]
theorem want_undef {P : Program} {ops : Array Oper} {i : Nat} {o : Oper} {a : Act} {j t : Nat} {b : Bool} (hg : (ops[i]?).map (fun o => o.guard) = some (some (j, b))) (hi : ops[i]? = some o) (hj : (ops[j]?).bind (fun o => o.dst) = some t) (hv : a.tmps[t]? = some (.bool b)) : Region.wanted o (yielded ops a.tmps) = true := by
  rw [hi] at hg
  simp at hg
  cases b <;> simp_all [Region.wanted, yielded]
theorem st_skip {P : Program} {ops : Array Oper} {Q : Exit → Act → World → Prop} {Φ : Nat → Value → World → Prop} {Gr : World → Prop} {Ext : World → World → Prop} {i : Nat} {o : Oper} {a : Act} {w : World} (hi : ops[i]? = some o) (hw : Region.wanted o (yielded ops a.tmps) = false) (hp : Φ i undef w) (hg : Gr w) (hx : Ext w w) :
    wpOp P ops Q i (fun a' w' => ∃ v, a' = a.put o.dst v ∧ Φ i v w' ∧ Gr w' ∧ Ext w w') a w := by
  unfold wpOp
  rw [hi]
  simp only [hw, if_false, Bool.false_eq_true]
  exact ⟨undef, rfl, hp, hg, hx⟩
theorem run_indexAddr {P : Program} {o : Oper} {a : Act} {w : World} {s : TypeId} {x y : Operand} {p u v : Value} (hop : o.op = .indexAddr s x y) (hx : a.eval x = p) (hy : a.eval y = u) (h : (Instr.indexAt s p u).run P w = .ok v w) : (execOp a.eval o).run P w = .ok (.value v) w := by
  simp [execOp, hop, hx, hy, h, Result.andThen]
theorem run_un {P : Program} {o : Oper} {a : Act} {w : World} {u : UnOp} {t : TypeId} {x : Operand} {p v : Value} (hop : o.op = .unOp u t x) (hx : a.eval x = p) (h : (Op.unary u p).run P w = .ok v w) : (execOp a.eval o).run P w = .ok (.value v) w := by
  simp [execOp, hop, hx, h, Result.andThen]

noncomputable def r16 : Array Oper := regAt Try.f5 16
/-- What is known ahead of the region. -/
structure H16 (x0 y0 A T st z : Int) (k m q c g gB g5 : Nat) (W1 : World) (a0 : Act) : Prop where

  t10 : a0.tmps[10]? = some (.pointer (some ⟨gB, 0, none⟩))
  t1 : a0.tmps[1]? = some (.int .i64 T)
  t9 : a0.tmps[9]? = some (.int .i64 (k : Int))
  t6 : a0.tmps[6]? = some (.slice (some ⟨g, 0, none⟩) q c)
  t7 : a0.tmps[7]? = some (.int .i64 st)
  t5 : a0.tmps[5]? = some (.pointer (some ⟨g5, 0, none⟩))
  c0 : ∀ w, Since W1 w → w.cell? ⟨gB, 0, none⟩ = some (.int .i64 x0)
  c1 : ∀ w, Since W1 w → w.cell? ⟨gB, 1, none⟩ = some (.int .i64 y0)
  cA : ∀ w, Since W1 w → w.cell? ⟨g5, 1, none⟩ = some (.int .i64 A)
  call : ∀ w, Since W1 w → Calls Try.prog 20 #[.agg #[.int .i64 x0, .int .i64 y0], .int .i64 T] w fun e w' => e = .returned (.bool true) ∧ Below w.heap.size w w'
  wA : IntKind.i64.wrap (y0 - x0) = A
/-- And what more if it is not the first round. -/
structure H16p (x0 y0 A T st z : Int) (k m q c g gB g5 : Nat) (W1 : World) (a0 : Act) : Prop extends H16 x0 y0 A T st z k m q c g gB g5 W1 a0 where
  cz : ∀ w, Since W1 w → w.cell? ⟨g, m * 2, none⟩ = some (.int .i64 z)
  kp : (0 : Int) < (k : Int)
  km : IntKind.i64.wrap ((k : Int) - 1) = (m : Int)
  mq : (m : Int) < (q : Int)
  wz : IntKind.i64.wrap (z + st) = x0

noncomputable def raTab (x0 y0 A T st z : Int) (k m q c g gB g5 : Nat) (i : Nat) : Value ⊕ (Value → World → Prop) := match i with
  | 0 => .inl (.agg #[.int .i64 x0, .int .i64 y0])
  | 1 => .inl (.int .i64 T)
  | 2 => .inl (.bool true)
  | 3 => .inl (.bool false)
  | 4 => .inl (.bool false)
  | 5 => .inl (.pointer (some ⟨gB, 1, none⟩))
  | 6 => .inl (.int .i64 y0)
  | 7 => .inl (.pointer (some ⟨gB, 0, none⟩))
  | 8 => .inl (.int .i64 x0)
  | 9 => .inl (.int .i64 A)
  | 10 => .inl (.pointer (some ⟨g5, 1, none⟩))
  | 11 => .inl (.int .i64 A)
  | 12 => .inl (.bool false)
  | 13 => .inl (.bool false)
  | 14 => .inl (.bool false)
  | 15 => .inl (.int .i64 (k : Int))
  | 16 => .inl (.bool false)
  | 17 => .inl (.bool false)
  | 18 => .inl (undef)
  | 19 => .inl (undef)
  | 20 => .inl (undef)
  | 21 => .inl (undef)
  | 22 => .inl (undef)
  | 23 => .inl (undef)
  | 24 => .inl (undef)
  | 25 => .inl (undef)
  | 26 => .inl (undef)
  | 27 => .inl (undef)
  | 28 => .inl (undef)
  | 29 => .inl (.bool false)
  | 30 => .inl (.bool false)
  | _ => .inl undef
section
variable {x0 y0 A T st z : Int} {k m q c g gB g5 : Nat} {W1 : World} {a0 : Act} {Q : Exit → Act → World → Prop}
set_option maxRecDepth 100000 in
theorem ra_0 {o : Oper} {a : Act} {w : World} (h : H16 x0 y0 A T st z k m q c g gB g5 W1 a0) (hk : k = 0) (hi : r16[0]? = some o) (hh : Here r16 (Said (raTab x0 y0 A T st z k m q c g gB g5)) (Since W1) a0 0 o a w) :
    wpOp Try.prog r16 Q 0 (fun a' w' => ∃ v, a' = a.put o.dst v ∧ Said (raTab x0 y0 A T st z k m q c g gB g5) 0 v w' ∧ Since W1 w' ∧ Then w w') a w := by
  have hw := want_none (ops := r16) (a := a) (i := 0) (by kernel_rfl) hi
  have e1 := (hh.of_base 10 (by kernel_rfl)).trans h.t10
  have c0 := h.c0 w hh.gr
  have c1 := h.c1 w hh.gr
  have cA := h.cA w hh.gr
  have wA := h.wA
  have kz : ¬ (0 : Int) < (k : Int) := by omega
  exact st_val hi hw _ (run_loadOp (op_of (op := .load 34 (.tmp 10)) (by kernel_rfl) hi) (eval_at e1) (by go_simp)) rfl hh.gr (Below.refl _ _)
set_option maxRecDepth 100000 in
theorem ra_1 {o : Oper} {a : Act} {w : World} (h : H16 x0 y0 A T st z k m q c g gB g5 W1 a0) (hk : k = 0) (hi : r16[1]? = some o) (hh : Here r16 (Said (raTab x0 y0 A T st z k m q c g gB g5)) (Since W1) a0 1 o a w) :
    wpOp Try.prog r16 Q 1 (fun a' w' => ∃ v, a' = a.put o.dst v ∧ Said (raTab x0 y0 A T st z k m q c g gB g5) 1 v w' ∧ Since W1 w' ∧ Then w w') a w := by
  have hw := want_none (ops := r16) (a := a) (i := 1) (by kernel_rfl) hi
  have e1 := (hh.of_base 1 (by kernel_rfl)).trans h.t1
  have c0 := h.c0 w hh.gr
  have c1 := h.c1 w hh.gr
  have cA := h.cA w hh.gr
  have wA := h.wA
  have kz : ¬ (0 : Int) < (k : Int) := by omega
  exact st_val hi hw _ (run_move (op_of (op := .move (.tmp 1)) (by kernel_rfl) hi) (eval_at e1)) rfl hh.gr (Below.refl _ _)
set_option maxRecDepth 100000 in
theorem ra_2 {o : Oper} {a : Act} {w : World} (h : H16 x0 y0 A T st z k m q c g gB g5 W1 a0) (hk : k = 0) (hi : r16[2]? = some o) (hh : Here r16 (Said (raTab x0 y0 A T st z k m q c g gB g5)) (Since W1) a0 2 o a w) :
    wpOp Try.prog r16 Q 2 (fun a' w' => ∃ v, a' = a.put o.dst v ∧ Said (raTab x0 y0 A T st z k m q c g gB g5) 2 v w' ∧ Since W1 w' ∧ Then w w') a w := by
  have hw := want_none (ops := r16) (a := a) (i := 2) (by kernel_rfl) hi
  obtain ⟨v1, e1, hp1⟩ := hh.of_dep hi 0 54 (by kernel_rfl)
  have hp1 : v1 = .agg #[.int .i64 x0, .int .i64 y0] := hp1
  subst hp1
  obtain ⟨v2, e2, hp2⟩ := hh.of_dep hi 1 55 (by kernel_rfl)
  have hp2 : v2 = .int .i64 T := hp2
  subst hp2
  have hop := op_of (ops := r16) (op := .call { callee := .value (.func 20), args := #[(.tmp 54), (.tmp 55)], argTypes := #[34, 2] }) (by kernel_rfl) hi
  exact st_call hi hw 20 _ (by simp [execOp, hop, resolve, invoke, Act.eval, Deferred.ofValue, e1, e2]) ((h.call w hh.gr).mono fun e w' hs => ⟨_, hs.1, rfl, Below.trans hh.gr (hs.2.mono hh.gr.size), hs.2⟩)
set_option maxRecDepth 100000 in
theorem ra_3 {o : Oper} {a : Act} {w : World} (h : H16 x0 y0 A T st z k m q c g gB g5 W1 a0) (hk : k = 0) (hi : r16[3]? = some o) (hh : Here r16 (Said (raTab x0 y0 A T st z k m q c g gB g5)) (Since W1) a0 3 o a w) :
    wpOp Try.prog r16 Q 3 (fun a' w' => ∃ v, a' = a.put o.dst v ∧ Said (raTab x0 y0 A T st z k m q c g gB g5) 3 v w' ∧ Since W1 w' ∧ Then w w') a w := by
  have hw := want_none (ops := r16) (a := a) (i := 3) (by kernel_rfl) hi
  obtain ⟨v1, e1, hp1⟩ := hh.of_dep hi 2 56 (by kernel_rfl)
  have hp1 : v1 = .bool true := hp1
  subst hp1
  have c0 := h.c0 w hh.gr
  have c1 := h.c1 w hh.gr
  have cA := h.cA w hh.gr
  have wA := h.wA
  have kz : ¬ (0 : Int) < (k : Int) := by omega
  exact st_val hi hw _ (run_un (op_of (op := .unOp .not 4 (.tmp 56)) (by kernel_rfl) hi) (eval_at e1) (by go_simp)) rfl hh.gr (Below.refl _ _)
set_option maxRecDepth 100000 in
theorem ra_4 {o : Oper} {a : Act} {w : World} (h : H16 x0 y0 A T st z k m q c g gB g5 W1 a0) (hk : k = 0) (hi : r16[4]? = some o) (hh : Here r16 (Said (raTab x0 y0 A T st z k m q c g gB g5)) (Since W1) a0 4 o a w) :
    wpOp Try.prog r16 Q 4 (fun a' w' => ∃ v, a' = a.put o.dst v ∧ Said (raTab x0 y0 A T st z k m q c g gB g5) 4 v w' ∧ Since W1 w' ∧ Then w w') a w := by
  have hw := want_none (ops := r16) (a := a) (i := 4) (by kernel_rfl) hi
  obtain ⟨v1, e1, hp1⟩ := hh.of_dep hi 3 57 (by kernel_rfl)
  have hp1 : v1 = .bool false := hp1
  subst hp1
  have c0 := h.c0 w hh.gr
  have c1 := h.c1 w hh.gr
  have cA := h.cA w hh.gr
  have wA := h.wA
  have kz : ¬ (0 : Int) < (k : Int) := by omega
  exact st_val hi hw _ (run_move (op_of (op := .move (.tmp 57)) (by kernel_rfl) hi) (eval_at e1)) rfl hh.gr (Below.refl _ _)
set_option maxRecDepth 100000 in
theorem ra_5 {o : Oper} {a : Act} {w : World} (h : H16 x0 y0 A T st z k m q c g gB g5 W1 a0) (hk : k = 0) (hi : r16[5]? = some o) (hh : Here r16 (Said (raTab x0 y0 A T st z k m q c g gB g5)) (Since W1) a0 5 o a w) :
    wpOp Try.prog r16 Q 5 (fun a' w' => ∃ v, a' = a.put o.dst v ∧ Said (raTab x0 y0 A T st z k m q c g gB g5) 5 v w' ∧ Since W1 w' ∧ Then w w') a w := by
  obtain ⟨v9, e9, hp9⟩ := hh.of_dep hi 4 58 (by kernel_rfl)
  have hp9 : v9 = .bool false := hp9
  subst hp9
  have hw := want_undef (P := Try.prog) (ops := r16) (i := 5) (j := 4) (t := 58) (b := false) (by kernel_rfl) hi (by kernel_rfl) e9
  have e1 := (hh.of_base 10 (by kernel_rfl)).trans h.t10
  have c0 := h.c0 w hh.gr
  have c1 := h.c1 w hh.gr
  have cA := h.cA w hh.gr
  have wA := h.wA
  have kz : ¬ (0 : Int) < (k : Int) := by omega
  exact st_val hi hw _ (run_indexAddr (op_of (op := .indexAddr 34 (.tmp 10) (.const (.int .i64 1))) (by kernel_rfl) hi) (eval_at e1) rfl (by go_simp)) rfl hh.gr (Below.refl _ _)
set_option maxRecDepth 100000 in
theorem ra_6 {o : Oper} {a : Act} {w : World} (h : H16 x0 y0 A T st z k m q c g gB g5 W1 a0) (hk : k = 0) (hi : r16[6]? = some o) (hh : Here r16 (Said (raTab x0 y0 A T st z k m q c g gB g5)) (Since W1) a0 6 o a w) :
    wpOp Try.prog r16 Q 6 (fun a' w' => ∃ v, a' = a.put o.dst v ∧ Said (raTab x0 y0 A T st z k m q c g gB g5) 6 v w' ∧ Since W1 w' ∧ Then w w') a w := by
  obtain ⟨v9, e9, hp9⟩ := hh.of_dep hi 4 58 (by kernel_rfl)
  have hp9 : v9 = .bool false := hp9
  subst hp9
  have hw := want_undef (P := Try.prog) (ops := r16) (i := 6) (j := 4) (t := 58) (b := false) (by kernel_rfl) hi (by kernel_rfl) e9
  obtain ⟨v1, e1, hp1⟩ := hh.of_dep hi 5 59 (by kernel_rfl)
  have hp1 : v1 = .pointer (some ⟨gB, 1, none⟩) := hp1
  subst hp1
  have c0 := h.c0 w hh.gr
  have c1 := h.c1 w hh.gr
  have cA := h.cA w hh.gr
  have wA := h.wA
  have kz : ¬ (0 : Int) < (k : Int) := by omega
  exact st_val hi hw _ (run_loadOp (op_of (op := .load 2 (.tmp 59)) (by kernel_rfl) hi) (eval_at e1) (by go_simp)) rfl hh.gr (Below.refl _ _)
set_option maxRecDepth 100000 in
theorem ra_7 {o : Oper} {a : Act} {w : World} (h : H16 x0 y0 A T st z k m q c g gB g5 W1 a0) (hk : k = 0) (hi : r16[7]? = some o) (hh : Here r16 (Said (raTab x0 y0 A T st z k m q c g gB g5)) (Since W1) a0 7 o a w) :
    wpOp Try.prog r16 Q 7 (fun a' w' => ∃ v, a' = a.put o.dst v ∧ Said (raTab x0 y0 A T st z k m q c g gB g5) 7 v w' ∧ Since W1 w' ∧ Then w w') a w := by
  obtain ⟨v9, e9, hp9⟩ := hh.of_dep hi 4 58 (by kernel_rfl)
  have hp9 : v9 = .bool false := hp9
  subst hp9
  have hw := want_undef (P := Try.prog) (ops := r16) (i := 7) (j := 4) (t := 58) (b := false) (by kernel_rfl) hi (by kernel_rfl) e9
  have e1 := (hh.of_base 10 (by kernel_rfl)).trans h.t10
  have c0 := h.c0 w hh.gr
  have c1 := h.c1 w hh.gr
  have cA := h.cA w hh.gr
  have wA := h.wA
  have kz : ¬ (0 : Int) < (k : Int) := by omega
  exact st_val hi hw _ (run_indexAddr (op_of (op := .indexAddr 34 (.tmp 10) (.const (.int .i64 0))) (by kernel_rfl) hi) (eval_at e1) rfl (by go_simp)) rfl hh.gr (Below.refl _ _)
set_option maxRecDepth 100000 in
theorem ra_8 {o : Oper} {a : Act} {w : World} (h : H16 x0 y0 A T st z k m q c g gB g5 W1 a0) (hk : k = 0) (hi : r16[8]? = some o) (hh : Here r16 (Said (raTab x0 y0 A T st z k m q c g gB g5)) (Since W1) a0 8 o a w) :
    wpOp Try.prog r16 Q 8 (fun a' w' => ∃ v, a' = a.put o.dst v ∧ Said (raTab x0 y0 A T st z k m q c g gB g5) 8 v w' ∧ Since W1 w' ∧ Then w w') a w := by
  obtain ⟨v9, e9, hp9⟩ := hh.of_dep hi 4 58 (by kernel_rfl)
  have hp9 : v9 = .bool false := hp9
  subst hp9
  have hw := want_undef (P := Try.prog) (ops := r16) (i := 8) (j := 4) (t := 58) (b := false) (by kernel_rfl) hi (by kernel_rfl) e9
  obtain ⟨v1, e1, hp1⟩ := hh.of_dep hi 7 61 (by kernel_rfl)
  have hp1 : v1 = .pointer (some ⟨gB, 0, none⟩) := hp1
  subst hp1
  have c0 := h.c0 w hh.gr
  have c1 := h.c1 w hh.gr
  have cA := h.cA w hh.gr
  have wA := h.wA
  have kz : ¬ (0 : Int) < (k : Int) := by omega
  exact st_val hi hw _ (run_loadOp (op_of (op := .load 2 (.tmp 61)) (by kernel_rfl) hi) (eval_at e1) (by go_simp)) rfl hh.gr (Below.refl _ _)
set_option maxRecDepth 100000 in
theorem ra_9 {o : Oper} {a : Act} {w : World} (h : H16 x0 y0 A T st z k m q c g gB g5 W1 a0) (hk : k = 0) (hi : r16[9]? = some o) (hh : Here r16 (Said (raTab x0 y0 A T st z k m q c g gB g5)) (Since W1) a0 9 o a w) :
    wpOp Try.prog r16 Q 9 (fun a' w' => ∃ v, a' = a.put o.dst v ∧ Said (raTab x0 y0 A T st z k m q c g gB g5) 9 v w' ∧ Since W1 w' ∧ Then w w') a w := by
  obtain ⟨v9, e9, hp9⟩ := hh.of_dep hi 4 58 (by kernel_rfl)
  have hp9 : v9 = .bool false := hp9
  subst hp9
  have hw := want_undef (P := Try.prog) (ops := r16) (i := 9) (j := 4) (t := 58) (b := false) (by kernel_rfl) hi (by kernel_rfl) e9
  obtain ⟨v1, e1, hp1⟩ := hh.of_dep hi 6 60 (by kernel_rfl)
  have hp1 : v1 = .int .i64 y0 := hp1
  subst hp1
  obtain ⟨v2, e2, hp2⟩ := hh.of_dep hi 8 62 (by kernel_rfl)
  have hp2 : v2 = .int .i64 x0 := hp2
  subst hp2
  have c0 := h.c0 w hh.gr
  have c1 := h.c1 w hh.gr
  have cA := h.cA w hh.gr
  have wA := h.wA
  have kz : ¬ (0 : Int) < (k : Int) := by omega
  exact st_val hi hw _ (run_bin (op_of (op := .binOp .sub 2 (.tmp 60) (.tmp 62) 2) (by kernel_rfl) hi) (eval_at e1) (eval_at e2) (by go_simp) (by go_simp)) rfl hh.gr (Below.refl _ _)
set_option maxRecDepth 100000 in
theorem ra_10 {o : Oper} {a : Act} {w : World} (h : H16 x0 y0 A T st z k m q c g gB g5 W1 a0) (hk : k = 0) (hi : r16[10]? = some o) (hh : Here r16 (Said (raTab x0 y0 A T st z k m q c g gB g5)) (Since W1) a0 10 o a w) :
    wpOp Try.prog r16 Q 10 (fun a' w' => ∃ v, a' = a.put o.dst v ∧ Said (raTab x0 y0 A T st z k m q c g gB g5) 10 v w' ∧ Since W1 w' ∧ Then w w') a w := by
  obtain ⟨v9, e9, hp9⟩ := hh.of_dep hi 4 58 (by kernel_rfl)
  have hp9 : v9 = .bool false := hp9
  subst hp9
  have hw := want_undef (P := Try.prog) (ops := r16) (i := 10) (j := 4) (t := 58) (b := false) (by kernel_rfl) hi (by kernel_rfl) e9
  have e1 := (hh.of_base 5 (by kernel_rfl)).trans h.t5
  have c0 := h.c0 w hh.gr
  have c1 := h.c1 w hh.gr
  have cA := h.cA w hh.gr
  have wA := h.wA
  have kz : ¬ (0 : Int) < (k : Int) := by omega
  exact st_val hi hw _ (run_fieldAddr (op_of (op := .fieldAddr 23 (.tmp 5) 1) (by kernel_rfl) hi) (eval_at e1) (by kernel_rfl)) rfl hh.gr (Below.refl _ _)
set_option maxRecDepth 100000 in
theorem ra_11 {o : Oper} {a : Act} {w : World} (h : H16 x0 y0 A T st z k m q c g gB g5 W1 a0) (hk : k = 0) (hi : r16[11]? = some o) (hh : Here r16 (Said (raTab x0 y0 A T st z k m q c g gB g5)) (Since W1) a0 11 o a w) :
    wpOp Try.prog r16 Q 11 (fun a' w' => ∃ v, a' = a.put o.dst v ∧ Said (raTab x0 y0 A T st z k m q c g gB g5) 11 v w' ∧ Since W1 w' ∧ Then w w') a w := by
  obtain ⟨v9, e9, hp9⟩ := hh.of_dep hi 4 58 (by kernel_rfl)
  have hp9 : v9 = .bool false := hp9
  subst hp9
  have hw := want_undef (P := Try.prog) (ops := r16) (i := 11) (j := 4) (t := 58) (b := false) (by kernel_rfl) hi (by kernel_rfl) e9
  obtain ⟨v1, e1, hp1⟩ := hh.of_dep hi 10 64 (by kernel_rfl)
  have hp1 : v1 = .pointer (some ⟨g5, 1, none⟩) := hp1
  subst hp1
  have c0 := h.c0 w hh.gr
  have c1 := h.c1 w hh.gr
  have cA := h.cA w hh.gr
  have wA := h.wA
  have kz : ¬ (0 : Int) < (k : Int) := by omega
  exact st_val hi hw _ (run_loadOp (op_of (op := .load 2 (.tmp 64)) (by kernel_rfl) hi) (eval_at e1) (by go_simp)) rfl hh.gr (Below.refl _ _)
set_option maxRecDepth 100000 in
theorem ra_12 {o : Oper} {a : Act} {w : World} (h : H16 x0 y0 A T st z k m q c g gB g5 W1 a0) (hk : k = 0) (hi : r16[12]? = some o) (hh : Here r16 (Said (raTab x0 y0 A T st z k m q c g gB g5)) (Since W1) a0 12 o a w) :
    wpOp Try.prog r16 Q 12 (fun a' w' => ∃ v, a' = a.put o.dst v ∧ Said (raTab x0 y0 A T st z k m q c g gB g5) 12 v w' ∧ Since W1 w' ∧ Then w w') a w := by
  obtain ⟨v9, e9, hp9⟩ := hh.of_dep hi 4 58 (by kernel_rfl)
  have hp9 : v9 = .bool false := hp9
  subst hp9
  have hw := want_undef (P := Try.prog) (ops := r16) (i := 12) (j := 4) (t := 58) (b := false) (by kernel_rfl) hi (by kernel_rfl) e9
  obtain ⟨v1, e1, hp1⟩ := hh.of_dep hi 9 63 (by kernel_rfl)
  have hp1 : v1 = .int .i64 A := hp1
  subst hp1
  obtain ⟨v2, e2, hp2⟩ := hh.of_dep hi 11 65 (by kernel_rfl)
  have hp2 : v2 = .int .i64 A := hp2
  subst hp2
  have c0 := h.c0 w hh.gr
  have c1 := h.c1 w hh.gr
  have cA := h.cA w hh.gr
  have wA := h.wA
  have kz : ¬ (0 : Int) < (k : Int) := by omega
  exact st_val hi hw _ (run_bin (op_of (op := .binOp .neq 2 (.tmp 63) (.tmp 65) 2) (by kernel_rfl) hi) (eval_at e1) (eval_at e2) (by go_simp) (by go_simp)) rfl hh.gr (Below.refl _ _)
set_option maxRecDepth 100000 in
theorem ra_13 {o : Oper} {a : Act} {w : World} (h : H16 x0 y0 A T st z k m q c g gB g5 W1 a0) (hk : k = 0) (hi : r16[13]? = some o) (hh : Here r16 (Said (raTab x0 y0 A T st z k m q c g gB g5)) (Since W1) a0 13 o a w) :
    wpOp Try.prog r16 Q 13 (fun a' w' => ∃ v, a' = a.put o.dst v ∧ Said (raTab x0 y0 A T st z k m q c g gB g5) 13 v w' ∧ Since W1 w' ∧ Then w w') a w := by
  have hw := want_none (ops := r16) (a := a) (i := 13) (by kernel_rfl) hi
  obtain ⟨v1, e1, hp1⟩ := hh.of_dep hi 4 58 (by kernel_rfl)
  have hp1 : v1 = .bool false := hp1
  subst hp1
  obtain ⟨v2, e2, hp2⟩ := hh.of_dep hi 12 66 (by kernel_rfl)
  have hp2 : v2 = .bool false := hp2
  subst hp2
  have c0 := h.c0 w hh.gr
  have c1 := h.c1 w hh.gr
  have cA := h.cA w hh.gr
  have wA := h.wA
  have kz : ¬ (0 : Int) < (k : Int) := by omega
  exact st_val hi hw _ (run_pick (op_of (op := .pick (.tmp 58) (.const (.bool true)) (.tmp 66)) (by kernel_rfl) hi) (eval_at e1) rfl (eval_at e2)) rfl hh.gr (Below.refl _ _)
set_option maxRecDepth 100000 in
theorem ra_14 {o : Oper} {a : Act} {w : World} (h : H16 x0 y0 A T st z k m q c g gB g5 W1 a0) (hk : k = 0) (hi : r16[14]? = some o) (hh : Here r16 (Said (raTab x0 y0 A T st z k m q c g gB g5)) (Since W1) a0 14 o a w) :
    wpOp Try.prog r16 Q 14 (fun a' w' => ∃ v, a' = a.put o.dst v ∧ Said (raTab x0 y0 A T st z k m q c g gB g5) 14 v w' ∧ Since W1 w' ∧ Then w w') a w := by
  have hw := want_none (ops := r16) (a := a) (i := 14) (by kernel_rfl) hi
  obtain ⟨v1, e1, hp1⟩ := hh.of_dep hi 13 67 (by kernel_rfl)
  have hp1 : v1 = .bool false := hp1
  subst hp1
  have c0 := h.c0 w hh.gr
  have c1 := h.c1 w hh.gr
  have cA := h.cA w hh.gr
  have wA := h.wA
  have kz : ¬ (0 : Int) < (k : Int) := by omega
  exact st_val hi hw _ (run_move (op_of (op := .move (.tmp 67)) (by kernel_rfl) hi) (eval_at e1)) rfl hh.gr (Below.refl _ _)
set_option maxRecDepth 100000 in
theorem ra_15 {o : Oper} {a : Act} {w : World} (h : H16 x0 y0 A T st z k m q c g gB g5 W1 a0) (hk : k = 0) (hi : r16[15]? = some o) (hh : Here r16 (Said (raTab x0 y0 A T st z k m q c g gB g5)) (Since W1) a0 15 o a w) :
    wpOp Try.prog r16 Q 15 (fun a' w' => ∃ v, a' = a.put o.dst v ∧ Said (raTab x0 y0 A T st z k m q c g gB g5) 15 v w' ∧ Since W1 w' ∧ Then w w') a w := by
  obtain ⟨v9, e9, hp9⟩ := hh.of_dep hi 14 68 (by kernel_rfl)
  have hp9 : v9 = .bool false := hp9
  subst hp9
  have hw := want_undef (P := Try.prog) (ops := r16) (i := 15) (j := 14) (t := 68) (b := false) (by kernel_rfl) hi (by kernel_rfl) e9
  have e1 := (hh.of_base 9 (by kernel_rfl)).trans h.t9
  have c0 := h.c0 w hh.gr
  have c1 := h.c1 w hh.gr
  have cA := h.cA w hh.gr
  have wA := h.wA
  have kz : ¬ (0 : Int) < (k : Int) := by omega
  exact st_val hi hw _ (run_move (op_of (op := .move (.tmp 9)) (by kernel_rfl) hi) (eval_at e1)) rfl hh.gr (Below.refl _ _)
set_option maxRecDepth 100000 in
theorem ra_16 {o : Oper} {a : Act} {w : World} (h : H16 x0 y0 A T st z k m q c g gB g5 W1 a0) (hk : k = 0) (hi : r16[16]? = some o) (hh : Here r16 (Said (raTab x0 y0 A T st z k m q c g gB g5)) (Since W1) a0 16 o a w) :
    wpOp Try.prog r16 Q 16 (fun a' w' => ∃ v, a' = a.put o.dst v ∧ Said (raTab x0 y0 A T st z k m q c g gB g5) 16 v w' ∧ Since W1 w' ∧ Then w w') a w := by
  obtain ⟨v9, e9, hp9⟩ := hh.of_dep hi 14 68 (by kernel_rfl)
  have hp9 : v9 = .bool false := hp9
  subst hp9
  have hw := want_undef (P := Try.prog) (ops := r16) (i := 16) (j := 14) (t := 68) (b := false) (by kernel_rfl) hi (by kernel_rfl) e9
  obtain ⟨v1, e1, hp1⟩ := hh.of_dep hi 15 69 (by kernel_rfl)
  have hp1 : v1 = .int .i64 (k : Int) := hp1
  subst hp1
  have c0 := h.c0 w hh.gr
  have c1 := h.c1 w hh.gr
  have cA := h.cA w hh.gr
  have wA := h.wA
  have kz : ¬ (0 : Int) < (k : Int) := by omega
  exact st_val hi hw _ (run_bin (op_of (op := .binOp .gtr 3 (.tmp 69) (.const (.int .i64 0)) 3) (by kernel_rfl) hi) (eval_at e1) rfl (by go_simp) (by go_simp)) rfl hh.gr (Below.refl _ _)
set_option maxRecDepth 100000 in
theorem ra_17 {o : Oper} {a : Act} {w : World} (h : H16 x0 y0 A T st z k m q c g gB g5 W1 a0) (hk : k = 0) (hi : r16[17]? = some o) (hh : Here r16 (Said (raTab x0 y0 A T st z k m q c g gB g5)) (Since W1) a0 17 o a w) :
    wpOp Try.prog r16 Q 17 (fun a' w' => ∃ v, a' = a.put o.dst v ∧ Said (raTab x0 y0 A T st z k m q c g gB g5) 17 v w' ∧ Since W1 w' ∧ Then w w') a w := by
  obtain ⟨v9, e9, hp9⟩ := hh.of_dep hi 14 68 (by kernel_rfl)
  have hp9 : v9 = .bool false := hp9
  subst hp9
  have hw := want_undef (P := Try.prog) (ops := r16) (i := 17) (j := 14) (t := 68) (b := false) (by kernel_rfl) hi (by kernel_rfl) e9
  obtain ⟨v1, e1, hp1⟩ := hh.of_dep hi 16 70 (by kernel_rfl)
  have hp1 : v1 = .bool false := hp1
  subst hp1
  have c0 := h.c0 w hh.gr
  have c1 := h.c1 w hh.gr
  have cA := h.cA w hh.gr
  have wA := h.wA
  have kz : ¬ (0 : Int) < (k : Int) := by omega
  exact st_val hi hw _ (run_move (op_of (op := .move (.tmp 70)) (by kernel_rfl) hi) (eval_at e1)) rfl hh.gr (Below.refl _ _)
set_option maxRecDepth 100000 in
theorem ra_18 {o : Oper} {a : Act} {w : World} (h : H16 x0 y0 A T st z k m q c g gB g5 W1 a0) (hk : k = 0) (hi : r16[18]? = some o) (hh : Here r16 (Said (raTab x0 y0 A T st z k m q c g gB g5)) (Since W1) a0 18 o a w) :
    wpOp Try.prog r16 Q 18 (fun a' w' => ∃ v, a' = a.put o.dst v ∧ Said (raTab x0 y0 A T st z k m q c g gB g5) 18 v w' ∧ Since W1 w' ∧ Then w w') a w := by
  obtain ⟨v9, e9, hp9⟩ := hh.of_dep hi 17 71 (by kernel_rfl)
  have hp9 : v9 = .bool false := hp9
  subst hp9
  have hw := want_false (P := Try.prog) (ops := r16) (i := 18) (j := 17) (t := 71) (b := true) (by kernel_rfl) hi (by kernel_rfl) e9
  exact st_skip hi hw rfl hh.gr (Below.refl _ _)
set_option maxRecDepth 100000 in
theorem ra_19 {o : Oper} {a : Act} {w : World} (h : H16 x0 y0 A T st z k m q c g gB g5 W1 a0) (hk : k = 0) (hi : r16[19]? = some o) (hh : Here r16 (Said (raTab x0 y0 A T st z k m q c g gB g5)) (Since W1) a0 19 o a w) :
    wpOp Try.prog r16 Q 19 (fun a' w' => ∃ v, a' = a.put o.dst v ∧ Said (raTab x0 y0 A T st z k m q c g gB g5) 19 v w' ∧ Since W1 w' ∧ Then w w') a w := by
  obtain ⟨v9, e9, hp9⟩ := hh.of_dep hi 17 71 (by kernel_rfl)
  have hp9 : v9 = .bool false := hp9
  subst hp9
  have hw := want_false (P := Try.prog) (ops := r16) (i := 19) (j := 17) (t := 71) (b := true) (by kernel_rfl) hi (by kernel_rfl) e9
  exact st_skip hi hw rfl hh.gr (Below.refl _ _)
set_option maxRecDepth 100000 in
theorem ra_20 {o : Oper} {a : Act} {w : World} (h : H16 x0 y0 A T st z k m q c g gB g5 W1 a0) (hk : k = 0) (hi : r16[20]? = some o) (hh : Here r16 (Said (raTab x0 y0 A T st z k m q c g gB g5)) (Since W1) a0 20 o a w) :
    wpOp Try.prog r16 Q 20 (fun a' w' => ∃ v, a' = a.put o.dst v ∧ Said (raTab x0 y0 A T st z k m q c g gB g5) 20 v w' ∧ Since W1 w' ∧ Then w w') a w := by
  obtain ⟨v9, e9, hp9⟩ := hh.of_dep hi 17 71 (by kernel_rfl)
  have hp9 : v9 = .bool false := hp9
  subst hp9
  have hw := want_false (P := Try.prog) (ops := r16) (i := 20) (j := 17) (t := 71) (b := true) (by kernel_rfl) hi (by kernel_rfl) e9
  exact st_skip hi hw rfl hh.gr (Below.refl _ _)
set_option maxRecDepth 100000 in
theorem ra_21 {o : Oper} {a : Act} {w : World} (h : H16 x0 y0 A T st z k m q c g gB g5 W1 a0) (hk : k = 0) (hi : r16[21]? = some o) (hh : Here r16 (Said (raTab x0 y0 A T st z k m q c g gB g5)) (Since W1) a0 21 o a w) :
    wpOp Try.prog r16 Q 21 (fun a' w' => ∃ v, a' = a.put o.dst v ∧ Said (raTab x0 y0 A T st z k m q c g gB g5) 21 v w' ∧ Since W1 w' ∧ Then w w') a w := by
  obtain ⟨v9, e9, hp9⟩ := hh.of_dep hi 17 71 (by kernel_rfl)
  have hp9 : v9 = .bool false := hp9
  subst hp9
  have hw := want_false (P := Try.prog) (ops := r16) (i := 21) (j := 17) (t := 71) (b := true) (by kernel_rfl) hi (by kernel_rfl) e9
  exact st_skip hi hw rfl hh.gr (Below.refl _ _)
set_option maxRecDepth 100000 in
theorem ra_22 {o : Oper} {a : Act} {w : World} (h : H16 x0 y0 A T st z k m q c g gB g5 W1 a0) (hk : k = 0) (hi : r16[22]? = some o) (hh : Here r16 (Said (raTab x0 y0 A T st z k m q c g gB g5)) (Since W1) a0 22 o a w) :
    wpOp Try.prog r16 Q 22 (fun a' w' => ∃ v, a' = a.put o.dst v ∧ Said (raTab x0 y0 A T st z k m q c g gB g5) 22 v w' ∧ Since W1 w' ∧ Then w w') a w := by
  obtain ⟨v9, e9, hp9⟩ := hh.of_dep hi 17 71 (by kernel_rfl)
  have hp9 : v9 = .bool false := hp9
  subst hp9
  have hw := want_false (P := Try.prog) (ops := r16) (i := 22) (j := 17) (t := 71) (b := true) (by kernel_rfl) hi (by kernel_rfl) e9
  exact st_skip hi hw rfl hh.gr (Below.refl _ _)
set_option maxRecDepth 100000 in
theorem ra_23 {o : Oper} {a : Act} {w : World} (h : H16 x0 y0 A T st z k m q c g gB g5 W1 a0) (hk : k = 0) (hi : r16[23]? = some o) (hh : Here r16 (Said (raTab x0 y0 A T st z k m q c g gB g5)) (Since W1) a0 23 o a w) :
    wpOp Try.prog r16 Q 23 (fun a' w' => ∃ v, a' = a.put o.dst v ∧ Said (raTab x0 y0 A T st z k m q c g gB g5) 23 v w' ∧ Since W1 w' ∧ Then w w') a w := by
  obtain ⟨v9, e9, hp9⟩ := hh.of_dep hi 17 71 (by kernel_rfl)
  have hp9 : v9 = .bool false := hp9
  subst hp9
  have hw := want_false (P := Try.prog) (ops := r16) (i := 23) (j := 17) (t := 71) (b := true) (by kernel_rfl) hi (by kernel_rfl) e9
  exact st_skip hi hw rfl hh.gr (Below.refl _ _)
set_option maxRecDepth 100000 in
theorem ra_24 {o : Oper} {a : Act} {w : World} (h : H16 x0 y0 A T st z k m q c g gB g5 W1 a0) (hk : k = 0) (hi : r16[24]? = some o) (hh : Here r16 (Said (raTab x0 y0 A T st z k m q c g gB g5)) (Since W1) a0 24 o a w) :
    wpOp Try.prog r16 Q 24 (fun a' w' => ∃ v, a' = a.put o.dst v ∧ Said (raTab x0 y0 A T st z k m q c g gB g5) 24 v w' ∧ Since W1 w' ∧ Then w w') a w := by
  obtain ⟨v9, e9, hp9⟩ := hh.of_dep hi 17 71 (by kernel_rfl)
  have hp9 : v9 = .bool false := hp9
  subst hp9
  have hw := want_false (P := Try.prog) (ops := r16) (i := 24) (j := 17) (t := 71) (b := true) (by kernel_rfl) hi (by kernel_rfl) e9
  exact st_skip hi hw rfl hh.gr (Below.refl _ _)
set_option maxRecDepth 100000 in
theorem ra_25 {o : Oper} {a : Act} {w : World} (h : H16 x0 y0 A T st z k m q c g gB g5 W1 a0) (hk : k = 0) (hi : r16[25]? = some o) (hh : Here r16 (Said (raTab x0 y0 A T st z k m q c g gB g5)) (Since W1) a0 25 o a w) :
    wpOp Try.prog r16 Q 25 (fun a' w' => ∃ v, a' = a.put o.dst v ∧ Said (raTab x0 y0 A T st z k m q c g gB g5) 25 v w' ∧ Since W1 w' ∧ Then w w') a w := by
  obtain ⟨v9, e9, hp9⟩ := hh.of_dep hi 17 71 (by kernel_rfl)
  have hp9 : v9 = .bool false := hp9
  subst hp9
  have hw := want_false (P := Try.prog) (ops := r16) (i := 25) (j := 17) (t := 71) (b := true) (by kernel_rfl) hi (by kernel_rfl) e9
  exact st_skip hi hw rfl hh.gr (Below.refl _ _)
set_option maxRecDepth 100000 in
theorem ra_26 {o : Oper} {a : Act} {w : World} (h : H16 x0 y0 A T st z k m q c g gB g5 W1 a0) (hk : k = 0) (hi : r16[26]? = some o) (hh : Here r16 (Said (raTab x0 y0 A T st z k m q c g gB g5)) (Since W1) a0 26 o a w) :
    wpOp Try.prog r16 Q 26 (fun a' w' => ∃ v, a' = a.put o.dst v ∧ Said (raTab x0 y0 A T st z k m q c g gB g5) 26 v w' ∧ Since W1 w' ∧ Then w w') a w := by
  obtain ⟨v9, e9, hp9⟩ := hh.of_dep hi 17 71 (by kernel_rfl)
  have hp9 : v9 = .bool false := hp9
  subst hp9
  have hw := want_false (P := Try.prog) (ops := r16) (i := 26) (j := 17) (t := 71) (b := true) (by kernel_rfl) hi (by kernel_rfl) e9
  exact st_skip hi hw rfl hh.gr (Below.refl _ _)
set_option maxRecDepth 100000 in
theorem ra_27 {o : Oper} {a : Act} {w : World} (h : H16 x0 y0 A T st z k m q c g gB g5 W1 a0) (hk : k = 0) (hi : r16[27]? = some o) (hh : Here r16 (Said (raTab x0 y0 A T st z k m q c g gB g5)) (Since W1) a0 27 o a w) :
    wpOp Try.prog r16 Q 27 (fun a' w' => ∃ v, a' = a.put o.dst v ∧ Said (raTab x0 y0 A T st z k m q c g gB g5) 27 v w' ∧ Since W1 w' ∧ Then w w') a w := by
  obtain ⟨v9, e9, hp9⟩ := hh.of_dep hi 17 71 (by kernel_rfl)
  have hp9 : v9 = .bool false := hp9
  subst hp9
  have hw := want_false (P := Try.prog) (ops := r16) (i := 27) (j := 17) (t := 71) (b := true) (by kernel_rfl) hi (by kernel_rfl) e9
  exact st_skip hi hw rfl hh.gr (Below.refl _ _)
set_option maxRecDepth 100000 in
theorem ra_28 {o : Oper} {a : Act} {w : World} (h : H16 x0 y0 A T st z k m q c g gB g5 W1 a0) (hk : k = 0) (hi : r16[28]? = some o) (hh : Here r16 (Said (raTab x0 y0 A T st z k m q c g gB g5)) (Since W1) a0 28 o a w) :
    wpOp Try.prog r16 Q 28 (fun a' w' => ∃ v, a' = a.put o.dst v ∧ Said (raTab x0 y0 A T st z k m q c g gB g5) 28 v w' ∧ Since W1 w' ∧ Then w w') a w := by
  obtain ⟨v9, e9, hp9⟩ := hh.of_dep hi 17 71 (by kernel_rfl)
  have hp9 : v9 = .bool false := hp9
  subst hp9
  have hw := want_false (P := Try.prog) (ops := r16) (i := 28) (j := 17) (t := 71) (b := true) (by kernel_rfl) hi (by kernel_rfl) e9
  exact st_skip hi hw rfl hh.gr (Below.refl _ _)
set_option maxRecDepth 100000 in
theorem ra_29 {o : Oper} {a : Act} {w : World} (h : H16 x0 y0 A T st z k m q c g gB g5 W1 a0) (hk : k = 0) (hi : r16[29]? = some o) (hh : Here r16 (Said (raTab x0 y0 A T st z k m q c g gB g5)) (Since W1) a0 29 o a w) :
    wpOp Try.prog r16 Q 29 (fun a' w' => ∃ v, a' = a.put o.dst v ∧ Said (raTab x0 y0 A T st z k m q c g gB g5) 29 v w' ∧ Since W1 w' ∧ Then w w') a w := by
  obtain ⟨v9, e9, hp9⟩ := hh.of_dep hi 14 68 (by kernel_rfl)
  have hp9 : v9 = .bool false := hp9
  subst hp9
  have hw := want_undef (P := Try.prog) (ops := r16) (i := 29) (j := 14) (t := 68) (b := false) (by kernel_rfl) hi (by kernel_rfl) e9
  obtain ⟨v1, e1, hp1⟩ := hh.of_dep hi 17 71 (by kernel_rfl)
  have hp1 : v1 = .bool false := hp1
  subst hp1
  obtain ⟨v2, e2, hp2⟩ := hh.of_dep hi 28 82 (by kernel_rfl)
  have hp2 : v2 = undef := hp2
  subst hp2
  have c0 := h.c0 w hh.gr
  have c1 := h.c1 w hh.gr
  have cA := h.cA w hh.gr
  have wA := h.wA
  have kz : ¬ (0 : Int) < (k : Int) := by omega
  exact st_val hi hw _ (run_pick (op_of (op := .pick (.tmp 71) (.tmp 82) (.const (.bool false))) (by kernel_rfl) hi) (eval_at e1) (eval_at e2) rfl) rfl hh.gr (Below.refl _ _)
set_option maxRecDepth 100000 in
theorem ra_30 {o : Oper} {a : Act} {w : World} (h : H16 x0 y0 A T st z k m q c g gB g5 W1 a0) (hk : k = 0) (hi : r16[30]? = some o) (hh : Here r16 (Said (raTab x0 y0 A T st z k m q c g gB g5)) (Since W1) a0 30 o a w) :
    wpOp Try.prog r16 Q 30 (fun a' w' => ∃ v, a' = a.put o.dst v ∧ Said (raTab x0 y0 A T st z k m q c g gB g5) 30 v w' ∧ Since W1 w' ∧ Then w w') a w := by
  have hw := want_none (ops := r16) (a := a) (i := 30) (by kernel_rfl) hi
  obtain ⟨v1, e1, hp1⟩ := hh.of_dep hi 14 68 (by kernel_rfl)
  have hp1 : v1 = .bool false := hp1
  subst hp1
  obtain ⟨v2, e2, hp2⟩ := hh.of_dep hi 29 83 (by kernel_rfl)
  have hp2 : v2 = .bool false := hp2
  subst hp2
  have c0 := h.c0 w hh.gr
  have c1 := h.c1 w hh.gr
  have cA := h.cA w hh.gr
  have wA := h.wA
  have kz : ¬ (0 : Int) < (k : Int) := by omega
  exact st_val hi hw _ (run_pick (op_of (op := .pick (.tmp 68) (.const (.bool true)) (.tmp 83)) (by kernel_rfl) hi) (eval_at e1) rfl (eval_at e2)) rfl hh.gr (Below.refl _ _)
theorem ra_steps (h : H16 x0 y0 A T st z k m q c g gB g5 W1 a0) (hk : k = 0) : ∀ (i : Nat) (o : Oper) (a : Act) (w : World), r16[i]? = some o → Here r16 (Said (raTab x0 y0 A T st z k m q c g gB g5)) (Since W1) a0 i o a w →
    wpOp Try.prog r16 Q i (fun a' w' => ∃ v, a' = a.put o.dst v ∧ Said (raTab x0 y0 A T st z k m q c g gB g5) i v w' ∧ Since W1 w' ∧ Then w w') a w := by
  intro i o a w hi hh
  match i, hi, hh with
  | 0, hi, hh => exact ra_0 h hk hi hh
  | 1, hi, hh => exact ra_1 h hk hi hh
  | 2, hi, hh => exact ra_2 h hk hi hh
  | 3, hi, hh => exact ra_3 h hk hi hh
  | 4, hi, hh => exact ra_4 h hk hi hh
  | 5, hi, hh => exact ra_5 h hk hi hh
  | 6, hi, hh => exact ra_6 h hk hi hh
  | 7, hi, hh => exact ra_7 h hk hi hh
  | 8, hi, hh => exact ra_8 h hk hi hh
  | 9, hi, hh => exact ra_9 h hk hi hh
  | 10, hi, hh => exact ra_10 h hk hi hh
  | 11, hi, hh => exact ra_11 h hk hi hh
  | 12, hi, hh => exact ra_12 h hk hi hh
  | 13, hi, hh => exact ra_13 h hk hi hh
  | 14, hi, hh => exact ra_14 h hk hi hh
  | 15, hi, hh => exact ra_15 h hk hi hh
  | 16, hi, hh => exact ra_16 h hk hi hh
  | 17, hi, hh => exact ra_17 h hk hi hh
  | 18, hi, hh => exact ra_18 h hk hi hh
  | 19, hi, hh => exact ra_19 h hk hi hh
  | 20, hi, hh => exact ra_20 h hk hi hh
  | 21, hi, hh => exact ra_21 h hk hi hh
  | 22, hi, hh => exact ra_22 h hk hi hh
  | 23, hi, hh => exact ra_23 h hk hi hh
  | 24, hi, hh => exact ra_24 h hk hi hh
  | 25, hi, hh => exact ra_25 h hk hi hh
  | 26, hi, hh => exact ra_26 h hk hi hh
  | 27, hi, hh => exact ra_27 h hk hi hh
  | 28, hi, hh => exact ra_28 h hk hi hh
  | 29, hi, hh => exact ra_29 h hk hi hh
  | 30, hi, hh => exact ra_30 h hk hi hh
  | n + 31, hi, _ =>
    exfalso
    have h1 := (Array.getElem?_eq_some_iff.1 hi).1
    have h2 : r16.size = 31 := by kernel_rfl
    omega
theorem ra_mono (i : Nat) (v : Value) (w w' : World) (h : Said (raTab x0 y0 A T st z k m q c g gB g5) i v w) (_ : Then w w') : Said (raTab x0 y0 A T st z k m q c g gB g5) i v w' := by
  unfold Said at *
  split at h
  · exact h
  · rename_i f hf
    unfold raTab at hf
    split at hf <;> cases hf
end
noncomputable def rbTab (x0 y0 A T st z : Int) (k m q c g gB g5 : Nat) (i : Nat) : Value ⊕ (Value → World → Prop) := match i with
  | 0 => .inl (.agg #[.int .i64 x0, .int .i64 y0])
  | 1 => .inl (.int .i64 T)
  | 2 => .inl (.bool true)
  | 3 => .inl (.bool false)
  | 4 => .inl (.bool false)
  | 5 => .inl (.pointer (some ⟨gB, 1, none⟩))
  | 6 => .inl (.int .i64 y0)
  | 7 => .inl (.pointer (some ⟨gB, 0, none⟩))
  | 8 => .inl (.int .i64 x0)
  | 9 => .inl (.int .i64 A)
  | 10 => .inl (.pointer (some ⟨g5, 1, none⟩))
  | 11 => .inl (.int .i64 A)
  | 12 => .inl (.bool false)
  | 13 => .inl (.bool false)
  | 14 => .inl (.bool false)
  | 15 => .inl (.int .i64 (k : Int))
  | 16 => .inl (.bool true)
  | 17 => .inl (.bool true)
  | 18 => .inl (.pointer (some ⟨gB, 0, none⟩))
  | 19 => .inl (.int .i64 x0)
  | 20 => .inl (.slice (some ⟨g, 0, none⟩) q c)
  | 21 => .inl (.int .i64 (k : Int))
  | 22 => .inl (.int .i64 (m : Int))
  | 23 => .inl (.pointer (some ⟨g, m * 2, none⟩))
  | 24 => .inl (.pointer (some ⟨g, m * 2, none⟩))
  | 25 => .inl (.int .i64 z)
  | 26 => .inl (.int .i64 st)
  | 27 => .inl (.int .i64 x0)
  | 28 => .inl (.bool false)
  | 29 => .inl (.bool false)
  | 30 => .inl (.bool false)
  | _ => .inl undef
section
variable {x0 y0 A T st z : Int} {k m q c g gB g5 : Nat} {W1 : World} {a0 : Act} {Q : Exit → Act → World → Prop}
set_option maxRecDepth 100000 in
theorem rb_0 {o : Oper} {a : Act} {w : World} (h : H16p x0 y0 A T st z k m q c g gB g5 W1 a0) (hi : r16[0]? = some o) (hh : Here r16 (Said (rbTab x0 y0 A T st z k m q c g gB g5)) (Since W1) a0 0 o a w) :
    wpOp Try.prog r16 Q 0 (fun a' w' => ∃ v, a' = a.put o.dst v ∧ Said (rbTab x0 y0 A T st z k m q c g gB g5) 0 v w' ∧ Since W1 w' ∧ Then w w') a w := by
  have hw := want_none (ops := r16) (a := a) (i := 0) (by kernel_rfl) hi
  have e1 := (hh.of_base 10 (by kernel_rfl)).trans h.t10
  have c0 := h.c0 w hh.gr
  have c1 := h.c1 w hh.gr
  have cA := h.cA w hh.gr
  have cz := h.cz w hh.gr
  have wA := h.wA
  have kp := h.kp
  have km := h.km
  have mq := h.mq
  have wz := h.wz
  have kp2 : 0 < k := by omega
  exact st_val hi hw _ (run_loadOp (op_of (op := .load 34 (.tmp 10)) (by kernel_rfl) hi) (eval_at e1) (by go_simp)) rfl hh.gr (Below.refl _ _)
set_option maxRecDepth 100000 in
theorem rb_1 {o : Oper} {a : Act} {w : World} (h : H16p x0 y0 A T st z k m q c g gB g5 W1 a0) (hi : r16[1]? = some o) (hh : Here r16 (Said (rbTab x0 y0 A T st z k m q c g gB g5)) (Since W1) a0 1 o a w) :
    wpOp Try.prog r16 Q 1 (fun a' w' => ∃ v, a' = a.put o.dst v ∧ Said (rbTab x0 y0 A T st z k m q c g gB g5) 1 v w' ∧ Since W1 w' ∧ Then w w') a w := by
  have hw := want_none (ops := r16) (a := a) (i := 1) (by kernel_rfl) hi
  have e1 := (hh.of_base 1 (by kernel_rfl)).trans h.t1
  have c0 := h.c0 w hh.gr
  have c1 := h.c1 w hh.gr
  have cA := h.cA w hh.gr
  have cz := h.cz w hh.gr
  have wA := h.wA
  have kp := h.kp
  have km := h.km
  have mq := h.mq
  have wz := h.wz
  have kp2 : 0 < k := by omega
  exact st_val hi hw _ (run_move (op_of (op := .move (.tmp 1)) (by kernel_rfl) hi) (eval_at e1)) rfl hh.gr (Below.refl _ _)
set_option maxRecDepth 100000 in
theorem rb_2 {o : Oper} {a : Act} {w : World} (h : H16p x0 y0 A T st z k m q c g gB g5 W1 a0) (hi : r16[2]? = some o) (hh : Here r16 (Said (rbTab x0 y0 A T st z k m q c g gB g5)) (Since W1) a0 2 o a w) :
    wpOp Try.prog r16 Q 2 (fun a' w' => ∃ v, a' = a.put o.dst v ∧ Said (rbTab x0 y0 A T st z k m q c g gB g5) 2 v w' ∧ Since W1 w' ∧ Then w w') a w := by
  have hw := want_none (ops := r16) (a := a) (i := 2) (by kernel_rfl) hi
  obtain ⟨v1, e1, hp1⟩ := hh.of_dep hi 0 54 (by kernel_rfl)
  have hp1 : v1 = .agg #[.int .i64 x0, .int .i64 y0] := hp1
  subst hp1
  obtain ⟨v2, e2, hp2⟩ := hh.of_dep hi 1 55 (by kernel_rfl)
  have hp2 : v2 = .int .i64 T := hp2
  subst hp2
  have hop := op_of (ops := r16) (op := .call { callee := .value (.func 20), args := #[(.tmp 54), (.tmp 55)], argTypes := #[34, 2] }) (by kernel_rfl) hi
  exact st_call hi hw 20 _ (by simp [execOp, hop, resolve, invoke, Act.eval, Deferred.ofValue, e1, e2]) ((h.call w hh.gr).mono fun e w' hs => ⟨_, hs.1, rfl, Below.trans hh.gr (hs.2.mono hh.gr.size), hs.2⟩)
set_option maxRecDepth 100000 in
theorem rb_3 {o : Oper} {a : Act} {w : World} (h : H16p x0 y0 A T st z k m q c g gB g5 W1 a0) (hi : r16[3]? = some o) (hh : Here r16 (Said (rbTab x0 y0 A T st z k m q c g gB g5)) (Since W1) a0 3 o a w) :
    wpOp Try.prog r16 Q 3 (fun a' w' => ∃ v, a' = a.put o.dst v ∧ Said (rbTab x0 y0 A T st z k m q c g gB g5) 3 v w' ∧ Since W1 w' ∧ Then w w') a w := by
  have hw := want_none (ops := r16) (a := a) (i := 3) (by kernel_rfl) hi
  obtain ⟨v1, e1, hp1⟩ := hh.of_dep hi 2 56 (by kernel_rfl)
  have hp1 : v1 = .bool true := hp1
  subst hp1
  have c0 := h.c0 w hh.gr
  have c1 := h.c1 w hh.gr
  have cA := h.cA w hh.gr
  have cz := h.cz w hh.gr
  have wA := h.wA
  have kp := h.kp
  have km := h.km
  have mq := h.mq
  have wz := h.wz
  have kp2 : 0 < k := by omega
  exact st_val hi hw _ (run_un (op_of (op := .unOp .not 4 (.tmp 56)) (by kernel_rfl) hi) (eval_at e1) (by go_simp)) rfl hh.gr (Below.refl _ _)
set_option maxRecDepth 100000 in
theorem rb_4 {o : Oper} {a : Act} {w : World} (h : H16p x0 y0 A T st z k m q c g gB g5 W1 a0) (hi : r16[4]? = some o) (hh : Here r16 (Said (rbTab x0 y0 A T st z k m q c g gB g5)) (Since W1) a0 4 o a w) :
    wpOp Try.prog r16 Q 4 (fun a' w' => ∃ v, a' = a.put o.dst v ∧ Said (rbTab x0 y0 A T st z k m q c g gB g5) 4 v w' ∧ Since W1 w' ∧ Then w w') a w := by
  have hw := want_none (ops := r16) (a := a) (i := 4) (by kernel_rfl) hi
  obtain ⟨v1, e1, hp1⟩ := hh.of_dep hi 3 57 (by kernel_rfl)
  have hp1 : v1 = .bool false := hp1
  subst hp1
  have c0 := h.c0 w hh.gr
  have c1 := h.c1 w hh.gr
  have cA := h.cA w hh.gr
  have cz := h.cz w hh.gr
  have wA := h.wA
  have kp := h.kp
  have km := h.km
  have mq := h.mq
  have wz := h.wz
  have kp2 : 0 < k := by omega
  exact st_val hi hw _ (run_move (op_of (op := .move (.tmp 57)) (by kernel_rfl) hi) (eval_at e1)) rfl hh.gr (Below.refl _ _)
set_option maxRecDepth 100000 in
theorem rb_5 {o : Oper} {a : Act} {w : World} (h : H16p x0 y0 A T st z k m q c g gB g5 W1 a0) (hi : r16[5]? = some o) (hh : Here r16 (Said (rbTab x0 y0 A T st z k m q c g gB g5)) (Since W1) a0 5 o a w) :
    wpOp Try.prog r16 Q 5 (fun a' w' => ∃ v, a' = a.put o.dst v ∧ Said (rbTab x0 y0 A T st z k m q c g gB g5) 5 v w' ∧ Since W1 w' ∧ Then w w') a w := by
  obtain ⟨v9, e9, hp9⟩ := hh.of_dep hi 4 58 (by kernel_rfl)
  have hp9 : v9 = .bool false := hp9
  subst hp9
  have hw := want_undef (P := Try.prog) (ops := r16) (i := 5) (j := 4) (t := 58) (b := false) (by kernel_rfl) hi (by kernel_rfl) e9
  have e1 := (hh.of_base 10 (by kernel_rfl)).trans h.t10
  have c0 := h.c0 w hh.gr
  have c1 := h.c1 w hh.gr
  have cA := h.cA w hh.gr
  have cz := h.cz w hh.gr
  have wA := h.wA
  have kp := h.kp
  have km := h.km
  have mq := h.mq
  have wz := h.wz
  have kp2 : 0 < k := by omega
  exact st_val hi hw _ (run_indexAddr (op_of (op := .indexAddr 34 (.tmp 10) (.const (.int .i64 1))) (by kernel_rfl) hi) (eval_at e1) rfl (by go_simp)) rfl hh.gr (Below.refl _ _)
set_option maxRecDepth 100000 in
theorem rb_6 {o : Oper} {a : Act} {w : World} (h : H16p x0 y0 A T st z k m q c g gB g5 W1 a0) (hi : r16[6]? = some o) (hh : Here r16 (Said (rbTab x0 y0 A T st z k m q c g gB g5)) (Since W1) a0 6 o a w) :
    wpOp Try.prog r16 Q 6 (fun a' w' => ∃ v, a' = a.put o.dst v ∧ Said (rbTab x0 y0 A T st z k m q c g gB g5) 6 v w' ∧ Since W1 w' ∧ Then w w') a w := by
  obtain ⟨v9, e9, hp9⟩ := hh.of_dep hi 4 58 (by kernel_rfl)
  have hp9 : v9 = .bool false := hp9
  subst hp9
  have hw := want_undef (P := Try.prog) (ops := r16) (i := 6) (j := 4) (t := 58) (b := false) (by kernel_rfl) hi (by kernel_rfl) e9
  obtain ⟨v1, e1, hp1⟩ := hh.of_dep hi 5 59 (by kernel_rfl)
  have hp1 : v1 = .pointer (some ⟨gB, 1, none⟩) := hp1
  subst hp1
  have c0 := h.c0 w hh.gr
  have c1 := h.c1 w hh.gr
  have cA := h.cA w hh.gr
  have cz := h.cz w hh.gr
  have wA := h.wA
  have kp := h.kp
  have km := h.km
  have mq := h.mq
  have wz := h.wz
  have kp2 : 0 < k := by omega
  exact st_val hi hw _ (run_loadOp (op_of (op := .load 2 (.tmp 59)) (by kernel_rfl) hi) (eval_at e1) (by go_simp)) rfl hh.gr (Below.refl _ _)
set_option maxRecDepth 100000 in
theorem rb_7 {o : Oper} {a : Act} {w : World} (h : H16p x0 y0 A T st z k m q c g gB g5 W1 a0) (hi : r16[7]? = some o) (hh : Here r16 (Said (rbTab x0 y0 A T st z k m q c g gB g5)) (Since W1) a0 7 o a w) :
    wpOp Try.prog r16 Q 7 (fun a' w' => ∃ v, a' = a.put o.dst v ∧ Said (rbTab x0 y0 A T st z k m q c g gB g5) 7 v w' ∧ Since W1 w' ∧ Then w w') a w := by
  obtain ⟨v9, e9, hp9⟩ := hh.of_dep hi 4 58 (by kernel_rfl)
  have hp9 : v9 = .bool false := hp9
  subst hp9
  have hw := want_undef (P := Try.prog) (ops := r16) (i := 7) (j := 4) (t := 58) (b := false) (by kernel_rfl) hi (by kernel_rfl) e9
  have e1 := (hh.of_base 10 (by kernel_rfl)).trans h.t10
  have c0 := h.c0 w hh.gr
  have c1 := h.c1 w hh.gr
  have cA := h.cA w hh.gr
  have cz := h.cz w hh.gr
  have wA := h.wA
  have kp := h.kp
  have km := h.km
  have mq := h.mq
  have wz := h.wz
  have kp2 : 0 < k := by omega
  exact st_val hi hw _ (run_indexAddr (op_of (op := .indexAddr 34 (.tmp 10) (.const (.int .i64 0))) (by kernel_rfl) hi) (eval_at e1) rfl (by go_simp)) rfl hh.gr (Below.refl _ _)
set_option maxRecDepth 100000 in
theorem rb_8 {o : Oper} {a : Act} {w : World} (h : H16p x0 y0 A T st z k m q c g gB g5 W1 a0) (hi : r16[8]? = some o) (hh : Here r16 (Said (rbTab x0 y0 A T st z k m q c g gB g5)) (Since W1) a0 8 o a w) :
    wpOp Try.prog r16 Q 8 (fun a' w' => ∃ v, a' = a.put o.dst v ∧ Said (rbTab x0 y0 A T st z k m q c g gB g5) 8 v w' ∧ Since W1 w' ∧ Then w w') a w := by
  obtain ⟨v9, e9, hp9⟩ := hh.of_dep hi 4 58 (by kernel_rfl)
  have hp9 : v9 = .bool false := hp9
  subst hp9
  have hw := want_undef (P := Try.prog) (ops := r16) (i := 8) (j := 4) (t := 58) (b := false) (by kernel_rfl) hi (by kernel_rfl) e9
  obtain ⟨v1, e1, hp1⟩ := hh.of_dep hi 7 61 (by kernel_rfl)
  have hp1 : v1 = .pointer (some ⟨gB, 0, none⟩) := hp1
  subst hp1
  have c0 := h.c0 w hh.gr
  have c1 := h.c1 w hh.gr
  have cA := h.cA w hh.gr
  have cz := h.cz w hh.gr
  have wA := h.wA
  have kp := h.kp
  have km := h.km
  have mq := h.mq
  have wz := h.wz
  have kp2 : 0 < k := by omega
  exact st_val hi hw _ (run_loadOp (op_of (op := .load 2 (.tmp 61)) (by kernel_rfl) hi) (eval_at e1) (by go_simp)) rfl hh.gr (Below.refl _ _)
set_option maxRecDepth 100000 in
theorem rb_9 {o : Oper} {a : Act} {w : World} (h : H16p x0 y0 A T st z k m q c g gB g5 W1 a0) (hi : r16[9]? = some o) (hh : Here r16 (Said (rbTab x0 y0 A T st z k m q c g gB g5)) (Since W1) a0 9 o a w) :
    wpOp Try.prog r16 Q 9 (fun a' w' => ∃ v, a' = a.put o.dst v ∧ Said (rbTab x0 y0 A T st z k m q c g gB g5) 9 v w' ∧ Since W1 w' ∧ Then w w') a w := by
  obtain ⟨v9, e9, hp9⟩ := hh.of_dep hi 4 58 (by kernel_rfl)
  have hp9 : v9 = .bool false := hp9
  subst hp9
  have hw := want_undef (P := Try.prog) (ops := r16) (i := 9) (j := 4) (t := 58) (b := false) (by kernel_rfl) hi (by kernel_rfl) e9
  obtain ⟨v1, e1, hp1⟩ := hh.of_dep hi 6 60 (by kernel_rfl)
  have hp1 : v1 = .int .i64 y0 := hp1
  subst hp1
  obtain ⟨v2, e2, hp2⟩ := hh.of_dep hi 8 62 (by kernel_rfl)
  have hp2 : v2 = .int .i64 x0 := hp2
  subst hp2
  have c0 := h.c0 w hh.gr
  have c1 := h.c1 w hh.gr
  have cA := h.cA w hh.gr
  have cz := h.cz w hh.gr
  have wA := h.wA
  have kp := h.kp
  have km := h.km
  have mq := h.mq
  have wz := h.wz
  have kp2 : 0 < k := by omega
  exact st_val hi hw _ (run_bin (op_of (op := .binOp .sub 2 (.tmp 60) (.tmp 62) 2) (by kernel_rfl) hi) (eval_at e1) (eval_at e2) (by go_simp) (by go_simp)) rfl hh.gr (Below.refl _ _)
set_option maxRecDepth 100000 in
theorem rb_10 {o : Oper} {a : Act} {w : World} (h : H16p x0 y0 A T st z k m q c g gB g5 W1 a0) (hi : r16[10]? = some o) (hh : Here r16 (Said (rbTab x0 y0 A T st z k m q c g gB g5)) (Since W1) a0 10 o a w) :
    wpOp Try.prog r16 Q 10 (fun a' w' => ∃ v, a' = a.put o.dst v ∧ Said (rbTab x0 y0 A T st z k m q c g gB g5) 10 v w' ∧ Since W1 w' ∧ Then w w') a w := by
  obtain ⟨v9, e9, hp9⟩ := hh.of_dep hi 4 58 (by kernel_rfl)
  have hp9 : v9 = .bool false := hp9
  subst hp9
  have hw := want_undef (P := Try.prog) (ops := r16) (i := 10) (j := 4) (t := 58) (b := false) (by kernel_rfl) hi (by kernel_rfl) e9
  have e1 := (hh.of_base 5 (by kernel_rfl)).trans h.t5
  have c0 := h.c0 w hh.gr
  have c1 := h.c1 w hh.gr
  have cA := h.cA w hh.gr
  have cz := h.cz w hh.gr
  have wA := h.wA
  have kp := h.kp
  have km := h.km
  have mq := h.mq
  have wz := h.wz
  have kp2 : 0 < k := by omega
  exact st_val hi hw _ (run_fieldAddr (op_of (op := .fieldAddr 23 (.tmp 5) 1) (by kernel_rfl) hi) (eval_at e1) (by kernel_rfl)) rfl hh.gr (Below.refl _ _)
set_option maxRecDepth 100000 in
theorem rb_11 {o : Oper} {a : Act} {w : World} (h : H16p x0 y0 A T st z k m q c g gB g5 W1 a0) (hi : r16[11]? = some o) (hh : Here r16 (Said (rbTab x0 y0 A T st z k m q c g gB g5)) (Since W1) a0 11 o a w) :
    wpOp Try.prog r16 Q 11 (fun a' w' => ∃ v, a' = a.put o.dst v ∧ Said (rbTab x0 y0 A T st z k m q c g gB g5) 11 v w' ∧ Since W1 w' ∧ Then w w') a w := by
  obtain ⟨v9, e9, hp9⟩ := hh.of_dep hi 4 58 (by kernel_rfl)
  have hp9 : v9 = .bool false := hp9
  subst hp9
  have hw := want_undef (P := Try.prog) (ops := r16) (i := 11) (j := 4) (t := 58) (b := false) (by kernel_rfl) hi (by kernel_rfl) e9
  obtain ⟨v1, e1, hp1⟩ := hh.of_dep hi 10 64 (by kernel_rfl)
  have hp1 : v1 = .pointer (some ⟨g5, 1, none⟩) := hp1
  subst hp1
  have c0 := h.c0 w hh.gr
  have c1 := h.c1 w hh.gr
  have cA := h.cA w hh.gr
  have cz := h.cz w hh.gr
  have wA := h.wA
  have kp := h.kp
  have km := h.km
  have mq := h.mq
  have wz := h.wz
  have kp2 : 0 < k := by omega
  exact st_val hi hw _ (run_loadOp (op_of (op := .load 2 (.tmp 64)) (by kernel_rfl) hi) (eval_at e1) (by go_simp)) rfl hh.gr (Below.refl _ _)
set_option maxRecDepth 100000 in
theorem rb_12 {o : Oper} {a : Act} {w : World} (h : H16p x0 y0 A T st z k m q c g gB g5 W1 a0) (hi : r16[12]? = some o) (hh : Here r16 (Said (rbTab x0 y0 A T st z k m q c g gB g5)) (Since W1) a0 12 o a w) :
    wpOp Try.prog r16 Q 12 (fun a' w' => ∃ v, a' = a.put o.dst v ∧ Said (rbTab x0 y0 A T st z k m q c g gB g5) 12 v w' ∧ Since W1 w' ∧ Then w w') a w := by
  obtain ⟨v9, e9, hp9⟩ := hh.of_dep hi 4 58 (by kernel_rfl)
  have hp9 : v9 = .bool false := hp9
  subst hp9
  have hw := want_undef (P := Try.prog) (ops := r16) (i := 12) (j := 4) (t := 58) (b := false) (by kernel_rfl) hi (by kernel_rfl) e9
  obtain ⟨v1, e1, hp1⟩ := hh.of_dep hi 9 63 (by kernel_rfl)
  have hp1 : v1 = .int .i64 A := hp1
  subst hp1
  obtain ⟨v2, e2, hp2⟩ := hh.of_dep hi 11 65 (by kernel_rfl)
  have hp2 : v2 = .int .i64 A := hp2
  subst hp2
  have c0 := h.c0 w hh.gr
  have c1 := h.c1 w hh.gr
  have cA := h.cA w hh.gr
  have cz := h.cz w hh.gr
  have wA := h.wA
  have kp := h.kp
  have km := h.km
  have mq := h.mq
  have wz := h.wz
  have kp2 : 0 < k := by omega
  exact st_val hi hw _ (run_bin (op_of (op := .binOp .neq 2 (.tmp 63) (.tmp 65) 2) (by kernel_rfl) hi) (eval_at e1) (eval_at e2) (by go_simp) (by go_simp)) rfl hh.gr (Below.refl _ _)
set_option maxRecDepth 100000 in
theorem rb_13 {o : Oper} {a : Act} {w : World} (h : H16p x0 y0 A T st z k m q c g gB g5 W1 a0) (hi : r16[13]? = some o) (hh : Here r16 (Said (rbTab x0 y0 A T st z k m q c g gB g5)) (Since W1) a0 13 o a w) :
    wpOp Try.prog r16 Q 13 (fun a' w' => ∃ v, a' = a.put o.dst v ∧ Said (rbTab x0 y0 A T st z k m q c g gB g5) 13 v w' ∧ Since W1 w' ∧ Then w w') a w := by
  have hw := want_none (ops := r16) (a := a) (i := 13) (by kernel_rfl) hi
  obtain ⟨v1, e1, hp1⟩ := hh.of_dep hi 4 58 (by kernel_rfl)
  have hp1 : v1 = .bool false := hp1
  subst hp1
  obtain ⟨v2, e2, hp2⟩ := hh.of_dep hi 12 66 (by kernel_rfl)
  have hp2 : v2 = .bool false := hp2
  subst hp2
  have c0 := h.c0 w hh.gr
  have c1 := h.c1 w hh.gr
  have cA := h.cA w hh.gr
  have cz := h.cz w hh.gr
  have wA := h.wA
  have kp := h.kp
  have km := h.km
  have mq := h.mq
  have wz := h.wz
  have kp2 : 0 < k := by omega
  exact st_val hi hw _ (run_pick (op_of (op := .pick (.tmp 58) (.const (.bool true)) (.tmp 66)) (by kernel_rfl) hi) (eval_at e1) rfl (eval_at e2)) rfl hh.gr (Below.refl _ _)
set_option maxRecDepth 100000 in
theorem rb_14 {o : Oper} {a : Act} {w : World} (h : H16p x0 y0 A T st z k m q c g gB g5 W1 a0) (hi : r16[14]? = some o) (hh : Here r16 (Said (rbTab x0 y0 A T st z k m q c g gB g5)) (Since W1) a0 14 o a w) :
    wpOp Try.prog r16 Q 14 (fun a' w' => ∃ v, a' = a.put o.dst v ∧ Said (rbTab x0 y0 A T st z k m q c g gB g5) 14 v w' ∧ Since W1 w' ∧ Then w w') a w := by
  have hw := want_none (ops := r16) (a := a) (i := 14) (by kernel_rfl) hi
  obtain ⟨v1, e1, hp1⟩ := hh.of_dep hi 13 67 (by kernel_rfl)
  have hp1 : v1 = .bool false := hp1
  subst hp1
  have c0 := h.c0 w hh.gr
  have c1 := h.c1 w hh.gr
  have cA := h.cA w hh.gr
  have cz := h.cz w hh.gr
  have wA := h.wA
  have kp := h.kp
  have km := h.km
  have mq := h.mq
  have wz := h.wz
  have kp2 : 0 < k := by omega
  exact st_val hi hw _ (run_move (op_of (op := .move (.tmp 67)) (by kernel_rfl) hi) (eval_at e1)) rfl hh.gr (Below.refl _ _)
set_option maxRecDepth 100000 in
theorem rb_15 {o : Oper} {a : Act} {w : World} (h : H16p x0 y0 A T st z k m q c g gB g5 W1 a0) (hi : r16[15]? = some o) (hh : Here r16 (Said (rbTab x0 y0 A T st z k m q c g gB g5)) (Since W1) a0 15 o a w) :
    wpOp Try.prog r16 Q 15 (fun a' w' => ∃ v, a' = a.put o.dst v ∧ Said (rbTab x0 y0 A T st z k m q c g gB g5) 15 v w' ∧ Since W1 w' ∧ Then w w') a w := by
  obtain ⟨v9, e9, hp9⟩ := hh.of_dep hi 14 68 (by kernel_rfl)
  have hp9 : v9 = .bool false := hp9
  subst hp9
  have hw := want_undef (P := Try.prog) (ops := r16) (i := 15) (j := 14) (t := 68) (b := false) (by kernel_rfl) hi (by kernel_rfl) e9
  have e1 := (hh.of_base 9 (by kernel_rfl)).trans h.t9
  have c0 := h.c0 w hh.gr
  have c1 := h.c1 w hh.gr
  have cA := h.cA w hh.gr
  have cz := h.cz w hh.gr
  have wA := h.wA
  have kp := h.kp
  have km := h.km
  have mq := h.mq
  have wz := h.wz
  have kp2 : 0 < k := by omega
  exact st_val hi hw _ (run_move (op_of (op := .move (.tmp 9)) (by kernel_rfl) hi) (eval_at e1)) rfl hh.gr (Below.refl _ _)
set_option maxRecDepth 100000 in
theorem rb_16 {o : Oper} {a : Act} {w : World} (h : H16p x0 y0 A T st z k m q c g gB g5 W1 a0) (hi : r16[16]? = some o) (hh : Here r16 (Said (rbTab x0 y0 A T st z k m q c g gB g5)) (Since W1) a0 16 o a w) :
    wpOp Try.prog r16 Q 16 (fun a' w' => ∃ v, a' = a.put o.dst v ∧ Said (rbTab x0 y0 A T st z k m q c g gB g5) 16 v w' ∧ Since W1 w' ∧ Then w w') a w := by
  obtain ⟨v9, e9, hp9⟩ := hh.of_dep hi 14 68 (by kernel_rfl)
  have hp9 : v9 = .bool false := hp9
  subst hp9
  have hw := want_undef (P := Try.prog) (ops := r16) (i := 16) (j := 14) (t := 68) (b := false) (by kernel_rfl) hi (by kernel_rfl) e9
  obtain ⟨v1, e1, hp1⟩ := hh.of_dep hi 15 69 (by kernel_rfl)
  have hp1 : v1 = .int .i64 (k : Int) := hp1
  subst hp1
  have c0 := h.c0 w hh.gr
  have c1 := h.c1 w hh.gr
  have cA := h.cA w hh.gr
  have cz := h.cz w hh.gr
  have wA := h.wA
  have kp := h.kp
  have km := h.km
  have mq := h.mq
  have wz := h.wz
  have kp2 : 0 < k := by omega
  exact st_val hi hw _ (run_bin (op_of (op := .binOp .gtr 3 (.tmp 69) (.const (.int .i64 0)) 3) (by kernel_rfl) hi) (eval_at e1) rfl (by go_simp) (by go_simp)) rfl hh.gr (Below.refl _ _)
set_option maxRecDepth 100000 in
theorem rb_17 {o : Oper} {a : Act} {w : World} (h : H16p x0 y0 A T st z k m q c g gB g5 W1 a0) (hi : r16[17]? = some o) (hh : Here r16 (Said (rbTab x0 y0 A T st z k m q c g gB g5)) (Since W1) a0 17 o a w) :
    wpOp Try.prog r16 Q 17 (fun a' w' => ∃ v, a' = a.put o.dst v ∧ Said (rbTab x0 y0 A T st z k m q c g gB g5) 17 v w' ∧ Since W1 w' ∧ Then w w') a w := by
  obtain ⟨v9, e9, hp9⟩ := hh.of_dep hi 14 68 (by kernel_rfl)
  have hp9 : v9 = .bool false := hp9
  subst hp9
  have hw := want_undef (P := Try.prog) (ops := r16) (i := 17) (j := 14) (t := 68) (b := false) (by kernel_rfl) hi (by kernel_rfl) e9
  obtain ⟨v1, e1, hp1⟩ := hh.of_dep hi 16 70 (by kernel_rfl)
  have hp1 : v1 = .bool true := hp1
  subst hp1
  have c0 := h.c0 w hh.gr
  have c1 := h.c1 w hh.gr
  have cA := h.cA w hh.gr
  have cz := h.cz w hh.gr
  have wA := h.wA
  have kp := h.kp
  have km := h.km
  have mq := h.mq
  have wz := h.wz
  have kp2 : 0 < k := by omega
  exact st_val hi hw _ (run_move (op_of (op := .move (.tmp 70)) (by kernel_rfl) hi) (eval_at e1)) rfl hh.gr (Below.refl _ _)
set_option maxRecDepth 100000 in
theorem rb_18 {o : Oper} {a : Act} {w : World} (h : H16p x0 y0 A T st z k m q c g gB g5 W1 a0) (hi : r16[18]? = some o) (hh : Here r16 (Said (rbTab x0 y0 A T st z k m q c g gB g5)) (Since W1) a0 18 o a w) :
    wpOp Try.prog r16 Q 18 (fun a' w' => ∃ v, a' = a.put o.dst v ∧ Said (rbTab x0 y0 A T st z k m q c g gB g5) 18 v w' ∧ Since W1 w' ∧ Then w w') a w := by
  obtain ⟨v9, e9, hp9⟩ := hh.of_dep hi 17 71 (by kernel_rfl)
  have hp9 : v9 = .bool true := hp9
  subst hp9
  have hw := want_undef (P := Try.prog) (ops := r16) (i := 18) (j := 17) (t := 71) (b := true) (by kernel_rfl) hi (by kernel_rfl) e9
  have e1 := (hh.of_base 10 (by kernel_rfl)).trans h.t10
  have c0 := h.c0 w hh.gr
  have c1 := h.c1 w hh.gr
  have cA := h.cA w hh.gr
  have cz := h.cz w hh.gr
  have wA := h.wA
  have kp := h.kp
  have km := h.km
  have mq := h.mq
  have wz := h.wz
  have kp2 : 0 < k := by omega
  exact st_val hi hw _ (run_indexAddr (op_of (op := .indexAddr 34 (.tmp 10) (.const (.int .i64 0))) (by kernel_rfl) hi) (eval_at e1) rfl (by go_simp)) rfl hh.gr (Below.refl _ _)
set_option maxRecDepth 100000 in
theorem rb_19 {o : Oper} {a : Act} {w : World} (h : H16p x0 y0 A T st z k m q c g gB g5 W1 a0) (hi : r16[19]? = some o) (hh : Here r16 (Said (rbTab x0 y0 A T st z k m q c g gB g5)) (Since W1) a0 19 o a w) :
    wpOp Try.prog r16 Q 19 (fun a' w' => ∃ v, a' = a.put o.dst v ∧ Said (rbTab x0 y0 A T st z k m q c g gB g5) 19 v w' ∧ Since W1 w' ∧ Then w w') a w := by
  obtain ⟨v9, e9, hp9⟩ := hh.of_dep hi 17 71 (by kernel_rfl)
  have hp9 : v9 = .bool true := hp9
  subst hp9
  have hw := want_undef (P := Try.prog) (ops := r16) (i := 19) (j := 17) (t := 71) (b := true) (by kernel_rfl) hi (by kernel_rfl) e9
  obtain ⟨v1, e1, hp1⟩ := hh.of_dep hi 18 72 (by kernel_rfl)
  have hp1 : v1 = .pointer (some ⟨gB, 0, none⟩) := hp1
  subst hp1
  have c0 := h.c0 w hh.gr
  have c1 := h.c1 w hh.gr
  have cA := h.cA w hh.gr
  have cz := h.cz w hh.gr
  have wA := h.wA
  have kp := h.kp
  have km := h.km
  have mq := h.mq
  have wz := h.wz
  have kp2 : 0 < k := by omega
  exact st_val hi hw _ (run_loadOp (op_of (op := .load 2 (.tmp 72)) (by kernel_rfl) hi) (eval_at e1) (by go_simp)) rfl hh.gr (Below.refl _ _)
set_option maxRecDepth 100000 in
theorem rb_20 {o : Oper} {a : Act} {w : World} (h : H16p x0 y0 A T st z k m q c g gB g5 W1 a0) (hi : r16[20]? = some o) (hh : Here r16 (Said (rbTab x0 y0 A T st z k m q c g gB g5)) (Since W1) a0 20 o a w) :
    wpOp Try.prog r16 Q 20 (fun a' w' => ∃ v, a' = a.put o.dst v ∧ Said (rbTab x0 y0 A T st z k m q c g gB g5) 20 v w' ∧ Since W1 w' ∧ Then w w') a w := by
  obtain ⟨v9, e9, hp9⟩ := hh.of_dep hi 17 71 (by kernel_rfl)
  have hp9 : v9 = .bool true := hp9
  subst hp9
  have hw := want_undef (P := Try.prog) (ops := r16) (i := 20) (j := 17) (t := 71) (b := true) (by kernel_rfl) hi (by kernel_rfl) e9
  have e1 := (hh.of_base 6 (by kernel_rfl)).trans h.t6
  have c0 := h.c0 w hh.gr
  have c1 := h.c1 w hh.gr
  have cA := h.cA w hh.gr
  have cz := h.cz w hh.gr
  have wA := h.wA
  have kp := h.kp
  have km := h.km
  have mq := h.mq
  have wz := h.wz
  have kp2 : 0 < k := by omega
  exact st_val hi hw _ (run_move (op_of (op := .move (.tmp 6)) (by kernel_rfl) hi) (eval_at e1)) rfl hh.gr (Below.refl _ _)
set_option maxRecDepth 100000 in
theorem rb_21 {o : Oper} {a : Act} {w : World} (h : H16p x0 y0 A T st z k m q c g gB g5 W1 a0) (hi : r16[21]? = some o) (hh : Here r16 (Said (rbTab x0 y0 A T st z k m q c g gB g5)) (Since W1) a0 21 o a w) :
    wpOp Try.prog r16 Q 21 (fun a' w' => ∃ v, a' = a.put o.dst v ∧ Said (rbTab x0 y0 A T st z k m q c g gB g5) 21 v w' ∧ Since W1 w' ∧ Then w w') a w := by
  obtain ⟨v9, e9, hp9⟩ := hh.of_dep hi 17 71 (by kernel_rfl)
  have hp9 : v9 = .bool true := hp9
  subst hp9
  have hw := want_undef (P := Try.prog) (ops := r16) (i := 21) (j := 17) (t := 71) (b := true) (by kernel_rfl) hi (by kernel_rfl) e9
  have e1 := (hh.of_base 9 (by kernel_rfl)).trans h.t9
  have c0 := h.c0 w hh.gr
  have c1 := h.c1 w hh.gr
  have cA := h.cA w hh.gr
  have cz := h.cz w hh.gr
  have wA := h.wA
  have kp := h.kp
  have km := h.km
  have mq := h.mq
  have wz := h.wz
  have kp2 : 0 < k := by omega
  exact st_val hi hw _ (run_move (op_of (op := .move (.tmp 9)) (by kernel_rfl) hi) (eval_at e1)) rfl hh.gr (Below.refl _ _)
set_option maxRecDepth 100000 in
theorem rb_22 {o : Oper} {a : Act} {w : World} (h : H16p x0 y0 A T st z k m q c g gB g5 W1 a0) (hi : r16[22]? = some o) (hh : Here r16 (Said (rbTab x0 y0 A T st z k m q c g gB g5)) (Since W1) a0 22 o a w) :
    wpOp Try.prog r16 Q 22 (fun a' w' => ∃ v, a' = a.put o.dst v ∧ Said (rbTab x0 y0 A T st z k m q c g gB g5) 22 v w' ∧ Since W1 w' ∧ Then w w') a w := by
  obtain ⟨v9, e9, hp9⟩ := hh.of_dep hi 17 71 (by kernel_rfl)
  have hp9 : v9 = .bool true := hp9
  subst hp9
  have hw := want_undef (P := Try.prog) (ops := r16) (i := 22) (j := 17) (t := 71) (b := true) (by kernel_rfl) hi (by kernel_rfl) e9
  obtain ⟨v1, e1, hp1⟩ := hh.of_dep hi 21 75 (by kernel_rfl)
  have hp1 : v1 = .int .i64 (k : Int) := hp1
  subst hp1
  have c0 := h.c0 w hh.gr
  have c1 := h.c1 w hh.gr
  have cA := h.cA w hh.gr
  have cz := h.cz w hh.gr
  have wA := h.wA
  have kp := h.kp
  have km := h.km
  have mq := h.mq
  have wz := h.wz
  have kp2 : 0 < k := by omega
  exact st_val hi hw _ (run_bin (op_of (op := .binOp .sub 3 (.tmp 75) (.const (.int .i64 1)) 3) (by kernel_rfl) hi) (eval_at e1) rfl (by go_simp) (by go_simp)) rfl hh.gr (Below.refl _ _)
set_option maxRecDepth 100000 in
theorem rb_23 {o : Oper} {a : Act} {w : World} (h : H16p x0 y0 A T st z k m q c g gB g5 W1 a0) (hi : r16[23]? = some o) (hh : Here r16 (Said (rbTab x0 y0 A T st z k m q c g gB g5)) (Since W1) a0 23 o a w) :
    wpOp Try.prog r16 Q 23 (fun a' w' => ∃ v, a' = a.put o.dst v ∧ Said (rbTab x0 y0 A T st z k m q c g gB g5) 23 v w' ∧ Since W1 w' ∧ Then w w') a w := by
  obtain ⟨v9, e9, hp9⟩ := hh.of_dep hi 17 71 (by kernel_rfl)
  have hp9 : v9 = .bool true := hp9
  subst hp9
  have hw := want_undef (P := Try.prog) (ops := r16) (i := 23) (j := 17) (t := 71) (b := true) (by kernel_rfl) hi (by kernel_rfl) e9
  obtain ⟨v1, e1, hp1⟩ := hh.of_dep hi 20 74 (by kernel_rfl)
  have hp1 : v1 = .slice (some ⟨g, 0, none⟩) q c := hp1
  subst hp1
  obtain ⟨v2, e2, hp2⟩ := hh.of_dep hi 22 76 (by kernel_rfl)
  have hp2 : v2 = .int .i64 (m : Int) := hp2
  subst hp2
  have c0 := h.c0 w hh.gr
  have c1 := h.c1 w hh.gr
  have cA := h.cA w hh.gr
  have cz := h.cz w hh.gr
  have wA := h.wA
  have kp := h.kp
  have km := h.km
  have mq := h.mq
  have wz := h.wz
  have kp2 : 0 < k := by omega
  exact st_val hi hw _ (run_indexAddr (op_of (op := .indexAddr 32 (.tmp 74) (.tmp 76)) (by kernel_rfl) hi) (eval_at e1) (eval_at e2) (by go_simp)) rfl hh.gr (Below.refl _ _)
set_option maxRecDepth 100000 in
theorem rb_24 {o : Oper} {a : Act} {w : World} (h : H16p x0 y0 A T st z k m q c g gB g5 W1 a0) (hi : r16[24]? = some o) (hh : Here r16 (Said (rbTab x0 y0 A T st z k m q c g gB g5)) (Since W1) a0 24 o a w) :
    wpOp Try.prog r16 Q 24 (fun a' w' => ∃ v, a' = a.put o.dst v ∧ Said (rbTab x0 y0 A T st z k m q c g gB g5) 24 v w' ∧ Since W1 w' ∧ Then w w') a w := by
  obtain ⟨v9, e9, hp9⟩ := hh.of_dep hi 17 71 (by kernel_rfl)
  have hp9 : v9 = .bool true := hp9
  subst hp9
  have hw := want_undef (P := Try.prog) (ops := r16) (i := 24) (j := 17) (t := 71) (b := true) (by kernel_rfl) hi (by kernel_rfl) e9
  obtain ⟨v1, e1, hp1⟩ := hh.of_dep hi 23 77 (by kernel_rfl)
  have hp1 : v1 = .pointer (some ⟨g, m * 2, none⟩) := hp1
  subst hp1
  have c0 := h.c0 w hh.gr
  have c1 := h.c1 w hh.gr
  have cA := h.cA w hh.gr
  have cz := h.cz w hh.gr
  have wA := h.wA
  have kp := h.kp
  have km := h.km
  have mq := h.mq
  have wz := h.wz
  have kp2 : 0 < k := by omega
  exact st_val hi hw _ (run_indexAddr (op_of (op := .indexAddr 34 (.tmp 77) (.const (.int .i64 0))) (by kernel_rfl) hi) (eval_at e1) rfl (by go_simp)) rfl hh.gr (Below.refl _ _)
set_option maxRecDepth 100000 in
theorem rb_25 {o : Oper} {a : Act} {w : World} (h : H16p x0 y0 A T st z k m q c g gB g5 W1 a0) (hi : r16[25]? = some o) (hh : Here r16 (Said (rbTab x0 y0 A T st z k m q c g gB g5)) (Since W1) a0 25 o a w) :
    wpOp Try.prog r16 Q 25 (fun a' w' => ∃ v, a' = a.put o.dst v ∧ Said (rbTab x0 y0 A T st z k m q c g gB g5) 25 v w' ∧ Since W1 w' ∧ Then w w') a w := by
  obtain ⟨v9, e9, hp9⟩ := hh.of_dep hi 17 71 (by kernel_rfl)
  have hp9 : v9 = .bool true := hp9
  subst hp9
  have hw := want_undef (P := Try.prog) (ops := r16) (i := 25) (j := 17) (t := 71) (b := true) (by kernel_rfl) hi (by kernel_rfl) e9
  obtain ⟨v1, e1, hp1⟩ := hh.of_dep hi 24 78 (by kernel_rfl)
  have hp1 : v1 = .pointer (some ⟨g, m * 2, none⟩) := hp1
  subst hp1
  have c0 := h.c0 w hh.gr
  have c1 := h.c1 w hh.gr
  have cA := h.cA w hh.gr
  have cz := h.cz w hh.gr
  have wA := h.wA
  have kp := h.kp
  have km := h.km
  have mq := h.mq
  have wz := h.wz
  have kp2 : 0 < k := by omega
  exact st_val hi hw _ (run_loadOp (op_of (op := .load 2 (.tmp 78)) (by kernel_rfl) hi) (eval_at e1) (by go_simp)) rfl hh.gr (Below.refl _ _)
set_option maxRecDepth 100000 in
theorem rb_26 {o : Oper} {a : Act} {w : World} (h : H16p x0 y0 A T st z k m q c g gB g5 W1 a0) (hi : r16[26]? = some o) (hh : Here r16 (Said (rbTab x0 y0 A T st z k m q c g gB g5)) (Since W1) a0 26 o a w) :
    wpOp Try.prog r16 Q 26 (fun a' w' => ∃ v, a' = a.put o.dst v ∧ Said (rbTab x0 y0 A T st z k m q c g gB g5) 26 v w' ∧ Since W1 w' ∧ Then w w') a w := by
  obtain ⟨v9, e9, hp9⟩ := hh.of_dep hi 17 71 (by kernel_rfl)
  have hp9 : v9 = .bool true := hp9
  subst hp9
  have hw := want_undef (P := Try.prog) (ops := r16) (i := 26) (j := 17) (t := 71) (b := true) (by kernel_rfl) hi (by kernel_rfl) e9
  have e1 := (hh.of_base 7 (by kernel_rfl)).trans h.t7
  have c0 := h.c0 w hh.gr
  have c1 := h.c1 w hh.gr
  have cA := h.cA w hh.gr
  have cz := h.cz w hh.gr
  have wA := h.wA
  have kp := h.kp
  have km := h.km
  have mq := h.mq
  have wz := h.wz
  have kp2 : 0 < k := by omega
  exact st_val hi hw _ (run_move (op_of (op := .move (.tmp 7)) (by kernel_rfl) hi) (eval_at e1)) rfl hh.gr (Below.refl _ _)
set_option maxRecDepth 100000 in
theorem rb_27 {o : Oper} {a : Act} {w : World} (h : H16p x0 y0 A T st z k m q c g gB g5 W1 a0) (hi : r16[27]? = some o) (hh : Here r16 (Said (rbTab x0 y0 A T st z k m q c g gB g5)) (Since W1) a0 27 o a w) :
    wpOp Try.prog r16 Q 27 (fun a' w' => ∃ v, a' = a.put o.dst v ∧ Said (rbTab x0 y0 A T st z k m q c g gB g5) 27 v w' ∧ Since W1 w' ∧ Then w w') a w := by
  obtain ⟨v9, e9, hp9⟩ := hh.of_dep hi 17 71 (by kernel_rfl)
  have hp9 : v9 = .bool true := hp9
  subst hp9
  have hw := want_undef (P := Try.prog) (ops := r16) (i := 27) (j := 17) (t := 71) (b := true) (by kernel_rfl) hi (by kernel_rfl) e9
  obtain ⟨v1, e1, hp1⟩ := hh.of_dep hi 25 79 (by kernel_rfl)
  have hp1 : v1 = .int .i64 z := hp1
  subst hp1
  obtain ⟨v2, e2, hp2⟩ := hh.of_dep hi 26 80 (by kernel_rfl)
  have hp2 : v2 = .int .i64 st := hp2
  subst hp2
  have c0 := h.c0 w hh.gr
  have c1 := h.c1 w hh.gr
  have cA := h.cA w hh.gr
  have cz := h.cz w hh.gr
  have wA := h.wA
  have kp := h.kp
  have km := h.km
  have mq := h.mq
  have wz := h.wz
  have kp2 : 0 < k := by omega
  exact st_val hi hw _ (run_bin (op_of (op := .binOp .add 2 (.tmp 79) (.tmp 80) 2) (by kernel_rfl) hi) (eval_at e1) (eval_at e2) (by go_simp) (by go_simp)) rfl hh.gr (Below.refl _ _)
set_option maxRecDepth 100000 in
theorem rb_28 {o : Oper} {a : Act} {w : World} (h : H16p x0 y0 A T st z k m q c g gB g5 W1 a0) (hi : r16[28]? = some o) (hh : Here r16 (Said (rbTab x0 y0 A T st z k m q c g gB g5)) (Since W1) a0 28 o a w) :
    wpOp Try.prog r16 Q 28 (fun a' w' => ∃ v, a' = a.put o.dst v ∧ Said (rbTab x0 y0 A T st z k m q c g gB g5) 28 v w' ∧ Since W1 w' ∧ Then w w') a w := by
  obtain ⟨v9, e9, hp9⟩ := hh.of_dep hi 17 71 (by kernel_rfl)
  have hp9 : v9 = .bool true := hp9
  subst hp9
  have hw := want_undef (P := Try.prog) (ops := r16) (i := 28) (j := 17) (t := 71) (b := true) (by kernel_rfl) hi (by kernel_rfl) e9
  obtain ⟨v1, e1, hp1⟩ := hh.of_dep hi 19 73 (by kernel_rfl)
  have hp1 : v1 = .int .i64 x0 := hp1
  subst hp1
  obtain ⟨v2, e2, hp2⟩ := hh.of_dep hi 27 81 (by kernel_rfl)
  have hp2 : v2 = .int .i64 x0 := hp2
  subst hp2
  have c0 := h.c0 w hh.gr
  have c1 := h.c1 w hh.gr
  have cA := h.cA w hh.gr
  have cz := h.cz w hh.gr
  have wA := h.wA
  have kp := h.kp
  have km := h.km
  have mq := h.mq
  have wz := h.wz
  have kp2 : 0 < k := by omega
  exact st_val hi hw _ (run_bin (op_of (op := .binOp .neq 2 (.tmp 73) (.tmp 81) 2) (by kernel_rfl) hi) (eval_at e1) (eval_at e2) (by go_simp) (by go_simp)) rfl hh.gr (Below.refl _ _)
set_option maxRecDepth 100000 in
theorem rb_29 {o : Oper} {a : Act} {w : World} (h : H16p x0 y0 A T st z k m q c g gB g5 W1 a0) (hi : r16[29]? = some o) (hh : Here r16 (Said (rbTab x0 y0 A T st z k m q c g gB g5)) (Since W1) a0 29 o a w) :
    wpOp Try.prog r16 Q 29 (fun a' w' => ∃ v, a' = a.put o.dst v ∧ Said (rbTab x0 y0 A T st z k m q c g gB g5) 29 v w' ∧ Since W1 w' ∧ Then w w') a w := by
  obtain ⟨v9, e9, hp9⟩ := hh.of_dep hi 14 68 (by kernel_rfl)
  have hp9 : v9 = .bool false := hp9
  subst hp9
  have hw := want_undef (P := Try.prog) (ops := r16) (i := 29) (j := 14) (t := 68) (b := false) (by kernel_rfl) hi (by kernel_rfl) e9
  obtain ⟨v1, e1, hp1⟩ := hh.of_dep hi 17 71 (by kernel_rfl)
  have hp1 : v1 = .bool true := hp1
  subst hp1
  obtain ⟨v2, e2, hp2⟩ := hh.of_dep hi 28 82 (by kernel_rfl)
  have hp2 : v2 = .bool false := hp2
  subst hp2
  have c0 := h.c0 w hh.gr
  have c1 := h.c1 w hh.gr
  have cA := h.cA w hh.gr
  have cz := h.cz w hh.gr
  have wA := h.wA
  have kp := h.kp
  have km := h.km
  have mq := h.mq
  have wz := h.wz
  have kp2 : 0 < k := by omega
  exact st_val hi hw _ (run_pick (op_of (op := .pick (.tmp 71) (.tmp 82) (.const (.bool false))) (by kernel_rfl) hi) (eval_at e1) (eval_at e2) rfl) rfl hh.gr (Below.refl _ _)
set_option maxRecDepth 100000 in
theorem rb_30 {o : Oper} {a : Act} {w : World} (h : H16p x0 y0 A T st z k m q c g gB g5 W1 a0) (hi : r16[30]? = some o) (hh : Here r16 (Said (rbTab x0 y0 A T st z k m q c g gB g5)) (Since W1) a0 30 o a w) :
    wpOp Try.prog r16 Q 30 (fun a' w' => ∃ v, a' = a.put o.dst v ∧ Said (rbTab x0 y0 A T st z k m q c g gB g5) 30 v w' ∧ Since W1 w' ∧ Then w w') a w := by
  have hw := want_none (ops := r16) (a := a) (i := 30) (by kernel_rfl) hi
  obtain ⟨v1, e1, hp1⟩ := hh.of_dep hi 14 68 (by kernel_rfl)
  have hp1 : v1 = .bool false := hp1
  subst hp1
  obtain ⟨v2, e2, hp2⟩ := hh.of_dep hi 29 83 (by kernel_rfl)
  have hp2 : v2 = .bool false := hp2
  subst hp2
  have c0 := h.c0 w hh.gr
  have c1 := h.c1 w hh.gr
  have cA := h.cA w hh.gr
  have cz := h.cz w hh.gr
  have wA := h.wA
  have kp := h.kp
  have km := h.km
  have mq := h.mq
  have wz := h.wz
  have kp2 : 0 < k := by omega
  exact st_val hi hw _ (run_pick (op_of (op := .pick (.tmp 68) (.const (.bool true)) (.tmp 83)) (by kernel_rfl) hi) (eval_at e1) rfl (eval_at e2)) rfl hh.gr (Below.refl _ _)
theorem rb_steps (h : H16p x0 y0 A T st z k m q c g gB g5 W1 a0) : ∀ (i : Nat) (o : Oper) (a : Act) (w : World), r16[i]? = some o → Here r16 (Said (rbTab x0 y0 A T st z k m q c g gB g5)) (Since W1) a0 i o a w →
    wpOp Try.prog r16 Q i (fun a' w' => ∃ v, a' = a.put o.dst v ∧ Said (rbTab x0 y0 A T st z k m q c g gB g5) i v w' ∧ Since W1 w' ∧ Then w w') a w := by
  intro i o a w hi hh
  match i, hi, hh with
  | 0, hi, hh => exact rb_0 h hi hh
  | 1, hi, hh => exact rb_1 h hi hh
  | 2, hi, hh => exact rb_2 h hi hh
  | 3, hi, hh => exact rb_3 h hi hh
  | 4, hi, hh => exact rb_4 h hi hh
  | 5, hi, hh => exact rb_5 h hi hh
  | 6, hi, hh => exact rb_6 h hi hh
  | 7, hi, hh => exact rb_7 h hi hh
  | 8, hi, hh => exact rb_8 h hi hh
  | 9, hi, hh => exact rb_9 h hi hh
  | 10, hi, hh => exact rb_10 h hi hh
  | 11, hi, hh => exact rb_11 h hi hh
  | 12, hi, hh => exact rb_12 h hi hh
  | 13, hi, hh => exact rb_13 h hi hh
  | 14, hi, hh => exact rb_14 h hi hh
  | 15, hi, hh => exact rb_15 h hi hh
  | 16, hi, hh => exact rb_16 h hi hh
  | 17, hi, hh => exact rb_17 h hi hh
  | 18, hi, hh => exact rb_18 h hi hh
  | 19, hi, hh => exact rb_19 h hi hh
  | 20, hi, hh => exact rb_20 h hi hh
  | 21, hi, hh => exact rb_21 h hi hh
  | 22, hi, hh => exact rb_22 h hi hh
  | 23, hi, hh => exact rb_23 h hi hh
  | 24, hi, hh => exact rb_24 h hi hh
  | 25, hi, hh => exact rb_25 h hi hh
  | 26, hi, hh => exact rb_26 h hi hh
  | 27, hi, hh => exact rb_27 h hi hh
  | 28, hi, hh => exact rb_28 h hi hh
  | 29, hi, hh => exact rb_29 h hi hh
  | 30, hi, hh => exact rb_30 h hi hh
  | n + 31, hi, _ =>
    exfalso
    have h1 := (Array.getElem?_eq_some_iff.1 hi).1
    have h2 : r16.size = 31 := by kernel_rfl
    omega
theorem rb_mono (i : Nat) (v : Value) (w w' : World) (h : Said (rbTab x0 y0 A T st z k m q c g gB g5) i v w) (_ : Then w w') : Said (rbTab x0 y0 A T st z k m q c g gB g5) i v w' := by
  unfold Said at *
  split at h
  · exact h
  · rename_i f hf
    unfold rbTab at hf
    split at hf <;> cases hf
end
end Go.Proofs.Yteiedknpmlemkaa
