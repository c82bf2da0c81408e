/-
  Regions that draw their order, by predicates: the kinds of steps.
-/
import Derived.Test.YtpfeaekankkpiaaGreatDoorEvO
namespace Go.Ev
open Go

def regs : Code → List (Nat × Array Oper)
  | .region id ops _ => [(id, ops)]
  | .seq a b => regs a ++ regs b
  | .cond _ a b => regs a ++ regs b
  | .block _ c => regs c
  | .loop c => regs c
  | _ => []
def regAt (f : Func) (id : Nat) : Array Oper := match f.body with
  | some c => (((regs c).find? (fun p => p.1 == id)).map (fun p => p.2)).getD #[]
  | none => #[]
def depOk (ops : Array Oper) (i j t : Nat) : Bool := match ops[i]?, ops[j]? with
  | some o, some oj => oj.dst == some t && o.after.toList.any (fun e => Region.binds .any e && e.on == j)
  | _, _ => false
def baseOk (ops : Array Oper) (t : Nat) : Bool := ops.toList.all fun o => !(o.dst == some t)

section
variable {P : Program} {ops : Array Oper} {Q : Exit → Act → World → Prop} {Φ : Nat → Value → World → Prop} {Gr : World → Prop} {Ext : World → World → Prop} {a0 : Act}
variable {i : Nat} {o : Oper} {a : Act} {w : World}

theorem Here.of_dep (h : Here ops Φ Gr a0 i o a w) (hi : ops[i]? = some o) (j t : Nat) (hd : depOk ops i j t = true) : ∃ v, a.tmps[t]? = some v ∧ Φ j v w := by
  unfold depOk at hd
  rw [hi] at hd
  split at hd
  · rename_i o' oj e1 e2
    cases e1
    rw [Bool.and_eq_true, List.any_eq_true] at hd
    obtain ⟨h1, e, he, hb⟩ := hd
    rw [Bool.and_eq_true] at hb
    have := beq_iff_eq.1 hb.2
    subst this
    exact h.dep e he hb.1 oj t e2 (beq_iff_eq.1 h1)
  · simp at hd
theorem Here.of_base (h : Here ops Φ Gr a0 i o a w) (t : Nat) (hb : baseOk ops t = true) : a.tmps[t]? = a0.tmps[t]? := by
  refine h.base t fun k ok hk hd => ?_
  have := List.all_eq_true.1 hb ok (List.mem_of_getElem? (i := k) (by rw [Array.getElem?_toList]; exact hk))
  rw [hd] at this
  simp at this
theorem eval_at {t : Nat} {v : Value} (h : a.tmps[t]? = some v) : a.eval (.tmp t) = v := by
  simp [Act.eval, h]
theorem want_none (hg : (ops[i]?).map (fun o => o.guard) = some none) (hi : ops[i]? = some o) : Region.wanted o (yielded ops a.tmps) = true := by
  rw [hi] at hg
  simp at hg
  simp [Region.wanted, hg]
theorem want_true {j t : Nat} (hg : (ops[i]?).map (fun o => o.guard) = some (some (j, true))) (hi : ops[i]? = some o) (hj : (ops[j]?).bind (fun o => o.dst) = some t) (hv : a.tmps[t]? = some (.bool true)) : Region.wanted o (yielded ops a.tmps) = true := by
  rw [hi] at hg
  simp at hg
  simp [Region.wanted, hg, yielded, hj, hv]
theorem op_of {op : Op} (hop : (ops[i]?).map (fun o => o.op) = some op) (hi : ops[i]? = some o) : o.op = op := by
  rw [hi] at hop
  simpa using hop

theorem st_val (hi : ops[i]? = some o) (hw : Region.wanted o (yielded ops a.tmps) = true) (v : Value) (hrun : (execOp a.eval o).run P w = .ok (.value v) w) (hp : Φ i v w) (hg : Gr w) (hx : Ext w w) :
    wpOp P ops Q i (fun a' w' => ∃ v, a' = a.put o.dst v ∧ Φ i v w' ∧ Gr w' ∧ Ext w w') a w := by
  unfold wpOp
  rw [hi]
  simp only [hw, if_true]
  left
  unfold Oper.wp
  rw [hrun]
  exact ⟨v, rfl, hp, hg, hx⟩
theorem st_call (hi : ops[i]? = some o) (hw : Region.wanted o (yielded ops a.tmps) = true) (f : FuncId) (args : Array Value) (hrun : (execOp a.eval o).run P w = .ok (.enter f args) w)
    (hc : Calls P f args w fun e w' => ∃ v, e = .returned v ∧ Φ i v w' ∧ Gr w' ∧ Ext w w') :
    wpOp P ops Q i (fun a' w' => ∃ v, a' = a.put o.dst v ∧ Φ i v w' ∧ Gr w' ∧ Ext w w') a w := by
  unfold wpOp
  rw [hi]
  simp only [hw, if_true]
  left
  unfold Oper.wp
  rw [hrun]
  refine hc.mono ?_
  rintro e w' ⟨v, rfl, h1, h2, h3⟩
  exact ⟨v, rfl, h1, h2, h3⟩
theorem run_move {x : Operand} {v : Value} (hop : o.op = .move x) (hx : a.eval x = v) : (execOp a.eval o).run P w = .ok (.value v) w := by
  simp [execOp, hop, hx]
theorem run_assign {x : Operand} {v : Value} (hop : o.op = .assign x) (hx : a.eval x = v) : (execOp a.eval o).run P w = .ok (.value v) w := by
  simp [execOp, hop, hx]
theorem run_pick {c x y : Operand} {b : Bool} {v u : Value} (hop : o.op = .pick c x y) (hc : a.eval c = .bool b) (hx : a.eval x = v) (hy : a.eval y = u) : (execOp a.eval o).run P w = .ok (.value (if b then v else u)) w := by
  simp [execOp, hop, hc, hx, hy, asBool]
theorem run_conv {s d : TypeId} {x : Operand} {v u : Value} (hop : o.op = .convert s d x) (hx : a.eval x = v) (h : (convert s d v).run P w = .ok u w) : (execOp a.eval o).run P w = .ok (.value u) w := by
  simp [execOp, hop, hx, h, Result.andThen]
theorem run_bin {b : BinOp} {t u : TypeId} {x y : Operand} {p q v : Value} (hop : o.op = .binOp b t x y u) (hx : a.eval x = p) (hy : a.eval y = q) (hg : (eqGuard b t x y p q).run P w = .ok () w) (h : (binOp b t p q).run P w = .ok v w) : (execOp a.eval o).run P w = .ok (.value v) w := by
  simp [execOp, hop, hx, hy, hg, h, Result.andThen]
end
end Go.Ev
