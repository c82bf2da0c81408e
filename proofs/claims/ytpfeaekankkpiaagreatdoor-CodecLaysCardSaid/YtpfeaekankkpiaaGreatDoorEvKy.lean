/-
  CodecLays' region 1: the bytes are cut, the message is made small, and stored over its own box (printed by wip/tools/mkc1.py).
-/
import Derived.Test.YtpfeaekankkpiaaGreatDoorEvKx
import Derived.Laws.Tables
namespace Go.Proofs.YtpfeaekankkpiaaGreatDoor
open Go Go.RowKit Go.Lib Go.Ev

/-- A slot that one operation of the region writes, which waits for operation i. -/
def baseAt (ops : Array Oper) (i t : Nat) : Bool := (List.range ops.size).all fun k => match ops[k]? with
  | some o => !(o.dst == some t) || k == i || o.after.toList.any fun e => Region.binds .any e && e.on == i
  | none => true
theorem Here.of_at {ops : Array Oper} {Φ : Nat → Value → World → Prop} {Gr : World → Prop} {a0 a : Act} {i : Nat} {o : Oper} {w : World} (h : Here ops Φ Gr a0 i o a w) (t : Nat) (hb : baseAt ops i t = true) : a.tmps[t]? = a0.tmps[t]? := by
  refine h.base t fun k ok hk hd => ?_
  have := List.all_eq_true.1 hb k (List.mem_range.2 (Array.getElem?_eq_some_iff.1 hk).1)
  rw [hk] at this
  simp only [hd, beq_self_eq_true, Bool.not_true, Bool.false_or, Bool.or_eq_true, beq_iff_eq] at this
  rcases this with h1 | h1
  · exact .inl h1
  · obtain ⟨e, he, h2⟩ := List.any_eq_true.1 h1
    rw [Bool.and_eq_true] at h2
    exact .inr ⟨e, he, h2.1, beq_iff_eq.1 h2.2⟩
theorem run_bi {P : Program} {o : Oper} {a : Act} {w : World} {b : Builtin} {args : Array Operand} {ts : Array TypeId} {vs : Array Value} {v : Value} (hop : o.op = .call { callee := .builtin b, args := args, argTypes := ts }) (hx : args.map a.eval = vs)
    (h : ∀ ty cs, (builtin b ts ty cs vs).run P w = .ok (.value v) w) : (execOp a.eval o).run P w = .ok (.value v) w := by
  subst hx
  simp only [execOp, hop, resolve, invoke, Sem.run_bind, Sem.run_pure, Result.andThen_ok, h]
theorem run_sl {P : Program} {o : Oper} {a : Act} {w : World} {s : TypeId} {x h' : Operand} {p u v : Value} (hop : o.op = .slice s x none (some h') none) (hx : a.eval x = p) (hy : a.eval h' = u) (h : (Instr.sliceAt s p none (some u) none).run P w = .ok v w) : (execOp a.eval o).run P w = .ok (.value v) w := by
  simp [execOp, hop, hx, hy, h, Result.andThen]

noncomputable def c1Ops : Array Oper := regAt Tryz.f3 1
structure H1 (A : Option Addr) (n y c0 : Nat) (m : MsgD) (Ab : Option Addr) (cb : Nat) (Ae : Option Addr) (ce nb ne mb me gM : Nat) (W1 : World) (a0 : Act) : Prop where
  t0 : a0.tmps[0]? = some (.slice A n c0)
  t4 : a0.tmps[4]? = some (.pointer (some ⟨gM, 0, none⟩))
  M : ∀ w, Since W1 w → w.heap[gM]? = some (.cells #[.int .i64 m.kind, .int .i64 m.ver, .int .u32 (m.rc.key : Nat), .int .i64 m.rc.time, .int .i64 m.rc.val, .int .u8 (m.rc.side : Nat), .bool m.rc.err, .bool m.rc.late, .int .i64 m.time, .int .i64 m.num, .int .i64 m.cmd.kind, .int .i64 m.cmd.at_, .slice Ab nb cb, .int .i64 m.cmd.dst, .int .i64 m.cmd.node, .int .i64 m.cmd.op.kind, .int .i64 m.cmd.op.a, .int .i64 m.cmd.op.b, .int .i64 m.cmd.op.agg, .int .i64 m.cmd.mode, .int .i64 m.chunk.bin, .int .i64 m.chunk.span, .bool m.chunk.last, .slice Ae ne ce] 35 (0, 0))
  wy : (if (50 : Int) < (n : Int) then (50 : Int) else (n : Int)) = (y : Int)
  yc : y ≤ c0
  b1 : min nb 12 = mb
  b2 : min ne 70 = me
  k1 : nb ≤ cb
  k2 : ne ≤ ce
noncomputable def c1Tab (A : Option Addr) (n y c0 : Nat) (m : MsgD) (Ab : Option Addr) (cb : Nat) (Ae : Option Addr) (ce nb ne mb me gM : Nat) (i : Nat) : Value ⊕ (Value → World → Prop) := match i with
  | 0 => .inl (.slice A n c0)
  | 1 => .inl (.slice A n c0)
  | 2 => .inl (.int .i64 (n : Int))
  | 3 => .inl (.int .i64 (y : Int))
  | 4 => .inl (.slice A y c0)
  | 5 => .inl (.agg #[.int .i64 m.kind, .int .i64 m.ver, .int .u32 (m.rc.key : Nat), .int .i64 m.rc.time, .int .i64 m.rc.val, .int .u8 (m.rc.side : Nat), .bool m.rc.err, .bool m.rc.late, .int .i64 m.time, .int .i64 m.num, .int .i64 m.cmd.kind, .int .i64 m.cmd.at_, .slice Ab nb cb, .int .i64 m.cmd.dst, .int .i64 m.cmd.node, .int .i64 m.cmd.op.kind, .int .i64 m.cmd.op.a, .int .i64 m.cmd.op.b, .int .i64 m.cmd.op.agg, .int .i64 m.cmd.mode, .int .i64 m.chunk.bin, .int .i64 m.chunk.span, .bool m.chunk.last, .slice Ae ne ce])
  | 6 => .inl (.agg #[.int .i64 m.kind, .int .i64 m.ver, .int .u32 (m.rc.key : Nat), .int .i64 m.rc.time, .int .i64 m.rc.val, .int .u8 (m.rc.side : Nat), .bool m.rc.err, .bool m.rc.late, .int .i64 m.time, .int .i64 m.num, .int .i64 m.cmd.kind, .int .i64 m.cmd.at_, .slice Ab mb cb, .int .i64 m.cmd.dst, .int .i64 m.cmd.node, .int .i64 m.cmd.op.kind, .int .i64 m.cmd.op.a, .int .i64 m.cmd.op.b, .int .i64 m.cmd.op.agg, .int .i64 m.cmd.mode, .int .i64 m.chunk.bin, .int .i64 m.chunk.span, .bool m.chunk.last, .slice Ae me ce])
  | 7 => .inl (.slice A y c0)
  | _ => .inl undef
section
variable {A : Option Addr} {n y c0 : Nat} {m : MsgD} {Ab : Option Addr} {cb : Nat} {Ae : Option Addr} {ce nb ne mb me gM : Nat} {W1 : World} {a0 : Act} {Q : Exit → Act → World → Prop}
set_option maxRecDepth 100000 in
theorem c1_0 {o : Oper} {a : Act} {w : World} (h : H1 A n y c0 m Ab cb Ae ce nb ne mb me gM W1 a0) (hi : c1Ops[0]? = some o) (hh : Here c1Ops (Said (c1Tab A n y c0 m Ab cb Ae ce nb ne mb me gM)) (Since W1) a0 0 o a w) :
    wpOp Tryz.prog c1Ops Q 0 (fun a' w' => ∃ v, a' = a.put o.dst v ∧ Said (c1Tab A n y c0 m Ab cb Ae ce nb ne mb me gM) 0 v w' ∧ Since W1 w' ∧ Then w w') a w := by
  have hw := want_none (ops := c1Ops) (a := a) (i := 0) (by kernel_rfl) hi
  have e1 := (Here.of_at hh 0 (by kernel_rfl)).trans h.t0
  exact st_val hi hw _ (run_move (op_of (op := .move (.tmp 0)) (by kernel_rfl) hi) (eval_at e1)) rfl hh.gr (Below.refl _ _)
set_option maxRecDepth 100000 in
theorem c1_1 {o : Oper} {a : Act} {w : World} (h : H1 A n y c0 m Ab cb Ae ce nb ne mb me gM W1 a0) (hi : c1Ops[1]? = some o) (hh : Here c1Ops (Said (c1Tab A n y c0 m Ab cb Ae ce nb ne mb me gM)) (Since W1) a0 1 o a w) :
    wpOp Tryz.prog c1Ops Q 1 (fun a' w' => ∃ v, a' = a.put o.dst v ∧ Said (c1Tab A n y c0 m Ab cb Ae ce nb ne mb me gM) 1 v w' ∧ Since W1 w' ∧ Then w w') a w := by
  have hw := want_none (ops := c1Ops) (a := a) (i := 1) (by kernel_rfl) hi
  have e1 := (Here.of_at hh 0 (by kernel_rfl)).trans h.t0
  exact st_val hi hw _ (run_move (op_of (op := .move (.tmp 0)) (by kernel_rfl) hi) (eval_at e1)) rfl hh.gr (Below.refl _ _)
set_option maxRecDepth 100000 in
theorem c1_2 {o : Oper} {a : Act} {w : World} (h : H1 A n y c0 m Ab cb Ae ce nb ne mb me gM W1 a0) (hi : c1Ops[2]? = some o) (hh : Here c1Ops (Said (c1Tab A n y c0 m Ab cb Ae ce nb ne mb me gM)) (Since W1) a0 2 o a w) :
    wpOp Tryz.prog c1Ops Q 2 (fun a' w' => ∃ v, a' = a.put o.dst v ∧ Said (c1Tab A n y c0 m Ab cb Ae ce nb ne mb me gM) 2 v w' ∧ Since W1 w' ∧ Then w w') a w := by
  have hw := want_none (ops := c1Ops) (a := a) (i := 2) (by kernel_rfl) hi
  obtain ⟨v1, e1, hp1⟩ := hh.of_dep hi 1 11 (by kernel_rfl)
  have hp1 : v1 = .slice A n c0 := hp1
  subst hp1
  exact st_val hi hw _ (run_len (op_of (op := .call { callee := .builtin .len, args := #[.tmp 11], argTypes := #[22] }) (by kernel_rfl) hi) (eval_at e1) (by go_simp)) rfl hh.gr (Below.refl _ _)
set_option maxRecDepth 100000 in
theorem c1_3 {o : Oper} {a : Act} {w : World} (h : H1 A n y c0 m Ab cb Ae ce nb ne mb me gM W1 a0) (hi : c1Ops[3]? = some o) (hh : Here c1Ops (Said (c1Tab A n y c0 m Ab cb Ae ce nb ne mb me gM)) (Since W1) a0 3 o a w) :
    wpOp Tryz.prog c1Ops Q 3 (fun a' w' => ∃ v, a' = a.put o.dst v ∧ Said (c1Tab A n y c0 m Ab cb Ae ce nb ne mb me gM) 3 v w' ∧ Since W1 w' ∧ Then w w') a w := by
  have hw := want_none (ops := c1Ops) (a := a) (i := 3) (by kernel_rfl) hi
  obtain ⟨v1, e1, hp1⟩ := hh.of_dep hi 2 12 (by kernel_rfl)
  have hp1 : v1 = .int .i64 (n : Int) := hp1
  subst hp1
  have wy := h.wy
  exact st_val hi hw _ (run_bi (op_of (op := .call { callee := .builtin .min, args := #[.tmp 12, .const (.int .i64 50)], argTypes := #[3, 3] }) (by kernel_rfl) hi) (vs := #[.int .i64 (n : Int), .int .i64 50]) (by simp [Act.eval, e1]) (fun ty cs => by simp [builtin, Builtin.min_, Builtin.min2, wy])) rfl hh.gr (Below.refl _ _)
set_option maxRecDepth 100000 in
theorem c1_4 {o : Oper} {a : Act} {w : World} (h : H1 A n y c0 m Ab cb Ae ce nb ne mb me gM W1 a0) (hi : c1Ops[4]? = some o) (hh : Here c1Ops (Said (c1Tab A n y c0 m Ab cb Ae ce nb ne mb me gM)) (Since W1) a0 4 o a w) :
    wpOp Tryz.prog c1Ops Q 4 (fun a' w' => ∃ v, a' = a.put o.dst v ∧ Said (c1Tab A n y c0 m Ab cb Ae ce nb ne mb me gM) 4 v w' ∧ Since W1 w' ∧ Then w w') a w := by
  have hw := want_none (ops := c1Ops) (a := a) (i := 4) (by kernel_rfl) hi
  obtain ⟨v1, e1, hp1⟩ := hh.of_dep hi 0 10 (by kernel_rfl)
  have hp1 : v1 = .slice A n c0 := hp1
  subst hp1
  obtain ⟨v2, e2, hp2⟩ := hh.of_dep hi 3 13 (by kernel_rfl)
  have hp2 : v2 = .int .i64 (y : Int) := hp2
  subst hp2
  have i0 : (0 : Int) ≤ (y : Int) := by omega
  have i1 : (y : Int) ≤ (c0 : Int) := by have := h.yc; omega
  exact st_val hi hw _ (run_sl (op_of (op := .slice 22 (.tmp 10) none (some (.tmp 13)) none) (by kernel_rfl) hi) (eval_at e1) (eval_at e2) (by go_simp)) rfl hh.gr (Below.refl _ _)
set_option maxRecDepth 100000 in
theorem c1_5 {o : Oper} {a : Act} {w : World} (h : H1 A n y c0 m Ab cb Ae ce nb ne mb me gM W1 a0) (hi : c1Ops[5]? = some o) (hh : Here c1Ops (Said (c1Tab A n y c0 m Ab cb Ae ce nb ne mb me gM)) (Since W1) a0 5 o a w) :
    wpOp Tryz.prog c1Ops Q 5 (fun a' w' => ∃ v, a' = a.put o.dst v ∧ Said (c1Tab A n y c0 m Ab cb Ae ce nb ne mb me gM) 5 v w' ∧ Since W1 w' ∧ Then w w') a w := by
  have hw := want_none (ops := c1Ops) (a := a) (i := 5) (by kernel_rfl) hi
  have e1 := (hh.of_base 4 (by kernel_rfl)).trans h.t4
  exact st_val hi hw _ (run_loadOp (op_of (op := .load 35 (.tmp 4)) (by kernel_rfl) hi) (eval_at e1) (load_row (h.M w hh.gr) Tryz.underlying35 rfl (by kernel_rfl))) rfl hh.gr (Below.refl _ _)
set_option maxRecDepth 100000 in
theorem c1_6 {o : Oper} {a : Act} {w : World} (h : H1 A n y c0 m Ab cb Ae ce nb ne mb me gM W1 a0) (hi : c1Ops[6]? = some o) (hh : Here c1Ops (Said (c1Tab A n y c0 m Ab cb Ae ce nb ne mb me gM)) (Since W1) a0 6 o a w) :
    wpOp Tryz.prog c1Ops Q 6 (fun a' w' => ∃ v, a' = a.put o.dst v ∧ Said (c1Tab A n y c0 m Ab cb Ae ce nb ne mb me gM) 6 v w' ∧ Since W1 w' ∧ Then w w') a w := by
  have hw := want_none (ops := c1Ops) (a := a) (i := 6) (by kernel_rfl) hi
  obtain ⟨v1, e1, hp1⟩ := hh.of_dep hi 5 15 (by kernel_rfl)
  have hp1 : v1 = .agg #[.int .i64 m.kind, .int .i64 m.ver, .int .u32 (m.rc.key : Nat), .int .i64 m.rc.time, .int .i64 m.rc.val, .int .u8 (m.rc.side : Nat), .bool m.rc.err, .bool m.rc.late, .int .i64 m.time, .int .i64 m.num, .int .i64 m.cmd.kind, .int .i64 m.cmd.at_, .slice Ab nb cb, .int .i64 m.cmd.dst, .int .i64 m.cmd.node, .int .i64 m.cmd.op.kind, .int .i64 m.cmd.op.a, .int .i64 m.cmd.op.b, .int .i64 m.cmd.op.agg, .int .i64 m.cmd.mode, .int .i64 m.chunk.bin, .int .i64 m.chunk.span, .bool m.chunk.last, .slice Ae ne ce] := hp1
  subst hp1
  have hop := op_of (ops := c1Ops) (op := .call { callee := .value (.func 4), args := #[.tmp 15], argTypes := #[35] }) (by kernel_rfl) hi
  exact st_call hi hw 4 _ (by simp [execOp, hop, resolve, invoke, Act.eval, Deferred.ofValue, e1]) ((few_any m Ab Ae cb ce nb ne mb me w h.b1 h.b2 h.k1 h.k2).mono fun e' w' hs => ⟨_, hs.1, rfl, Below.trans hh.gr (hs.2.mono hh.gr.size), hs.2⟩)
set_option maxRecDepth 100000 in
theorem c1_7 {o : Oper} {a : Act} {w : World} (h : H1 A n y c0 m Ab cb Ae ce nb ne mb me gM W1 a0) (hi : c1Ops[7]? = some o) (hh : Here c1Ops (Said (c1Tab A n y c0 m Ab cb Ae ce nb ne mb me gM)) (Since W1) a0 7 o a w) :
    wpOp Tryz.prog c1Ops Q 7 (fun a' w' => ∃ v, a' = a.put o.dst v ∧ Said (c1Tab A n y c0 m Ab cb Ae ce nb ne mb me gM) 7 v w' ∧ Since W1 w' ∧ Then w w') a w := by
  have hw := want_none (ops := c1Ops) (a := a) (i := 7) (by kernel_rfl) hi
  obtain ⟨v1, e1, hp1⟩ := hh.of_dep hi 4 14 (by kernel_rfl)
  have hp1 : v1 = .slice A y c0 := hp1
  subst hp1
  exact st_val hi hw _ (run_assign (op_of (op := .assign (.tmp 14)) (by kernel_rfl) hi) (eval_at e1)) rfl hh.gr (Below.refl _ _)
theorem c1_steps (h : H1 A n y c0 m Ab cb Ae ce nb ne mb me gM W1 a0) : ∀ (i : Nat) (o : Oper) (a : Act) (w : World), i < 8 → c1Ops[i]? = some o → Here c1Ops (Said (c1Tab A n y c0 m Ab cb Ae ce nb ne mb me gM)) (Since W1) a0 i o a w →
    wpOp Tryz.prog c1Ops Q i (fun a' w' => ∃ v, a' = a.put o.dst v ∧ Said (c1Tab A n y c0 m Ab cb Ae ce nb ne mb me gM) i v w' ∧ Since W1 w' ∧ Then w w') a w := by
  intro i o a w hl hi hh
  match i, hl, hi, hh with
  | 0, _, hi, hh => exact c1_0 h hi hh
  | 1, _, hi, hh => exact c1_1 h hi hh
  | 2, _, hi, hh => exact c1_2 h hi hh
  | 3, _, hi, hh => exact c1_3 h hi hh
  | 4, _, hi, hh => exact c1_4 h hi hh
  | 5, _, hi, hh => exact c1_5 h hi hh
  | 6, _, hi, hh => exact c1_6 h hi hh
  | 7, _, hi, hh => exact c1_7 h hi hh
  | k + 8, hl, _, _ => omega
theorem c1_mono (i : Nat) (v : Value) (w w' : World) (h : Said (c1Tab A n y c0 m Ab cb Ae ce nb ne mb me gM) i v w) (_ : Then w w') : Said (c1Tab A n y c0 m Ab cb Ae ce nb ne mb me gM) i v w' := by
  unfold Said at *
  split at h
  · exact h
  · rename_i f hf
    unfold c1Tab at hf
    split at hf <;> cases hf
theorem c1_size : c1Ops.size = 9 := by kernel_rfl
set_option maxRecDepth 100000 in
/-- The region, whole. -/
theorem c1_region {ops : Array Oper} {w0 : World} (h : H1 A n y c0 m Ab cb Ae ce nb ne mb me gM W1 a0) (ho : ops = c1Ops) (hs : a0.tmps.size = 140) (hg : Since W1 w0)
    (hQ : ∀ a w, a.defers = a0.defers → a.tmps.size = 140 → a.tmps[0]? = some (.slice A y c0) → (∀ t, 1 ≤ t → t < 10 ∨ 17 ≤ t → a.tmps[t]? = a0.tmps[t]?) → Since W1 w → Q .normal a (w.setRow gM #[.int .i64 m.kind, .int .i64 m.ver, .int .u32 (m.rc.key : Nat), .int .i64 m.rc.time, .int .i64 m.rc.val, .int .u8 (m.rc.side : Nat), .bool m.rc.err, .bool m.rc.late, .int .i64 m.time, .int .i64 m.num, .int .i64 m.cmd.kind, .int .i64 m.cmd.at_, .slice Ab mb cb, .int .i64 m.cmd.dst, .int .i64 m.cmd.node, .int .i64 m.cmd.op.kind, .int .i64 m.cmd.op.a, .int .i64 m.cmd.op.b, .int .i64 m.cmd.op.agg, .int .i64 m.cmd.mode, .int .i64 m.chunk.bin, .int .i64 m.chunk.span, .bool m.chunk.last, .slice Ae me ce])) :
    (Code.region 1 ops true).wp Tryz.prog Q a0 w0 := by
  refine tab_last (n := 140) (n' := 8) (W := W1) (by kernel_rfl) ho (by kernel_rfl) (by kernel_rfl) hs hg (by kernel_rfl) (by kernel_rfl) c1_mono (c1_steps h) ?_
  intro a w e1 e2 e3 e4 e5
  obtain ⟨ol, hol⟩ : ∃ ol, c1Ops[8]? = some ol := ⟨c1Ops[8]'(by rw [c1_size]; omega), Array.getElem?_eq_getElem _⟩
  have hw := want_none (ops := c1Ops) (a := a) (i := 8) (by kernel_rfl) hol
  have hop := op_of (ops := c1Ops) (op := .store 35 (.tmp 4) (.tmp 16)) (by kernel_rfl) hol
  have hd : ol.dst = none := by
    have h9 : (c1Ops[8]?).map (fun o => o.dst) = some none := by kernel_rfl
    rw [hol] at h9
    simpa using h9
  obtain ⟨o6, ho6⟩ : ∃ o, c1Ops[6]? = some o := ⟨c1Ops[6]'(by rw [c1_size]; omega), Array.getElem?_eq_getElem _⟩
  obtain ⟨o7, ho7⟩ : ∃ o, c1Ops[7]? = some o := ⟨c1Ops[7]'(by rw [c1_size]; omega), Array.getElem?_eq_getElem _⟩
  have d6 : o6.dst = some 16 := by
    have h9 : (c1Ops[6]?).map (fun o => o.dst) = some (some 16) := by kernel_rfl
    rw [ho6] at h9
    simpa using h9
  have d7 : o7.dst = some 0 := by
    have h9 : (c1Ops[7]?).map (fun o => o.dst) = some (some 0) := by kernel_rfl
    rw [ho7] at h9
    simpa using h9
  obtain ⟨v6, f6, p6⟩ := e4 6 o6 16 (by omega) ho6 d6
  have p6 : v6 = .agg #[.int .i64 m.kind, .int .i64 m.ver, .int .u32 (m.rc.key : Nat), .int .i64 m.rc.time, .int .i64 m.rc.val, .int .u8 (m.rc.side : Nat), .bool m.rc.err, .bool m.rc.late, .int .i64 m.time, .int .i64 m.num, .int .i64 m.cmd.kind, .int .i64 m.cmd.at_, .slice Ab mb cb, .int .i64 m.cmd.dst, .int .i64 m.cmd.node, .int .i64 m.cmd.op.kind, .int .i64 m.cmd.op.a, .int .i64 m.cmd.op.b, .int .i64 m.cmd.op.agg, .int .i64 m.cmd.mode, .int .i64 m.chunk.bin, .int .i64 m.chunk.span, .bool m.chunk.last, .slice Ae me ce] := p6
  subst p6
  obtain ⟨v7, f7, p7⟩ := e4 7 o7 0 (by omega) ho7 d7
  have p7 : v7 = .slice A y c0 := p7
  subst p7
  have other : ∀ t, 1 ≤ t → t < 10 ∨ 17 ≤ t → a.tmps[t]? = a0.tmps[t]? := fun t h1 h2 => e5 t fun i o hi hio hdst => by
    have hall : (c1Ops.toList.all fun o => match o.dst with
      | some d => decide (d = 0) || (decide (10 ≤ d) && decide (d < 17))
      | none => true) = true := by kernel_rfl
    have := List.all_eq_true.1 hall o (List.mem_of_getElem? (i := i) (by rw [Array.getElem?_toList]; exact hio))
    simp only [hdst, Bool.or_eq_true, Bool.and_eq_true, decide_eq_true_eq] at this
    rcases this with h9 | h9
    · have h9 : (t : Nat) = 0 := h9
      omega
    · have h8 : 10 ≤ t := h9.1
      have h7 : t < 17 := h9.2
      omega
  have e4' : a.tmps[4]? = some (.pointer (some ⟨gM, 0, none⟩)) := (other 4 (by omega) (.inl (by omega))).trans h.t4
  unfold wpOp
  rw [hol]
  simp only [hw, if_true]
  left
  refine wp_store_row 35 _ _ hop gM _ (eval_at e4') (eval_at f6) 35 _ (h.M w e3) (by kernel_rfl) rfl (by kernel_rfl) ?_
  rw [hd]
  exact hQ a w e1 e2 f7 other e3
end
end Go.Proofs.YtpfeaekankkpiaaGreatDoor
