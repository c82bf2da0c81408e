/-
  CodecLays' drawn regions: one obligation an operation (printed by wip/tools/mkcl.py).
-/
import Derived.Test.YtpfeaekankkpiaaGreatDoorEvKw
import Derived.Test.YtpfeaekankkpiaaGreatDoorEvKj
import Derived.Test.YtpfeaekankkpiaaGreatDoorEvOl
import Derived.Laws.Rows
namespace Go.Proofs.YtpfeaekankkpiaaGreatDoor
open Go Go.RowKit Go.Lib Go.Ev

theorem small_app {Y l : List Nat} (h1 : ∀ b ∈ Y, b < 256) (h2 : ∀ b ∈ l, b < 256) : ∀ b ∈ Y ++ l, b < 256 := by
  intro b hb
  rcases List.mem_append.1 hb with h | h
  · exact h1 b h
  · exact h2 b h
theorem small_one {n : Nat} (h : n < 256) : ∀ b ∈ [n], b < 256 := by
  intro b hb
  rw [List.mem_singleton] at hb
  omega
theorem small_flat {α : Type} (f : α → List Nat) (l : List α) (h : ∀ z ∈ l, ∀ b ∈ f z, b < 256) : ∀ b ∈ (l.map f).flatten, b < 256 := by
  intro b hb
  obtain ⟨k, hk, hb⟩ := List.mem_flatten.1 hb
  obtain ⟨z, hz, rfl⟩ := List.mem_map.1 hk
  exact h z hz b hb
theorem RecD.small (x : RecD) (ok : x.ok) : ∀ b ∈ x.by_, b < 256 := by
  unfold RecD.by_
  exact small_app (small_app (small_app (small_app (small_app (enc_small _) (enc_small _)) (enc_small _)) (small_one ok.side)) (enc_small _)) (enc_small _)
theorem OpnD.small (x : OpnD) (_ : x.ok) : ∀ b ∈ x.by_, b < 256 := by
  unfold OpnD.by_
  exact small_app (small_app (small_app (enc_small _) (enc_small _)) (enc_small _)) (enc_small _)
theorem AccD.small (x : AccD) (_ : x.ok) : ∀ b ∈ x.by_, b < 256 := by
  unfold AccD.by_
  exact small_app (small_app (small_app (small_app (enc_small _) (enc_small _)) (enc_small _)) (enc_small _)) (enc_small _)
theorem ItemD.small (x : ItemD) (ok : x.ok) : ∀ b ∈ x.by_, b < 256 := by
  unfold ItemD.by_
  exact small_app (small_app (enc_small _) (enc_small _)) (x.rc.small ok.rc)
theorem EntD.small (x : EntD) (ok : x.ok) : ∀ b ∈ x.by_, b < 256 := by
  unfold EntD.by_
  exact small_app (small_app (small_app (small_app (small_app (enc_small _) (enc_small _)) (enc_small _)) (enc_small _)) (small_one ok.side)) (x.acc.small ok.acc)
theorem CmdD.small (x : CmdD) (ok : x.ok) : ∀ b ∈ x.by_, b < 256 := by
  unfold CmdD.by_ wholesB
  exact small_app (small_app (small_app (small_app (small_app (small_app (enc_small _) (enc_small _)) (small_app (enc_small _) (small_flat _ _ fun z _ => enc_small _))) (enc_small _)) (enc_small _)) (x.op.small ok.op)) (enc_small _)
theorem ChkD.small (x : ChkD) (ok : x.ok) : ∀ b ∈ x.by_, b < 256 := by
  unfold ChkD.by_ entsB
  exact small_app (small_app (small_app (enc_small _) (enc_small _)) (enc_small _)) (small_app (enc_small _) (small_flat _ _ fun z hz => z.small (ok.entries z hz)))
theorem MsgD.small (x : MsgD) (ok : x.ok) : ∀ b ∈ x.by_, b < 256 := by
  unfold MsgD.by_
  refine small_app (small_app (enc_small _) (enc_small _)) ?_
  unfold MsgD.body
  split
  · exact x.rc.small ok.rc
  · split
    · exact enc_small _
    · split
      · exact enc_small _
      · split
        · exact x.cmd.small ok.cmd
        · split
          · exact x.chunk.small ok.chunk
          · intro b hb; cases hb
theorem MsgD.len (x : MsgD) (ok : x.ok) : x.by_.length ≤ 10 * x.cmd.bins.length + 100 * x.chunk.entries.length + 300 := by
  have l0 := (enc_len (zz_lt ok.kind.1 ok.kind.2)).2
  have l1 := (enc_len (zz_lt ok.ver.1 ok.ver.2)).2
  have l2 := x.rc.len ok.rc
  have l3 := (enc_len (zz_lt ok.time.1 ok.time.2)).2
  have l4 := (enc_len (zz_lt ok.num.1 ok.num.2)).2
  have l5 := x.cmd.len ok.cmd
  have l6 := x.chunk.len ok.chunk
  unfold MsgD.by_ MsgD.body
  simp only [List.length_append]
  split
  · omega
  · split
    · omega
    · split
      · omega
      · split
        · omega
        · split
          · omega
          · simp; omega

theorem want_of {P : Program} {ops : Array Oper} {i : Nat} {o : Oper} {a : Act} {j t : Nat} {b : Bool} (hg : (ops[i]?).map (fun o => o.guard) = some (some (j, b))) (hi : ops[i]? = some o) (hj : (ops[j]?).bind (fun o => o.dst) = some t) (hv : a.tmps[t]? = some (.bool b)) : Region.wanted o (yielded ops a.tmps) = true := by
  rw [hi] at hg
  simp at hg
  cases b <;> simp_all [Region.wanted, yielded]
/-- A slice of such bytes. -/
def OutP (L : List Nat) (v : Value) (w : World) : Prop := ∃ A c, v = .slice A L.length c ∧ Rd w w.heap.size A L.length c (u8s L)
theorem OutP.grown {L : List Nat} {v : Value} {w w' : World} (h : OutP L v w) (hx : Then w w') : OutP L v w' := by
  obtain ⟨A, c, rfl, hr⟩ := h
  exact ⟨A, c, rfl, (hr.below hx).mono hx.size⟩
theorem out_step {W w w' : World} {L : List Nat} {e : Ending} (ho : Out w L e w') (hg : Since W w) : ∃ v, e = .returned v ∧ OutP L v w' ∧ Since W w' ∧ Then w w' := by
  obtain ⟨A, c, rfl, hr, hb⟩ := ho
  exact ⟨_, rfl, ⟨A, c, rfl, hr⟩, Below.trans hg (hb.mono hg.size), hb⟩
theorem u8s_cells {l : List Nat} (h : ∀ x ∈ l, x < 256) : u8s l = strCells (sb l) := by
  simp only [u8s, strCells, sb, List.map_map]
  apply List.map_congr_left
  intro x hx
  show Value.int .u8 (x : Int) = Value.int .u8 ((UInt8.ofNat x).toNat : Int)
  rw [UInt8.toNat_ofNat_of_lt' (by simpa using h x hx)]
theorem conv_out {w : World} {B : Nat} {A : Option Addr} {c : Nat} {L : List Nat} (hr' : Rd w B A L.length c (u8s L)) (hs : ∀ b ∈ L, b < 256) : (convert 22 9 (.slice A L.length c)).run Tryz.prog w = .ok (.string (sb L)) w := by
  obtain ⟨X, hX⟩ : ∃ X, sb L = X := ⟨_, rfl⟩
  obtain ⟨m, hm⟩ : ∃ m, L.length = m := ⟨_, rfl⟩
  rw [u8s_cells hs, hX, hm] at hr'
  rw [hX, hm]
  have hr := hr'
  have hx : X.size = m := by
    have := hr.1
    rwa [strCells_length] at this
  cases A with
  | none =>
    obtain ⟨rfl, rfl⟩ := hr.2.1 rfl
    have hX : X.data = #[] := Array.eq_empty_of_size_eq_zero hx
    have := run_convert_bytes_nil (P := Tryz.prog) w 22 5 Tryz.underlying22 Tryz.underlying5 0 0 9 Tryz.underlying9
    rw [show X = ByteArray.empty from ByteArray.ext hX]
    exact this
  | some ad =>
    have := run_convert_bytes_back (P := Tryz.prog) w 22 9 5 ad c X.data.toList Tryz.underlying22 Tryz.underlying5 Tryz.underlying9 (fun j hj => (hr.2.2 ad rfl).2 j _ (by simp [strCells, List.getElem?_eq_getElem hj]))
    rw [Array.length_toList] at this
    have hx' : X.data.size = m := hx
    rw [hx'] at this
    simpa using this
def dOk : TypeDesc → Bool
  | .struct _ | .array _ _ => true
  | _ => false
theorem load_row {w : World} {g : Nat} {t ty : TypeId} {cs : Array Value} {d : TypeDesc} (hg : w.heap[g]? = some (.cells cs t (0, 0)))
    (hu : Tryz.prog.underlying ty = some d) (hd : dOk d = true) (hi : (Tryz.prog.info? ty).map (·.size) = some cs.size) :
    (Instr.loadAt ty (.pointer (some ⟨g, 0, none⟩))).run Tryz.prog w = .ok (.agg cs) w := by
  have h := run_loadVar_row (P := Tryz.prog) w g t ty cs (0, 0) d hg hu (by cases d <;> first | rfl | (exact absurd hd (by simp [dOk]))) hi
  simp [Instr.loadAt, Instr.sureAddr, h]

/-- What is known ahead of a region. -/
structure HS (Y : List Nat) (A : Option Addr) (c : Nat) (m : MsgD) (Ab : Option Addr) (cb : Nat) (Ae : Option Addr) (ce : Nat) (gM : Nat) (W1 : World) (a0 : Act) : Prop where
  t0 : a0.tmps[0]? = some (.slice A Y.length c)
  t7 : a0.tmps[7]? = some (.string (sb Y))
  t4 : a0.tmps[4]? = some (.pointer (some ⟨gM, 0, none⟩))
  rd : Rd W1 W1.heap.size A Y.length c (u8s Y)
  hY : Y.length ≤ 50
  yS : ∀ b ∈ Y, b < 256
  M : ∀ w, Since W1 w → w.heap[gM]? = some (.cells #[.int .i64 m.kind, .int .i64 m.ver, .int .u32 (m.rc.key : Nat), .int .i64 m.rc.time, .int .i64 m.rc.val, .int .u8 (m.rc.side : Nat), .bool m.rc.err, .bool m.rc.late, .int .i64 m.time, .int .i64 m.num, .int .i64 m.cmd.kind, .int .i64 m.cmd.at_, .slice Ab m.cmd.bins.length cb, .int .i64 m.cmd.dst, .int .i64 m.cmd.node, .int .i64 m.cmd.op.kind, .int .i64 m.cmd.op.a, .int .i64 m.cmd.op.b, .int .i64 m.cmd.op.agg, .int .i64 m.cmd.mode, .int .i64 m.chunk.bin, .int .i64 m.chunk.span, .bool m.chunk.last, .slice Ae m.chunk.entries.length ce] 35 (0, 0))
  okM : m.ok
  k1 : IntsAt W1 W1.heap.size Ab m.cmd.bins
  k2 : EntsAt W1 W1.heap.size Ae m.chunk.entries
  n1 : m.cmd.bins.length ≤ 12
  n2 : m.chunk.entries.length ≤ 70
structure HF (Y : List Nat) (A : Option Addr) (c : Nat) (m : MsgD) (Ab : Option Addr) (cb : Nat) (Ae : Option Addr) (ce : Nat) (gM : Nat) (x : ItemD) (gX : Nat) (e : EntD) (gE : Nat) (W1 : World) (a0 : Act) : Prop extends HS Y A c m Ab cb Ae ce gM W1 a0 where
  t5 : a0.tmps[5]? = some (.pointer (some ⟨gX, 0, none⟩))
  t9 : a0.tmps[9]? = some (.pointer (some ⟨gE, 0, none⟩))
  X : ∀ w, Since W1 w → w.heap[gX]? = some (.cells #[.bool x.isMark, .int .i64 x.time, .int .u32 (x.rc.key : Nat), .int .i64 x.rc.time, .int .i64 x.rc.val, .int .u8 (x.rc.side : Nat), .bool x.rc.err, .bool x.rc.late] 37 (0, 0))
  E : ∀ w, Since W1 w → w.heap[gE]? = some (.cells #[.int .i64 e.ver, .int .u32 (e.key : Nat), .int .i64 e.start, .int .i64 e.end_, .int .u8 (e.side : Nat), .int .i64 e.acc.n, .int .i64 e.acc.hi, .int .u64 (e.acc.lo : Nat), .int .i64 e.acc.min, .int .i64 e.acc.max] 45 (0, 0))
  okX : x.ok
  okE : e.ok
  works : ∀ w, Since W1 w → Calls Tryz.prog 21 #[] w fun e w' => e = .returned (.bool true) ∧ Below w.heap.size w w'
section
variable {Y : List Nat} {A : Option Addr} {c : Nat} {m : MsgD} {Ab : Option Addr} {cb : Nat} {Ae : Option Addr} {ce : Nat} {gM : Nat} {W1 : World} {a0 : Act} {w : World}
theorem HS.rdw (h : HS Y A c m Ab cb Ae ce gM W1 a0) (hg : Since W1 w) : Rd w w.heap.size A Y.length c (u8s Y) := (h.rd.below hg).mono hg.size
theorem HS.k1w (h : HS Y A c m Ab cb Ae ce gM W1 a0) (hg : Since W1 w) : IntsAt w w.heap.size Ab m.cmd.bins := (h.k1.below hg).mono hg.size
theorem HS.k2w (h : HS Y A c m Ab cb Ae ce gM W1 a0) (hg : Since W1 w) : EntsAt w w.heap.size Ae m.chunk.entries := (h.k2.below hg).mono hg.size
end

noncomputable def csOps : Array Oper := regAt Tryz.f3 7
noncomputable def csTab (Y : List Nat) (A : Option Addr) (c : Nat) (m : MsgD) (Ab : Option Addr) (cb : Nat) (Ae : Option Addr) (ce : Nat) (gM : Nat) (i : Nat) : Value ⊕ (Value → World → Prop) := match i with
  | 0 => .inl (.slice A Y.length c)
  | 1 => .inl (.agg #[.int .i64 m.kind, .int .i64 m.ver, .int .u32 (m.rc.key : Nat), .int .i64 m.rc.time, .int .i64 m.rc.val, .int .u8 (m.rc.side : Nat), .bool m.rc.err, .bool m.rc.late, .int .i64 m.time, .int .i64 m.num, .int .i64 m.cmd.kind, .int .i64 m.cmd.at_, .slice Ab m.cmd.bins.length cb, .int .i64 m.cmd.dst, .int .i64 m.cmd.node, .int .i64 m.cmd.op.kind, .int .i64 m.cmd.op.a, .int .i64 m.cmd.op.b, .int .i64 m.cmd.op.agg, .int .i64 m.cmd.mode, .int .i64 m.chunk.bin, .int .i64 m.chunk.span, .bool m.chunk.last, .slice Ae m.chunk.entries.length ce])
  | 2 => .inr (OutP (Y ++ m.by_))
  | 3 => .inl (.string (sb (Y ++ m.by_)))
  | 4 => .inl (.string (sb Y))
  | 5 => .inl (.agg #[.int .i64 m.kind, .int .i64 m.ver, .int .u32 (m.rc.key : Nat), .int .i64 m.rc.time, .int .i64 m.rc.val, .int .u8 (m.rc.side : Nat), .bool m.rc.err, .bool m.rc.late, .int .i64 m.time, .int .i64 m.num, .int .i64 m.cmd.kind, .int .i64 m.cmd.at_, .slice Ab m.cmd.bins.length cb, .int .i64 m.cmd.dst, .int .i64 m.cmd.node, .int .i64 m.cmd.op.kind, .int .i64 m.cmd.op.a, .int .i64 m.cmd.op.b, .int .i64 m.cmd.op.agg, .int .i64 m.cmd.mode, .int .i64 m.chunk.bin, .int .i64 m.chunk.span, .bool m.chunk.last, .slice Ae m.chunk.entries.length ce])
  | 6 => .inl (.string (sb m.by_))
  | 7 => .inl (.string (sb (Y ++ m.by_)))
  | 8 => .inl (.bool false)
  | _ => .inl undef
section
variable {Y : List Nat} {A : Option Addr} {c : Nat} {m : MsgD} {Ab : Option Addr} {cb : Nat} {Ae : Option Addr} {ce : Nat} {gM : Nat} {W1 : World} {a0 : Act} {Q : Exit → Act → World → Prop}
set_option maxRecDepth 100000 in
theorem cs_0 {o : Oper} {a : Act} {w : World} (h : HS Y A c m Ab cb Ae ce gM W1 a0) (hi : csOps[0]? = some o) (hh : Here csOps (Said (csTab Y A c m Ab cb Ae ce gM)) (Since W1) a0 0 o a w) :
    wpOp Tryz.prog csOps Q 0 (fun a' w' => ∃ v, a' = a.put o.dst v ∧ Said (csTab Y A c m Ab cb Ae ce gM) 0 v w' ∧ Since W1 w' ∧ Then w w') a w := by
  have hw := want_none (ops := csOps) (a := a) (i := 0) (by kernel_rfl) hi
  have e1 := (hh.of_base 0 (by kernel_rfl)).trans h.t0
  exact st_val hi hw _ (run_move (op_of (op := .move (.tmp 0)) (by kernel_rfl) hi) (eval_at e1)) rfl hh.gr (Below.refl _ _)
set_option maxRecDepth 100000 in
theorem cs_1 {o : Oper} {a : Act} {w : World} (h : HS Y A c m Ab cb Ae ce gM W1 a0) (hi : csOps[1]? = some o) (hh : Here csOps (Said (csTab Y A c m Ab cb Ae ce gM)) (Since W1) a0 1 o a w) :
    wpOp Tryz.prog csOps Q 1 (fun a' w' => ∃ v, a' = a.put o.dst v ∧ Said (csTab Y A c m Ab cb Ae ce gM) 1 v w' ∧ Since W1 w' ∧ Then w w') a w := by
  have hw := want_none (ops := csOps) (a := a) (i := 1) (by kernel_rfl) hi
  have e1 := (hh.of_base 4 (by kernel_rfl)).trans h.t4
  exact st_val hi hw _ (run_loadOp (op_of (op := .load 35 (.tmp 4)) (by kernel_rfl) hi) (eval_at e1) (load_row (h.M w hh.gr) Tryz.underlying35 rfl (by kernel_rfl))) rfl hh.gr (Below.refl _ _)
set_option maxRecDepth 100000 in
theorem cs_2 {o : Oper} {a : Act} {w : World} (h : HS Y A c m Ab cb Ae ce gM W1 a0) (hi : csOps[2]? = some o) (hh : Here csOps (Said (csTab Y A c m Ab cb Ae ce gM)) (Since W1) a0 2 o a w) :
    wpOp Tryz.prog csOps Q 2 (fun a' w' => ∃ v, a' = a.put o.dst v ∧ Said (csTab Y A c m Ab cb Ae ce gM) 2 v w' ∧ Since W1 w' ∧ Then w w') a w := by
  have hw := want_none (ops := csOps) (a := a) (i := 2) (by kernel_rfl) hi
  obtain ⟨v1, e1, hp1⟩ := hh.of_dep hi 0 25 (by kernel_rfl)
  have hp1 : v1 = .slice A Y.length c := hp1
  subst hp1
  obtain ⟨v2, e2, hp2⟩ := hh.of_dep hi 1 26 (by kernel_rfl)
  have hp2 : v2 = .agg #[.int .i64 m.kind, .int .i64 m.ver, .int .u32 (m.rc.key : Nat), .int .i64 m.rc.time, .int .i64 m.rc.val, .int .u8 (m.rc.side : Nat), .bool m.rc.err, .bool m.rc.late, .int .i64 m.time, .int .i64 m.num, .int .i64 m.cmd.kind, .int .i64 m.cmd.at_, .slice Ab m.cmd.bins.length cb, .int .i64 m.cmd.dst, .int .i64 m.cmd.node, .int .i64 m.cmd.op.kind, .int .i64 m.cmd.op.a, .int .i64 m.cmd.op.b, .int .i64 m.cmd.op.agg, .int .i64 m.cmd.mode, .int .i64 m.chunk.bin, .int .i64 m.chunk.span, .bool m.chunk.last, .slice Ae m.chunk.entries.length ce] := hp2
  subst hp2
  have hop := op_of (ops := csOps) (op := .call { callee := .value (.func 5), args := #[.tmp 25, .tmp 26], argTypes := #[22, 35] }) (by kernel_rfl) hi
  exact st_call hi hw 5 _ (by simp [execOp, hop, resolve, invoke, Act.eval, Deferred.ofValue, e1, e2]) ((PMsg_any A c Ab cb Ae ce Y m w (h.rdw hh.gr) h.okM (h.k1w hh.gr) (h.k2w hh.gr) (by have := h.hY; have := h.n1; have := h.n2; omega)).mono fun _ _ ho => out_step ho hh.gr)
set_option maxRecDepth 100000 in
theorem cs_3 {o : Oper} {a : Act} {w : World} (h : HS Y A c m Ab cb Ae ce gM W1 a0) (hi : csOps[3]? = some o) (hh : Here csOps (Said (csTab Y A c m Ab cb Ae ce gM)) (Since W1) a0 3 o a w) :
    wpOp Tryz.prog csOps Q 3 (fun a' w' => ∃ v, a' = a.put o.dst v ∧ Said (csTab Y A c m Ab cb Ae ce gM) 3 v w' ∧ Since W1 w' ∧ Then w w') a w := by
  have hw := want_none (ops := csOps) (a := a) (i := 3) (by kernel_rfl) hi
  obtain ⟨v1, e1, hp1⟩ := hh.of_dep hi 2 27 (by kernel_rfl)
  obtain ⟨A1, c1, q1, R1⟩ : OutP (Y ++ m.by_) v1 w := hp1
  subst q1
  exact st_val hi hw _ (run_conv (op_of (op := .convert 22 9 (.tmp 27)) (by kernel_rfl) hi) (eval_at e1) (conv_out R1 (small_app h.yS (m.small h.okM)))) rfl hh.gr (Below.refl _ _)
set_option maxRecDepth 100000 in
theorem cs_4 {o : Oper} {a : Act} {w : World} (h : HS Y A c m Ab cb Ae ce gM W1 a0) (hi : csOps[4]? = some o) (hh : Here csOps (Said (csTab Y A c m Ab cb Ae ce gM)) (Since W1) a0 4 o a w) :
    wpOp Tryz.prog csOps Q 4 (fun a' w' => ∃ v, a' = a.put o.dst v ∧ Said (csTab Y A c m Ab cb Ae ce gM) 4 v w' ∧ Since W1 w' ∧ Then w w') a w := by
  have hw := want_none (ops := csOps) (a := a) (i := 4) (by kernel_rfl) hi
  have e1 := (hh.of_base 7 (by kernel_rfl)).trans h.t7
  exact st_val hi hw _ (run_move (op_of (op := .move (.tmp 7)) (by kernel_rfl) hi) (eval_at e1)) rfl hh.gr (Below.refl _ _)
set_option maxRecDepth 100000 in
theorem cs_5 {o : Oper} {a : Act} {w : World} (h : HS Y A c m Ab cb Ae ce gM W1 a0) (hi : csOps[5]? = some o) (hh : Here csOps (Said (csTab Y A c m Ab cb Ae ce gM)) (Since W1) a0 5 o a w) :
    wpOp Tryz.prog csOps Q 5 (fun a' w' => ∃ v, a' = a.put o.dst v ∧ Said (csTab Y A c m Ab cb Ae ce gM) 5 v w' ∧ Since W1 w' ∧ Then w w') a w := by
  have hw := want_none (ops := csOps) (a := a) (i := 5) (by kernel_rfl) hi
  have e1 := (hh.of_base 4 (by kernel_rfl)).trans h.t4
  exact st_val hi hw _ (run_loadOp (op_of (op := .load 35 (.tmp 4)) (by kernel_rfl) hi) (eval_at e1) (load_row (h.M w hh.gr) Tryz.underlying35 rfl (by kernel_rfl))) rfl hh.gr (Below.refl _ _)
set_option maxRecDepth 100000 in
theorem cs_6 {o : Oper} {a : Act} {w : World} (h : HS Y A c m Ab cb Ae ce gM W1 a0) (hi : csOps[6]? = some o) (hh : Here csOps (Said (csTab Y A c m Ab cb Ae ce gM)) (Since W1) a0 6 o a w) :
    wpOp Tryz.prog csOps Q 6 (fun a' w' => ∃ v, a' = a.put o.dst v ∧ Said (csTab Y A c m Ab cb Ae ce gM) 6 v w' ∧ Since W1 w' ∧ Then w w') a w := by
  have hw := want_none (ops := csOps) (a := a) (i := 6) (by kernel_rfl) hi
  obtain ⟨v1, e1, hp1⟩ := hh.of_dep hi 5 30 (by kernel_rfl)
  have hp1 : v1 = .agg #[.int .i64 m.kind, .int .i64 m.ver, .int .u32 (m.rc.key : Nat), .int .i64 m.rc.time, .int .i64 m.rc.val, .int .u8 (m.rc.side : Nat), .bool m.rc.err, .bool m.rc.late, .int .i64 m.time, .int .i64 m.num, .int .i64 m.cmd.kind, .int .i64 m.cmd.at_, .slice Ab m.cmd.bins.length cb, .int .i64 m.cmd.dst, .int .i64 m.cmd.node, .int .i64 m.cmd.op.kind, .int .i64 m.cmd.op.a, .int .i64 m.cmd.op.b, .int .i64 m.cmd.op.agg, .int .i64 m.cmd.mode, .int .i64 m.chunk.bin, .int .i64 m.chunk.span, .bool m.chunk.last, .slice Ae m.chunk.entries.length ce] := hp1
  subst hp1
  have hop := op_of (ops := csOps) (op := .call { callee := .value (.func 6), args := #[.tmp 30], argTypes := #[35] }) (by kernel_rfl) hi
  exact st_call hi hw 6 _ (by simp [execOp, hop, resolve, invoke, Act.eval, Deferred.ofValue, e1]) ((ref_msg m Ab Ae cb ce w h.okM (h.k1w hh.gr) (h.k2w hh.gr)).mono fun e' w' hs => ⟨_, hs.1, rfl, Below.trans hh.gr (hs.2.mono hh.gr.size), hs.2⟩)
set_option maxRecDepth 100000 in
theorem cs_7 {o : Oper} {a : Act} {w : World} (h : HS Y A c m Ab cb Ae ce gM W1 a0) (hi : csOps[7]? = some o) (hh : Here csOps (Said (csTab Y A c m Ab cb Ae ce gM)) (Since W1) a0 7 o a w) :
    wpOp Tryz.prog csOps Q 7 (fun a' w' => ∃ v, a' = a.put o.dst v ∧ Said (csTab Y A c m Ab cb Ae ce gM) 7 v w' ∧ Since W1 w' ∧ Then w w') a w := by
  have hw := want_none (ops := csOps) (a := a) (i := 7) (by kernel_rfl) hi
  obtain ⟨v1, e1, hp1⟩ := hh.of_dep hi 4 29 (by kernel_rfl)
  have hp1 : v1 = .string (sb Y) := hp1
  subst hp1
  obtain ⟨v2, e2, hp2⟩ := hh.of_dep hi 6 31 (by kernel_rfl)
  have hp2 : v2 = .string (sb m.by_) := hp2
  subst hp2
  refine st_val hi hw _ (run_bin (op_of (op := .binOp .add 9 (.tmp 29) (.tmp 31) 9) (by kernel_rfl) hi) (eval_at e1) (eval_at e2) (eqGuard_other (by simp) (by simp) w) (add_sb _ _ ?_ w)) rfl hh.gr (Below.refl _ _)
  have := h.hY; have := h.n1; have := h.n2; have := m.len h.okM; omega
set_option maxRecDepth 100000 in
theorem cs_8 {o : Oper} {a : Act} {w : World} (h : HS Y A c m Ab cb Ae ce gM W1 a0) (hi : csOps[8]? = some o) (hh : Here csOps (Said (csTab Y A c m Ab cb Ae ce gM)) (Since W1) a0 8 o a w) :
    wpOp Tryz.prog csOps Q 8 (fun a' w' => ∃ v, a' = a.put o.dst v ∧ Said (csTab Y A c m Ab cb Ae ce gM) 8 v w' ∧ Since W1 w' ∧ Then w w') a w := by
  have hw := want_none (ops := csOps) (a := a) (i := 8) (by kernel_rfl) hi
  obtain ⟨v1, e1, hp1⟩ := hh.of_dep hi 3 28 (by kernel_rfl)
  have hp1 : v1 = .string (sb (Y ++ m.by_)) := hp1
  subst hp1
  obtain ⟨v2, e2, hp2⟩ := hh.of_dep hi 7 32 (by kernel_rfl)
  have hp2 : v2 = .string (sb (Y ++ m.by_)) := hp2
  subst hp2
  exact st_val hi hw _ (run_bin (op_of (op := .binOp .neq 9 (.tmp 28) (.tmp 32) 9) (by kernel_rfl) hi) (eval_at e1) (eval_at e2) (by go_simp) (by go_simp)) rfl hh.gr (Below.refl _ _)
theorem cs_steps (h : HS Y A c m Ab cb Ae ce gM W1 a0) : ∀ (i : Nat) (o : Oper) (a : Act) (w : World), csOps[i]? = some o → Here csOps (Said (csTab Y A c m Ab cb Ae ce gM)) (Since W1) a0 i o a w →
    wpOp Tryz.prog csOps Q i (fun a' w' => ∃ v, a' = a.put o.dst v ∧ Said (csTab Y A c m Ab cb Ae ce gM) i v w' ∧ Since W1 w' ∧ Then w w') a w := by
  intro i o a w hi hh
  match i, hi, hh with
  | 0, hi, hh => exact cs_0 h hi hh
  | 1, hi, hh => exact cs_1 h hi hh
  | 2, hi, hh => exact cs_2 h hi hh
  | 3, hi, hh => exact cs_3 h hi hh
  | 4, hi, hh => exact cs_4 h hi hh
  | 5, hi, hh => exact cs_5 h hi hh
  | 6, hi, hh => exact cs_6 h hi hh
  | 7, hi, hh => exact cs_7 h hi hh
  | 8, hi, hh => exact cs_8 h hi hh
  | n + 9, hi, _ =>
    exfalso
    have h1 := (Array.getElem?_eq_some_iff.1 hi).1
    have h2 : csOps.size = 9 := by kernel_rfl
    omega
theorem cs_mono (i : Nat) (v : Value) (w w' : World) (h : Said (csTab Y A c m Ab cb Ae ce gM) i v w) (hx : Then w w') : Said (csTab Y A c m Ab cb Ae ce gM) i v w' := by
  unfold Said at *
  split at h
  · exact h
  · rename_i f hf
    unfold csTab at hf
    split at hf <;> first | (cases hf; done) | (cases hf; exact OutP.grown h hx)
end
noncomputable def cfOps : Array Oper := regAt Tryz.f3 12
noncomputable def cfTab (Y : List Nat) (A : Option Addr) (c : Nat) (m : MsgD) (Ab : Option Addr) (cb : Nat) (Ae : Option Addr) (ce : Nat) (gM : Nat) (x : ItemD) (gX : Nat) (e : EntD) (gE : Nat) (i : Nat) : Value ⊕ (Value → World → Prop) := match i with
  | 0 => .inl (.slice A Y.length c)
  | 1 => .inl (.agg #[.bool x.isMark, .int .i64 x.time, .int .u32 (x.rc.key : Nat), .int .i64 x.rc.time, .int .i64 x.rc.val, .int .u8 (x.rc.side : Nat), .bool x.rc.err, .bool x.rc.late])
  | 2 => .inr (OutP (Y ++ x.by_))
  | 3 => .inl (.string (sb (Y ++ x.by_)))
  | 4 => .inl (.string (sb Y))
  | 5 => .inl (.agg #[.bool x.isMark, .int .i64 x.time, .int .u32 (x.rc.key : Nat), .int .i64 x.rc.time, .int .i64 x.rc.val, .int .u8 (x.rc.side : Nat), .bool x.rc.err, .bool x.rc.late])
  | 6 => .inl (.string (sb x.by_))
  | 7 => .inl (.string (sb (Y ++ x.by_)))
  | 8 => .inl (.bool true)
  | 9 => .inl (.bool true)
  | 10 => .inl (.slice A Y.length c)
  | 11 => .inl (.pointer (some ⟨gX, 2, none⟩))
  | 12 => .inl (.agg #[.int .u32 (x.rc.key : Nat), .int .i64 x.rc.time, .int .i64 x.rc.val, .int .u8 (x.rc.side : Nat), .bool x.rc.err, .bool x.rc.late])
  | 13 => .inr (OutP (Y ++ x.rc.by_))
  | 14 => .inl (.string (sb (Y ++ x.rc.by_)))
  | 15 => .inl (.string (sb Y))
  | 16 => .inl (.pointer (some ⟨gX, 2, none⟩))
  | 17 => .inl (.agg #[.int .u32 (x.rc.key : Nat), .int .i64 x.rc.time, .int .i64 x.rc.val, .int .u8 (x.rc.side : Nat), .bool x.rc.err, .bool x.rc.late])
  | 18 => .inl (.string (sb x.rc.by_))
  | 19 => .inl (.string (sb (Y ++ x.rc.by_)))
  | 20 => .inl (.bool true)
  | 21 => .inl (.bool true)
  | 22 => .inl (.bool true)
  | 23 => .inl (.slice A Y.length c)
  | 24 => .inl (.pointer (some ⟨gM, 10, none⟩))
  | 25 => .inl (.agg #[.int .i64 m.cmd.kind, .int .i64 m.cmd.at_, .slice Ab m.cmd.bins.length cb, .int .i64 m.cmd.dst, .int .i64 m.cmd.node, .int .i64 m.cmd.op.kind, .int .i64 m.cmd.op.a, .int .i64 m.cmd.op.b, .int .i64 m.cmd.op.agg, .int .i64 m.cmd.mode])
  | 26 => .inr (OutP (Y ++ m.cmd.by_))
  | 27 => .inl (.string (sb (Y ++ m.cmd.by_)))
  | 28 => .inl (.string (sb Y))
  | 29 => .inl (.pointer (some ⟨gM, 10, none⟩))
  | 30 => .inl (.agg #[.int .i64 m.cmd.kind, .int .i64 m.cmd.at_, .slice Ab m.cmd.bins.length cb, .int .i64 m.cmd.dst, .int .i64 m.cmd.node, .int .i64 m.cmd.op.kind, .int .i64 m.cmd.op.a, .int .i64 m.cmd.op.b, .int .i64 m.cmd.op.agg, .int .i64 m.cmd.mode])
  | 31 => .inl (.string (sb m.cmd.by_))
  | 32 => .inl (.string (sb (Y ++ m.cmd.by_)))
  | 33 => .inl (.bool true)
  | 34 => .inl (.bool true)
  | 35 => .inl (.bool true)
  | 36 => .inl (.slice A Y.length c)
  | 37 => .inl (.pointer (some ⟨gM, 10, none⟩))
  | 38 => .inl (.pointer (some ⟨gM, 15, none⟩))
  | 39 => .inl (.agg #[.int .i64 m.cmd.op.kind, .int .i64 m.cmd.op.a, .int .i64 m.cmd.op.b, .int .i64 m.cmd.op.agg])
  | 40 => .inr (OutP (Y ++ m.cmd.op.by_))
  | 41 => .inl (.string (sb (Y ++ m.cmd.op.by_)))
  | 42 => .inl (.string (sb Y))
  | 43 => .inl (.pointer (some ⟨gM, 10, none⟩))
  | 44 => .inl (.pointer (some ⟨gM, 15, none⟩))
  | 45 => .inl (.agg #[.int .i64 m.cmd.op.kind, .int .i64 m.cmd.op.a, .int .i64 m.cmd.op.b, .int .i64 m.cmd.op.agg])
  | 46 => .inl (.string (sb m.cmd.op.by_))
  | 47 => .inl (.string (sb (Y ++ m.cmd.op.by_)))
  | 48 => .inl (.bool true)
  | 49 => .inl (.bool true)
  | 50 => .inl (.bool true)
  | 51 => .inl (.slice A Y.length c)
  | 52 => .inl (.agg #[.int .i64 e.ver, .int .u32 (e.key : Nat), .int .i64 e.start, .int .i64 e.end_, .int .u8 (e.side : Nat), .int .i64 e.acc.n, .int .i64 e.acc.hi, .int .u64 (e.acc.lo : Nat), .int .i64 e.acc.min, .int .i64 e.acc.max])
  | 53 => .inr (OutP (Y ++ e.by_))
  | 54 => .inl (.string (sb (Y ++ e.by_)))
  | 55 => .inl (.string (sb Y))
  | 56 => .inl (.agg #[.int .i64 e.ver, .int .u32 (e.key : Nat), .int .i64 e.start, .int .i64 e.end_, .int .u8 (e.side : Nat), .int .i64 e.acc.n, .int .i64 e.acc.hi, .int .u64 (e.acc.lo : Nat), .int .i64 e.acc.min, .int .i64 e.acc.max])
  | 57 => .inl (.string (sb e.by_))
  | 58 => .inl (.string (sb (Y ++ e.by_)))
  | 59 => .inl (.bool true)
  | 60 => .inl (.bool true)
  | 61 => .inl (.bool true)
  | 62 => .inl (.slice A Y.length c)
  | 63 => .inl (.pointer (some ⟨gE, 5, none⟩))
  | 64 => .inl (.agg #[.int .i64 e.acc.n, .int .i64 e.acc.hi, .int .u64 (e.acc.lo : Nat), .int .i64 e.acc.min, .int .i64 e.acc.max])
  | 65 => .inr (OutP (Y ++ e.acc.by_))
  | 66 => .inl (.string (sb (Y ++ e.acc.by_)))
  | 67 => .inl (.string (sb Y))
  | 68 => .inl (.pointer (some ⟨gE, 5, none⟩))
  | 69 => .inl (.agg #[.int .i64 e.acc.n, .int .i64 e.acc.hi, .int .u64 (e.acc.lo : Nat), .int .i64 e.acc.min, .int .i64 e.acc.max])
  | 70 => .inl (.string (sb e.acc.by_))
  | 71 => .inl (.string (sb (Y ++ e.acc.by_)))
  | 72 => .inl (.bool true)
  | 73 => .inl (.bool true)
  | 74 => .inl (.bool true)
  | 75 => .inl (.slice A Y.length c)
  | 76 => .inl (.pointer (some ⟨gM, 20, none⟩))
  | 77 => .inl (.agg #[.int .i64 m.chunk.bin, .int .i64 m.chunk.span, .bool m.chunk.last, .slice Ae m.chunk.entries.length ce])
  | 78 => .inr (OutP (Y ++ m.chunk.by_))
  | 79 => .inl (.string (sb (Y ++ m.chunk.by_)))
  | 80 => .inl (.string (sb Y))
  | 81 => .inl (.pointer (some ⟨gM, 20, none⟩))
  | 82 => .inl (.agg #[.int .i64 m.chunk.bin, .int .i64 m.chunk.span, .bool m.chunk.last, .slice Ae m.chunk.entries.length ce])
  | 83 => .inl (.string (sb m.chunk.by_))
  | 84 => .inl (.string (sb (Y ++ m.chunk.by_)))
  | 85 => .inl (.bool true)
  | 86 => .inl (.bool true)
  | 87 => .inl (.bool true)
  | 88 => .inl (.slice A Y.length c)
  | 89 => .inl (.string (sb Y))
  | 90 => .inl (.string (sb Y))
  | 91 => .inl (.bool true)
  | 92 => .inl (.bool true)
  | 93 => .inl (.bool true)
  | 94 => .inl (.bool true)
  | 95 => .inl (.bool true)
  | 96 => .inl (.bool true)
  | _ => .inl undef
section
variable {Y : List Nat} {A : Option Addr} {c : Nat} {m : MsgD} {Ab : Option Addr} {cb : Nat} {Ae : Option Addr} {ce : Nat} {gM : Nat} {x : ItemD} {gX : Nat} {e : EntD} {gE : Nat} {W1 : World} {a0 : Act} {Q : Exit → Act → World → Prop}
set_option maxRecDepth 100000 in
theorem cf_0 {o : Oper} {a : Act} {w : World} (h : HF Y A c m Ab cb Ae ce gM x gX e gE W1 a0) (hi : cfOps[0]? = some o) (hh : Here cfOps (Said (cfTab Y A c m Ab cb Ae ce gM x gX e gE)) (Since W1) a0 0 o a w) :
    wpOp Tryz.prog cfOps Q 0 (fun a' w' => ∃ v, a' = a.put o.dst v ∧ Said (cfTab Y A c m Ab cb Ae ce gM x gX e gE) 0 v w' ∧ Since W1 w' ∧ Then w w') a w := by
  have hw := want_none (ops := cfOps) (a := a) (i := 0) (by kernel_rfl) hi
  have e1 := (hh.of_base 0 (by kernel_rfl)).trans h.t0
  exact st_val hi hw _ (run_move (op_of (op := .move (.tmp 0)) (by kernel_rfl) hi) (eval_at e1)) rfl hh.gr (Below.refl _ _)
set_option maxRecDepth 100000 in
theorem cf_1 {o : Oper} {a : Act} {w : World} (h : HF Y A c m Ab cb Ae ce gM x gX e gE W1 a0) (hi : cfOps[1]? = some o) (hh : Here cfOps (Said (cfTab Y A c m Ab cb Ae ce gM x gX e gE)) (Since W1) a0 1 o a w) :
    wpOp Tryz.prog cfOps Q 1 (fun a' w' => ∃ v, a' = a.put o.dst v ∧ Said (cfTab Y A c m Ab cb Ae ce gM x gX e gE) 1 v w' ∧ Since W1 w' ∧ Then w w') a w := by
  have hw := want_none (ops := cfOps) (a := a) (i := 1) (by kernel_rfl) hi
  have e1 := (hh.of_base 5 (by kernel_rfl)).trans h.t5
  exact st_val hi hw _ (run_loadOp (op_of (op := .load 37 (.tmp 5)) (by kernel_rfl) hi) (eval_at e1) (load_row (h.X w hh.gr) Tryz.underlying37 rfl (by kernel_rfl))) rfl hh.gr (Below.refl _ _)
set_option maxRecDepth 100000 in
theorem cf_2 {o : Oper} {a : Act} {w : World} (h : HF Y A c m Ab cb Ae ce gM x gX e gE W1 a0) (hi : cfOps[2]? = some o) (hh : Here cfOps (Said (cfTab Y A c m Ab cb Ae ce gM x gX e gE)) (Since W1) a0 2 o a w) :
    wpOp Tryz.prog cfOps Q 2 (fun a' w' => ∃ v, a' = a.put o.dst v ∧ Said (cfTab Y A c m Ab cb Ae ce gM x gX e gE) 2 v w' ∧ Since W1 w' ∧ Then w w') a w := by
  have hw := want_none (ops := cfOps) (a := a) (i := 2) (by kernel_rfl) hi
  obtain ⟨v1, e1, hp1⟩ := hh.of_dep hi 0 44 (by kernel_rfl)
  have hp1 : v1 = .slice A Y.length c := hp1
  subst hp1
  obtain ⟨v2, e2, hp2⟩ := hh.of_dep hi 1 45 (by kernel_rfl)
  have hp2 : v2 = .agg #[.bool x.isMark, .int .i64 x.time, .int .u32 (x.rc.key : Nat), .int .i64 x.rc.time, .int .i64 x.rc.val, .int .u8 (x.rc.side : Nat), .bool x.rc.err, .bool x.rc.late] := hp2
  subst hp2
  have hop := op_of (ops := cfOps) (op := .call { callee := .value (.func 7), args := #[.tmp 44, .tmp 45], argTypes := #[22, 37] }) (by kernel_rfl) hi
  exact st_call hi hw 7 _ (by simp [execOp, hop, resolve, invoke, Act.eval, Deferred.ofValue, e1, e2]) ((PItem_any A c Y x w (h.rdw hh.gr) h.okX  (by have := h.hY; have := h.n1; have := h.n2; omega)).mono fun _ _ ho => out_step ho hh.gr)
set_option maxRecDepth 100000 in
theorem cf_3 {o : Oper} {a : Act} {w : World} (h : HF Y A c m Ab cb Ae ce gM x gX e gE W1 a0) (hi : cfOps[3]? = some o) (hh : Here cfOps (Said (cfTab Y A c m Ab cb Ae ce gM x gX e gE)) (Since W1) a0 3 o a w) :
    wpOp Tryz.prog cfOps Q 3 (fun a' w' => ∃ v, a' = a.put o.dst v ∧ Said (cfTab Y A c m Ab cb Ae ce gM x gX e gE) 3 v w' ∧ Since W1 w' ∧ Then w w') a w := by
  have hw := want_none (ops := cfOps) (a := a) (i := 3) (by kernel_rfl) hi
  obtain ⟨v1, e1, hp1⟩ := hh.of_dep hi 2 46 (by kernel_rfl)
  obtain ⟨A1, c1, q1, R1⟩ : OutP (Y ++ x.by_) v1 w := hp1
  subst q1
  exact st_val hi hw _ (run_conv (op_of (op := .convert 22 9 (.tmp 46)) (by kernel_rfl) hi) (eval_at e1) (conv_out R1 (small_app h.yS (x.small h.okX)))) rfl hh.gr (Below.refl _ _)
set_option maxRecDepth 100000 in
theorem cf_4 {o : Oper} {a : Act} {w : World} (h : HF Y A c m Ab cb Ae ce gM x gX e gE W1 a0) (hi : cfOps[4]? = some o) (hh : Here cfOps (Said (cfTab Y A c m Ab cb Ae ce gM x gX e gE)) (Since W1) a0 4 o a w) :
    wpOp Tryz.prog cfOps Q 4 (fun a' w' => ∃ v, a' = a.put o.dst v ∧ Said (cfTab Y A c m Ab cb Ae ce gM x gX e gE) 4 v w' ∧ Since W1 w' ∧ Then w w') a w := by
  have hw := want_none (ops := cfOps) (a := a) (i := 4) (by kernel_rfl) hi
  have e1 := (hh.of_base 7 (by kernel_rfl)).trans h.t7
  exact st_val hi hw _ (run_move (op_of (op := .move (.tmp 7)) (by kernel_rfl) hi) (eval_at e1)) rfl hh.gr (Below.refl _ _)
set_option maxRecDepth 100000 in
theorem cf_5 {o : Oper} {a : Act} {w : World} (h : HF Y A c m Ab cb Ae ce gM x gX e gE W1 a0) (hi : cfOps[5]? = some o) (hh : Here cfOps (Said (cfTab Y A c m Ab cb Ae ce gM x gX e gE)) (Since W1) a0 5 o a w) :
    wpOp Tryz.prog cfOps Q 5 (fun a' w' => ∃ v, a' = a.put o.dst v ∧ Said (cfTab Y A c m Ab cb Ae ce gM x gX e gE) 5 v w' ∧ Since W1 w' ∧ Then w w') a w := by
  have hw := want_none (ops := cfOps) (a := a) (i := 5) (by kernel_rfl) hi
  have e1 := (hh.of_base 5 (by kernel_rfl)).trans h.t5
  exact st_val hi hw _ (run_loadOp (op_of (op := .load 37 (.tmp 5)) (by kernel_rfl) hi) (eval_at e1) (load_row (h.X w hh.gr) Tryz.underlying37 rfl (by kernel_rfl))) rfl hh.gr (Below.refl _ _)
set_option maxRecDepth 100000 in
theorem cf_6 {o : Oper} {a : Act} {w : World} (h : HF Y A c m Ab cb Ae ce gM x gX e gE W1 a0) (hi : cfOps[6]? = some o) (hh : Here cfOps (Said (cfTab Y A c m Ab cb Ae ce gM x gX e gE)) (Since W1) a0 6 o a w) :
    wpOp Tryz.prog cfOps Q 6 (fun a' w' => ∃ v, a' = a.put o.dst v ∧ Said (cfTab Y A c m Ab cb Ae ce gM x gX e gE) 6 v w' ∧ Since W1 w' ∧ Then w w') a w := by
  have hw := want_none (ops := cfOps) (a := a) (i := 6) (by kernel_rfl) hi
  obtain ⟨v1, e1, hp1⟩ := hh.of_dep hi 5 49 (by kernel_rfl)
  have hp1 : v1 = .agg #[.bool x.isMark, .int .i64 x.time, .int .u32 (x.rc.key : Nat), .int .i64 x.rc.time, .int .i64 x.rc.val, .int .u8 (x.rc.side : Nat), .bool x.rc.err, .bool x.rc.late] := hp1
  subst hp1
  have hop := op_of (ops := cfOps) (op := .call { callee := .value (.func 8), args := #[.tmp 49], argTypes := #[37] }) (by kernel_rfl) hi
  exact st_call hi hw 8 _ (by simp [execOp, hop, resolve, invoke, Act.eval, Deferred.ofValue, e1]) ((ref_item x w h.okX).mono fun e' w' hs => ⟨_, hs.1, rfl, Below.trans hh.gr (hs.2.mono hh.gr.size), hs.2⟩)
set_option maxRecDepth 100000 in
theorem cf_7 {o : Oper} {a : Act} {w : World} (h : HF Y A c m Ab cb Ae ce gM x gX e gE W1 a0) (hi : cfOps[7]? = some o) (hh : Here cfOps (Said (cfTab Y A c m Ab cb Ae ce gM x gX e gE)) (Since W1) a0 7 o a w) :
    wpOp Tryz.prog cfOps Q 7 (fun a' w' => ∃ v, a' = a.put o.dst v ∧ Said (cfTab Y A c m Ab cb Ae ce gM x gX e gE) 7 v w' ∧ Since W1 w' ∧ Then w w') a w := by
  have hw := want_none (ops := cfOps) (a := a) (i := 7) (by kernel_rfl) hi
  obtain ⟨v1, e1, hp1⟩ := hh.of_dep hi 4 48 (by kernel_rfl)
  have hp1 : v1 = .string (sb Y) := hp1
  subst hp1
  obtain ⟨v2, e2, hp2⟩ := hh.of_dep hi 6 50 (by kernel_rfl)
  have hp2 : v2 = .string (sb x.by_) := hp2
  subst hp2
  refine st_val hi hw _ (run_bin (op_of (op := .binOp .add 9 (.tmp 48) (.tmp 50) 9) (by kernel_rfl) hi) (eval_at e1) (eval_at e2) (eqGuard_other (by simp) (by simp) w) (add_sb _ _ ?_ w)) rfl hh.gr (Below.refl _ _)
  have := h.hY; have := h.n1; have := h.n2; have := x.len h.okX; omega
set_option maxRecDepth 100000 in
theorem cf_8 {o : Oper} {a : Act} {w : World} (h : HF Y A c m Ab cb Ae ce gM x gX e gE W1 a0) (hi : cfOps[8]? = some o) (hh : Here cfOps (Said (cfTab Y A c m Ab cb Ae ce gM x gX e gE)) (Since W1) a0 8 o a w) :
    wpOp Tryz.prog cfOps Q 8 (fun a' w' => ∃ v, a' = a.put o.dst v ∧ Said (cfTab Y A c m Ab cb Ae ce gM x gX e gE) 8 v w' ∧ Since W1 w' ∧ Then w w') a w := by
  have hw := want_none (ops := cfOps) (a := a) (i := 8) (by kernel_rfl) hi
  obtain ⟨v1, e1, hp1⟩ := hh.of_dep hi 3 47 (by kernel_rfl)
  have hp1 : v1 = .string (sb (Y ++ x.by_)) := hp1
  subst hp1
  obtain ⟨v2, e2, hp2⟩ := hh.of_dep hi 7 51 (by kernel_rfl)
  have hp2 : v2 = .string (sb (Y ++ x.by_)) := hp2
  subst hp2
  exact st_val hi hw _ (run_bin (op_of (op := .binOp .eql 9 (.tmp 47) (.tmp 51) 9) (by kernel_rfl) hi) (eval_at e1) (eval_at e2) (by go_simp) (by go_simp)) rfl hh.gr (Below.refl _ _)
set_option maxRecDepth 100000 in
theorem cf_9 {o : Oper} {a : Act} {w : World} (h : HF Y A c m Ab cb Ae ce gM x gX e gE W1 a0) (hi : cfOps[9]? = some o) (hh : Here cfOps (Said (cfTab Y A c m Ab cb Ae ce gM x gX e gE)) (Since W1) a0 9 o a w) :
    wpOp Tryz.prog cfOps Q 9 (fun a' w' => ∃ v, a' = a.put o.dst v ∧ Said (cfTab Y A c m Ab cb Ae ce gM x gX e gE) 9 v w' ∧ Since W1 w' ∧ Then w w') a w := by
  have hw := want_none (ops := cfOps) (a := a) (i := 9) (by kernel_rfl) hi
  obtain ⟨v1, e1, hp1⟩ := hh.of_dep hi 8 52 (by kernel_rfl)
  have hp1 : v1 = .bool true := hp1
  subst hp1
  exact st_val hi hw _ (run_move (op_of (op := .move (.tmp 52)) (by kernel_rfl) hi) (eval_at e1)) rfl hh.gr (Below.refl _ _)
set_option maxRecDepth 100000 in
theorem cf_10 {o : Oper} {a : Act} {w : World} (h : HF Y A c m Ab cb Ae ce gM x gX e gE W1 a0) (hi : cfOps[10]? = some o) (hh : Here cfOps (Said (cfTab Y A c m Ab cb Ae ce gM x gX e gE)) (Since W1) a0 10 o a w) :
    wpOp Tryz.prog cfOps Q 10 (fun a' w' => ∃ v, a' = a.put o.dst v ∧ Said (cfTab Y A c m Ab cb Ae ce gM x gX e gE) 10 v w' ∧ Since W1 w' ∧ Then w w') a w := by
  obtain ⟨v9, e9, hp9⟩ := hh.of_dep hi 9 53 (by kernel_rfl)
  have hp9 : v9 = .bool true := hp9
  subst hp9
  have hw := want_of (P := Tryz.prog) (ops := cfOps) (i := 10) (j := 9) (t := 53) (b := true) (by kernel_rfl) hi (by kernel_rfl) e9
  have e1 := (hh.of_base 0 (by kernel_rfl)).trans h.t0
  exact st_val hi hw _ (run_move (op_of (op := .move (.tmp 0)) (by kernel_rfl) hi) (eval_at e1)) rfl hh.gr (Below.refl _ _)
set_option maxRecDepth 100000 in
theorem cf_11 {o : Oper} {a : Act} {w : World} (h : HF Y A c m Ab cb Ae ce gM x gX e gE W1 a0) (hi : cfOps[11]? = some o) (hh : Here cfOps (Said (cfTab Y A c m Ab cb Ae ce gM x gX e gE)) (Since W1) a0 11 o a w) :
    wpOp Tryz.prog cfOps Q 11 (fun a' w' => ∃ v, a' = a.put o.dst v ∧ Said (cfTab Y A c m Ab cb Ae ce gM x gX e gE) 11 v w' ∧ Since W1 w' ∧ Then w w') a w := by
  obtain ⟨v9, e9, hp9⟩ := hh.of_dep hi 9 53 (by kernel_rfl)
  have hp9 : v9 = .bool true := hp9
  subst hp9
  have hw := want_of (P := Tryz.prog) (ops := cfOps) (i := 11) (j := 9) (t := 53) (b := true) (by kernel_rfl) hi (by kernel_rfl) e9
  have e1 := (hh.of_base 5 (by kernel_rfl)).trans h.t5
  exact st_val hi hw _ (run_fieldAddr (op_of (op := .fieldAddr 37 (.tmp 5) 2) (by kernel_rfl) hi) (eval_at e1) (by kernel_rfl)) rfl hh.gr (Below.refl _ _)
set_option maxRecDepth 100000 in
theorem cf_12 {o : Oper} {a : Act} {w : World} (h : HF Y A c m Ab cb Ae ce gM x gX e gE W1 a0) (hi : cfOps[12]? = some o) (hh : Here cfOps (Said (cfTab Y A c m Ab cb Ae ce gM x gX e gE)) (Since W1) a0 12 o a w) :
    wpOp Tryz.prog cfOps Q 12 (fun a' w' => ∃ v, a' = a.put o.dst v ∧ Said (cfTab Y A c m Ab cb Ae ce gM x gX e gE) 12 v w' ∧ Since W1 w' ∧ Then w w') a w := by
  obtain ⟨v9, e9, hp9⟩ := hh.of_dep hi 9 53 (by kernel_rfl)
  have hp9 : v9 = .bool true := hp9
  subst hp9
  have hw := want_of (P := Tryz.prog) (ops := cfOps) (i := 12) (j := 9) (t := 53) (b := true) (by kernel_rfl) hi (by kernel_rfl) e9
  obtain ⟨v1, e1, hp1⟩ := hh.of_dep hi 11 55 (by kernel_rfl)
  have hp1 : v1 = .pointer (some ⟨gX, 2, none⟩) := hp1
  subst hp1
  have k2 : w.cell? ⟨gX, 2, none⟩ = some (.int .u32 (x.rc.key : Nat)) := by rw [Ev.cell_of_block (h.X w hh.gr)]; rfl
  have k3 : w.cell? ⟨gX, 3, none⟩ = some (.int .i64 x.rc.time) := by rw [Ev.cell_of_block (h.X w hh.gr)]; rfl
  have k4 : w.cell? ⟨gX, 4, none⟩ = some (.int .i64 x.rc.val) := by rw [Ev.cell_of_block (h.X w hh.gr)]; rfl
  have k5 : w.cell? ⟨gX, 5, none⟩ = some (.int .u8 (x.rc.side : Nat)) := by rw [Ev.cell_of_block (h.X w hh.gr)]; rfl
  have k6 : w.cell? ⟨gX, 6, none⟩ = some (.bool x.rc.err) := by rw [Ev.cell_of_block (h.X w hh.gr)]; rfl
  have k7 : w.cell? ⟨gX, 7, none⟩ = some (.bool x.rc.late) := by rw [Ev.cell_of_block (h.X w hh.gr)]; rfl
  exact st_val hi hw _ (run_loadOp (op_of (op := .load 25 (.tmp 55)) (by kernel_rfl) hi) (eval_at e1) (by go_simp)) rfl hh.gr (Below.refl _ _)
set_option maxRecDepth 100000 in
theorem cf_13 {o : Oper} {a : Act} {w : World} (h : HF Y A c m Ab cb Ae ce gM x gX e gE W1 a0) (hi : cfOps[13]? = some o) (hh : Here cfOps (Said (cfTab Y A c m Ab cb Ae ce gM x gX e gE)) (Since W1) a0 13 o a w) :
    wpOp Tryz.prog cfOps Q 13 (fun a' w' => ∃ v, a' = a.put o.dst v ∧ Said (cfTab Y A c m Ab cb Ae ce gM x gX e gE) 13 v w' ∧ Since W1 w' ∧ Then w w') a w := by
  obtain ⟨v9, e9, hp9⟩ := hh.of_dep hi 9 53 (by kernel_rfl)
  have hp9 : v9 = .bool true := hp9
  subst hp9
  have hw := want_of (P := Tryz.prog) (ops := cfOps) (i := 13) (j := 9) (t := 53) (b := true) (by kernel_rfl) hi (by kernel_rfl) e9
  obtain ⟨v1, e1, hp1⟩ := hh.of_dep hi 10 54 (by kernel_rfl)
  have hp1 : v1 = .slice A Y.length c := hp1
  subst hp1
  obtain ⟨v2, e2, hp2⟩ := hh.of_dep hi 12 56 (by kernel_rfl)
  have hp2 : v2 = .agg #[.int .u32 (x.rc.key : Nat), .int .i64 x.rc.time, .int .i64 x.rc.val, .int .u8 (x.rc.side : Nat), .bool x.rc.err, .bool x.rc.late] := hp2
  subst hp2
  have hop := op_of (ops := cfOps) (op := .call { callee := .value (.func 9), args := #[.tmp 54, .tmp 56], argTypes := #[22, 25] }) (by kernel_rfl) hi
  exact st_call hi hw 9 _ (by simp [execOp, hop, resolve, invoke, Act.eval, Deferred.ofValue, e1, e2]) ((PRec_any A c Y x.rc w (h.rdw hh.gr) h.okX.rc  (by have := h.hY; have := h.n1; have := h.n2; omega)).mono fun _ _ ho => out_step ho hh.gr)
set_option maxRecDepth 100000 in
theorem cf_14 {o : Oper} {a : Act} {w : World} (h : HF Y A c m Ab cb Ae ce gM x gX e gE W1 a0) (hi : cfOps[14]? = some o) (hh : Here cfOps (Said (cfTab Y A c m Ab cb Ae ce gM x gX e gE)) (Since W1) a0 14 o a w) :
    wpOp Tryz.prog cfOps Q 14 (fun a' w' => ∃ v, a' = a.put o.dst v ∧ Said (cfTab Y A c m Ab cb Ae ce gM x gX e gE) 14 v w' ∧ Since W1 w' ∧ Then w w') a w := by
  obtain ⟨v9, e9, hp9⟩ := hh.of_dep hi 9 53 (by kernel_rfl)
  have hp9 : v9 = .bool true := hp9
  subst hp9
  have hw := want_of (P := Tryz.prog) (ops := cfOps) (i := 14) (j := 9) (t := 53) (b := true) (by kernel_rfl) hi (by kernel_rfl) e9
  obtain ⟨v1, e1, hp1⟩ := hh.of_dep hi 13 57 (by kernel_rfl)
  obtain ⟨A1, c1, q1, R1⟩ : OutP (Y ++ x.rc.by_) v1 w := hp1
  subst q1
  exact st_val hi hw _ (run_conv (op_of (op := .convert 22 9 (.tmp 57)) (by kernel_rfl) hi) (eval_at e1) (conv_out R1 (small_app h.yS (x.rc.small h.okX.rc)))) rfl hh.gr (Below.refl _ _)
set_option maxRecDepth 100000 in
theorem cf_15 {o : Oper} {a : Act} {w : World} (h : HF Y A c m Ab cb Ae ce gM x gX e gE W1 a0) (hi : cfOps[15]? = some o) (hh : Here cfOps (Said (cfTab Y A c m Ab cb Ae ce gM x gX e gE)) (Since W1) a0 15 o a w) :
    wpOp Tryz.prog cfOps Q 15 (fun a' w' => ∃ v, a' = a.put o.dst v ∧ Said (cfTab Y A c m Ab cb Ae ce gM x gX e gE) 15 v w' ∧ Since W1 w' ∧ Then w w') a w := by
  obtain ⟨v9, e9, hp9⟩ := hh.of_dep hi 9 53 (by kernel_rfl)
  have hp9 : v9 = .bool true := hp9
  subst hp9
  have hw := want_of (P := Tryz.prog) (ops := cfOps) (i := 15) (j := 9) (t := 53) (b := true) (by kernel_rfl) hi (by kernel_rfl) e9
  have e1 := (hh.of_base 7 (by kernel_rfl)).trans h.t7
  exact st_val hi hw _ (run_move (op_of (op := .move (.tmp 7)) (by kernel_rfl) hi) (eval_at e1)) rfl hh.gr (Below.refl _ _)
set_option maxRecDepth 100000 in
theorem cf_16 {o : Oper} {a : Act} {w : World} (h : HF Y A c m Ab cb Ae ce gM x gX e gE W1 a0) (hi : cfOps[16]? = some o) (hh : Here cfOps (Said (cfTab Y A c m Ab cb Ae ce gM x gX e gE)) (Since W1) a0 16 o a w) :
    wpOp Tryz.prog cfOps Q 16 (fun a' w' => ∃ v, a' = a.put o.dst v ∧ Said (cfTab Y A c m Ab cb Ae ce gM x gX e gE) 16 v w' ∧ Since W1 w' ∧ Then w w') a w := by
  obtain ⟨v9, e9, hp9⟩ := hh.of_dep hi 9 53 (by kernel_rfl)
  have hp9 : v9 = .bool true := hp9
  subst hp9
  have hw := want_of (P := Tryz.prog) (ops := cfOps) (i := 16) (j := 9) (t := 53) (b := true) (by kernel_rfl) hi (by kernel_rfl) e9
  have e1 := (hh.of_base 5 (by kernel_rfl)).trans h.t5
  exact st_val hi hw _ (run_fieldAddr (op_of (op := .fieldAddr 37 (.tmp 5) 2) (by kernel_rfl) hi) (eval_at e1) (by kernel_rfl)) rfl hh.gr (Below.refl _ _)
set_option maxRecDepth 100000 in
theorem cf_17 {o : Oper} {a : Act} {w : World} (h : HF Y A c m Ab cb Ae ce gM x gX e gE W1 a0) (hi : cfOps[17]? = some o) (hh : Here cfOps (Said (cfTab Y A c m Ab cb Ae ce gM x gX e gE)) (Since W1) a0 17 o a w) :
    wpOp Tryz.prog cfOps Q 17 (fun a' w' => ∃ v, a' = a.put o.dst v ∧ Said (cfTab Y A c m Ab cb Ae ce gM x gX e gE) 17 v w' ∧ Since W1 w' ∧ Then w w') a w := by
  obtain ⟨v9, e9, hp9⟩ := hh.of_dep hi 9 53 (by kernel_rfl)
  have hp9 : v9 = .bool true := hp9
  subst hp9
  have hw := want_of (P := Tryz.prog) (ops := cfOps) (i := 17) (j := 9) (t := 53) (b := true) (by kernel_rfl) hi (by kernel_rfl) e9
  obtain ⟨v1, e1, hp1⟩ := hh.of_dep hi 16 60 (by kernel_rfl)
  have hp1 : v1 = .pointer (some ⟨gX, 2, none⟩) := hp1
  subst hp1
  have k2 : w.cell? ⟨gX, 2, none⟩ = some (.int .u32 (x.rc.key : Nat)) := by rw [Ev.cell_of_block (h.X w hh.gr)]; rfl
  have k3 : w.cell? ⟨gX, 3, none⟩ = some (.int .i64 x.rc.time) := by rw [Ev.cell_of_block (h.X w hh.gr)]; rfl
  have k4 : w.cell? ⟨gX, 4, none⟩ = some (.int .i64 x.rc.val) := by rw [Ev.cell_of_block (h.X w hh.gr)]; rfl
  have k5 : w.cell? ⟨gX, 5, none⟩ = some (.int .u8 (x.rc.side : Nat)) := by rw [Ev.cell_of_block (h.X w hh.gr)]; rfl
  have k6 : w.cell? ⟨gX, 6, none⟩ = some (.bool x.rc.err) := by rw [Ev.cell_of_block (h.X w hh.gr)]; rfl
  have k7 : w.cell? ⟨gX, 7, none⟩ = some (.bool x.rc.late) := by rw [Ev.cell_of_block (h.X w hh.gr)]; rfl
  exact st_val hi hw _ (run_loadOp (op_of (op := .load 25 (.tmp 60)) (by kernel_rfl) hi) (eval_at e1) (by go_simp)) rfl hh.gr (Below.refl _ _)
set_option maxRecDepth 100000 in
theorem cf_18 {o : Oper} {a : Act} {w : World} (h : HF Y A c m Ab cb Ae ce gM x gX e gE W1 a0) (hi : cfOps[18]? = some o) (hh : Here cfOps (Said (cfTab Y A c m Ab cb Ae ce gM x gX e gE)) (Since W1) a0 18 o a w) :
    wpOp Tryz.prog cfOps Q 18 (fun a' w' => ∃ v, a' = a.put o.dst v ∧ Said (cfTab Y A c m Ab cb Ae ce gM x gX e gE) 18 v w' ∧ Since W1 w' ∧ Then w w') a w := by
  obtain ⟨v9, e9, hp9⟩ := hh.of_dep hi 9 53 (by kernel_rfl)
  have hp9 : v9 = .bool true := hp9
  subst hp9
  have hw := want_of (P := Tryz.prog) (ops := cfOps) (i := 18) (j := 9) (t := 53) (b := true) (by kernel_rfl) hi (by kernel_rfl) e9
  obtain ⟨v1, e1, hp1⟩ := hh.of_dep hi 17 61 (by kernel_rfl)
  have hp1 : v1 = .agg #[.int .u32 (x.rc.key : Nat), .int .i64 x.rc.time, .int .i64 x.rc.val, .int .u8 (x.rc.side : Nat), .bool x.rc.err, .bool x.rc.late] := hp1
  subst hp1
  have hop := op_of (ops := cfOps) (op := .call { callee := .value (.func 10), args := #[.tmp 61], argTypes := #[25] }) (by kernel_rfl) hi
  exact st_call hi hw 10 _ (by simp [execOp, hop, resolve, invoke, Act.eval, Deferred.ofValue, e1]) ((ref_rec x.rc w h.okX.rc).mono fun e' w' hs => ⟨_, hs.1, rfl, Below.trans hh.gr (hs.2.mono hh.gr.size), hs.2⟩)
set_option maxRecDepth 100000 in
theorem cf_19 {o : Oper} {a : Act} {w : World} (h : HF Y A c m Ab cb Ae ce gM x gX e gE W1 a0) (hi : cfOps[19]? = some o) (hh : Here cfOps (Said (cfTab Y A c m Ab cb Ae ce gM x gX e gE)) (Since W1) a0 19 o a w) :
    wpOp Tryz.prog cfOps Q 19 (fun a' w' => ∃ v, a' = a.put o.dst v ∧ Said (cfTab Y A c m Ab cb Ae ce gM x gX e gE) 19 v w' ∧ Since W1 w' ∧ Then w w') a w := by
  obtain ⟨v9, e9, hp9⟩ := hh.of_dep hi 9 53 (by kernel_rfl)
  have hp9 : v9 = .bool true := hp9
  subst hp9
  have hw := want_of (P := Tryz.prog) (ops := cfOps) (i := 19) (j := 9) (t := 53) (b := true) (by kernel_rfl) hi (by kernel_rfl) e9
  obtain ⟨v1, e1, hp1⟩ := hh.of_dep hi 15 59 (by kernel_rfl)
  have hp1 : v1 = .string (sb Y) := hp1
  subst hp1
  obtain ⟨v2, e2, hp2⟩ := hh.of_dep hi 18 62 (by kernel_rfl)
  have hp2 : v2 = .string (sb x.rc.by_) := hp2
  subst hp2
  refine st_val hi hw _ (run_bin (op_of (op := .binOp .add 9 (.tmp 59) (.tmp 62) 9) (by kernel_rfl) hi) (eval_at e1) (eval_at e2) (eqGuard_other (by simp) (by simp) w) (add_sb _ _ ?_ w)) rfl hh.gr (Below.refl _ _)
  have := h.hY; have := h.n1; have := h.n2; have := x.rc.len h.okX.rc; omega
set_option maxRecDepth 100000 in
theorem cf_20 {o : Oper} {a : Act} {w : World} (h : HF Y A c m Ab cb Ae ce gM x gX e gE W1 a0) (hi : cfOps[20]? = some o) (hh : Here cfOps (Said (cfTab Y A c m Ab cb Ae ce gM x gX e gE)) (Since W1) a0 20 o a w) :
    wpOp Tryz.prog cfOps Q 20 (fun a' w' => ∃ v, a' = a.put o.dst v ∧ Said (cfTab Y A c m Ab cb Ae ce gM x gX e gE) 20 v w' ∧ Since W1 w' ∧ Then w w') a w := by
  obtain ⟨v9, e9, hp9⟩ := hh.of_dep hi 9 53 (by kernel_rfl)
  have hp9 : v9 = .bool true := hp9
  subst hp9
  have hw := want_of (P := Tryz.prog) (ops := cfOps) (i := 20) (j := 9) (t := 53) (b := true) (by kernel_rfl) hi (by kernel_rfl) e9
  obtain ⟨v1, e1, hp1⟩ := hh.of_dep hi 14 58 (by kernel_rfl)
  have hp1 : v1 = .string (sb (Y ++ x.rc.by_)) := hp1
  subst hp1
  obtain ⟨v2, e2, hp2⟩ := hh.of_dep hi 19 63 (by kernel_rfl)
  have hp2 : v2 = .string (sb (Y ++ x.rc.by_)) := hp2
  subst hp2
  exact st_val hi hw _ (run_bin (op_of (op := .binOp .eql 9 (.tmp 58) (.tmp 63) 9) (by kernel_rfl) hi) (eval_at e1) (eval_at e2) (by go_simp) (by go_simp)) rfl hh.gr (Below.refl _ _)
set_option maxRecDepth 100000 in
theorem cf_21 {o : Oper} {a : Act} {w : World} (h : HF Y A c m Ab cb Ae ce gM x gX e gE W1 a0) (hi : cfOps[21]? = some o) (hh : Here cfOps (Said (cfTab Y A c m Ab cb Ae ce gM x gX e gE)) (Since W1) a0 21 o a w) :
    wpOp Tryz.prog cfOps Q 21 (fun a' w' => ∃ v, a' = a.put o.dst v ∧ Said (cfTab Y A c m Ab cb Ae ce gM x gX e gE) 21 v w' ∧ Since W1 w' ∧ Then w w') a w := by
  have hw := want_none (ops := cfOps) (a := a) (i := 21) (by kernel_rfl) hi
  obtain ⟨v1, e1, hp1⟩ := hh.of_dep hi 9 53 (by kernel_rfl)
  have hp1 : v1 = .bool true := hp1
  subst hp1
  obtain ⟨v2, e2, hp2⟩ := hh.of_dep hi 20 64 (by kernel_rfl)
  have hp2 : v2 = .bool true := hp2
  subst hp2
  exact st_val hi hw _ (run_pick (op_of (op := .pick (.tmp 53) (.tmp 64) (.const (.bool false))) (by kernel_rfl) hi) (eval_at e1) (eval_at e2) rfl) rfl hh.gr (Below.refl _ _)
set_option maxRecDepth 100000 in
theorem cf_22 {o : Oper} {a : Act} {w : World} (h : HF Y A c m Ab cb Ae ce gM x gX e gE W1 a0) (hi : cfOps[22]? = some o) (hh : Here cfOps (Said (cfTab Y A c m Ab cb Ae ce gM x gX e gE)) (Since W1) a0 22 o a w) :
    wpOp Tryz.prog cfOps Q 22 (fun a' w' => ∃ v, a' = a.put o.dst v ∧ Said (cfTab Y A c m Ab cb Ae ce gM x gX e gE) 22 v w' ∧ Since W1 w' ∧ Then w w') a w := by
  have hw := want_none (ops := cfOps) (a := a) (i := 22) (by kernel_rfl) hi
  obtain ⟨v1, e1, hp1⟩ := hh.of_dep hi 21 65 (by kernel_rfl)
  have hp1 : v1 = .bool true := hp1
  subst hp1
  exact st_val hi hw _ (run_move (op_of (op := .move (.tmp 65)) (by kernel_rfl) hi) (eval_at e1)) rfl hh.gr (Below.refl _ _)
set_option maxRecDepth 100000 in
theorem cf_23 {o : Oper} {a : Act} {w : World} (h : HF Y A c m Ab cb Ae ce gM x gX e gE W1 a0) (hi : cfOps[23]? = some o) (hh : Here cfOps (Said (cfTab Y A c m Ab cb Ae ce gM x gX e gE)) (Since W1) a0 23 o a w) :
    wpOp Tryz.prog cfOps Q 23 (fun a' w' => ∃ v, a' = a.put o.dst v ∧ Said (cfTab Y A c m Ab cb Ae ce gM x gX e gE) 23 v w' ∧ Since W1 w' ∧ Then w w') a w := by
  obtain ⟨v9, e9, hp9⟩ := hh.of_dep hi 22 66 (by kernel_rfl)
  have hp9 : v9 = .bool true := hp9
  subst hp9
  have hw := want_of (P := Tryz.prog) (ops := cfOps) (i := 23) (j := 22) (t := 66) (b := true) (by kernel_rfl) hi (by kernel_rfl) e9
  have e1 := (hh.of_base 0 (by kernel_rfl)).trans h.t0
  exact st_val hi hw _ (run_move (op_of (op := .move (.tmp 0)) (by kernel_rfl) hi) (eval_at e1)) rfl hh.gr (Below.refl _ _)
set_option maxRecDepth 100000 in
theorem cf_24 {o : Oper} {a : Act} {w : World} (h : HF Y A c m Ab cb Ae ce gM x gX e gE W1 a0) (hi : cfOps[24]? = some o) (hh : Here cfOps (Said (cfTab Y A c m Ab cb Ae ce gM x gX e gE)) (Since W1) a0 24 o a w) :
    wpOp Tryz.prog cfOps Q 24 (fun a' w' => ∃ v, a' = a.put o.dst v ∧ Said (cfTab Y A c m Ab cb Ae ce gM x gX e gE) 24 v w' ∧ Since W1 w' ∧ Then w w') a w := by
  obtain ⟨v9, e9, hp9⟩ := hh.of_dep hi 22 66 (by kernel_rfl)
  have hp9 : v9 = .bool true := hp9
  subst hp9
  have hw := want_of (P := Tryz.prog) (ops := cfOps) (i := 24) (j := 22) (t := 66) (b := true) (by kernel_rfl) hi (by kernel_rfl) e9
  have e1 := (hh.of_base 4 (by kernel_rfl)).trans h.t4
  exact st_val hi hw _ (run_fieldAddr (op_of (op := .fieldAddr 35 (.tmp 4) 5) (by kernel_rfl) hi) (eval_at e1) (by kernel_rfl)) rfl hh.gr (Below.refl _ _)
set_option maxRecDepth 100000 in
theorem cf_25 {o : Oper} {a : Act} {w : World} (h : HF Y A c m Ab cb Ae ce gM x gX e gE W1 a0) (hi : cfOps[25]? = some o) (hh : Here cfOps (Said (cfTab Y A c m Ab cb Ae ce gM x gX e gE)) (Since W1) a0 25 o a w) :
    wpOp Tryz.prog cfOps Q 25 (fun a' w' => ∃ v, a' = a.put o.dst v ∧ Said (cfTab Y A c m Ab cb Ae ce gM x gX e gE) 25 v w' ∧ Since W1 w' ∧ Then w w') a w := by
  obtain ⟨v9, e9, hp9⟩ := hh.of_dep hi 22 66 (by kernel_rfl)
  have hp9 : v9 = .bool true := hp9
  subst hp9
  have hw := want_of (P := Tryz.prog) (ops := cfOps) (i := 25) (j := 22) (t := 66) (b := true) (by kernel_rfl) hi (by kernel_rfl) e9
  obtain ⟨v1, e1, hp1⟩ := hh.of_dep hi 24 68 (by kernel_rfl)
  have hp1 : v1 = .pointer (some ⟨gM, 10, none⟩) := hp1
  subst hp1
  have k10 : w.cell? ⟨gM, 10, none⟩ = some (.int .i64 m.cmd.kind) := by rw [Ev.cell_of_block (h.M w hh.gr)]; rfl
  have k11 : w.cell? ⟨gM, 11, none⟩ = some (.int .i64 m.cmd.at_) := by rw [Ev.cell_of_block (h.M w hh.gr)]; rfl
  have k12 : w.cell? ⟨gM, 12, none⟩ = some (.slice Ab m.cmd.bins.length cb) := by rw [Ev.cell_of_block (h.M w hh.gr)]; rfl
  have k13 : w.cell? ⟨gM, 13, none⟩ = some (.int .i64 m.cmd.dst) := by rw [Ev.cell_of_block (h.M w hh.gr)]; rfl
  have k14 : w.cell? ⟨gM, 14, none⟩ = some (.int .i64 m.cmd.node) := by rw [Ev.cell_of_block (h.M w hh.gr)]; rfl
  have k15 : w.cell? ⟨gM, 15, none⟩ = some (.int .i64 m.cmd.op.kind) := by rw [Ev.cell_of_block (h.M w hh.gr)]; rfl
  have k16 : w.cell? ⟨gM, 16, none⟩ = some (.int .i64 m.cmd.op.a) := by rw [Ev.cell_of_block (h.M w hh.gr)]; rfl
  have k17 : w.cell? ⟨gM, 17, none⟩ = some (.int .i64 m.cmd.op.b) := by rw [Ev.cell_of_block (h.M w hh.gr)]; rfl
  have k18 : w.cell? ⟨gM, 18, none⟩ = some (.int .i64 m.cmd.op.agg) := by rw [Ev.cell_of_block (h.M w hh.gr)]; rfl
  have k19 : w.cell? ⟨gM, 19, none⟩ = some (.int .i64 m.cmd.mode) := by rw [Ev.cell_of_block (h.M w hh.gr)]; rfl
  exact st_val hi hw _ (run_loadOp (op_of (op := .load 30 (.tmp 68)) (by kernel_rfl) hi) (eval_at e1) (by go_simp)) rfl hh.gr (Below.refl _ _)
set_option maxRecDepth 100000 in
theorem cf_26 {o : Oper} {a : Act} {w : World} (h : HF Y A c m Ab cb Ae ce gM x gX e gE W1 a0) (hi : cfOps[26]? = some o) (hh : Here cfOps (Said (cfTab Y A c m Ab cb Ae ce gM x gX e gE)) (Since W1) a0 26 o a w) :
    wpOp Tryz.prog cfOps Q 26 (fun a' w' => ∃ v, a' = a.put o.dst v ∧ Said (cfTab Y A c m Ab cb Ae ce gM x gX e gE) 26 v w' ∧ Since W1 w' ∧ Then w w') a w := by
  obtain ⟨v9, e9, hp9⟩ := hh.of_dep hi 22 66 (by kernel_rfl)
  have hp9 : v9 = .bool true := hp9
  subst hp9
  have hw := want_of (P := Tryz.prog) (ops := cfOps) (i := 26) (j := 22) (t := 66) (b := true) (by kernel_rfl) hi (by kernel_rfl) e9
  obtain ⟨v1, e1, hp1⟩ := hh.of_dep hi 23 67 (by kernel_rfl)
  have hp1 : v1 = .slice A Y.length c := hp1
  subst hp1
  obtain ⟨v2, e2, hp2⟩ := hh.of_dep hi 25 69 (by kernel_rfl)
  have hp2 : v2 = .agg #[.int .i64 m.cmd.kind, .int .i64 m.cmd.at_, .slice Ab m.cmd.bins.length cb, .int .i64 m.cmd.dst, .int .i64 m.cmd.node, .int .i64 m.cmd.op.kind, .int .i64 m.cmd.op.a, .int .i64 m.cmd.op.b, .int .i64 m.cmd.op.agg, .int .i64 m.cmd.mode] := hp2
  subst hp2
  have hop := op_of (ops := cfOps) (op := .call { callee := .value (.func 11), args := #[.tmp 67, .tmp 69], argTypes := #[22, 30] }) (by kernel_rfl) hi
  exact st_call hi hw 11 _ (by simp [execOp, hop, resolve, invoke, Act.eval, Deferred.ofValue, e1, e2]) ((PCmd_any A c Ab cb Y m.cmd w (h.rdw hh.gr) h.okM.cmd (h.k1w hh.gr) (by have := h.hY; have := h.n1; have := h.n2; omega)).mono fun _ _ ho => out_step ho hh.gr)
set_option maxRecDepth 100000 in
theorem cf_27 {o : Oper} {a : Act} {w : World} (h : HF Y A c m Ab cb Ae ce gM x gX e gE W1 a0) (hi : cfOps[27]? = some o) (hh : Here cfOps (Said (cfTab Y A c m Ab cb Ae ce gM x gX e gE)) (Since W1) a0 27 o a w) :
    wpOp Tryz.prog cfOps Q 27 (fun a' w' => ∃ v, a' = a.put o.dst v ∧ Said (cfTab Y A c m Ab cb Ae ce gM x gX e gE) 27 v w' ∧ Since W1 w' ∧ Then w w') a w := by
  obtain ⟨v9, e9, hp9⟩ := hh.of_dep hi 22 66 (by kernel_rfl)
  have hp9 : v9 = .bool true := hp9
  subst hp9
  have hw := want_of (P := Tryz.prog) (ops := cfOps) (i := 27) (j := 22) (t := 66) (b := true) (by kernel_rfl) hi (by kernel_rfl) e9
  obtain ⟨v1, e1, hp1⟩ := hh.of_dep hi 26 70 (by kernel_rfl)
  obtain ⟨A1, c1, q1, R1⟩ : OutP (Y ++ m.cmd.by_) v1 w := hp1
  subst q1
  exact st_val hi hw _ (run_conv (op_of (op := .convert 22 9 (.tmp 70)) (by kernel_rfl) hi) (eval_at e1) (conv_out R1 (small_app h.yS (m.cmd.small h.okM.cmd)))) rfl hh.gr (Below.refl _ _)
set_option maxRecDepth 100000 in
theorem cf_28 {o : Oper} {a : Act} {w : World} (h : HF Y A c m Ab cb Ae ce gM x gX e gE W1 a0) (hi : cfOps[28]? = some o) (hh : Here cfOps (Said (cfTab Y A c m Ab cb Ae ce gM x gX e gE)) (Since W1) a0 28 o a w) :
    wpOp Tryz.prog cfOps Q 28 (fun a' w' => ∃ v, a' = a.put o.dst v ∧ Said (cfTab Y A c m Ab cb Ae ce gM x gX e gE) 28 v w' ∧ Since W1 w' ∧ Then w w') a w := by
  obtain ⟨v9, e9, hp9⟩ := hh.of_dep hi 22 66 (by kernel_rfl)
  have hp9 : v9 = .bool true := hp9
  subst hp9
  have hw := want_of (P := Tryz.prog) (ops := cfOps) (i := 28) (j := 22) (t := 66) (b := true) (by kernel_rfl) hi (by kernel_rfl) e9
  have e1 := (hh.of_base 7 (by kernel_rfl)).trans h.t7
  exact st_val hi hw _ (run_move (op_of (op := .move (.tmp 7)) (by kernel_rfl) hi) (eval_at e1)) rfl hh.gr (Below.refl _ _)
set_option maxRecDepth 100000 in
theorem cf_29 {o : Oper} {a : Act} {w : World} (h : HF Y A c m Ab cb Ae ce gM x gX e gE W1 a0) (hi : cfOps[29]? = some o) (hh : Here cfOps (Said (cfTab Y A c m Ab cb Ae ce gM x gX e gE)) (Since W1) a0 29 o a w) :
    wpOp Tryz.prog cfOps Q 29 (fun a' w' => ∃ v, a' = a.put o.dst v ∧ Said (cfTab Y A c m Ab cb Ae ce gM x gX e gE) 29 v w' ∧ Since W1 w' ∧ Then w w') a w := by
  obtain ⟨v9, e9, hp9⟩ := hh.of_dep hi 22 66 (by kernel_rfl)
  have hp9 : v9 = .bool true := hp9
  subst hp9
  have hw := want_of (P := Tryz.prog) (ops := cfOps) (i := 29) (j := 22) (t := 66) (b := true) (by kernel_rfl) hi (by kernel_rfl) e9
  have e1 := (hh.of_base 4 (by kernel_rfl)).trans h.t4
  exact st_val hi hw _ (run_fieldAddr (op_of (op := .fieldAddr 35 (.tmp 4) 5) (by kernel_rfl) hi) (eval_at e1) (by kernel_rfl)) rfl hh.gr (Below.refl _ _)
set_option maxRecDepth 100000 in
theorem cf_30 {o : Oper} {a : Act} {w : World} (h : HF Y A c m Ab cb Ae ce gM x gX e gE W1 a0) (hi : cfOps[30]? = some o) (hh : Here cfOps (Said (cfTab Y A c m Ab cb Ae ce gM x gX e gE)) (Since W1) a0 30 o a w) :
    wpOp Tryz.prog cfOps Q 30 (fun a' w' => ∃ v, a' = a.put o.dst v ∧ Said (cfTab Y A c m Ab cb Ae ce gM x gX e gE) 30 v w' ∧ Since W1 w' ∧ Then w w') a w := by
  obtain ⟨v9, e9, hp9⟩ := hh.of_dep hi 22 66 (by kernel_rfl)
  have hp9 : v9 = .bool true := hp9
  subst hp9
  have hw := want_of (P := Tryz.prog) (ops := cfOps) (i := 30) (j := 22) (t := 66) (b := true) (by kernel_rfl) hi (by kernel_rfl) e9
  obtain ⟨v1, e1, hp1⟩ := hh.of_dep hi 29 73 (by kernel_rfl)
  have hp1 : v1 = .pointer (some ⟨gM, 10, none⟩) := hp1
  subst hp1
  have k10 : w.cell? ⟨gM, 10, none⟩ = some (.int .i64 m.cmd.kind) := by rw [Ev.cell_of_block (h.M w hh.gr)]; rfl
  have k11 : w.cell? ⟨gM, 11, none⟩ = some (.int .i64 m.cmd.at_) := by rw [Ev.cell_of_block (h.M w hh.gr)]; rfl
  have k12 : w.cell? ⟨gM, 12, none⟩ = some (.slice Ab m.cmd.bins.length cb) := by rw [Ev.cell_of_block (h.M w hh.gr)]; rfl
  have k13 : w.cell? ⟨gM, 13, none⟩ = some (.int .i64 m.cmd.dst) := by rw [Ev.cell_of_block (h.M w hh.gr)]; rfl
  have k14 : w.cell? ⟨gM, 14, none⟩ = some (.int .i64 m.cmd.node) := by rw [Ev.cell_of_block (h.M w hh.gr)]; rfl
  have k15 : w.cell? ⟨gM, 15, none⟩ = some (.int .i64 m.cmd.op.kind) := by rw [Ev.cell_of_block (h.M w hh.gr)]; rfl
  have k16 : w.cell? ⟨gM, 16, none⟩ = some (.int .i64 m.cmd.op.a) := by rw [Ev.cell_of_block (h.M w hh.gr)]; rfl
  have k17 : w.cell? ⟨gM, 17, none⟩ = some (.int .i64 m.cmd.op.b) := by rw [Ev.cell_of_block (h.M w hh.gr)]; rfl
  have k18 : w.cell? ⟨gM, 18, none⟩ = some (.int .i64 m.cmd.op.agg) := by rw [Ev.cell_of_block (h.M w hh.gr)]; rfl
  have k19 : w.cell? ⟨gM, 19, none⟩ = some (.int .i64 m.cmd.mode) := by rw [Ev.cell_of_block (h.M w hh.gr)]; rfl
  exact st_val hi hw _ (run_loadOp (op_of (op := .load 30 (.tmp 73)) (by kernel_rfl) hi) (eval_at e1) (by go_simp)) rfl hh.gr (Below.refl _ _)
set_option maxRecDepth 100000 in
theorem cf_31 {o : Oper} {a : Act} {w : World} (h : HF Y A c m Ab cb Ae ce gM x gX e gE W1 a0) (hi : cfOps[31]? = some o) (hh : Here cfOps (Said (cfTab Y A c m Ab cb Ae ce gM x gX e gE)) (Since W1) a0 31 o a w) :
    wpOp Tryz.prog cfOps Q 31 (fun a' w' => ∃ v, a' = a.put o.dst v ∧ Said (cfTab Y A c m Ab cb Ae ce gM x gX e gE) 31 v w' ∧ Since W1 w' ∧ Then w w') a w := by
  obtain ⟨v9, e9, hp9⟩ := hh.of_dep hi 22 66 (by kernel_rfl)
  have hp9 : v9 = .bool true := hp9
  subst hp9
  have hw := want_of (P := Tryz.prog) (ops := cfOps) (i := 31) (j := 22) (t := 66) (b := true) (by kernel_rfl) hi (by kernel_rfl) e9
  obtain ⟨v1, e1, hp1⟩ := hh.of_dep hi 30 74 (by kernel_rfl)
  have hp1 : v1 = .agg #[.int .i64 m.cmd.kind, .int .i64 m.cmd.at_, .slice Ab m.cmd.bins.length cb, .int .i64 m.cmd.dst, .int .i64 m.cmd.node, .int .i64 m.cmd.op.kind, .int .i64 m.cmd.op.a, .int .i64 m.cmd.op.b, .int .i64 m.cmd.op.agg, .int .i64 m.cmd.mode] := hp1
  subst hp1
  have hop := op_of (ops := cfOps) (op := .call { callee := .value (.func 12), args := #[.tmp 74], argTypes := #[30] }) (by kernel_rfl) hi
  exact st_call hi hw 12 _ (by simp [execOp, hop, resolve, invoke, Act.eval, Deferred.ofValue, e1]) ((ref_cmd m.cmd Ab cb w h.okM.cmd (h.k1w hh.gr)).mono fun e' w' hs => ⟨_, hs.1, rfl, Below.trans hh.gr (hs.2.mono hh.gr.size), hs.2⟩)
set_option maxRecDepth 100000 in
theorem cf_32 {o : Oper} {a : Act} {w : World} (h : HF Y A c m Ab cb Ae ce gM x gX e gE W1 a0) (hi : cfOps[32]? = some o) (hh : Here cfOps (Said (cfTab Y A c m Ab cb Ae ce gM x gX e gE)) (Since W1) a0 32 o a w) :
    wpOp Tryz.prog cfOps Q 32 (fun a' w' => ∃ v, a' = a.put o.dst v ∧ Said (cfTab Y A c m Ab cb Ae ce gM x gX e gE) 32 v w' ∧ Since W1 w' ∧ Then w w') a w := by
  obtain ⟨v9, e9, hp9⟩ := hh.of_dep hi 22 66 (by kernel_rfl)
  have hp9 : v9 = .bool true := hp9
  subst hp9
  have hw := want_of (P := Tryz.prog) (ops := cfOps) (i := 32) (j := 22) (t := 66) (b := true) (by kernel_rfl) hi (by kernel_rfl) e9
  obtain ⟨v1, e1, hp1⟩ := hh.of_dep hi 28 72 (by kernel_rfl)
  have hp1 : v1 = .string (sb Y) := hp1
  subst hp1
  obtain ⟨v2, e2, hp2⟩ := hh.of_dep hi 31 75 (by kernel_rfl)
  have hp2 : v2 = .string (sb m.cmd.by_) := hp2
  subst hp2
  refine st_val hi hw _ (run_bin (op_of (op := .binOp .add 9 (.tmp 72) (.tmp 75) 9) (by kernel_rfl) hi) (eval_at e1) (eval_at e2) (eqGuard_other (by simp) (by simp) w) (add_sb _ _ ?_ w)) rfl hh.gr (Below.refl _ _)
  have := h.hY; have := h.n1; have := h.n2; have := m.cmd.len h.okM.cmd; omega
set_option maxRecDepth 100000 in
theorem cf_33 {o : Oper} {a : Act} {w : World} (h : HF Y A c m Ab cb Ae ce gM x gX e gE W1 a0) (hi : cfOps[33]? = some o) (hh : Here cfOps (Said (cfTab Y A c m Ab cb Ae ce gM x gX e gE)) (Since W1) a0 33 o a w) :
    wpOp Tryz.prog cfOps Q 33 (fun a' w' => ∃ v, a' = a.put o.dst v ∧ Said (cfTab Y A c m Ab cb Ae ce gM x gX e gE) 33 v w' ∧ Since W1 w' ∧ Then w w') a w := by
  obtain ⟨v9, e9, hp9⟩ := hh.of_dep hi 22 66 (by kernel_rfl)
  have hp9 : v9 = .bool true := hp9
  subst hp9
  have hw := want_of (P := Tryz.prog) (ops := cfOps) (i := 33) (j := 22) (t := 66) (b := true) (by kernel_rfl) hi (by kernel_rfl) e9
  obtain ⟨v1, e1, hp1⟩ := hh.of_dep hi 27 71 (by kernel_rfl)
  have hp1 : v1 = .string (sb (Y ++ m.cmd.by_)) := hp1
  subst hp1
  obtain ⟨v2, e2, hp2⟩ := hh.of_dep hi 32 76 (by kernel_rfl)
  have hp2 : v2 = .string (sb (Y ++ m.cmd.by_)) := hp2
  subst hp2
  exact st_val hi hw _ (run_bin (op_of (op := .binOp .eql 9 (.tmp 71) (.tmp 76) 9) (by kernel_rfl) hi) (eval_at e1) (eval_at e2) (by go_simp) (by go_simp)) rfl hh.gr (Below.refl _ _)
set_option maxRecDepth 100000 in
theorem cf_34 {o : Oper} {a : Act} {w : World} (h : HF Y A c m Ab cb Ae ce gM x gX e gE W1 a0) (hi : cfOps[34]? = some o) (hh : Here cfOps (Said (cfTab Y A c m Ab cb Ae ce gM x gX e gE)) (Since W1) a0 34 o a w) :
    wpOp Tryz.prog cfOps Q 34 (fun a' w' => ∃ v, a' = a.put o.dst v ∧ Said (cfTab Y A c m Ab cb Ae ce gM x gX e gE) 34 v w' ∧ Since W1 w' ∧ Then w w') a w := by
  have hw := want_none (ops := cfOps) (a := a) (i := 34) (by kernel_rfl) hi
  obtain ⟨v1, e1, hp1⟩ := hh.of_dep hi 22 66 (by kernel_rfl)
  have hp1 : v1 = .bool true := hp1
  subst hp1
  obtain ⟨v2, e2, hp2⟩ := hh.of_dep hi 33 77 (by kernel_rfl)
  have hp2 : v2 = .bool true := hp2
  subst hp2
  exact st_val hi hw _ (run_pick (op_of (op := .pick (.tmp 66) (.tmp 77) (.const (.bool false))) (by kernel_rfl) hi) (eval_at e1) (eval_at e2) rfl) rfl hh.gr (Below.refl _ _)
set_option maxRecDepth 100000 in
theorem cf_35 {o : Oper} {a : Act} {w : World} (h : HF Y A c m Ab cb Ae ce gM x gX e gE W1 a0) (hi : cfOps[35]? = some o) (hh : Here cfOps (Said (cfTab Y A c m Ab cb Ae ce gM x gX e gE)) (Since W1) a0 35 o a w) :
    wpOp Tryz.prog cfOps Q 35 (fun a' w' => ∃ v, a' = a.put o.dst v ∧ Said (cfTab Y A c m Ab cb Ae ce gM x gX e gE) 35 v w' ∧ Since W1 w' ∧ Then w w') a w := by
  have hw := want_none (ops := cfOps) (a := a) (i := 35) (by kernel_rfl) hi
  obtain ⟨v1, e1, hp1⟩ := hh.of_dep hi 34 78 (by kernel_rfl)
  have hp1 : v1 = .bool true := hp1
  subst hp1
  exact st_val hi hw _ (run_move (op_of (op := .move (.tmp 78)) (by kernel_rfl) hi) (eval_at e1)) rfl hh.gr (Below.refl _ _)
set_option maxRecDepth 100000 in
theorem cf_36 {o : Oper} {a : Act} {w : World} (h : HF Y A c m Ab cb Ae ce gM x gX e gE W1 a0) (hi : cfOps[36]? = some o) (hh : Here cfOps (Said (cfTab Y A c m Ab cb Ae ce gM x gX e gE)) (Since W1) a0 36 o a w) :
    wpOp Tryz.prog cfOps Q 36 (fun a' w' => ∃ v, a' = a.put o.dst v ∧ Said (cfTab Y A c m Ab cb Ae ce gM x gX e gE) 36 v w' ∧ Since W1 w' ∧ Then w w') a w := by
  obtain ⟨v9, e9, hp9⟩ := hh.of_dep hi 35 79 (by kernel_rfl)
  have hp9 : v9 = .bool true := hp9
  subst hp9
  have hw := want_of (P := Tryz.prog) (ops := cfOps) (i := 36) (j := 35) (t := 79) (b := true) (by kernel_rfl) hi (by kernel_rfl) e9
  have e1 := (hh.of_base 0 (by kernel_rfl)).trans h.t0
  exact st_val hi hw _ (run_move (op_of (op := .move (.tmp 0)) (by kernel_rfl) hi) (eval_at e1)) rfl hh.gr (Below.refl _ _)
set_option maxRecDepth 100000 in
theorem cf_37 {o : Oper} {a : Act} {w : World} (h : HF Y A c m Ab cb Ae ce gM x gX e gE W1 a0) (hi : cfOps[37]? = some o) (hh : Here cfOps (Said (cfTab Y A c m Ab cb Ae ce gM x gX e gE)) (Since W1) a0 37 o a w) :
    wpOp Tryz.prog cfOps Q 37 (fun a' w' => ∃ v, a' = a.put o.dst v ∧ Said (cfTab Y A c m Ab cb Ae ce gM x gX e gE) 37 v w' ∧ Since W1 w' ∧ Then w w') a w := by
  obtain ⟨v9, e9, hp9⟩ := hh.of_dep hi 35 79 (by kernel_rfl)
  have hp9 : v9 = .bool true := hp9
  subst hp9
  have hw := want_of (P := Tryz.prog) (ops := cfOps) (i := 37) (j := 35) (t := 79) (b := true) (by kernel_rfl) hi (by kernel_rfl) e9
  have e1 := (hh.of_base 4 (by kernel_rfl)).trans h.t4
  exact st_val hi hw _ (run_fieldAddr (op_of (op := .fieldAddr 35 (.tmp 4) 5) (by kernel_rfl) hi) (eval_at e1) (by kernel_rfl)) rfl hh.gr (Below.refl _ _)
set_option maxRecDepth 100000 in
theorem cf_38 {o : Oper} {a : Act} {w : World} (h : HF Y A c m Ab cb Ae ce gM x gX e gE W1 a0) (hi : cfOps[38]? = some o) (hh : Here cfOps (Said (cfTab Y A c m Ab cb Ae ce gM x gX e gE)) (Since W1) a0 38 o a w) :
    wpOp Tryz.prog cfOps Q 38 (fun a' w' => ∃ v, a' = a.put o.dst v ∧ Said (cfTab Y A c m Ab cb Ae ce gM x gX e gE) 38 v w' ∧ Since W1 w' ∧ Then w w') a w := by
  obtain ⟨v9, e9, hp9⟩ := hh.of_dep hi 35 79 (by kernel_rfl)
  have hp9 : v9 = .bool true := hp9
  subst hp9
  have hw := want_of (P := Tryz.prog) (ops := cfOps) (i := 38) (j := 35) (t := 79) (b := true) (by kernel_rfl) hi (by kernel_rfl) e9
  obtain ⟨v1, e1, hp1⟩ := hh.of_dep hi 37 81 (by kernel_rfl)
  have hp1 : v1 = .pointer (some ⟨gM, 10, none⟩) := hp1
  subst hp1
  exact st_val hi hw _ (run_fieldAddr (op_of (op := .fieldAddr 30 (.tmp 81) 5) (by kernel_rfl) hi) (eval_at e1) (by kernel_rfl)) rfl hh.gr (Below.refl _ _)
set_option maxRecDepth 100000 in
theorem cf_39 {o : Oper} {a : Act} {w : World} (h : HF Y A c m Ab cb Ae ce gM x gX e gE W1 a0) (hi : cfOps[39]? = some o) (hh : Here cfOps (Said (cfTab Y A c m Ab cb Ae ce gM x gX e gE)) (Since W1) a0 39 o a w) :
    wpOp Tryz.prog cfOps Q 39 (fun a' w' => ∃ v, a' = a.put o.dst v ∧ Said (cfTab Y A c m Ab cb Ae ce gM x gX e gE) 39 v w' ∧ Since W1 w' ∧ Then w w') a w := by
  obtain ⟨v9, e9, hp9⟩ := hh.of_dep hi 35 79 (by kernel_rfl)
  have hp9 : v9 = .bool true := hp9
  subst hp9
  have hw := want_of (P := Tryz.prog) (ops := cfOps) (i := 39) (j := 35) (t := 79) (b := true) (by kernel_rfl) hi (by kernel_rfl) e9
  obtain ⟨v1, e1, hp1⟩ := hh.of_dep hi 38 82 (by kernel_rfl)
  have hp1 : v1 = .pointer (some ⟨gM, 15, none⟩) := hp1
  subst hp1
  have k15 : w.cell? ⟨gM, 15, none⟩ = some (.int .i64 m.cmd.op.kind) := by rw [Ev.cell_of_block (h.M w hh.gr)]; rfl
  have k16 : w.cell? ⟨gM, 16, none⟩ = some (.int .i64 m.cmd.op.a) := by rw [Ev.cell_of_block (h.M w hh.gr)]; rfl
  have k17 : w.cell? ⟨gM, 17, none⟩ = some (.int .i64 m.cmd.op.b) := by rw [Ev.cell_of_block (h.M w hh.gr)]; rfl
  have k18 : w.cell? ⟨gM, 18, none⟩ = some (.int .i64 m.cmd.op.agg) := by rw [Ev.cell_of_block (h.M w hh.gr)]; rfl
  exact st_val hi hw _ (run_loadOp (op_of (op := .load 28 (.tmp 82)) (by kernel_rfl) hi) (eval_at e1) (by go_simp)) rfl hh.gr (Below.refl _ _)
set_option maxRecDepth 100000 in
theorem cf_40 {o : Oper} {a : Act} {w : World} (h : HF Y A c m Ab cb Ae ce gM x gX e gE W1 a0) (hi : cfOps[40]? = some o) (hh : Here cfOps (Said (cfTab Y A c m Ab cb Ae ce gM x gX e gE)) (Since W1) a0 40 o a w) :
    wpOp Tryz.prog cfOps Q 40 (fun a' w' => ∃ v, a' = a.put o.dst v ∧ Said (cfTab Y A c m Ab cb Ae ce gM x gX e gE) 40 v w' ∧ Since W1 w' ∧ Then w w') a w := by
  obtain ⟨v9, e9, hp9⟩ := hh.of_dep hi 35 79 (by kernel_rfl)
  have hp9 : v9 = .bool true := hp9
  subst hp9
  have hw := want_of (P := Tryz.prog) (ops := cfOps) (i := 40) (j := 35) (t := 79) (b := true) (by kernel_rfl) hi (by kernel_rfl) e9
  obtain ⟨v1, e1, hp1⟩ := hh.of_dep hi 36 80 (by kernel_rfl)
  have hp1 : v1 = .slice A Y.length c := hp1
  subst hp1
  obtain ⟨v2, e2, hp2⟩ := hh.of_dep hi 39 83 (by kernel_rfl)
  have hp2 : v2 = .agg #[.int .i64 m.cmd.op.kind, .int .i64 m.cmd.op.a, .int .i64 m.cmd.op.b, .int .i64 m.cmd.op.agg] := hp2
  subst hp2
  have hop := op_of (ops := cfOps) (op := .call { callee := .value (.func 13), args := #[.tmp 80, .tmp 83], argTypes := #[22, 28] }) (by kernel_rfl) hi
  exact st_call hi hw 13 _ (by simp [execOp, hop, resolve, invoke, Act.eval, Deferred.ofValue, e1, e2]) ((POp_any A c Y m.cmd.op w (h.rdw hh.gr) h.okM.cmd.op  (by have := h.hY; have := h.n1; have := h.n2; omega)).mono fun _ _ ho => out_step ho hh.gr)
set_option maxRecDepth 100000 in
theorem cf_41 {o : Oper} {a : Act} {w : World} (h : HF Y A c m Ab cb Ae ce gM x gX e gE W1 a0) (hi : cfOps[41]? = some o) (hh : Here cfOps (Said (cfTab Y A c m Ab cb Ae ce gM x gX e gE)) (Since W1) a0 41 o a w) :
    wpOp Tryz.prog cfOps Q 41 (fun a' w' => ∃ v, a' = a.put o.dst v ∧ Said (cfTab Y A c m Ab cb Ae ce gM x gX e gE) 41 v w' ∧ Since W1 w' ∧ Then w w') a w := by
  obtain ⟨v9, e9, hp9⟩ := hh.of_dep hi 35 79 (by kernel_rfl)
  have hp9 : v9 = .bool true := hp9
  subst hp9
  have hw := want_of (P := Tryz.prog) (ops := cfOps) (i := 41) (j := 35) (t := 79) (b := true) (by kernel_rfl) hi (by kernel_rfl) e9
  obtain ⟨v1, e1, hp1⟩ := hh.of_dep hi 40 84 (by kernel_rfl)
  obtain ⟨A1, c1, q1, R1⟩ : OutP (Y ++ m.cmd.op.by_) v1 w := hp1
  subst q1
  exact st_val hi hw _ (run_conv (op_of (op := .convert 22 9 (.tmp 84)) (by kernel_rfl) hi) (eval_at e1) (conv_out R1 (small_app h.yS (m.cmd.op.small h.okM.cmd.op)))) rfl hh.gr (Below.refl _ _)
set_option maxRecDepth 100000 in
theorem cf_42 {o : Oper} {a : Act} {w : World} (h : HF Y A c m Ab cb Ae ce gM x gX e gE W1 a0) (hi : cfOps[42]? = some o) (hh : Here cfOps (Said (cfTab Y A c m Ab cb Ae ce gM x gX e gE)) (Since W1) a0 42 o a w) :
    wpOp Tryz.prog cfOps Q 42 (fun a' w' => ∃ v, a' = a.put o.dst v ∧ Said (cfTab Y A c m Ab cb Ae ce gM x gX e gE) 42 v w' ∧ Since W1 w' ∧ Then w w') a w := by
  obtain ⟨v9, e9, hp9⟩ := hh.of_dep hi 35 79 (by kernel_rfl)
  have hp9 : v9 = .bool true := hp9
  subst hp9
  have hw := want_of (P := Tryz.prog) (ops := cfOps) (i := 42) (j := 35) (t := 79) (b := true) (by kernel_rfl) hi (by kernel_rfl) e9
  have e1 := (hh.of_base 7 (by kernel_rfl)).trans h.t7
  exact st_val hi hw _ (run_move (op_of (op := .move (.tmp 7)) (by kernel_rfl) hi) (eval_at e1)) rfl hh.gr (Below.refl _ _)
set_option maxRecDepth 100000 in
theorem cf_43 {o : Oper} {a : Act} {w : World} (h : HF Y A c m Ab cb Ae ce gM x gX e gE W1 a0) (hi : cfOps[43]? = some o) (hh : Here cfOps (Said (cfTab Y A c m Ab cb Ae ce gM x gX e gE)) (Since W1) a0 43 o a w) :
    wpOp Tryz.prog cfOps Q 43 (fun a' w' => ∃ v, a' = a.put o.dst v ∧ Said (cfTab Y A c m Ab cb Ae ce gM x gX e gE) 43 v w' ∧ Since W1 w' ∧ Then w w') a w := by
  obtain ⟨v9, e9, hp9⟩ := hh.of_dep hi 35 79 (by kernel_rfl)
  have hp9 : v9 = .bool true := hp9
  subst hp9
  have hw := want_of (P := Tryz.prog) (ops := cfOps) (i := 43) (j := 35) (t := 79) (b := true) (by kernel_rfl) hi (by kernel_rfl) e9
  have e1 := (hh.of_base 4 (by kernel_rfl)).trans h.t4
  exact st_val hi hw _ (run_fieldAddr (op_of (op := .fieldAddr 35 (.tmp 4) 5) (by kernel_rfl) hi) (eval_at e1) (by kernel_rfl)) rfl hh.gr (Below.refl _ _)
set_option maxRecDepth 100000 in
theorem cf_44 {o : Oper} {a : Act} {w : World} (h : HF Y A c m Ab cb Ae ce gM x gX e gE W1 a0) (hi : cfOps[44]? = some o) (hh : Here cfOps (Said (cfTab Y A c m Ab cb Ae ce gM x gX e gE)) (Since W1) a0 44 o a w) :
    wpOp Tryz.prog cfOps Q 44 (fun a' w' => ∃ v, a' = a.put o.dst v ∧ Said (cfTab Y A c m Ab cb Ae ce gM x gX e gE) 44 v w' ∧ Since W1 w' ∧ Then w w') a w := by
  obtain ⟨v9, e9, hp9⟩ := hh.of_dep hi 35 79 (by kernel_rfl)
  have hp9 : v9 = .bool true := hp9
  subst hp9
  have hw := want_of (P := Tryz.prog) (ops := cfOps) (i := 44) (j := 35) (t := 79) (b := true) (by kernel_rfl) hi (by kernel_rfl) e9
  obtain ⟨v1, e1, hp1⟩ := hh.of_dep hi 43 87 (by kernel_rfl)
  have hp1 : v1 = .pointer (some ⟨gM, 10, none⟩) := hp1
  subst hp1
  exact st_val hi hw _ (run_fieldAddr (op_of (op := .fieldAddr 30 (.tmp 87) 5) (by kernel_rfl) hi) (eval_at e1) (by kernel_rfl)) rfl hh.gr (Below.refl _ _)
set_option maxRecDepth 100000 in
theorem cf_45 {o : Oper} {a : Act} {w : World} (h : HF Y A c m Ab cb Ae ce gM x gX e gE W1 a0) (hi : cfOps[45]? = some o) (hh : Here cfOps (Said (cfTab Y A c m Ab cb Ae ce gM x gX e gE)) (Since W1) a0 45 o a w) :
    wpOp Tryz.prog cfOps Q 45 (fun a' w' => ∃ v, a' = a.put o.dst v ∧ Said (cfTab Y A c m Ab cb Ae ce gM x gX e gE) 45 v w' ∧ Since W1 w' ∧ Then w w') a w := by
  obtain ⟨v9, e9, hp9⟩ := hh.of_dep hi 35 79 (by kernel_rfl)
  have hp9 : v9 = .bool true := hp9
  subst hp9
  have hw := want_of (P := Tryz.prog) (ops := cfOps) (i := 45) (j := 35) (t := 79) (b := true) (by kernel_rfl) hi (by kernel_rfl) e9
  obtain ⟨v1, e1, hp1⟩ := hh.of_dep hi 44 88 (by kernel_rfl)
  have hp1 : v1 = .pointer (some ⟨gM, 15, none⟩) := hp1
  subst hp1
  have k15 : w.cell? ⟨gM, 15, none⟩ = some (.int .i64 m.cmd.op.kind) := by rw [Ev.cell_of_block (h.M w hh.gr)]; rfl
  have k16 : w.cell? ⟨gM, 16, none⟩ = some (.int .i64 m.cmd.op.a) := by rw [Ev.cell_of_block (h.M w hh.gr)]; rfl
  have k17 : w.cell? ⟨gM, 17, none⟩ = some (.int .i64 m.cmd.op.b) := by rw [Ev.cell_of_block (h.M w hh.gr)]; rfl
  have k18 : w.cell? ⟨gM, 18, none⟩ = some (.int .i64 m.cmd.op.agg) := by rw [Ev.cell_of_block (h.M w hh.gr)]; rfl
  exact st_val hi hw _ (run_loadOp (op_of (op := .load 28 (.tmp 88)) (by kernel_rfl) hi) (eval_at e1) (by go_simp)) rfl hh.gr (Below.refl _ _)
set_option maxRecDepth 100000 in
theorem cf_46 {o : Oper} {a : Act} {w : World} (h : HF Y A c m Ab cb Ae ce gM x gX e gE W1 a0) (hi : cfOps[46]? = some o) (hh : Here cfOps (Said (cfTab Y A c m Ab cb Ae ce gM x gX e gE)) (Since W1) a0 46 o a w) :
    wpOp Tryz.prog cfOps Q 46 (fun a' w' => ∃ v, a' = a.put o.dst v ∧ Said (cfTab Y A c m Ab cb Ae ce gM x gX e gE) 46 v w' ∧ Since W1 w' ∧ Then w w') a w := by
  obtain ⟨v9, e9, hp9⟩ := hh.of_dep hi 35 79 (by kernel_rfl)
  have hp9 : v9 = .bool true := hp9
  subst hp9
  have hw := want_of (P := Tryz.prog) (ops := cfOps) (i := 46) (j := 35) (t := 79) (b := true) (by kernel_rfl) hi (by kernel_rfl) e9
  obtain ⟨v1, e1, hp1⟩ := hh.of_dep hi 45 89 (by kernel_rfl)
  have hp1 : v1 = .agg #[.int .i64 m.cmd.op.kind, .int .i64 m.cmd.op.a, .int .i64 m.cmd.op.b, .int .i64 m.cmd.op.agg] := hp1
  subst hp1
  have hop := op_of (ops := cfOps) (op := .call { callee := .value (.func 14), args := #[.tmp 89], argTypes := #[28] }) (by kernel_rfl) hi
  exact st_call hi hw 14 _ (by simp [execOp, hop, resolve, invoke, Act.eval, Deferred.ofValue, e1]) ((ref_opn m.cmd.op w h.okM.cmd.op).mono fun e' w' hs => ⟨_, hs.1, rfl, Below.trans hh.gr (hs.2.mono hh.gr.size), hs.2⟩)
set_option maxRecDepth 100000 in
theorem cf_47 {o : Oper} {a : Act} {w : World} (h : HF Y A c m Ab cb Ae ce gM x gX e gE W1 a0) (hi : cfOps[47]? = some o) (hh : Here cfOps (Said (cfTab Y A c m Ab cb Ae ce gM x gX e gE)) (Since W1) a0 47 o a w) :
    wpOp Tryz.prog cfOps Q 47 (fun a' w' => ∃ v, a' = a.put o.dst v ∧ Said (cfTab Y A c m Ab cb Ae ce gM x gX e gE) 47 v w' ∧ Since W1 w' ∧ Then w w') a w := by
  obtain ⟨v9, e9, hp9⟩ := hh.of_dep hi 35 79 (by kernel_rfl)
  have hp9 : v9 = .bool true := hp9
  subst hp9
  have hw := want_of (P := Tryz.prog) (ops := cfOps) (i := 47) (j := 35) (t := 79) (b := true) (by kernel_rfl) hi (by kernel_rfl) e9
  obtain ⟨v1, e1, hp1⟩ := hh.of_dep hi 42 86 (by kernel_rfl)
  have hp1 : v1 = .string (sb Y) := hp1
  subst hp1
  obtain ⟨v2, e2, hp2⟩ := hh.of_dep hi 46 90 (by kernel_rfl)
  have hp2 : v2 = .string (sb m.cmd.op.by_) := hp2
  subst hp2
  refine st_val hi hw _ (run_bin (op_of (op := .binOp .add 9 (.tmp 86) (.tmp 90) 9) (by kernel_rfl) hi) (eval_at e1) (eval_at e2) (eqGuard_other (by simp) (by simp) w) (add_sb _ _ ?_ w)) rfl hh.gr (Below.refl _ _)
  have := h.hY; have := h.n1; have := h.n2; have := m.cmd.op.len h.okM.cmd.op; omega
set_option maxRecDepth 100000 in
theorem cf_48 {o : Oper} {a : Act} {w : World} (h : HF Y A c m Ab cb Ae ce gM x gX e gE W1 a0) (hi : cfOps[48]? = some o) (hh : Here cfOps (Said (cfTab Y A c m Ab cb Ae ce gM x gX e gE)) (Since W1) a0 48 o a w) :
    wpOp Tryz.prog cfOps Q 48 (fun a' w' => ∃ v, a' = a.put o.dst v ∧ Said (cfTab Y A c m Ab cb Ae ce gM x gX e gE) 48 v w' ∧ Since W1 w' ∧ Then w w') a w := by
  obtain ⟨v9, e9, hp9⟩ := hh.of_dep hi 35 79 (by kernel_rfl)
  have hp9 : v9 = .bool true := hp9
  subst hp9
  have hw := want_of (P := Tryz.prog) (ops := cfOps) (i := 48) (j := 35) (t := 79) (b := true) (by kernel_rfl) hi (by kernel_rfl) e9
  obtain ⟨v1, e1, hp1⟩ := hh.of_dep hi 41 85 (by kernel_rfl)
  have hp1 : v1 = .string (sb (Y ++ m.cmd.op.by_)) := hp1
  subst hp1
  obtain ⟨v2, e2, hp2⟩ := hh.of_dep hi 47 91 (by kernel_rfl)
  have hp2 : v2 = .string (sb (Y ++ m.cmd.op.by_)) := hp2
  subst hp2
  exact st_val hi hw _ (run_bin (op_of (op := .binOp .eql 9 (.tmp 85) (.tmp 91) 9) (by kernel_rfl) hi) (eval_at e1) (eval_at e2) (by go_simp) (by go_simp)) rfl hh.gr (Below.refl _ _)
set_option maxRecDepth 100000 in
theorem cf_49 {o : Oper} {a : Act} {w : World} (h : HF Y A c m Ab cb Ae ce gM x gX e gE W1 a0) (hi : cfOps[49]? = some o) (hh : Here cfOps (Said (cfTab Y A c m Ab cb Ae ce gM x gX e gE)) (Since W1) a0 49 o a w) :
    wpOp Tryz.prog cfOps Q 49 (fun a' w' => ∃ v, a' = a.put o.dst v ∧ Said (cfTab Y A c m Ab cb Ae ce gM x gX e gE) 49 v w' ∧ Since W1 w' ∧ Then w w') a w := by
  have hw := want_none (ops := cfOps) (a := a) (i := 49) (by kernel_rfl) hi
  obtain ⟨v1, e1, hp1⟩ := hh.of_dep hi 35 79 (by kernel_rfl)
  have hp1 : v1 = .bool true := hp1
  subst hp1
  obtain ⟨v2, e2, hp2⟩ := hh.of_dep hi 48 92 (by kernel_rfl)
  have hp2 : v2 = .bool true := hp2
  subst hp2
  exact st_val hi hw _ (run_pick (op_of (op := .pick (.tmp 79) (.tmp 92) (.const (.bool false))) (by kernel_rfl) hi) (eval_at e1) (eval_at e2) rfl) rfl hh.gr (Below.refl _ _)
set_option maxRecDepth 100000 in
theorem cf_50 {o : Oper} {a : Act} {w : World} (h : HF Y A c m Ab cb Ae ce gM x gX e gE W1 a0) (hi : cfOps[50]? = some o) (hh : Here cfOps (Said (cfTab Y A c m Ab cb Ae ce gM x gX e gE)) (Since W1) a0 50 o a w) :
    wpOp Tryz.prog cfOps Q 50 (fun a' w' => ∃ v, a' = a.put o.dst v ∧ Said (cfTab Y A c m Ab cb Ae ce gM x gX e gE) 50 v w' ∧ Since W1 w' ∧ Then w w') a w := by
  have hw := want_none (ops := cfOps) (a := a) (i := 50) (by kernel_rfl) hi
  obtain ⟨v1, e1, hp1⟩ := hh.of_dep hi 49 93 (by kernel_rfl)
  have hp1 : v1 = .bool true := hp1
  subst hp1
  exact st_val hi hw _ (run_move (op_of (op := .move (.tmp 93)) (by kernel_rfl) hi) (eval_at e1)) rfl hh.gr (Below.refl _ _)
set_option maxRecDepth 100000 in
theorem cf_51 {o : Oper} {a : Act} {w : World} (h : HF Y A c m Ab cb Ae ce gM x gX e gE W1 a0) (hi : cfOps[51]? = some o) (hh : Here cfOps (Said (cfTab Y A c m Ab cb Ae ce gM x gX e gE)) (Since W1) a0 51 o a w) :
    wpOp Tryz.prog cfOps Q 51 (fun a' w' => ∃ v, a' = a.put o.dst v ∧ Said (cfTab Y A c m Ab cb Ae ce gM x gX e gE) 51 v w' ∧ Since W1 w' ∧ Then w w') a w := by
  obtain ⟨v9, e9, hp9⟩ := hh.of_dep hi 50 94 (by kernel_rfl)
  have hp9 : v9 = .bool true := hp9
  subst hp9
  have hw := want_of (P := Tryz.prog) (ops := cfOps) (i := 51) (j := 50) (t := 94) (b := true) (by kernel_rfl) hi (by kernel_rfl) e9
  have e1 := (hh.of_base 0 (by kernel_rfl)).trans h.t0
  exact st_val hi hw _ (run_move (op_of (op := .move (.tmp 0)) (by kernel_rfl) hi) (eval_at e1)) rfl hh.gr (Below.refl _ _)
set_option maxRecDepth 100000 in
theorem cf_52 {o : Oper} {a : Act} {w : World} (h : HF Y A c m Ab cb Ae ce gM x gX e gE W1 a0) (hi : cfOps[52]? = some o) (hh : Here cfOps (Said (cfTab Y A c m Ab cb Ae ce gM x gX e gE)) (Since W1) a0 52 o a w) :
    wpOp Tryz.prog cfOps Q 52 (fun a' w' => ∃ v, a' = a.put o.dst v ∧ Said (cfTab Y A c m Ab cb Ae ce gM x gX e gE) 52 v w' ∧ Since W1 w' ∧ Then w w') a w := by
  obtain ⟨v9, e9, hp9⟩ := hh.of_dep hi 50 94 (by kernel_rfl)
  have hp9 : v9 = .bool true := hp9
  subst hp9
  have hw := want_of (P := Tryz.prog) (ops := cfOps) (i := 52) (j := 50) (t := 94) (b := true) (by kernel_rfl) hi (by kernel_rfl) e9
  have e1 := (hh.of_base 9 (by kernel_rfl)).trans h.t9
  exact st_val hi hw _ (run_loadOp (op_of (op := .load 45 (.tmp 9)) (by kernel_rfl) hi) (eval_at e1) (load_row (h.E w hh.gr) Tryz.underlying45 rfl (by kernel_rfl))) rfl hh.gr (Below.refl _ _)
set_option maxRecDepth 100000 in
theorem cf_53 {o : Oper} {a : Act} {w : World} (h : HF Y A c m Ab cb Ae ce gM x gX e gE W1 a0) (hi : cfOps[53]? = some o) (hh : Here cfOps (Said (cfTab Y A c m Ab cb Ae ce gM x gX e gE)) (Since W1) a0 53 o a w) :
    wpOp Tryz.prog cfOps Q 53 (fun a' w' => ∃ v, a' = a.put o.dst v ∧ Said (cfTab Y A c m Ab cb Ae ce gM x gX e gE) 53 v w' ∧ Since W1 w' ∧ Then w w') a w := by
  obtain ⟨v9, e9, hp9⟩ := hh.of_dep hi 50 94 (by kernel_rfl)
  have hp9 : v9 = .bool true := hp9
  subst hp9
  have hw := want_of (P := Tryz.prog) (ops := cfOps) (i := 53) (j := 50) (t := 94) (b := true) (by kernel_rfl) hi (by kernel_rfl) e9
  obtain ⟨v1, e1, hp1⟩ := hh.of_dep hi 51 95 (by kernel_rfl)
  have hp1 : v1 = .slice A Y.length c := hp1
  subst hp1
  obtain ⟨v2, e2, hp2⟩ := hh.of_dep hi 52 96 (by kernel_rfl)
  have hp2 : v2 = .agg #[.int .i64 e.ver, .int .u32 (e.key : Nat), .int .i64 e.start, .int .i64 e.end_, .int .u8 (e.side : Nat), .int .i64 e.acc.n, .int .i64 e.acc.hi, .int .u64 (e.acc.lo : Nat), .int .i64 e.acc.min, .int .i64 e.acc.max] := hp2
  subst hp2
  have hop := op_of (ops := cfOps) (op := .call { callee := .value (.func 15), args := #[.tmp 95, .tmp 96], argTypes := #[22, 45] }) (by kernel_rfl) hi
  exact st_call hi hw 15 _ (by simp [execOp, hop, resolve, invoke, Act.eval, Deferred.ofValue, e1, e2]) ((PEntry_any A c Y e w (h.rdw hh.gr) h.okE  (by have := h.hY; have := h.n1; have := h.n2; omega)).mono fun _ _ ho => out_step ho hh.gr)
set_option maxRecDepth 100000 in
theorem cf_54 {o : Oper} {a : Act} {w : World} (h : HF Y A c m Ab cb Ae ce gM x gX e gE W1 a0) (hi : cfOps[54]? = some o) (hh : Here cfOps (Said (cfTab Y A c m Ab cb Ae ce gM x gX e gE)) (Since W1) a0 54 o a w) :
    wpOp Tryz.prog cfOps Q 54 (fun a' w' => ∃ v, a' = a.put o.dst v ∧ Said (cfTab Y A c m Ab cb Ae ce gM x gX e gE) 54 v w' ∧ Since W1 w' ∧ Then w w') a w := by
  obtain ⟨v9, e9, hp9⟩ := hh.of_dep hi 50 94 (by kernel_rfl)
  have hp9 : v9 = .bool true := hp9
  subst hp9
  have hw := want_of (P := Tryz.prog) (ops := cfOps) (i := 54) (j := 50) (t := 94) (b := true) (by kernel_rfl) hi (by kernel_rfl) e9
  obtain ⟨v1, e1, hp1⟩ := hh.of_dep hi 53 97 (by kernel_rfl)
  obtain ⟨A1, c1, q1, R1⟩ : OutP (Y ++ e.by_) v1 w := hp1
  subst q1
  exact st_val hi hw _ (run_conv (op_of (op := .convert 22 9 (.tmp 97)) (by kernel_rfl) hi) (eval_at e1) (conv_out R1 (small_app h.yS (e.small h.okE)))) rfl hh.gr (Below.refl _ _)
set_option maxRecDepth 100000 in
theorem cf_55 {o : Oper} {a : Act} {w : World} (h : HF Y A c m Ab cb Ae ce gM x gX e gE W1 a0) (hi : cfOps[55]? = some o) (hh : Here cfOps (Said (cfTab Y A c m Ab cb Ae ce gM x gX e gE)) (Since W1) a0 55 o a w) :
    wpOp Tryz.prog cfOps Q 55 (fun a' w' => ∃ v, a' = a.put o.dst v ∧ Said (cfTab Y A c m Ab cb Ae ce gM x gX e gE) 55 v w' ∧ Since W1 w' ∧ Then w w') a w := by
  obtain ⟨v9, e9, hp9⟩ := hh.of_dep hi 50 94 (by kernel_rfl)
  have hp9 : v9 = .bool true := hp9
  subst hp9
  have hw := want_of (P := Tryz.prog) (ops := cfOps) (i := 55) (j := 50) (t := 94) (b := true) (by kernel_rfl) hi (by kernel_rfl) e9
  have e1 := (hh.of_base 7 (by kernel_rfl)).trans h.t7
  exact st_val hi hw _ (run_move (op_of (op := .move (.tmp 7)) (by kernel_rfl) hi) (eval_at e1)) rfl hh.gr (Below.refl _ _)
set_option maxRecDepth 100000 in
theorem cf_56 {o : Oper} {a : Act} {w : World} (h : HF Y A c m Ab cb Ae ce gM x gX e gE W1 a0) (hi : cfOps[56]? = some o) (hh : Here cfOps (Said (cfTab Y A c m Ab cb Ae ce gM x gX e gE)) (Since W1) a0 56 o a w) :
    wpOp Tryz.prog cfOps Q 56 (fun a' w' => ∃ v, a' = a.put o.dst v ∧ Said (cfTab Y A c m Ab cb Ae ce gM x gX e gE) 56 v w' ∧ Since W1 w' ∧ Then w w') a w := by
  obtain ⟨v9, e9, hp9⟩ := hh.of_dep hi 50 94 (by kernel_rfl)
  have hp9 : v9 = .bool true := hp9
  subst hp9
  have hw := want_of (P := Tryz.prog) (ops := cfOps) (i := 56) (j := 50) (t := 94) (b := true) (by kernel_rfl) hi (by kernel_rfl) e9
  have e1 := (hh.of_base 9 (by kernel_rfl)).trans h.t9
  exact st_val hi hw _ (run_loadOp (op_of (op := .load 45 (.tmp 9)) (by kernel_rfl) hi) (eval_at e1) (load_row (h.E w hh.gr) Tryz.underlying45 rfl (by kernel_rfl))) rfl hh.gr (Below.refl _ _)
set_option maxRecDepth 100000 in
theorem cf_57 {o : Oper} {a : Act} {w : World} (h : HF Y A c m Ab cb Ae ce gM x gX e gE W1 a0) (hi : cfOps[57]? = some o) (hh : Here cfOps (Said (cfTab Y A c m Ab cb Ae ce gM x gX e gE)) (Since W1) a0 57 o a w) :
    wpOp Tryz.prog cfOps Q 57 (fun a' w' => ∃ v, a' = a.put o.dst v ∧ Said (cfTab Y A c m Ab cb Ae ce gM x gX e gE) 57 v w' ∧ Since W1 w' ∧ Then w w') a w := by
  obtain ⟨v9, e9, hp9⟩ := hh.of_dep hi 50 94 (by kernel_rfl)
  have hp9 : v9 = .bool true := hp9
  subst hp9
  have hw := want_of (P := Tryz.prog) (ops := cfOps) (i := 57) (j := 50) (t := 94) (b := true) (by kernel_rfl) hi (by kernel_rfl) e9
  obtain ⟨v1, e1, hp1⟩ := hh.of_dep hi 56 100 (by kernel_rfl)
  have hp1 : v1 = .agg #[.int .i64 e.ver, .int .u32 (e.key : Nat), .int .i64 e.start, .int .i64 e.end_, .int .u8 (e.side : Nat), .int .i64 e.acc.n, .int .i64 e.acc.hi, .int .u64 (e.acc.lo : Nat), .int .i64 e.acc.min, .int .i64 e.acc.max] := hp1
  subst hp1
  have hop := op_of (ops := cfOps) (op := .call { callee := .value (.func 16), args := #[.tmp 100], argTypes := #[45] }) (by kernel_rfl) hi
  exact st_call hi hw 16 _ (by simp [execOp, hop, resolve, invoke, Act.eval, Deferred.ofValue, e1]) ((ref_ent e w h.okE).mono fun e' w' hs => ⟨_, hs.1, rfl, Below.trans hh.gr (hs.2.mono hh.gr.size), hs.2⟩)
set_option maxRecDepth 100000 in
theorem cf_58 {o : Oper} {a : Act} {w : World} (h : HF Y A c m Ab cb Ae ce gM x gX e gE W1 a0) (hi : cfOps[58]? = some o) (hh : Here cfOps (Said (cfTab Y A c m Ab cb Ae ce gM x gX e gE)) (Since W1) a0 58 o a w) :
    wpOp Tryz.prog cfOps Q 58 (fun a' w' => ∃ v, a' = a.put o.dst v ∧ Said (cfTab Y A c m Ab cb Ae ce gM x gX e gE) 58 v w' ∧ Since W1 w' ∧ Then w w') a w := by
  obtain ⟨v9, e9, hp9⟩ := hh.of_dep hi 50 94 (by kernel_rfl)
  have hp9 : v9 = .bool true := hp9
  subst hp9
  have hw := want_of (P := Tryz.prog) (ops := cfOps) (i := 58) (j := 50) (t := 94) (b := true) (by kernel_rfl) hi (by kernel_rfl) e9
  obtain ⟨v1, e1, hp1⟩ := hh.of_dep hi 55 99 (by kernel_rfl)
  have hp1 : v1 = .string (sb Y) := hp1
  subst hp1
  obtain ⟨v2, e2, hp2⟩ := hh.of_dep hi 57 101 (by kernel_rfl)
  have hp2 : v2 = .string (sb e.by_) := hp2
  subst hp2
  refine st_val hi hw _ (run_bin (op_of (op := .binOp .add 9 (.tmp 99) (.tmp 101) 9) (by kernel_rfl) hi) (eval_at e1) (eval_at e2) (eqGuard_other (by simp) (by simp) w) (add_sb _ _ ?_ w)) rfl hh.gr (Below.refl _ _)
  have := h.hY; have := h.n1; have := h.n2; have := e.len h.okE; omega
set_option maxRecDepth 100000 in
theorem cf_59 {o : Oper} {a : Act} {w : World} (h : HF Y A c m Ab cb Ae ce gM x gX e gE W1 a0) (hi : cfOps[59]? = some o) (hh : Here cfOps (Said (cfTab Y A c m Ab cb Ae ce gM x gX e gE)) (Since W1) a0 59 o a w) :
    wpOp Tryz.prog cfOps Q 59 (fun a' w' => ∃ v, a' = a.put o.dst v ∧ Said (cfTab Y A c m Ab cb Ae ce gM x gX e gE) 59 v w' ∧ Since W1 w' ∧ Then w w') a w := by
  obtain ⟨v9, e9, hp9⟩ := hh.of_dep hi 50 94 (by kernel_rfl)
  have hp9 : v9 = .bool true := hp9
  subst hp9
  have hw := want_of (P := Tryz.prog) (ops := cfOps) (i := 59) (j := 50) (t := 94) (b := true) (by kernel_rfl) hi (by kernel_rfl) e9
  obtain ⟨v1, e1, hp1⟩ := hh.of_dep hi 54 98 (by kernel_rfl)
  have hp1 : v1 = .string (sb (Y ++ e.by_)) := hp1
  subst hp1
  obtain ⟨v2, e2, hp2⟩ := hh.of_dep hi 58 102 (by kernel_rfl)
  have hp2 : v2 = .string (sb (Y ++ e.by_)) := hp2
  subst hp2
  exact st_val hi hw _ (run_bin (op_of (op := .binOp .eql 9 (.tmp 98) (.tmp 102) 9) (by kernel_rfl) hi) (eval_at e1) (eval_at e2) (by go_simp) (by go_simp)) rfl hh.gr (Below.refl _ _)
set_option maxRecDepth 100000 in
theorem cf_60 {o : Oper} {a : Act} {w : World} (h : HF Y A c m Ab cb Ae ce gM x gX e gE W1 a0) (hi : cfOps[60]? = some o) (hh : Here cfOps (Said (cfTab Y A c m Ab cb Ae ce gM x gX e gE)) (Since W1) a0 60 o a w) :
    wpOp Tryz.prog cfOps Q 60 (fun a' w' => ∃ v, a' = a.put o.dst v ∧ Said (cfTab Y A c m Ab cb Ae ce gM x gX e gE) 60 v w' ∧ Since W1 w' ∧ Then w w') a w := by
  have hw := want_none (ops := cfOps) (a := a) (i := 60) (by kernel_rfl) hi
  obtain ⟨v1, e1, hp1⟩ := hh.of_dep hi 50 94 (by kernel_rfl)
  have hp1 : v1 = .bool true := hp1
  subst hp1
  obtain ⟨v2, e2, hp2⟩ := hh.of_dep hi 59 103 (by kernel_rfl)
  have hp2 : v2 = .bool true := hp2
  subst hp2
  exact st_val hi hw _ (run_pick (op_of (op := .pick (.tmp 94) (.tmp 103) (.const (.bool false))) (by kernel_rfl) hi) (eval_at e1) (eval_at e2) rfl) rfl hh.gr (Below.refl _ _)
set_option maxRecDepth 100000 in
theorem cf_61 {o : Oper} {a : Act} {w : World} (h : HF Y A c m Ab cb Ae ce gM x gX e gE W1 a0) (hi : cfOps[61]? = some o) (hh : Here cfOps (Said (cfTab Y A c m Ab cb Ae ce gM x gX e gE)) (Since W1) a0 61 o a w) :
    wpOp Tryz.prog cfOps Q 61 (fun a' w' => ∃ v, a' = a.put o.dst v ∧ Said (cfTab Y A c m Ab cb Ae ce gM x gX e gE) 61 v w' ∧ Since W1 w' ∧ Then w w') a w := by
  have hw := want_none (ops := cfOps) (a := a) (i := 61) (by kernel_rfl) hi
  obtain ⟨v1, e1, hp1⟩ := hh.of_dep hi 60 104 (by kernel_rfl)
  have hp1 : v1 = .bool true := hp1
  subst hp1
  exact st_val hi hw _ (run_move (op_of (op := .move (.tmp 104)) (by kernel_rfl) hi) (eval_at e1)) rfl hh.gr (Below.refl _ _)
set_option maxRecDepth 100000 in
theorem cf_62 {o : Oper} {a : Act} {w : World} (h : HF Y A c m Ab cb Ae ce gM x gX e gE W1 a0) (hi : cfOps[62]? = some o) (hh : Here cfOps (Said (cfTab Y A c m Ab cb Ae ce gM x gX e gE)) (Since W1) a0 62 o a w) :
    wpOp Tryz.prog cfOps Q 62 (fun a' w' => ∃ v, a' = a.put o.dst v ∧ Said (cfTab Y A c m Ab cb Ae ce gM x gX e gE) 62 v w' ∧ Since W1 w' ∧ Then w w') a w := by
  obtain ⟨v9, e9, hp9⟩ := hh.of_dep hi 61 105 (by kernel_rfl)
  have hp9 : v9 = .bool true := hp9
  subst hp9
  have hw := want_of (P := Tryz.prog) (ops := cfOps) (i := 62) (j := 61) (t := 105) (b := true) (by kernel_rfl) hi (by kernel_rfl) e9
  have e1 := (hh.of_base 0 (by kernel_rfl)).trans h.t0
  exact st_val hi hw _ (run_move (op_of (op := .move (.tmp 0)) (by kernel_rfl) hi) (eval_at e1)) rfl hh.gr (Below.refl _ _)
set_option maxRecDepth 100000 in
theorem cf_63 {o : Oper} {a : Act} {w : World} (h : HF Y A c m Ab cb Ae ce gM x gX e gE W1 a0) (hi : cfOps[63]? = some o) (hh : Here cfOps (Said (cfTab Y A c m Ab cb Ae ce gM x gX e gE)) (Since W1) a0 63 o a w) :
    wpOp Tryz.prog cfOps Q 63 (fun a' w' => ∃ v, a' = a.put o.dst v ∧ Said (cfTab Y A c m Ab cb Ae ce gM x gX e gE) 63 v w' ∧ Since W1 w' ∧ Then w w') a w := by
  obtain ⟨v9, e9, hp9⟩ := hh.of_dep hi 61 105 (by kernel_rfl)
  have hp9 : v9 = .bool true := hp9
  subst hp9
  have hw := want_of (P := Tryz.prog) (ops := cfOps) (i := 63) (j := 61) (t := 105) (b := true) (by kernel_rfl) hi (by kernel_rfl) e9
  have e1 := (hh.of_base 9 (by kernel_rfl)).trans h.t9
  exact st_val hi hw _ (run_fieldAddr (op_of (op := .fieldAddr 45 (.tmp 9) 5) (by kernel_rfl) hi) (eval_at e1) (by kernel_rfl)) rfl hh.gr (Below.refl _ _)
set_option maxRecDepth 100000 in
theorem cf_64 {o : Oper} {a : Act} {w : World} (h : HF Y A c m Ab cb Ae ce gM x gX e gE W1 a0) (hi : cfOps[64]? = some o) (hh : Here cfOps (Said (cfTab Y A c m Ab cb Ae ce gM x gX e gE)) (Since W1) a0 64 o a w) :
    wpOp Tryz.prog cfOps Q 64 (fun a' w' => ∃ v, a' = a.put o.dst v ∧ Said (cfTab Y A c m Ab cb Ae ce gM x gX e gE) 64 v w' ∧ Since W1 w' ∧ Then w w') a w := by
  obtain ⟨v9, e9, hp9⟩ := hh.of_dep hi 61 105 (by kernel_rfl)
  have hp9 : v9 = .bool true := hp9
  subst hp9
  have hw := want_of (P := Tryz.prog) (ops := cfOps) (i := 64) (j := 61) (t := 105) (b := true) (by kernel_rfl) hi (by kernel_rfl) e9
  obtain ⟨v1, e1, hp1⟩ := hh.of_dep hi 63 107 (by kernel_rfl)
  have hp1 : v1 = .pointer (some ⟨gE, 5, none⟩) := hp1
  subst hp1
  have k5 : w.cell? ⟨gE, 5, none⟩ = some (.int .i64 e.acc.n) := by rw [Ev.cell_of_block (h.E w hh.gr)]; rfl
  have k6 : w.cell? ⟨gE, 6, none⟩ = some (.int .i64 e.acc.hi) := by rw [Ev.cell_of_block (h.E w hh.gr)]; rfl
  have k7 : w.cell? ⟨gE, 7, none⟩ = some (.int .u64 (e.acc.lo : Nat)) := by rw [Ev.cell_of_block (h.E w hh.gr)]; rfl
  have k8 : w.cell? ⟨gE, 8, none⟩ = some (.int .i64 e.acc.min) := by rw [Ev.cell_of_block (h.E w hh.gr)]; rfl
  have k9 : w.cell? ⟨gE, 9, none⟩ = some (.int .i64 e.acc.max) := by rw [Ev.cell_of_block (h.E w hh.gr)]; rfl
  exact st_val hi hw _ (run_loadOp (op_of (op := .load 43 (.tmp 107)) (by kernel_rfl) hi) (eval_at e1) (by go_simp)) rfl hh.gr (Below.refl _ _)
set_option maxRecDepth 100000 in
theorem cf_65 {o : Oper} {a : Act} {w : World} (h : HF Y A c m Ab cb Ae ce gM x gX e gE W1 a0) (hi : cfOps[65]? = some o) (hh : Here cfOps (Said (cfTab Y A c m Ab cb Ae ce gM x gX e gE)) (Since W1) a0 65 o a w) :
    wpOp Tryz.prog cfOps Q 65 (fun a' w' => ∃ v, a' = a.put o.dst v ∧ Said (cfTab Y A c m Ab cb Ae ce gM x gX e gE) 65 v w' ∧ Since W1 w' ∧ Then w w') a w := by
  obtain ⟨v9, e9, hp9⟩ := hh.of_dep hi 61 105 (by kernel_rfl)
  have hp9 : v9 = .bool true := hp9
  subst hp9
  have hw := want_of (P := Tryz.prog) (ops := cfOps) (i := 65) (j := 61) (t := 105) (b := true) (by kernel_rfl) hi (by kernel_rfl) e9
  obtain ⟨v1, e1, hp1⟩ := hh.of_dep hi 62 106 (by kernel_rfl)
  have hp1 : v1 = .slice A Y.length c := hp1
  subst hp1
  obtain ⟨v2, e2, hp2⟩ := hh.of_dep hi 64 108 (by kernel_rfl)
  have hp2 : v2 = .agg #[.int .i64 e.acc.n, .int .i64 e.acc.hi, .int .u64 (e.acc.lo : Nat), .int .i64 e.acc.min, .int .i64 e.acc.max] := hp2
  subst hp2
  have hop := op_of (ops := cfOps) (op := .call { callee := .value (.func 17), args := #[.tmp 106, .tmp 108], argTypes := #[22, 43] }) (by kernel_rfl) hi
  exact st_call hi hw 17 _ (by simp [execOp, hop, resolve, invoke, Act.eval, Deferred.ofValue, e1, e2]) ((PAcc_any A c Y e.acc w (h.rdw hh.gr) h.okE.acc  (by have := h.hY; have := h.n1; have := h.n2; omega)).mono fun _ _ ho => out_step ho hh.gr)
set_option maxRecDepth 100000 in
theorem cf_66 {o : Oper} {a : Act} {w : World} (h : HF Y A c m Ab cb Ae ce gM x gX e gE W1 a0) (hi : cfOps[66]? = some o) (hh : Here cfOps (Said (cfTab Y A c m Ab cb Ae ce gM x gX e gE)) (Since W1) a0 66 o a w) :
    wpOp Tryz.prog cfOps Q 66 (fun a' w' => ∃ v, a' = a.put o.dst v ∧ Said (cfTab Y A c m Ab cb Ae ce gM x gX e gE) 66 v w' ∧ Since W1 w' ∧ Then w w') a w := by
  obtain ⟨v9, e9, hp9⟩ := hh.of_dep hi 61 105 (by kernel_rfl)
  have hp9 : v9 = .bool true := hp9
  subst hp9
  have hw := want_of (P := Tryz.prog) (ops := cfOps) (i := 66) (j := 61) (t := 105) (b := true) (by kernel_rfl) hi (by kernel_rfl) e9
  obtain ⟨v1, e1, hp1⟩ := hh.of_dep hi 65 109 (by kernel_rfl)
  obtain ⟨A1, c1, q1, R1⟩ : OutP (Y ++ e.acc.by_) v1 w := hp1
  subst q1
  exact st_val hi hw _ (run_conv (op_of (op := .convert 22 9 (.tmp 109)) (by kernel_rfl) hi) (eval_at e1) (conv_out R1 (small_app h.yS (e.acc.small h.okE.acc)))) rfl hh.gr (Below.refl _ _)
set_option maxRecDepth 100000 in
theorem cf_67 {o : Oper} {a : Act} {w : World} (h : HF Y A c m Ab cb Ae ce gM x gX e gE W1 a0) (hi : cfOps[67]? = some o) (hh : Here cfOps (Said (cfTab Y A c m Ab cb Ae ce gM x gX e gE)) (Since W1) a0 67 o a w) :
    wpOp Tryz.prog cfOps Q 67 (fun a' w' => ∃ v, a' = a.put o.dst v ∧ Said (cfTab Y A c m Ab cb Ae ce gM x gX e gE) 67 v w' ∧ Since W1 w' ∧ Then w w') a w := by
  obtain ⟨v9, e9, hp9⟩ := hh.of_dep hi 61 105 (by kernel_rfl)
  have hp9 : v9 = .bool true := hp9
  subst hp9
  have hw := want_of (P := Tryz.prog) (ops := cfOps) (i := 67) (j := 61) (t := 105) (b := true) (by kernel_rfl) hi (by kernel_rfl) e9
  have e1 := (hh.of_base 7 (by kernel_rfl)).trans h.t7
  exact st_val hi hw _ (run_move (op_of (op := .move (.tmp 7)) (by kernel_rfl) hi) (eval_at e1)) rfl hh.gr (Below.refl _ _)
set_option maxRecDepth 100000 in
theorem cf_68 {o : Oper} {a : Act} {w : World} (h : HF Y A c m Ab cb Ae ce gM x gX e gE W1 a0) (hi : cfOps[68]? = some o) (hh : Here cfOps (Said (cfTab Y A c m Ab cb Ae ce gM x gX e gE)) (Since W1) a0 68 o a w) :
    wpOp Tryz.prog cfOps Q 68 (fun a' w' => ∃ v, a' = a.put o.dst v ∧ Said (cfTab Y A c m Ab cb Ae ce gM x gX e gE) 68 v w' ∧ Since W1 w' ∧ Then w w') a w := by
  obtain ⟨v9, e9, hp9⟩ := hh.of_dep hi 61 105 (by kernel_rfl)
  have hp9 : v9 = .bool true := hp9
  subst hp9
  have hw := want_of (P := Tryz.prog) (ops := cfOps) (i := 68) (j := 61) (t := 105) (b := true) (by kernel_rfl) hi (by kernel_rfl) e9
  have e1 := (hh.of_base 9 (by kernel_rfl)).trans h.t9
  exact st_val hi hw _ (run_fieldAddr (op_of (op := .fieldAddr 45 (.tmp 9) 5) (by kernel_rfl) hi) (eval_at e1) (by kernel_rfl)) rfl hh.gr (Below.refl _ _)
set_option maxRecDepth 100000 in
theorem cf_69 {o : Oper} {a : Act} {w : World} (h : HF Y A c m Ab cb Ae ce gM x gX e gE W1 a0) (hi : cfOps[69]? = some o) (hh : Here cfOps (Said (cfTab Y A c m Ab cb Ae ce gM x gX e gE)) (Since W1) a0 69 o a w) :
    wpOp Tryz.prog cfOps Q 69 (fun a' w' => ∃ v, a' = a.put o.dst v ∧ Said (cfTab Y A c m Ab cb Ae ce gM x gX e gE) 69 v w' ∧ Since W1 w' ∧ Then w w') a w := by
  obtain ⟨v9, e9, hp9⟩ := hh.of_dep hi 61 105 (by kernel_rfl)
  have hp9 : v9 = .bool true := hp9
  subst hp9
  have hw := want_of (P := Tryz.prog) (ops := cfOps) (i := 69) (j := 61) (t := 105) (b := true) (by kernel_rfl) hi (by kernel_rfl) e9
  obtain ⟨v1, e1, hp1⟩ := hh.of_dep hi 68 112 (by kernel_rfl)
  have hp1 : v1 = .pointer (some ⟨gE, 5, none⟩) := hp1
  subst hp1
  have k5 : w.cell? ⟨gE, 5, none⟩ = some (.int .i64 e.acc.n) := by rw [Ev.cell_of_block (h.E w hh.gr)]; rfl
  have k6 : w.cell? ⟨gE, 6, none⟩ = some (.int .i64 e.acc.hi) := by rw [Ev.cell_of_block (h.E w hh.gr)]; rfl
  have k7 : w.cell? ⟨gE, 7, none⟩ = some (.int .u64 (e.acc.lo : Nat)) := by rw [Ev.cell_of_block (h.E w hh.gr)]; rfl
  have k8 : w.cell? ⟨gE, 8, none⟩ = some (.int .i64 e.acc.min) := by rw [Ev.cell_of_block (h.E w hh.gr)]; rfl
  have k9 : w.cell? ⟨gE, 9, none⟩ = some (.int .i64 e.acc.max) := by rw [Ev.cell_of_block (h.E w hh.gr)]; rfl
  exact st_val hi hw _ (run_loadOp (op_of (op := .load 43 (.tmp 112)) (by kernel_rfl) hi) (eval_at e1) (by go_simp)) rfl hh.gr (Below.refl _ _)
set_option maxRecDepth 100000 in
theorem cf_70 {o : Oper} {a : Act} {w : World} (h : HF Y A c m Ab cb Ae ce gM x gX e gE W1 a0) (hi : cfOps[70]? = some o) (hh : Here cfOps (Said (cfTab Y A c m Ab cb Ae ce gM x gX e gE)) (Since W1) a0 70 o a w) :
    wpOp Tryz.prog cfOps Q 70 (fun a' w' => ∃ v, a' = a.put o.dst v ∧ Said (cfTab Y A c m Ab cb Ae ce gM x gX e gE) 70 v w' ∧ Since W1 w' ∧ Then w w') a w := by
  obtain ⟨v9, e9, hp9⟩ := hh.of_dep hi 61 105 (by kernel_rfl)
  have hp9 : v9 = .bool true := hp9
  subst hp9
  have hw := want_of (P := Tryz.prog) (ops := cfOps) (i := 70) (j := 61) (t := 105) (b := true) (by kernel_rfl) hi (by kernel_rfl) e9
  obtain ⟨v1, e1, hp1⟩ := hh.of_dep hi 69 113 (by kernel_rfl)
  have hp1 : v1 = .agg #[.int .i64 e.acc.n, .int .i64 e.acc.hi, .int .u64 (e.acc.lo : Nat), .int .i64 e.acc.min, .int .i64 e.acc.max] := hp1
  subst hp1
  have hop := op_of (ops := cfOps) (op := .call { callee := .value (.func 18), args := #[.tmp 113], argTypes := #[43] }) (by kernel_rfl) hi
  exact st_call hi hw 18 _ (by simp [execOp, hop, resolve, invoke, Act.eval, Deferred.ofValue, e1]) ((ref_acc e.acc w h.okE.acc).mono fun e' w' hs => ⟨_, hs.1, rfl, Below.trans hh.gr (hs.2.mono hh.gr.size), hs.2⟩)
set_option maxRecDepth 100000 in
theorem cf_71 {o : Oper} {a : Act} {w : World} (h : HF Y A c m Ab cb Ae ce gM x gX e gE W1 a0) (hi : cfOps[71]? = some o) (hh : Here cfOps (Said (cfTab Y A c m Ab cb Ae ce gM x gX e gE)) (Since W1) a0 71 o a w) :
    wpOp Tryz.prog cfOps Q 71 (fun a' w' => ∃ v, a' = a.put o.dst v ∧ Said (cfTab Y A c m Ab cb Ae ce gM x gX e gE) 71 v w' ∧ Since W1 w' ∧ Then w w') a w := by
  obtain ⟨v9, e9, hp9⟩ := hh.of_dep hi 61 105 (by kernel_rfl)
  have hp9 : v9 = .bool true := hp9
  subst hp9
  have hw := want_of (P := Tryz.prog) (ops := cfOps) (i := 71) (j := 61) (t := 105) (b := true) (by kernel_rfl) hi (by kernel_rfl) e9
  obtain ⟨v1, e1, hp1⟩ := hh.of_dep hi 67 111 (by kernel_rfl)
  have hp1 : v1 = .string (sb Y) := hp1
  subst hp1
  obtain ⟨v2, e2, hp2⟩ := hh.of_dep hi 70 114 (by kernel_rfl)
  have hp2 : v2 = .string (sb e.acc.by_) := hp2
  subst hp2
  refine st_val hi hw _ (run_bin (op_of (op := .binOp .add 9 (.tmp 111) (.tmp 114) 9) (by kernel_rfl) hi) (eval_at e1) (eval_at e2) (eqGuard_other (by simp) (by simp) w) (add_sb _ _ ?_ w)) rfl hh.gr (Below.refl _ _)
  have := h.hY; have := h.n1; have := h.n2; have := e.acc.len h.okE.acc; omega
set_option maxRecDepth 100000 in
theorem cf_72 {o : Oper} {a : Act} {w : World} (h : HF Y A c m Ab cb Ae ce gM x gX e gE W1 a0) (hi : cfOps[72]? = some o) (hh : Here cfOps (Said (cfTab Y A c m Ab cb Ae ce gM x gX e gE)) (Since W1) a0 72 o a w) :
    wpOp Tryz.prog cfOps Q 72 (fun a' w' => ∃ v, a' = a.put o.dst v ∧ Said (cfTab Y A c m Ab cb Ae ce gM x gX e gE) 72 v w' ∧ Since W1 w' ∧ Then w w') a w := by
  obtain ⟨v9, e9, hp9⟩ := hh.of_dep hi 61 105 (by kernel_rfl)
  have hp9 : v9 = .bool true := hp9
  subst hp9
  have hw := want_of (P := Tryz.prog) (ops := cfOps) (i := 72) (j := 61) (t := 105) (b := true) (by kernel_rfl) hi (by kernel_rfl) e9
  obtain ⟨v1, e1, hp1⟩ := hh.of_dep hi 66 110 (by kernel_rfl)
  have hp1 : v1 = .string (sb (Y ++ e.acc.by_)) := hp1
  subst hp1
  obtain ⟨v2, e2, hp2⟩ := hh.of_dep hi 71 115 (by kernel_rfl)
  have hp2 : v2 = .string (sb (Y ++ e.acc.by_)) := hp2
  subst hp2
  exact st_val hi hw _ (run_bin (op_of (op := .binOp .eql 9 (.tmp 110) (.tmp 115) 9) (by kernel_rfl) hi) (eval_at e1) (eval_at e2) (by go_simp) (by go_simp)) rfl hh.gr (Below.refl _ _)
set_option maxRecDepth 100000 in
theorem cf_73 {o : Oper} {a : Act} {w : World} (h : HF Y A c m Ab cb Ae ce gM x gX e gE W1 a0) (hi : cfOps[73]? = some o) (hh : Here cfOps (Said (cfTab Y A c m Ab cb Ae ce gM x gX e gE)) (Since W1) a0 73 o a w) :
    wpOp Tryz.prog cfOps Q 73 (fun a' w' => ∃ v, a' = a.put o.dst v ∧ Said (cfTab Y A c m Ab cb Ae ce gM x gX e gE) 73 v w' ∧ Since W1 w' ∧ Then w w') a w := by
  have hw := want_none (ops := cfOps) (a := a) (i := 73) (by kernel_rfl) hi
  obtain ⟨v1, e1, hp1⟩ := hh.of_dep hi 61 105 (by kernel_rfl)
  have hp1 : v1 = .bool true := hp1
  subst hp1
  obtain ⟨v2, e2, hp2⟩ := hh.of_dep hi 72 116 (by kernel_rfl)
  have hp2 : v2 = .bool true := hp2
  subst hp2
  exact st_val hi hw _ (run_pick (op_of (op := .pick (.tmp 105) (.tmp 116) (.const (.bool false))) (by kernel_rfl) hi) (eval_at e1) (eval_at e2) rfl) rfl hh.gr (Below.refl _ _)
set_option maxRecDepth 100000 in
theorem cf_74 {o : Oper} {a : Act} {w : World} (h : HF Y A c m Ab cb Ae ce gM x gX e gE W1 a0) (hi : cfOps[74]? = some o) (hh : Here cfOps (Said (cfTab Y A c m Ab cb Ae ce gM x gX e gE)) (Since W1) a0 74 o a w) :
    wpOp Tryz.prog cfOps Q 74 (fun a' w' => ∃ v, a' = a.put o.dst v ∧ Said (cfTab Y A c m Ab cb Ae ce gM x gX e gE) 74 v w' ∧ Since W1 w' ∧ Then w w') a w := by
  have hw := want_none (ops := cfOps) (a := a) (i := 74) (by kernel_rfl) hi
  obtain ⟨v1, e1, hp1⟩ := hh.of_dep hi 73 117 (by kernel_rfl)
  have hp1 : v1 = .bool true := hp1
  subst hp1
  exact st_val hi hw _ (run_move (op_of (op := .move (.tmp 117)) (by kernel_rfl) hi) (eval_at e1)) rfl hh.gr (Below.refl _ _)
set_option maxRecDepth 100000 in
theorem cf_75 {o : Oper} {a : Act} {w : World} (h : HF Y A c m Ab cb Ae ce gM x gX e gE W1 a0) (hi : cfOps[75]? = some o) (hh : Here cfOps (Said (cfTab Y A c m Ab cb Ae ce gM x gX e gE)) (Since W1) a0 75 o a w) :
    wpOp Tryz.prog cfOps Q 75 (fun a' w' => ∃ v, a' = a.put o.dst v ∧ Said (cfTab Y A c m Ab cb Ae ce gM x gX e gE) 75 v w' ∧ Since W1 w' ∧ Then w w') a w := by
  obtain ⟨v9, e9, hp9⟩ := hh.of_dep hi 74 118 (by kernel_rfl)
  have hp9 : v9 = .bool true := hp9
  subst hp9
  have hw := want_of (P := Tryz.prog) (ops := cfOps) (i := 75) (j := 74) (t := 118) (b := true) (by kernel_rfl) hi (by kernel_rfl) e9
  have e1 := (hh.of_base 0 (by kernel_rfl)).trans h.t0
  exact st_val hi hw _ (run_move (op_of (op := .move (.tmp 0)) (by kernel_rfl) hi) (eval_at e1)) rfl hh.gr (Below.refl _ _)
set_option maxRecDepth 100000 in
theorem cf_76 {o : Oper} {a : Act} {w : World} (h : HF Y A c m Ab cb Ae ce gM x gX e gE W1 a0) (hi : cfOps[76]? = some o) (hh : Here cfOps (Said (cfTab Y A c m Ab cb Ae ce gM x gX e gE)) (Since W1) a0 76 o a w) :
    wpOp Tryz.prog cfOps Q 76 (fun a' w' => ∃ v, a' = a.put o.dst v ∧ Said (cfTab Y A c m Ab cb Ae ce gM x gX e gE) 76 v w' ∧ Since W1 w' ∧ Then w w') a w := by
  obtain ⟨v9, e9, hp9⟩ := hh.of_dep hi 74 118 (by kernel_rfl)
  have hp9 : v9 = .bool true := hp9
  subst hp9
  have hw := want_of (P := Tryz.prog) (ops := cfOps) (i := 76) (j := 74) (t := 118) (b := true) (by kernel_rfl) hi (by kernel_rfl) e9
  have e1 := (hh.of_base 4 (by kernel_rfl)).trans h.t4
  exact st_val hi hw _ (run_fieldAddr (op_of (op := .fieldAddr 35 (.tmp 4) 6) (by kernel_rfl) hi) (eval_at e1) (by kernel_rfl)) rfl hh.gr (Below.refl _ _)
set_option maxRecDepth 100000 in
theorem cf_77 {o : Oper} {a : Act} {w : World} (h : HF Y A c m Ab cb Ae ce gM x gX e gE W1 a0) (hi : cfOps[77]? = some o) (hh : Here cfOps (Said (cfTab Y A c m Ab cb Ae ce gM x gX e gE)) (Since W1) a0 77 o a w) :
    wpOp Tryz.prog cfOps Q 77 (fun a' w' => ∃ v, a' = a.put o.dst v ∧ Said (cfTab Y A c m Ab cb Ae ce gM x gX e gE) 77 v w' ∧ Since W1 w' ∧ Then w w') a w := by
  obtain ⟨v9, e9, hp9⟩ := hh.of_dep hi 74 118 (by kernel_rfl)
  have hp9 : v9 = .bool true := hp9
  subst hp9
  have hw := want_of (P := Tryz.prog) (ops := cfOps) (i := 77) (j := 74) (t := 118) (b := true) (by kernel_rfl) hi (by kernel_rfl) e9
  obtain ⟨v1, e1, hp1⟩ := hh.of_dep hi 76 120 (by kernel_rfl)
  have hp1 : v1 = .pointer (some ⟨gM, 20, none⟩) := hp1
  subst hp1
  have k20 : w.cell? ⟨gM, 20, none⟩ = some (.int .i64 m.chunk.bin) := by rw [Ev.cell_of_block (h.M w hh.gr)]; rfl
  have k21 : w.cell? ⟨gM, 21, none⟩ = some (.int .i64 m.chunk.span) := by rw [Ev.cell_of_block (h.M w hh.gr)]; rfl
  have k22 : w.cell? ⟨gM, 22, none⟩ = some (.bool m.chunk.last) := by rw [Ev.cell_of_block (h.M w hh.gr)]; rfl
  have k23 : w.cell? ⟨gM, 23, none⟩ = some (.slice Ae m.chunk.entries.length ce) := by rw [Ev.cell_of_block (h.M w hh.gr)]; rfl
  exact st_val hi hw _ (run_loadOp (op_of (op := .load 33 (.tmp 120)) (by kernel_rfl) hi) (eval_at e1) (by go_simp)) rfl hh.gr (Below.refl _ _)
set_option maxRecDepth 100000 in
theorem cf_78 {o : Oper} {a : Act} {w : World} (h : HF Y A c m Ab cb Ae ce gM x gX e gE W1 a0) (hi : cfOps[78]? = some o) (hh : Here cfOps (Said (cfTab Y A c m Ab cb Ae ce gM x gX e gE)) (Since W1) a0 78 o a w) :
    wpOp Tryz.prog cfOps Q 78 (fun a' w' => ∃ v, a' = a.put o.dst v ∧ Said (cfTab Y A c m Ab cb Ae ce gM x gX e gE) 78 v w' ∧ Since W1 w' ∧ Then w w') a w := by
  obtain ⟨v9, e9, hp9⟩ := hh.of_dep hi 74 118 (by kernel_rfl)
  have hp9 : v9 = .bool true := hp9
  subst hp9
  have hw := want_of (P := Tryz.prog) (ops := cfOps) (i := 78) (j := 74) (t := 118) (b := true) (by kernel_rfl) hi (by kernel_rfl) e9
  obtain ⟨v1, e1, hp1⟩ := hh.of_dep hi 75 119 (by kernel_rfl)
  have hp1 : v1 = .slice A Y.length c := hp1
  subst hp1
  obtain ⟨v2, e2, hp2⟩ := hh.of_dep hi 77 121 (by kernel_rfl)
  have hp2 : v2 = .agg #[.int .i64 m.chunk.bin, .int .i64 m.chunk.span, .bool m.chunk.last, .slice Ae m.chunk.entries.length ce] := hp2
  subst hp2
  have hop := op_of (ops := cfOps) (op := .call { callee := .value (.func 19), args := #[.tmp 119, .tmp 121], argTypes := #[22, 33] }) (by kernel_rfl) hi
  exact st_call hi hw 19 _ (by simp [execOp, hop, resolve, invoke, Act.eval, Deferred.ofValue, e1, e2]) ((PChunk_any A c Ae ce Y m.chunk w (h.rdw hh.gr) h.okM.chunk (h.k2w hh.gr) (by have := h.hY; have := h.n1; have := h.n2; omega)).mono fun _ _ ho => out_step ho hh.gr)
set_option maxRecDepth 100000 in
theorem cf_79 {o : Oper} {a : Act} {w : World} (h : HF Y A c m Ab cb Ae ce gM x gX e gE W1 a0) (hi : cfOps[79]? = some o) (hh : Here cfOps (Said (cfTab Y A c m Ab cb Ae ce gM x gX e gE)) (Since W1) a0 79 o a w) :
    wpOp Tryz.prog cfOps Q 79 (fun a' w' => ∃ v, a' = a.put o.dst v ∧ Said (cfTab Y A c m Ab cb Ae ce gM x gX e gE) 79 v w' ∧ Since W1 w' ∧ Then w w') a w := by
  obtain ⟨v9, e9, hp9⟩ := hh.of_dep hi 74 118 (by kernel_rfl)
  have hp9 : v9 = .bool true := hp9
  subst hp9
  have hw := want_of (P := Tryz.prog) (ops := cfOps) (i := 79) (j := 74) (t := 118) (b := true) (by kernel_rfl) hi (by kernel_rfl) e9
  obtain ⟨v1, e1, hp1⟩ := hh.of_dep hi 78 122 (by kernel_rfl)
  obtain ⟨A1, c1, q1, R1⟩ : OutP (Y ++ m.chunk.by_) v1 w := hp1
  subst q1
  exact st_val hi hw _ (run_conv (op_of (op := .convert 22 9 (.tmp 122)) (by kernel_rfl) hi) (eval_at e1) (conv_out R1 (small_app h.yS (m.chunk.small h.okM.chunk)))) rfl hh.gr (Below.refl _ _)
set_option maxRecDepth 100000 in
theorem cf_80 {o : Oper} {a : Act} {w : World} (h : HF Y A c m Ab cb Ae ce gM x gX e gE W1 a0) (hi : cfOps[80]? = some o) (hh : Here cfOps (Said (cfTab Y A c m Ab cb Ae ce gM x gX e gE)) (Since W1) a0 80 o a w) :
    wpOp Tryz.prog cfOps Q 80 (fun a' w' => ∃ v, a' = a.put o.dst v ∧ Said (cfTab Y A c m Ab cb Ae ce gM x gX e gE) 80 v w' ∧ Since W1 w' ∧ Then w w') a w := by
  obtain ⟨v9, e9, hp9⟩ := hh.of_dep hi 74 118 (by kernel_rfl)
  have hp9 : v9 = .bool true := hp9
  subst hp9
  have hw := want_of (P := Tryz.prog) (ops := cfOps) (i := 80) (j := 74) (t := 118) (b := true) (by kernel_rfl) hi (by kernel_rfl) e9
  have e1 := (hh.of_base 7 (by kernel_rfl)).trans h.t7
  exact st_val hi hw _ (run_move (op_of (op := .move (.tmp 7)) (by kernel_rfl) hi) (eval_at e1)) rfl hh.gr (Below.refl _ _)
set_option maxRecDepth 100000 in
theorem cf_81 {o : Oper} {a : Act} {w : World} (h : HF Y A c m Ab cb Ae ce gM x gX e gE W1 a0) (hi : cfOps[81]? = some o) (hh : Here cfOps (Said (cfTab Y A c m Ab cb Ae ce gM x gX e gE)) (Since W1) a0 81 o a w) :
    wpOp Tryz.prog cfOps Q 81 (fun a' w' => ∃ v, a' = a.put o.dst v ∧ Said (cfTab Y A c m Ab cb Ae ce gM x gX e gE) 81 v w' ∧ Since W1 w' ∧ Then w w') a w := by
  obtain ⟨v9, e9, hp9⟩ := hh.of_dep hi 74 118 (by kernel_rfl)
  have hp9 : v9 = .bool true := hp9
  subst hp9
  have hw := want_of (P := Tryz.prog) (ops := cfOps) (i := 81) (j := 74) (t := 118) (b := true) (by kernel_rfl) hi (by kernel_rfl) e9
  have e1 := (hh.of_base 4 (by kernel_rfl)).trans h.t4
  exact st_val hi hw _ (run_fieldAddr (op_of (op := .fieldAddr 35 (.tmp 4) 6) (by kernel_rfl) hi) (eval_at e1) (by kernel_rfl)) rfl hh.gr (Below.refl _ _)
set_option maxRecDepth 100000 in
theorem cf_82 {o : Oper} {a : Act} {w : World} (h : HF Y A c m Ab cb Ae ce gM x gX e gE W1 a0) (hi : cfOps[82]? = some o) (hh : Here cfOps (Said (cfTab Y A c m Ab cb Ae ce gM x gX e gE)) (Since W1) a0 82 o a w) :
    wpOp Tryz.prog cfOps Q 82 (fun a' w' => ∃ v, a' = a.put o.dst v ∧ Said (cfTab Y A c m Ab cb Ae ce gM x gX e gE) 82 v w' ∧ Since W1 w' ∧ Then w w') a w := by
  obtain ⟨v9, e9, hp9⟩ := hh.of_dep hi 74 118 (by kernel_rfl)
  have hp9 : v9 = .bool true := hp9
  subst hp9
  have hw := want_of (P := Tryz.prog) (ops := cfOps) (i := 82) (j := 74) (t := 118) (b := true) (by kernel_rfl) hi (by kernel_rfl) e9
  obtain ⟨v1, e1, hp1⟩ := hh.of_dep hi 81 125 (by kernel_rfl)
  have hp1 : v1 = .pointer (some ⟨gM, 20, none⟩) := hp1
  subst hp1
  have k20 : w.cell? ⟨gM, 20, none⟩ = some (.int .i64 m.chunk.bin) := by rw [Ev.cell_of_block (h.M w hh.gr)]; rfl
  have k21 : w.cell? ⟨gM, 21, none⟩ = some (.int .i64 m.chunk.span) := by rw [Ev.cell_of_block (h.M w hh.gr)]; rfl
  have k22 : w.cell? ⟨gM, 22, none⟩ = some (.bool m.chunk.last) := by rw [Ev.cell_of_block (h.M w hh.gr)]; rfl
  have k23 : w.cell? ⟨gM, 23, none⟩ = some (.slice Ae m.chunk.entries.length ce) := by rw [Ev.cell_of_block (h.M w hh.gr)]; rfl
  exact st_val hi hw _ (run_loadOp (op_of (op := .load 33 (.tmp 125)) (by kernel_rfl) hi) (eval_at e1) (by go_simp)) rfl hh.gr (Below.refl _ _)
set_option maxRecDepth 100000 in
theorem cf_83 {o : Oper} {a : Act} {w : World} (h : HF Y A c m Ab cb Ae ce gM x gX e gE W1 a0) (hi : cfOps[83]? = some o) (hh : Here cfOps (Said (cfTab Y A c m Ab cb Ae ce gM x gX e gE)) (Since W1) a0 83 o a w) :
    wpOp Tryz.prog cfOps Q 83 (fun a' w' => ∃ v, a' = a.put o.dst v ∧ Said (cfTab Y A c m Ab cb Ae ce gM x gX e gE) 83 v w' ∧ Since W1 w' ∧ Then w w') a w := by
  obtain ⟨v9, e9, hp9⟩ := hh.of_dep hi 74 118 (by kernel_rfl)
  have hp9 : v9 = .bool true := hp9
  subst hp9
  have hw := want_of (P := Tryz.prog) (ops := cfOps) (i := 83) (j := 74) (t := 118) (b := true) (by kernel_rfl) hi (by kernel_rfl) e9
  obtain ⟨v1, e1, hp1⟩ := hh.of_dep hi 82 126 (by kernel_rfl)
  have hp1 : v1 = .agg #[.int .i64 m.chunk.bin, .int .i64 m.chunk.span, .bool m.chunk.last, .slice Ae m.chunk.entries.length ce] := hp1
  subst hp1
  have hop := op_of (ops := cfOps) (op := .call { callee := .value (.func 20), args := #[.tmp 126], argTypes := #[33] }) (by kernel_rfl) hi
  exact st_call hi hw 20 _ (by simp [execOp, hop, resolve, invoke, Act.eval, Deferred.ofValue, e1]) ((ref_chk m.chunk Ae ce w h.okM.chunk (h.k2w hh.gr)).mono fun e' w' hs => ⟨_, hs.1, rfl, Below.trans hh.gr (hs.2.mono hh.gr.size), hs.2⟩)
set_option maxRecDepth 100000 in
theorem cf_84 {o : Oper} {a : Act} {w : World} (h : HF Y A c m Ab cb Ae ce gM x gX e gE W1 a0) (hi : cfOps[84]? = some o) (hh : Here cfOps (Said (cfTab Y A c m Ab cb Ae ce gM x gX e gE)) (Since W1) a0 84 o a w) :
    wpOp Tryz.prog cfOps Q 84 (fun a' w' => ∃ v, a' = a.put o.dst v ∧ Said (cfTab Y A c m Ab cb Ae ce gM x gX e gE) 84 v w' ∧ Since W1 w' ∧ Then w w') a w := by
  obtain ⟨v9, e9, hp9⟩ := hh.of_dep hi 74 118 (by kernel_rfl)
  have hp9 : v9 = .bool true := hp9
  subst hp9
  have hw := want_of (P := Tryz.prog) (ops := cfOps) (i := 84) (j := 74) (t := 118) (b := true) (by kernel_rfl) hi (by kernel_rfl) e9
  obtain ⟨v1, e1, hp1⟩ := hh.of_dep hi 80 124 (by kernel_rfl)
  have hp1 : v1 = .string (sb Y) := hp1
  subst hp1
  obtain ⟨v2, e2, hp2⟩ := hh.of_dep hi 83 127 (by kernel_rfl)
  have hp2 : v2 = .string (sb m.chunk.by_) := hp2
  subst hp2
  refine st_val hi hw _ (run_bin (op_of (op := .binOp .add 9 (.tmp 124) (.tmp 127) 9) (by kernel_rfl) hi) (eval_at e1) (eval_at e2) (eqGuard_other (by simp) (by simp) w) (add_sb _ _ ?_ w)) rfl hh.gr (Below.refl _ _)
  have := h.hY; have := h.n1; have := h.n2; have := m.chunk.len h.okM.chunk; omega
set_option maxRecDepth 100000 in
theorem cf_85 {o : Oper} {a : Act} {w : World} (h : HF Y A c m Ab cb Ae ce gM x gX e gE W1 a0) (hi : cfOps[85]? = some o) (hh : Here cfOps (Said (cfTab Y A c m Ab cb Ae ce gM x gX e gE)) (Since W1) a0 85 o a w) :
    wpOp Tryz.prog cfOps Q 85 (fun a' w' => ∃ v, a' = a.put o.dst v ∧ Said (cfTab Y A c m Ab cb Ae ce gM x gX e gE) 85 v w' ∧ Since W1 w' ∧ Then w w') a w := by
  obtain ⟨v9, e9, hp9⟩ := hh.of_dep hi 74 118 (by kernel_rfl)
  have hp9 : v9 = .bool true := hp9
  subst hp9
  have hw := want_of (P := Tryz.prog) (ops := cfOps) (i := 85) (j := 74) (t := 118) (b := true) (by kernel_rfl) hi (by kernel_rfl) e9
  obtain ⟨v1, e1, hp1⟩ := hh.of_dep hi 79 123 (by kernel_rfl)
  have hp1 : v1 = .string (sb (Y ++ m.chunk.by_)) := hp1
  subst hp1
  obtain ⟨v2, e2, hp2⟩ := hh.of_dep hi 84 128 (by kernel_rfl)
  have hp2 : v2 = .string (sb (Y ++ m.chunk.by_)) := hp2
  subst hp2
  exact st_val hi hw _ (run_bin (op_of (op := .binOp .eql 9 (.tmp 123) (.tmp 128) 9) (by kernel_rfl) hi) (eval_at e1) (eval_at e2) (by go_simp) (by go_simp)) rfl hh.gr (Below.refl _ _)
set_option maxRecDepth 100000 in
theorem cf_86 {o : Oper} {a : Act} {w : World} (h : HF Y A c m Ab cb Ae ce gM x gX e gE W1 a0) (hi : cfOps[86]? = some o) (hh : Here cfOps (Said (cfTab Y A c m Ab cb Ae ce gM x gX e gE)) (Since W1) a0 86 o a w) :
    wpOp Tryz.prog cfOps Q 86 (fun a' w' => ∃ v, a' = a.put o.dst v ∧ Said (cfTab Y A c m Ab cb Ae ce gM x gX e gE) 86 v w' ∧ Since W1 w' ∧ Then w w') a w := by
  have hw := want_none (ops := cfOps) (a := a) (i := 86) (by kernel_rfl) hi
  obtain ⟨v1, e1, hp1⟩ := hh.of_dep hi 74 118 (by kernel_rfl)
  have hp1 : v1 = .bool true := hp1
  subst hp1
  obtain ⟨v2, e2, hp2⟩ := hh.of_dep hi 85 129 (by kernel_rfl)
  have hp2 : v2 = .bool true := hp2
  subst hp2
  exact st_val hi hw _ (run_pick (op_of (op := .pick (.tmp 118) (.tmp 129) (.const (.bool false))) (by kernel_rfl) hi) (eval_at e1) (eval_at e2) rfl) rfl hh.gr (Below.refl _ _)
set_option maxRecDepth 100000 in
theorem cf_87 {o : Oper} {a : Act} {w : World} (h : HF Y A c m Ab cb Ae ce gM x gX e gE W1 a0) (hi : cfOps[87]? = some o) (hh : Here cfOps (Said (cfTab Y A c m Ab cb Ae ce gM x gX e gE)) (Since W1) a0 87 o a w) :
    wpOp Tryz.prog cfOps Q 87 (fun a' w' => ∃ v, a' = a.put o.dst v ∧ Said (cfTab Y A c m Ab cb Ae ce gM x gX e gE) 87 v w' ∧ Since W1 w' ∧ Then w w') a w := by
  have hw := want_none (ops := cfOps) (a := a) (i := 87) (by kernel_rfl) hi
  obtain ⟨v1, e1, hp1⟩ := hh.of_dep hi 86 130 (by kernel_rfl)
  have hp1 : v1 = .bool true := hp1
  subst hp1
  exact st_val hi hw _ (run_move (op_of (op := .move (.tmp 130)) (by kernel_rfl) hi) (eval_at e1)) rfl hh.gr (Below.refl _ _)
set_option maxRecDepth 100000 in
theorem cf_88 {o : Oper} {a : Act} {w : World} (h : HF Y A c m Ab cb Ae ce gM x gX e gE W1 a0) (hi : cfOps[88]? = some o) (hh : Here cfOps (Said (cfTab Y A c m Ab cb Ae ce gM x gX e gE)) (Since W1) a0 88 o a w) :
    wpOp Tryz.prog cfOps Q 88 (fun a' w' => ∃ v, a' = a.put o.dst v ∧ Said (cfTab Y A c m Ab cb Ae ce gM x gX e gE) 88 v w' ∧ Since W1 w' ∧ Then w w') a w := by
  obtain ⟨v9, e9, hp9⟩ := hh.of_dep hi 87 131 (by kernel_rfl)
  have hp9 : v9 = .bool true := hp9
  subst hp9
  have hw := want_of (P := Tryz.prog) (ops := cfOps) (i := 88) (j := 87) (t := 131) (b := true) (by kernel_rfl) hi (by kernel_rfl) e9
  have e1 := (hh.of_base 0 (by kernel_rfl)).trans h.t0
  exact st_val hi hw _ (run_move (op_of (op := .move (.tmp 0)) (by kernel_rfl) hi) (eval_at e1)) rfl hh.gr (Below.refl _ _)
set_option maxRecDepth 100000 in
theorem cf_89 {o : Oper} {a : Act} {w : World} (h : HF Y A c m Ab cb Ae ce gM x gX e gE W1 a0) (hi : cfOps[89]? = some o) (hh : Here cfOps (Said (cfTab Y A c m Ab cb Ae ce gM x gX e gE)) (Since W1) a0 89 o a w) :
    wpOp Tryz.prog cfOps Q 89 (fun a' w' => ∃ v, a' = a.put o.dst v ∧ Said (cfTab Y A c m Ab cb Ae ce gM x gX e gE) 89 v w' ∧ Since W1 w' ∧ Then w w') a w := by
  obtain ⟨v9, e9, hp9⟩ := hh.of_dep hi 87 131 (by kernel_rfl)
  have hp9 : v9 = .bool true := hp9
  subst hp9
  have hw := want_of (P := Tryz.prog) (ops := cfOps) (i := 89) (j := 87) (t := 131) (b := true) (by kernel_rfl) hi (by kernel_rfl) e9
  obtain ⟨v1, e1, hp1⟩ := hh.of_dep hi 88 132 (by kernel_rfl)
  have hp1 : v1 = .slice A Y.length c := hp1
  subst hp1
  exact st_val hi hw _ (run_conv (op_of (op := .convert 22 9 (.tmp 132)) (by kernel_rfl) hi) (eval_at e1) (conv_out (h.rdw hh.gr) h.yS)) rfl hh.gr (Below.refl _ _)
set_option maxRecDepth 100000 in
theorem cf_90 {o : Oper} {a : Act} {w : World} (h : HF Y A c m Ab cb Ae ce gM x gX e gE W1 a0) (hi : cfOps[90]? = some o) (hh : Here cfOps (Said (cfTab Y A c m Ab cb Ae ce gM x gX e gE)) (Since W1) a0 90 o a w) :
    wpOp Tryz.prog cfOps Q 90 (fun a' w' => ∃ v, a' = a.put o.dst v ∧ Said (cfTab Y A c m Ab cb Ae ce gM x gX e gE) 90 v w' ∧ Since W1 w' ∧ Then w w') a w := by
  obtain ⟨v9, e9, hp9⟩ := hh.of_dep hi 87 131 (by kernel_rfl)
  have hp9 : v9 = .bool true := hp9
  subst hp9
  have hw := want_of (P := Tryz.prog) (ops := cfOps) (i := 90) (j := 87) (t := 131) (b := true) (by kernel_rfl) hi (by kernel_rfl) e9
  have e1 := (hh.of_base 7 (by kernel_rfl)).trans h.t7
  exact st_val hi hw _ (run_move (op_of (op := .move (.tmp 7)) (by kernel_rfl) hi) (eval_at e1)) rfl hh.gr (Below.refl _ _)
set_option maxRecDepth 100000 in
theorem cf_91 {o : Oper} {a : Act} {w : World} (h : HF Y A c m Ab cb Ae ce gM x gX e gE W1 a0) (hi : cfOps[91]? = some o) (hh : Here cfOps (Said (cfTab Y A c m Ab cb Ae ce gM x gX e gE)) (Since W1) a0 91 o a w) :
    wpOp Tryz.prog cfOps Q 91 (fun a' w' => ∃ v, a' = a.put o.dst v ∧ Said (cfTab Y A c m Ab cb Ae ce gM x gX e gE) 91 v w' ∧ Since W1 w' ∧ Then w w') a w := by
  obtain ⟨v9, e9, hp9⟩ := hh.of_dep hi 87 131 (by kernel_rfl)
  have hp9 : v9 = .bool true := hp9
  subst hp9
  have hw := want_of (P := Tryz.prog) (ops := cfOps) (i := 91) (j := 87) (t := 131) (b := true) (by kernel_rfl) hi (by kernel_rfl) e9
  obtain ⟨v1, e1, hp1⟩ := hh.of_dep hi 89 133 (by kernel_rfl)
  have hp1 : v1 = .string (sb Y) := hp1
  subst hp1
  obtain ⟨v2, e2, hp2⟩ := hh.of_dep hi 90 134 (by kernel_rfl)
  have hp2 : v2 = .string (sb Y) := hp2
  subst hp2
  exact st_val hi hw _ (run_bin (op_of (op := .binOp .eql 9 (.tmp 133) (.tmp 134) 9) (by kernel_rfl) hi) (eval_at e1) (eval_at e2) (by go_simp) (by go_simp)) rfl hh.gr (Below.refl _ _)
set_option maxRecDepth 100000 in
theorem cf_92 {o : Oper} {a : Act} {w : World} (h : HF Y A c m Ab cb Ae ce gM x gX e gE W1 a0) (hi : cfOps[92]? = some o) (hh : Here cfOps (Said (cfTab Y A c m Ab cb Ae ce gM x gX e gE)) (Since W1) a0 92 o a w) :
    wpOp Tryz.prog cfOps Q 92 (fun a' w' => ∃ v, a' = a.put o.dst v ∧ Said (cfTab Y A c m Ab cb Ae ce gM x gX e gE) 92 v w' ∧ Since W1 w' ∧ Then w w') a w := by
  have hw := want_none (ops := cfOps) (a := a) (i := 92) (by kernel_rfl) hi
  obtain ⟨v1, e1, hp1⟩ := hh.of_dep hi 87 131 (by kernel_rfl)
  have hp1 : v1 = .bool true := hp1
  subst hp1
  obtain ⟨v2, e2, hp2⟩ := hh.of_dep hi 91 135 (by kernel_rfl)
  have hp2 : v2 = .bool true := hp2
  subst hp2
  exact st_val hi hw _ (run_pick (op_of (op := .pick (.tmp 131) (.tmp 135) (.const (.bool false))) (by kernel_rfl) hi) (eval_at e1) (eval_at e2) rfl) rfl hh.gr (Below.refl _ _)
set_option maxRecDepth 100000 in
theorem cf_93 {o : Oper} {a : Act} {w : World} (h : HF Y A c m Ab cb Ae ce gM x gX e gE W1 a0) (hi : cfOps[93]? = some o) (hh : Here cfOps (Said (cfTab Y A c m Ab cb Ae ce gM x gX e gE)) (Since W1) a0 93 o a w) :
    wpOp Tryz.prog cfOps Q 93 (fun a' w' => ∃ v, a' = a.put o.dst v ∧ Said (cfTab Y A c m Ab cb Ae ce gM x gX e gE) 93 v w' ∧ Since W1 w' ∧ Then w w') a w := by
  have hw := want_none (ops := cfOps) (a := a) (i := 93) (by kernel_rfl) hi
  obtain ⟨v1, e1, hp1⟩ := hh.of_dep hi 92 136 (by kernel_rfl)
  have hp1 : v1 = .bool true := hp1
  subst hp1
  exact st_val hi hw _ (run_move (op_of (op := .move (.tmp 136)) (by kernel_rfl) hi) (eval_at e1)) rfl hh.gr (Below.refl _ _)
set_option maxRecDepth 100000 in
theorem cf_94 {o : Oper} {a : Act} {w : World} (h : HF Y A c m Ab cb Ae ce gM x gX e gE W1 a0) (hi : cfOps[94]? = some o) (hh : Here cfOps (Said (cfTab Y A c m Ab cb Ae ce gM x gX e gE)) (Since W1) a0 94 o a w) :
    wpOp Tryz.prog cfOps Q 94 (fun a' w' => ∃ v, a' = a.put o.dst v ∧ Said (cfTab Y A c m Ab cb Ae ce gM x gX e gE) 94 v w' ∧ Since W1 w' ∧ Then w w') a w := by
  obtain ⟨v9, e9, hp9⟩ := hh.of_dep hi 93 137 (by kernel_rfl)
  have hp9 : v9 = .bool true := hp9
  subst hp9
  have hw := want_of (P := Tryz.prog) (ops := cfOps) (i := 94) (j := 93) (t := 137) (b := true) (by kernel_rfl) hi (by kernel_rfl) e9
  have hop := op_of (ops := cfOps) (op := .call { callee := .value (.func 21), args := #[], argTypes := #[] }) (by kernel_rfl) hi
  exact st_call hi hw 21 _ (by simp [execOp, hop, resolve, invoke, Act.eval, Deferred.ofValue]) ((h.works w hh.gr).mono fun e' w' hs => ⟨_, hs.1, rfl, Below.trans hh.gr (hs.2.mono hh.gr.size), hs.2⟩)
set_option maxRecDepth 100000 in
theorem cf_95 {o : Oper} {a : Act} {w : World} (h : HF Y A c m Ab cb Ae ce gM x gX e gE W1 a0) (hi : cfOps[95]? = some o) (hh : Here cfOps (Said (cfTab Y A c m Ab cb Ae ce gM x gX e gE)) (Since W1) a0 95 o a w) :
    wpOp Tryz.prog cfOps Q 95 (fun a' w' => ∃ v, a' = a.put o.dst v ∧ Said (cfTab Y A c m Ab cb Ae ce gM x gX e gE) 95 v w' ∧ Since W1 w' ∧ Then w w') a w := by
  have hw := want_none (ops := cfOps) (a := a) (i := 95) (by kernel_rfl) hi
  obtain ⟨v1, e1, hp1⟩ := hh.of_dep hi 93 137 (by kernel_rfl)
  have hp1 : v1 = .bool true := hp1
  subst hp1
  obtain ⟨v2, e2, hp2⟩ := hh.of_dep hi 94 138 (by kernel_rfl)
  have hp2 : v2 = .bool true := hp2
  subst hp2
  exact st_val hi hw _ (run_pick (op_of (op := .pick (.tmp 137) (.tmp 138) (.const (.bool false))) (by kernel_rfl) hi) (eval_at e1) (eval_at e2) rfl) rfl hh.gr (Below.refl _ _)
set_option maxRecDepth 100000 in
theorem cf_96 {o : Oper} {a : Act} {w : World} (h : HF Y A c m Ab cb Ae ce gM x gX e gE W1 a0) (hi : cfOps[96]? = some o) (hh : Here cfOps (Said (cfTab Y A c m Ab cb Ae ce gM x gX e gE)) (Since W1) a0 96 o a w) :
    wpOp Tryz.prog cfOps Q 96 (fun a' w' => ∃ v, a' = a.put o.dst v ∧ Said (cfTab Y A c m Ab cb Ae ce gM x gX e gE) 96 v w' ∧ Since W1 w' ∧ Then w w') a w := by
  have hw := want_none (ops := cfOps) (a := a) (i := 96) (by kernel_rfl) hi
  obtain ⟨v1, e1, hp1⟩ := hh.of_dep hi 95 139 (by kernel_rfl)
  have hp1 : v1 = .bool true := hp1
  subst hp1
  exact st_val hi hw _ (run_assign (op_of (op := .assign (.tmp 139)) (by kernel_rfl) hi) (eval_at e1)) rfl hh.gr (Below.refl _ _)
theorem cf_steps (h : HF Y A c m Ab cb Ae ce gM x gX e gE W1 a0) : ∀ (i : Nat) (o : Oper) (a : Act) (w : World), cfOps[i]? = some o → Here cfOps (Said (cfTab Y A c m Ab cb Ae ce gM x gX e gE)) (Since W1) a0 i o a w →
    wpOp Tryz.prog cfOps Q i (fun a' w' => ∃ v, a' = a.put o.dst v ∧ Said (cfTab Y A c m Ab cb Ae ce gM x gX e gE) i v w' ∧ Since W1 w' ∧ Then w w') a w := by
  intro i o a w hi hh
  match i, hi, hh with
  | 0, hi, hh => exact cf_0 h hi hh
  | 1, hi, hh => exact cf_1 h hi hh
  | 2, hi, hh => exact cf_2 h hi hh
  | 3, hi, hh => exact cf_3 h hi hh
  | 4, hi, hh => exact cf_4 h hi hh
  | 5, hi, hh => exact cf_5 h hi hh
  | 6, hi, hh => exact cf_6 h hi hh
  | 7, hi, hh => exact cf_7 h hi hh
  | 8, hi, hh => exact cf_8 h hi hh
  | 9, hi, hh => exact cf_9 h hi hh
  | 10, hi, hh => exact cf_10 h hi hh
  | 11, hi, hh => exact cf_11 h hi hh
  | 12, hi, hh => exact cf_12 h hi hh
  | 13, hi, hh => exact cf_13 h hi hh
  | 14, hi, hh => exact cf_14 h hi hh
  | 15, hi, hh => exact cf_15 h hi hh
  | 16, hi, hh => exact cf_16 h hi hh
  | 17, hi, hh => exact cf_17 h hi hh
  | 18, hi, hh => exact cf_18 h hi hh
  | 19, hi, hh => exact cf_19 h hi hh
  | 20, hi, hh => exact cf_20 h hi hh
  | 21, hi, hh => exact cf_21 h hi hh
  | 22, hi, hh => exact cf_22 h hi hh
  | 23, hi, hh => exact cf_23 h hi hh
  | 24, hi, hh => exact cf_24 h hi hh
  | 25, hi, hh => exact cf_25 h hi hh
  | 26, hi, hh => exact cf_26 h hi hh
  | 27, hi, hh => exact cf_27 h hi hh
  | 28, hi, hh => exact cf_28 h hi hh
  | 29, hi, hh => exact cf_29 h hi hh
  | 30, hi, hh => exact cf_30 h hi hh
  | 31, hi, hh => exact cf_31 h hi hh
  | 32, hi, hh => exact cf_32 h hi hh
  | 33, hi, hh => exact cf_33 h hi hh
  | 34, hi, hh => exact cf_34 h hi hh
  | 35, hi, hh => exact cf_35 h hi hh
  | 36, hi, hh => exact cf_36 h hi hh
  | 37, hi, hh => exact cf_37 h hi hh
  | 38, hi, hh => exact cf_38 h hi hh
  | 39, hi, hh => exact cf_39 h hi hh
  | 40, hi, hh => exact cf_40 h hi hh
  | 41, hi, hh => exact cf_41 h hi hh
  | 42, hi, hh => exact cf_42 h hi hh
  | 43, hi, hh => exact cf_43 h hi hh
  | 44, hi, hh => exact cf_44 h hi hh
  | 45, hi, hh => exact cf_45 h hi hh
  | 46, hi, hh => exact cf_46 h hi hh
  | 47, hi, hh => exact cf_47 h hi hh
  | 48, hi, hh => exact cf_48 h hi hh
  | 49, hi, hh => exact cf_49 h hi hh
  | 50, hi, hh => exact cf_50 h hi hh
  | 51, hi, hh => exact cf_51 h hi hh
  | 52, hi, hh => exact cf_52 h hi hh
  | 53, hi, hh => exact cf_53 h hi hh
  | 54, hi, hh => exact cf_54 h hi hh
  | 55, hi, hh => exact cf_55 h hi hh
  | 56, hi, hh => exact cf_56 h hi hh
  | 57, hi, hh => exact cf_57 h hi hh
  | 58, hi, hh => exact cf_58 h hi hh
  | 59, hi, hh => exact cf_59 h hi hh
  | 60, hi, hh => exact cf_60 h hi hh
  | 61, hi, hh => exact cf_61 h hi hh
  | 62, hi, hh => exact cf_62 h hi hh
  | 63, hi, hh => exact cf_63 h hi hh
  | 64, hi, hh => exact cf_64 h hi hh
  | 65, hi, hh => exact cf_65 h hi hh
  | 66, hi, hh => exact cf_66 h hi hh
  | 67, hi, hh => exact cf_67 h hi hh
  | 68, hi, hh => exact cf_68 h hi hh
  | 69, hi, hh => exact cf_69 h hi hh
  | 70, hi, hh => exact cf_70 h hi hh
  | 71, hi, hh => exact cf_71 h hi hh
  | 72, hi, hh => exact cf_72 h hi hh
  | 73, hi, hh => exact cf_73 h hi hh
  | 74, hi, hh => exact cf_74 h hi hh
  | 75, hi, hh => exact cf_75 h hi hh
  | 76, hi, hh => exact cf_76 h hi hh
  | 77, hi, hh => exact cf_77 h hi hh
  | 78, hi, hh => exact cf_78 h hi hh
  | 79, hi, hh => exact cf_79 h hi hh
  | 80, hi, hh => exact cf_80 h hi hh
  | 81, hi, hh => exact cf_81 h hi hh
  | 82, hi, hh => exact cf_82 h hi hh
  | 83, hi, hh => exact cf_83 h hi hh
  | 84, hi, hh => exact cf_84 h hi hh
  | 85, hi, hh => exact cf_85 h hi hh
  | 86, hi, hh => exact cf_86 h hi hh
  | 87, hi, hh => exact cf_87 h hi hh
  | 88, hi, hh => exact cf_88 h hi hh
  | 89, hi, hh => exact cf_89 h hi hh
  | 90, hi, hh => exact cf_90 h hi hh
  | 91, hi, hh => exact cf_91 h hi hh
  | 92, hi, hh => exact cf_92 h hi hh
  | 93, hi, hh => exact cf_93 h hi hh
  | 94, hi, hh => exact cf_94 h hi hh
  | 95, hi, hh => exact cf_95 h hi hh
  | 96, hi, hh => exact cf_96 h hi hh
  | n + 97, hi, _ =>
    exfalso
    have h1 := (Array.getElem?_eq_some_iff.1 hi).1
    have h2 : cfOps.size = 97 := by kernel_rfl
    omega
theorem cf_mono (i : Nat) (v : Value) (w w' : World) (h : Said (cfTab Y A c m Ab cb Ae ce gM x gX e gE) i v w) (hx : Then w w') : Said (cfTab Y A c m Ab cb Ae ce gM x gX e gE) i v w' := by
  unfold Said at *
  split at h
  · exact h
  · rename_i f hf
    unfold cfTab at hf
    split at hf <;> first | (cases hf; done) | (cases hf; exact OutP.grown h hx)
end
end Go.Proofs.YtpfeaekankkpiaaGreatDoor
