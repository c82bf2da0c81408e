/-
  The codec's plain things' bytes, as the reference has them (written by a small program of mine off the operations).
-/
import Derived.Test.YtpfeaekankkpiaaGreatDoorEvKj
import Derived.Test.YtpfeaekankkpiaaGreatDoorEvV
import Derived.Test.YtpfeaekankkpiaaGreatDoorEvRt
import Derived.Laws.Concat
namespace Go.Proofs.YtpfeaekankkpiaaGreatDoor
open Go Go.RowKit Go.Lib Go.Ev

theorem add_sb (p q : List Nat) (h : p.length + q.length ≤ 9223372036854775807) (w : World) : (binOp .add 9 (.string (sb p)) (.string (sb q))).run Tryz.prog w = .ok (.string (sb (p ++ q))) w := by
  rw [binOp_string_add, run_string_add_sum w (sb p) (sb q) (by rw [sb_size, sb_size]; omega), sb_append]
theorem tr_any (b : Bool) (w : World) : Calls Tryz.prog 28 #[.bool b] w (SB (sb (enc (tr b))) w) := Truth_any b w

theorem st_new (m : Nat) (hm : m < 256) (w : World) : StrAt (w.alloc (.cells #[.int .u8 m] 5)) w.heap.size (sb [m]) := by
  refine ⟨by simp, fun j hj => ?_⟩
  have hj0 : j = 0 := by
    have : (sb [m]).data.toList.length = 1 := rfl
    omega
  subst hj0
  rw [(show Blk (w.alloc (.cells #[.int .u8 (m : Int)] 5)) w.heap.size 5 #[.int .u8 (m : Int)] from heap_alloc_new w _).cell]
  show some (Value.int .u8 (m : Int)) = _
  have : ((sb [m]).data.toList[0]'hj).toNat = m := by
    show (UInt8.ofNat m).toNat = m
    exact UInt8.toNat_ofNat_of_lt' (by simpa using hm)
  rw [this]
theorem st_drew (m : Nat) (hm : m < 256) (w : World) : StrAt (w.drew.alloc (.cells #[.int .u8 m] 5)) w.heap.size (sb [m]) := st_new m hm w.drew
theorem st_conv {w : World} {g m : Nat} (h : StrAt w g (sb [m])) : (convert 22 9 (.slice (some ⟨g, 0, none⟩) 1 1)).run Tryz.prog w = .ok (.string (sb [m])) w := h.conv (c := 1)

set_option maxRecDepth 100000 in
theorem w_any (n : Int) (h1 : -9223372036854775808 ≤ n) (h2 : n < 9223372036854775808) (W : World) : Calls Tryz.prog 24 #[.int .i64 n] W (SB (sb (enc (zz n))) W) := by
  have K := Lib.hid (Int_any n h1 h2 W)
  go_enter Tryz.func24, Tryz.ntmps24
  go_wp2_with (go_at_call 25; (with_reducible refine K.out.mono ?_); rintro e w1 ⟨rfl, hb⟩; have HB := Lib.hid hb; clear hb)
  go_ret
  exact ⟨rfl, HB.out⟩


def Made1 (m : Nat) (v : Value) (w : World) : Prop := ∃ g, v = .slice (some ⟨g, 0, none⟩) 1 1 ∧ StrAt w g (sb [m])
theorem Made1.grown {m : Nat} {v : Value} {w w' : World} (h : Made1 m v w) (hx : Then w w') : Made1 m v w' := by
  obtain ⟨g, e, hs⟩ := h
  exact ⟨g, e, hs.below hx⟩
theorem info8 : (Tryz.prog.info? 5).map (fun i => (i.zero, i.size, i.bytes)) = some (some (.int .u8 0), 1, 1) := by kernel_rfl
theorem info_parts8 {P : Program} {t : TypeId} {z : Option Value} {s b : Nat} (h : (P.info? t).map (fun i => (i.zero, i.size, i.bytes)) = some (z, s, b)) : ∃ i, P.info? t = some i ∧ i.zero = z ∧ i.size = s ∧ i.bytes = b := by
  obtain ⟨i, hi, e⟩ := Option.map_eq_some_iff.1 h
  simp only [Prod.mk.injEq] at e
  exact ⟨i, hi, e.1, e.2.1, e.2.2⟩
theorem conv_u32 (n : Nat) (h : n < 4294967296) (w : World) : (convert 23 41 (.int .u32 (n : Nat))).run Tryz.prog w = .ok (.int .u64 (n : Nat)) w := by
  have e : Tryz.prog.intKind 41 = .u64 := by kernel_rfl
  have := run_convert_int (P := Tryz.prog) w 23 41 .u32 (n : Int) (by rw [Tryz.underlying23]; rfl) (by rw [e]; exact Tryz.underlying41)
  rw [this, e, IntWalk.u64_in _ (by omega)]

noncomputable def recOps : Array Oper := regAt Tryz.f10 1
noncomputable def recTab (x : RecD) (B : Nat)  (i : Nat) : Value ⊕ (Value → World → Prop) := match i with
  | 0 => .inl (.pointer (some ⟨B, 0, none⟩))
  | 1 => .inl (.int .u32 (x.key : Nat))
  | 2 => .inl (.int .u64 (x.key : Nat))
  | 3 => .inl (.string (sb (enc x.key)))
  | 4 => .inl (.pointer (some ⟨B, 1, none⟩))
  | 5 => .inl (.int .i64 x.time)
  | 6 => .inl (.string (sb (enc (zz x.time))))
  | 7 => .inl (.string (sb ((enc x.key) ++ (enc (zz x.time)))))
  | 8 => .inl (.pointer (some ⟨B, 2, none⟩))
  | 9 => .inl (.int .i64 x.val)
  | 10 => .inl (.string (sb (enc (zz x.val))))
  | 11 => .inl (.string (sb (((enc x.key) ++ (enc (zz x.time))) ++ (enc (zz x.val)))))
  | 12 => .inl (.pointer (some ⟨B, 3, none⟩))
  | 13 => .inl (.int .u8 (x.side : Nat))
  | 14 => .inr (Made1 (x.side))
  | 15 => .inl (.string (sb ([x.side])))
  | 16 => .inl (.string (sb ((((enc x.key) ++ (enc (zz x.time))) ++ (enc (zz x.val))) ++ ([x.side]))))
  | 17 => .inl (.pointer (some ⟨B, 4, none⟩))
  | 18 => .inl (.bool x.err)
  | 19 => .inl (.string (sb (enc (tr x.err))))
  | 20 => .inl (.string (sb (((((enc x.key) ++ (enc (zz x.time))) ++ (enc (zz x.val))) ++ ([x.side])) ++ (enc (tr x.err)))))
  | 21 => .inl (.pointer (some ⟨B, 5, none⟩))
  | 22 => .inl (.bool x.late)
  | 23 => .inl (.string (sb (enc (tr x.late))))
  | 24 => .inl (.string (sb ((((((enc x.key) ++ (enc (zz x.time))) ++ (enc (zz x.val))) ++ ([x.side])) ++ (enc (tr x.err))) ++ (enc (tr x.late)))))
  | 25 => .inl (.string (sb ((((((enc x.key) ++ (enc (zz x.time))) ++ (enc (zz x.val))) ++ ([x.side])) ++ (enc (tr x.err))) ++ (enc (tr x.late)))))
  | _ => .inl undef
structure Hrec (x : RecD) (B : Nat)  (W1 : World) (a0 : Act) : Prop where
  ok : x.ok
  p : a0.tmps[1]? = some (.pointer (some ⟨B, 0, none⟩))
  c0 : ∀ w, Since W1 w → w.cell? ⟨B, 0, none⟩ = some (.int .u32 (x.key : Nat))
  c1 : ∀ w, Since W1 w → w.cell? ⟨B, 1, none⟩ = some (.int .i64 x.time)
  c2 : ∀ w, Since W1 w → w.cell? ⟨B, 2, none⟩ = some (.int .i64 x.val)
  c3 : ∀ w, Since W1 w → w.cell? ⟨B, 3, none⟩ = some (.int .u8 (x.side : Nat))
  c4 : ∀ w, Since W1 w → w.cell? ⟨B, 4, none⟩ = some (.bool x.err)
  c5 : ∀ w, Since W1 w → w.cell? ⟨B, 5, none⟩ = some (.bool x.late)
  b_x_key : x.key < 18446744073709551616
  l_x_key : (enc x.key).length ≤ 100
  b_x_time : w64 x.time
  l_x_time : (enc (zz x.time)).length ≤ 100
  b_x_val : w64 x.val
  l_x_val : (enc (zz x.val)).length ≤ 100
  l_x_err : (enc (tr x.err)).length ≤ 100
  l_x_late : (enc (tr x.late)).length ≤ 100
section
variable {x : RecD} {B : Nat}  {W1 : World} {a0 : Act} {Q : Exit → Act → World → Prop}
theorem rec_0 {o : Oper} {a : Act} {w : World} (h : Hrec x B  W1 a0) (hi : recOps[0]? = some o) (hh : Here recOps (Said (recTab x B )) (Since W1) a0 0 o a w) :
    wpOp Tryz.prog recOps Q 0 (fun a' w' => ∃ v, a' = a.put o.dst v ∧ Said (recTab x B ) 0 v w' ∧ Since W1 w' ∧ Then w w') a w := by
  have hw := want_none (ops := recOps) (a := a) (i := 0) (by kernel_rfl) hi
  have e1 := (hh.of_base 1 (by kernel_rfl)).trans h.p
  exact st_val hi hw _ (run_fieldAddr (op_of (op := .fieldAddr 25 (.tmp 1) 0) (by kernel_rfl) hi) (eval_at e1) (by kernel_rfl)) rfl hh.gr (Below.refl _ _)
theorem rec_1 {o : Oper} {a : Act} {w : World} (h : Hrec x B  W1 a0) (hi : recOps[1]? = some o) (hh : Here recOps (Said (recTab x B )) (Since W1) a0 1 o a w) :
    wpOp Tryz.prog recOps Q 1 (fun a' w' => ∃ v, a' = a.put o.dst v ∧ Said (recTab x B ) 1 v w' ∧ Since W1 w' ∧ Then w w') a w := by
  have hw := want_none (ops := recOps) (a := a) (i := 1) (by kernel_rfl) hi
  obtain ⟨v1, e1, hp1⟩ := hh.of_dep hi 0 3 (by kernel_rfl)
  have hp1 : v1 = .pointer (some ⟨B, 0, none⟩) := hp1
  subst hp1
  have c0 := h.c0 w hh.gr
  exact st_val hi hw _ (run_loadOp (op_of (op := .load 23 (.tmp 3)) (by kernel_rfl) hi) (eval_at e1) (by go_simp)) rfl hh.gr (Below.refl _ _)
theorem rec_2 {o : Oper} {a : Act} {w : World} (h : Hrec x B  W1 a0) (hi : recOps[2]? = some o) (hh : Here recOps (Said (recTab x B )) (Since W1) a0 2 o a w) :
    wpOp Tryz.prog recOps Q 2 (fun a' w' => ∃ v, a' = a.put o.dst v ∧ Said (recTab x B ) 2 v w' ∧ Since W1 w' ∧ Then w w') a w := by
  have hw := want_none (ops := recOps) (a := a) (i := 2) (by kernel_rfl) hi
  obtain ⟨v1, e1, hp1⟩ := hh.of_dep hi 1 4 (by kernel_rfl)
  have hp1 : v1 = .int .u32 (x.key : Nat) := hp1
  subst hp1
  exact st_val hi hw _ (run_conv (op_of (op := .convert 23 41 (.tmp 4)) (by kernel_rfl) hi) (eval_at e1) (conv_u32 x.key (by have := h.ok.key; omega) w)) rfl hh.gr (Below.refl _ _)
theorem rec_3 {o : Oper} {a : Act} {w : World} (h : Hrec x B  W1 a0) (hi : recOps[3]? = some o) (hh : Here recOps (Said (recTab x B )) (Since W1) a0 3 o a w) :
    wpOp Tryz.prog recOps Q 3 (fun a' w' => ∃ v, a' = a.put o.dst v ∧ Said (recTab x B ) 3 v w' ∧ Since W1 w' ∧ Then w w') a w := by
  have hw := want_none (ops := recOps) (a := a) (i := 3) (by kernel_rfl) hi
  obtain ⟨v1, e1, hp1⟩ := hh.of_dep hi 2 5 (by kernel_rfl)
  have hp1 : v1 = .int .u64 (x.key : Nat) := hp1
  subst hp1
  have hop := op_of (ops := recOps) (op := .call { callee := .value (.func 31), args := #[.tmp 5], argTypes := #[41] }) (by kernel_rfl) hi
  exact st_call hi hw 31 _ (by simp [execOp, hop, resolve, invoke, Act.eval, Deferred.ofValue, e1]) ((Num_any x.key (by have := h.b_x_key; omega) w).mono fun e w' hs => ⟨_, hs.1, rfl, Below.trans hh.gr (hs.2.mono hh.gr.size), hs.2⟩)
theorem rec_4 {o : Oper} {a : Act} {w : World} (h : Hrec x B  W1 a0) (hi : recOps[4]? = some o) (hh : Here recOps (Said (recTab x B )) (Since W1) a0 4 o a w) :
    wpOp Tryz.prog recOps Q 4 (fun a' w' => ∃ v, a' = a.put o.dst v ∧ Said (recTab x B ) 4 v w' ∧ Since W1 w' ∧ Then w w') a w := by
  have hw := want_none (ops := recOps) (a := a) (i := 4) (by kernel_rfl) hi
  have e1 := (hh.of_base 1 (by kernel_rfl)).trans h.p
  exact st_val hi hw _ (run_fieldAddr (op_of (op := .fieldAddr 25 (.tmp 1) 1) (by kernel_rfl) hi) (eval_at e1) (by kernel_rfl)) rfl hh.gr (Below.refl _ _)
theorem rec_5 {o : Oper} {a : Act} {w : World} (h : Hrec x B  W1 a0) (hi : recOps[5]? = some o) (hh : Here recOps (Said (recTab x B )) (Since W1) a0 5 o a w) :
    wpOp Tryz.prog recOps Q 5 (fun a' w' => ∃ v, a' = a.put o.dst v ∧ Said (recTab x B ) 5 v w' ∧ Since W1 w' ∧ Then w w') a w := by
  have hw := want_none (ops := recOps) (a := a) (i := 5) (by kernel_rfl) hi
  obtain ⟨v1, e1, hp1⟩ := hh.of_dep hi 4 7 (by kernel_rfl)
  have hp1 : v1 = .pointer (some ⟨B, 1, none⟩) := hp1
  subst hp1
  have c1 := h.c1 w hh.gr
  exact st_val hi hw _ (run_loadOp (op_of (op := .load 2 (.tmp 7)) (by kernel_rfl) hi) (eval_at e1) (by go_simp)) rfl hh.gr (Below.refl _ _)
theorem rec_6 {o : Oper} {a : Act} {w : World} (h : Hrec x B  W1 a0) (hi : recOps[6]? = some o) (hh : Here recOps (Said (recTab x B )) (Since W1) a0 6 o a w) :
    wpOp Tryz.prog recOps Q 6 (fun a' w' => ∃ v, a' = a.put o.dst v ∧ Said (recTab x B ) 6 v w' ∧ Since W1 w' ∧ Then w w') a w := by
  have hw := want_none (ops := recOps) (a := a) (i := 6) (by kernel_rfl) hi
  obtain ⟨v1, e1, hp1⟩ := hh.of_dep hi 5 8 (by kernel_rfl)
  have hp1 : v1 = .int .i64 x.time := hp1
  subst hp1
  have hop := op_of (ops := recOps) (op := .call { callee := .value (.func 25), args := #[.tmp 8], argTypes := #[2] }) (by kernel_rfl) hi
  exact st_call hi hw 25 _ (by simp [execOp, hop, resolve, invoke, Act.eval, Deferred.ofValue, e1]) ((Int_any x.time h.b_x_time.1 h.b_x_time.2 w).mono fun e w' hs => ⟨_, hs.1, rfl, Below.trans hh.gr (hs.2.mono hh.gr.size), hs.2⟩)
theorem rec_7 {o : Oper} {a : Act} {w : World} (h : Hrec x B  W1 a0) (hi : recOps[7]? = some o) (hh : Here recOps (Said (recTab x B )) (Since W1) a0 7 o a w) :
    wpOp Tryz.prog recOps Q 7 (fun a' w' => ∃ v, a' = a.put o.dst v ∧ Said (recTab x B ) 7 v w' ∧ Since W1 w' ∧ Then w w') a w := by
  have hw := want_none (ops := recOps) (a := a) (i := 7) (by kernel_rfl) hi
  obtain ⟨v1, e1, hp1⟩ := hh.of_dep hi 3 6 (by kernel_rfl)
  have hp1 : v1 = .string (sb (enc x.key)) := hp1
  subst hp1
  obtain ⟨v2, e2, hp2⟩ := hh.of_dep hi 6 9 (by kernel_rfl)
  have hp2 : v2 = .string (sb (enc (zz x.time))) := hp2
  subst hp2
  refine st_val hi hw _ (run_bin (op_of (op := .binOp .add 9 (.tmp 6) (.tmp 9) 9) (by kernel_rfl) hi) (eval_at e1) (eval_at e2) (eqGuard_other (by simp) (by simp) w) (add_sb _ _ ?_ w)) rfl hh.gr (Below.refl _ _)
  try simp only [List.length_append, List.length_cons, List.length_nil]
  have := h.l_x_key; have := h.l_x_time; have := h.l_x_val; have := h.l_x_err; have := h.l_x_late; omega
theorem rec_8 {o : Oper} {a : Act} {w : World} (h : Hrec x B  W1 a0) (hi : recOps[8]? = some o) (hh : Here recOps (Said (recTab x B )) (Since W1) a0 8 o a w) :
    wpOp Tryz.prog recOps Q 8 (fun a' w' => ∃ v, a' = a.put o.dst v ∧ Said (recTab x B ) 8 v w' ∧ Since W1 w' ∧ Then w w') a w := by
  have hw := want_none (ops := recOps) (a := a) (i := 8) (by kernel_rfl) hi
  have e1 := (hh.of_base 1 (by kernel_rfl)).trans h.p
  exact st_val hi hw _ (run_fieldAddr (op_of (op := .fieldAddr 25 (.tmp 1) 2) (by kernel_rfl) hi) (eval_at e1) (by kernel_rfl)) rfl hh.gr (Below.refl _ _)
theorem rec_9 {o : Oper} {a : Act} {w : World} (h : Hrec x B  W1 a0) (hi : recOps[9]? = some o) (hh : Here recOps (Said (recTab x B )) (Since W1) a0 9 o a w) :
    wpOp Tryz.prog recOps Q 9 (fun a' w' => ∃ v, a' = a.put o.dst v ∧ Said (recTab x B ) 9 v w' ∧ Since W1 w' ∧ Then w w') a w := by
  have hw := want_none (ops := recOps) (a := a) (i := 9) (by kernel_rfl) hi
  obtain ⟨v1, e1, hp1⟩ := hh.of_dep hi 8 11 (by kernel_rfl)
  have hp1 : v1 = .pointer (some ⟨B, 2, none⟩) := hp1
  subst hp1
  have c2 := h.c2 w hh.gr
  exact st_val hi hw _ (run_loadOp (op_of (op := .load 2 (.tmp 11)) (by kernel_rfl) hi) (eval_at e1) (by go_simp)) rfl hh.gr (Below.refl _ _)
theorem rec_10 {o : Oper} {a : Act} {w : World} (h : Hrec x B  W1 a0) (hi : recOps[10]? = some o) (hh : Here recOps (Said (recTab x B )) (Since W1) a0 10 o a w) :
    wpOp Tryz.prog recOps Q 10 (fun a' w' => ∃ v, a' = a.put o.dst v ∧ Said (recTab x B ) 10 v w' ∧ Since W1 w' ∧ Then w w') a w := by
  have hw := want_none (ops := recOps) (a := a) (i := 10) (by kernel_rfl) hi
  obtain ⟨v1, e1, hp1⟩ := hh.of_dep hi 9 12 (by kernel_rfl)
  have hp1 : v1 = .int .i64 x.val := hp1
  subst hp1
  have hop := op_of (ops := recOps) (op := .call { callee := .value (.func 25), args := #[.tmp 12], argTypes := #[2] }) (by kernel_rfl) hi
  exact st_call hi hw 25 _ (by simp [execOp, hop, resolve, invoke, Act.eval, Deferred.ofValue, e1]) ((Int_any x.val h.b_x_val.1 h.b_x_val.2 w).mono fun e w' hs => ⟨_, hs.1, rfl, Below.trans hh.gr (hs.2.mono hh.gr.size), hs.2⟩)
theorem rec_11 {o : Oper} {a : Act} {w : World} (h : Hrec x B  W1 a0) (hi : recOps[11]? = some o) (hh : Here recOps (Said (recTab x B )) (Since W1) a0 11 o a w) :
    wpOp Tryz.prog recOps Q 11 (fun a' w' => ∃ v, a' = a.put o.dst v ∧ Said (recTab x B ) 11 v w' ∧ Since W1 w' ∧ Then w w') a w := by
  have hw := want_none (ops := recOps) (a := a) (i := 11) (by kernel_rfl) hi
  obtain ⟨v1, e1, hp1⟩ := hh.of_dep hi 7 10 (by kernel_rfl)
  have hp1 : v1 = .string (sb ((enc x.key) ++ (enc (zz x.time)))) := hp1
  subst hp1
  obtain ⟨v2, e2, hp2⟩ := hh.of_dep hi 10 13 (by kernel_rfl)
  have hp2 : v2 = .string (sb (enc (zz x.val))) := hp2
  subst hp2
  refine st_val hi hw _ (run_bin (op_of (op := .binOp .add 9 (.tmp 10) (.tmp 13) 9) (by kernel_rfl) hi) (eval_at e1) (eval_at e2) (eqGuard_other (by simp) (by simp) w) (add_sb _ _ ?_ w)) rfl hh.gr (Below.refl _ _)
  try simp only [List.length_append, List.length_cons, List.length_nil]
  have := h.l_x_key; have := h.l_x_time; have := h.l_x_val; have := h.l_x_err; have := h.l_x_late; omega
theorem rec_12 {o : Oper} {a : Act} {w : World} (h : Hrec x B  W1 a0) (hi : recOps[12]? = some o) (hh : Here recOps (Said (recTab x B )) (Since W1) a0 12 o a w) :
    wpOp Tryz.prog recOps Q 12 (fun a' w' => ∃ v, a' = a.put o.dst v ∧ Said (recTab x B ) 12 v w' ∧ Since W1 w' ∧ Then w w') a w := by
  have hw := want_none (ops := recOps) (a := a) (i := 12) (by kernel_rfl) hi
  have e1 := (hh.of_base 1 (by kernel_rfl)).trans h.p
  exact st_val hi hw _ (run_fieldAddr (op_of (op := .fieldAddr 25 (.tmp 1) 3) (by kernel_rfl) hi) (eval_at e1) (by kernel_rfl)) rfl hh.gr (Below.refl _ _)
theorem rec_13 {o : Oper} {a : Act} {w : World} (h : Hrec x B  W1 a0) (hi : recOps[13]? = some o) (hh : Here recOps (Said (recTab x B )) (Since W1) a0 13 o a w) :
    wpOp Tryz.prog recOps Q 13 (fun a' w' => ∃ v, a' = a.put o.dst v ∧ Said (recTab x B ) 13 v w' ∧ Since W1 w' ∧ Then w w') a w := by
  have hw := want_none (ops := recOps) (a := a) (i := 13) (by kernel_rfl) hi
  obtain ⟨v1, e1, hp1⟩ := hh.of_dep hi 12 15 (by kernel_rfl)
  have hp1 : v1 = .pointer (some ⟨B, 3, none⟩) := hp1
  subst hp1
  have c3 := h.c3 w hh.gr
  exact st_val hi hw _ (run_loadOp (op_of (op := .load 5 (.tmp 15)) (by kernel_rfl) hi) (eval_at e1) (by go_simp)) rfl hh.gr (Below.refl _ _)
theorem rec_14 {o : Oper} {a : Act} {w : World} (h : Hrec x B  W1 a0) (hi : recOps[14]? = some o) (hh : Here recOps (Said (recTab x B )) (Since W1) a0 14 o a w) :
    wpOp Tryz.prog recOps Q 14 (fun a' w' => ∃ v, a' = a.put o.dst v ∧ Said (recTab x B ) 14 v w' ∧ Since W1 w' ∧ Then w w') a w := by
  have hw := want_none (ops := recOps) (a := a) (i := 14) (by kernel_rfl) hi
  obtain ⟨v1, e1, hp1⟩ := hh.of_dep hi 13 16 (by kernel_rfl)
  have hp1 : v1 = .int .u8 (x.side : Nat) := hp1
  subst hp1
  obtain ⟨ie, k0, k1, k2, -⟩ := info_parts8 info8
  exact st_made hi hw _ _ (run_build1 (op_of (op := .buildSlice 22 1 #[(0, .tmp 16)]) (by kernel_rfl) hi) (eval_at e1) Tryz.underlying22 k0 k1 k2 (by kernel_rfl)) ⟨_, rfl, st_new _ h.ok.side w⟩ (Below.alloc hh.gr hh.gr.size _) ((Below.refl _ _).alloc (Nat.le_refl _) _)
theorem rec_15 {o : Oper} {a : Act} {w : World} (h : Hrec x B  W1 a0) (hi : recOps[15]? = some o) (hh : Here recOps (Said (recTab x B )) (Since W1) a0 15 o a w) :
    wpOp Tryz.prog recOps Q 15 (fun a' w' => ∃ v, a' = a.put o.dst v ∧ Said (recTab x B ) 15 v w' ∧ Since W1 w' ∧ Then w w') a w := by
  have hw := want_none (ops := recOps) (a := a) (i := 15) (by kernel_rfl) hi
  obtain ⟨v1, e1, hp1⟩ := hh.of_dep hi 14 17 (by kernel_rfl)
  obtain ⟨g1, q1, hs1⟩ : Made1 (x.side) v1 w := hp1
  subst q1
  exact st_val hi hw _ (run_conv (op_of (op := .convert 22 9 (.tmp 17)) (by kernel_rfl) hi) (eval_at e1) (st_conv hs1)) rfl hh.gr (Below.refl _ _)
theorem rec_16 {o : Oper} {a : Act} {w : World} (h : Hrec x B  W1 a0) (hi : recOps[16]? = some o) (hh : Here recOps (Said (recTab x B )) (Since W1) a0 16 o a w) :
    wpOp Tryz.prog recOps Q 16 (fun a' w' => ∃ v, a' = a.put o.dst v ∧ Said (recTab x B ) 16 v w' ∧ Since W1 w' ∧ Then w w') a w := by
  have hw := want_none (ops := recOps) (a := a) (i := 16) (by kernel_rfl) hi
  obtain ⟨v1, e1, hp1⟩ := hh.of_dep hi 11 14 (by kernel_rfl)
  have hp1 : v1 = .string (sb (((enc x.key) ++ (enc (zz x.time))) ++ (enc (zz x.val)))) := hp1
  subst hp1
  obtain ⟨v2, e2, hp2⟩ := hh.of_dep hi 15 18 (by kernel_rfl)
  have hp2 : v2 = .string (sb ([x.side])) := hp2
  subst hp2
  refine st_val hi hw _ (run_bin (op_of (op := .binOp .add 9 (.tmp 14) (.tmp 18) 9) (by kernel_rfl) hi) (eval_at e1) (eval_at e2) (eqGuard_other (by simp) (by simp) w) (add_sb _ _ ?_ w)) rfl hh.gr (Below.refl _ _)
  try simp only [List.length_append, List.length_cons, List.length_nil]
  have := h.l_x_key; have := h.l_x_time; have := h.l_x_val; have := h.l_x_err; have := h.l_x_late; omega
theorem rec_17 {o : Oper} {a : Act} {w : World} (h : Hrec x B  W1 a0) (hi : recOps[17]? = some o) (hh : Here recOps (Said (recTab x B )) (Since W1) a0 17 o a w) :
    wpOp Tryz.prog recOps Q 17 (fun a' w' => ∃ v, a' = a.put o.dst v ∧ Said (recTab x B ) 17 v w' ∧ Since W1 w' ∧ Then w w') a w := by
  have hw := want_none (ops := recOps) (a := a) (i := 17) (by kernel_rfl) hi
  have e1 := (hh.of_base 1 (by kernel_rfl)).trans h.p
  exact st_val hi hw _ (run_fieldAddr (op_of (op := .fieldAddr 25 (.tmp 1) 4) (by kernel_rfl) hi) (eval_at e1) (by kernel_rfl)) rfl hh.gr (Below.refl _ _)
theorem rec_18 {o : Oper} {a : Act} {w : World} (h : Hrec x B  W1 a0) (hi : recOps[18]? = some o) (hh : Here recOps (Said (recTab x B )) (Since W1) a0 18 o a w) :
    wpOp Tryz.prog recOps Q 18 (fun a' w' => ∃ v, a' = a.put o.dst v ∧ Said (recTab x B ) 18 v w' ∧ Since W1 w' ∧ Then w w') a w := by
  have hw := want_none (ops := recOps) (a := a) (i := 18) (by kernel_rfl) hi
  obtain ⟨v1, e1, hp1⟩ := hh.of_dep hi 17 20 (by kernel_rfl)
  have hp1 : v1 = .pointer (some ⟨B, 4, none⟩) := hp1
  subst hp1
  have c4 := h.c4 w hh.gr
  exact st_val hi hw _ (run_loadOp (op_of (op := .load 4 (.tmp 20)) (by kernel_rfl) hi) (eval_at e1) (by go_simp)) rfl hh.gr (Below.refl _ _)
theorem rec_19 {o : Oper} {a : Act} {w : World} (h : Hrec x B  W1 a0) (hi : recOps[19]? = some o) (hh : Here recOps (Said (recTab x B )) (Since W1) a0 19 o a w) :
    wpOp Tryz.prog recOps Q 19 (fun a' w' => ∃ v, a' = a.put o.dst v ∧ Said (recTab x B ) 19 v w' ∧ Since W1 w' ∧ Then w w') a w := by
  have hw := want_none (ops := recOps) (a := a) (i := 19) (by kernel_rfl) hi
  obtain ⟨v1, e1, hp1⟩ := hh.of_dep hi 18 21 (by kernel_rfl)
  have hp1 : v1 = .bool x.err := hp1
  subst hp1
  have hop := op_of (ops := recOps) (op := .call { callee := .value (.func 28), args := #[.tmp 21], argTypes := #[4] }) (by kernel_rfl) hi
  exact st_call hi hw 28 _ (by simp [execOp, hop, resolve, invoke, Act.eval, Deferred.ofValue, e1]) ((tr_any x.err w).mono fun e w' hs => ⟨_, hs.1, rfl, Below.trans hh.gr (hs.2.mono hh.gr.size), hs.2⟩)
theorem rec_20 {o : Oper} {a : Act} {w : World} (h : Hrec x B  W1 a0) (hi : recOps[20]? = some o) (hh : Here recOps (Said (recTab x B )) (Since W1) a0 20 o a w) :
    wpOp Tryz.prog recOps Q 20 (fun a' w' => ∃ v, a' = a.put o.dst v ∧ Said (recTab x B ) 20 v w' ∧ Since W1 w' ∧ Then w w') a w := by
  have hw := want_none (ops := recOps) (a := a) (i := 20) (by kernel_rfl) hi
  obtain ⟨v1, e1, hp1⟩ := hh.of_dep hi 16 19 (by kernel_rfl)
  have hp1 : v1 = .string (sb ((((enc x.key) ++ (enc (zz x.time))) ++ (enc (zz x.val))) ++ ([x.side]))) := hp1
  subst hp1
  obtain ⟨v2, e2, hp2⟩ := hh.of_dep hi 19 22 (by kernel_rfl)
  have hp2 : v2 = .string (sb (enc (tr x.err))) := hp2
  subst hp2
  refine st_val hi hw _ (run_bin (op_of (op := .binOp .add 9 (.tmp 19) (.tmp 22) 9) (by kernel_rfl) hi) (eval_at e1) (eval_at e2) (eqGuard_other (by simp) (by simp) w) (add_sb _ _ ?_ w)) rfl hh.gr (Below.refl _ _)
  try simp only [List.length_append, List.length_cons, List.length_nil]
  have := h.l_x_key; have := h.l_x_time; have := h.l_x_val; have := h.l_x_err; have := h.l_x_late; omega
theorem rec_21 {o : Oper} {a : Act} {w : World} (h : Hrec x B  W1 a0) (hi : recOps[21]? = some o) (hh : Here recOps (Said (recTab x B )) (Since W1) a0 21 o a w) :
    wpOp Tryz.prog recOps Q 21 (fun a' w' => ∃ v, a' = a.put o.dst v ∧ Said (recTab x B ) 21 v w' ∧ Since W1 w' ∧ Then w w') a w := by
  have hw := want_none (ops := recOps) (a := a) (i := 21) (by kernel_rfl) hi
  have e1 := (hh.of_base 1 (by kernel_rfl)).trans h.p
  exact st_val hi hw _ (run_fieldAddr (op_of (op := .fieldAddr 25 (.tmp 1) 5) (by kernel_rfl) hi) (eval_at e1) (by kernel_rfl)) rfl hh.gr (Below.refl _ _)
theorem rec_22 {o : Oper} {a : Act} {w : World} (h : Hrec x B  W1 a0) (hi : recOps[22]? = some o) (hh : Here recOps (Said (recTab x B )) (Since W1) a0 22 o a w) :
    wpOp Tryz.prog recOps Q 22 (fun a' w' => ∃ v, a' = a.put o.dst v ∧ Said (recTab x B ) 22 v w' ∧ Since W1 w' ∧ Then w w') a w := by
  have hw := want_none (ops := recOps) (a := a) (i := 22) (by kernel_rfl) hi
  obtain ⟨v1, e1, hp1⟩ := hh.of_dep hi 21 24 (by kernel_rfl)
  have hp1 : v1 = .pointer (some ⟨B, 5, none⟩) := hp1
  subst hp1
  have c5 := h.c5 w hh.gr
  exact st_val hi hw _ (run_loadOp (op_of (op := .load 4 (.tmp 24)) (by kernel_rfl) hi) (eval_at e1) (by go_simp)) rfl hh.gr (Below.refl _ _)
theorem rec_23 {o : Oper} {a : Act} {w : World} (h : Hrec x B  W1 a0) (hi : recOps[23]? = some o) (hh : Here recOps (Said (recTab x B )) (Since W1) a0 23 o a w) :
    wpOp Tryz.prog recOps Q 23 (fun a' w' => ∃ v, a' = a.put o.dst v ∧ Said (recTab x B ) 23 v w' ∧ Since W1 w' ∧ Then w w') a w := by
  have hw := want_none (ops := recOps) (a := a) (i := 23) (by kernel_rfl) hi
  obtain ⟨v1, e1, hp1⟩ := hh.of_dep hi 22 25 (by kernel_rfl)
  have hp1 : v1 = .bool x.late := hp1
  subst hp1
  have hop := op_of (ops := recOps) (op := .call { callee := .value (.func 28), args := #[.tmp 25], argTypes := #[4] }) (by kernel_rfl) hi
  exact st_call hi hw 28 _ (by simp [execOp, hop, resolve, invoke, Act.eval, Deferred.ofValue, e1]) ((tr_any x.late w).mono fun e w' hs => ⟨_, hs.1, rfl, Below.trans hh.gr (hs.2.mono hh.gr.size), hs.2⟩)
theorem rec_24 {o : Oper} {a : Act} {w : World} (h : Hrec x B  W1 a0) (hi : recOps[24]? = some o) (hh : Here recOps (Said (recTab x B )) (Since W1) a0 24 o a w) :
    wpOp Tryz.prog recOps Q 24 (fun a' w' => ∃ v, a' = a.put o.dst v ∧ Said (recTab x B ) 24 v w' ∧ Since W1 w' ∧ Then w w') a w := by
  have hw := want_none (ops := recOps) (a := a) (i := 24) (by kernel_rfl) hi
  obtain ⟨v1, e1, hp1⟩ := hh.of_dep hi 20 23 (by kernel_rfl)
  have hp1 : v1 = .string (sb (((((enc x.key) ++ (enc (zz x.time))) ++ (enc (zz x.val))) ++ ([x.side])) ++ (enc (tr x.err)))) := hp1
  subst hp1
  obtain ⟨v2, e2, hp2⟩ := hh.of_dep hi 23 26 (by kernel_rfl)
  have hp2 : v2 = .string (sb (enc (tr x.late))) := hp2
  subst hp2
  refine st_val hi hw _ (run_bin (op_of (op := .binOp .add 9 (.tmp 23) (.tmp 26) 9) (by kernel_rfl) hi) (eval_at e1) (eval_at e2) (eqGuard_other (by simp) (by simp) w) (add_sb _ _ ?_ w)) rfl hh.gr (Below.refl _ _)
  try simp only [List.length_append, List.length_cons, List.length_nil]
  have := h.l_x_key; have := h.l_x_time; have := h.l_x_val; have := h.l_x_err; have := h.l_x_late; omega
theorem rec_25 {o : Oper} {a : Act} {w : World} (h : Hrec x B  W1 a0) (hi : recOps[25]? = some o) (hh : Here recOps (Said (recTab x B )) (Since W1) a0 25 o a w) :
    wpOp Tryz.prog recOps Q 25 (fun a' w' => ∃ v, a' = a.put o.dst v ∧ Said (recTab x B ) 25 v w' ∧ Since W1 w' ∧ Then w w') a w := by
  have hw := want_none (ops := recOps) (a := a) (i := 25) (by kernel_rfl) hi
  obtain ⟨v1, e1, hp1⟩ := hh.of_dep hi 24 27 (by kernel_rfl)
  have hp1 : v1 = .string (sb ((((((enc x.key) ++ (enc (zz x.time))) ++ (enc (zz x.val))) ++ ([x.side])) ++ (enc (tr x.err))) ++ (enc (tr x.late)))) := hp1
  subst hp1
  exact st_val hi hw _ (run_assign (op_of (op := .assign (.tmp 27)) (by kernel_rfl) hi) (eval_at e1)) rfl hh.gr (Below.refl _ _)
theorem rec_mono (i : Nat) (v : Value) (w w' : World) (h : Said (recTab x B ) i v w) (hx : Then w w') : Said (recTab x B ) i v w' := by
  unfold Said at *
  split at h
  · exact h
  · rename_i f hf
    unfold recTab at hf
    split at hf <;> first | (cases hf; done) | (cases hf; exact Made1.grown h hx)
theorem rec_steps (h : Hrec x B  W1 a0) : ∀ (i : Nat) (o : Oper) (a : Act) (w : World), recOps[i]? = some o → Here recOps (Said (recTab x B )) (Since W1) a0 i o a w →
    wpOp Tryz.prog recOps Q i (fun a' w' => ∃ v, a' = a.put o.dst v ∧ Said (recTab x B ) i v w' ∧ Since W1 w' ∧ Then w w') a w := by
  intro i o a w hi hh
  match i, hi, hh with
  | 0, hi, hh => exact rec_0 h hi hh
  | 1, hi, hh => exact rec_1 h hi hh
  | 2, hi, hh => exact rec_2 h hi hh
  | 3, hi, hh => exact rec_3 h hi hh
  | 4, hi, hh => exact rec_4 h hi hh
  | 5, hi, hh => exact rec_5 h hi hh
  | 6, hi, hh => exact rec_6 h hi hh
  | 7, hi, hh => exact rec_7 h hi hh
  | 8, hi, hh => exact rec_8 h hi hh
  | 9, hi, hh => exact rec_9 h hi hh
  | 10, hi, hh => exact rec_10 h hi hh
  | 11, hi, hh => exact rec_11 h hi hh
  | 12, hi, hh => exact rec_12 h hi hh
  | 13, hi, hh => exact rec_13 h hi hh
  | 14, hi, hh => exact rec_14 h hi hh
  | 15, hi, hh => exact rec_15 h hi hh
  | 16, hi, hh => exact rec_16 h hi hh
  | 17, hi, hh => exact rec_17 h hi hh
  | 18, hi, hh => exact rec_18 h hi hh
  | 19, hi, hh => exact rec_19 h hi hh
  | 20, hi, hh => exact rec_20 h hi hh
  | 21, hi, hh => exact rec_21 h hi hh
  | 22, hi, hh => exact rec_22 h hi hh
  | 23, hi, hh => exact rec_23 h hi hh
  | 24, hi, hh => exact rec_24 h hi hh
  | 25, hi, hh => exact rec_25 h hi hh
  | n + 26, hi, _ =>
    exfalso
    have h1 := (Array.getElem?_eq_some_iff.1 hi).1
    have h2 : recOps.size = 26 := by kernel_rfl
    omega
end
set_option maxRecDepth 100000 in
set_option maxHeartbeats 3200000 in
theorem ref_rec (x : RecD) (W : World) (ok : x.ok) : Calls Tryz.prog 10 #[.agg #[.int .u32 (x.key : Nat), .int .i64 x.time, .int .i64 x.val, .int .u8 (x.side : Nat), .bool x.err, .bool x.late]] W (SB (sb x.by_) W) := by
  have HO := Lib.hid ok
  clear ok
  go_enter Tryz.func10, Tryz.ntmps10
  go_wp2_with fail
  rename_i K hK
  obtain ⟨W1, hW1⟩ : ∃ W1, W1 = W.alloc (.cells #[.int .u32 (x.key : Nat), .int .i64 x.time, .int .i64 x.val, .int .u8 (x.side : Nat), .bool x.err, .bool x.late] 25) := ⟨_, rfl⟩
  have HB1 : Below W.heap.size W W1 := by rw [hW1]; exact (Below.refl _ _).alloc (Nat.le_refl _) _
  have HX : W1.heap[W.heap.size]? = some (.cells #[.int .u32 (x.key : Nat), .int .i64 x.time, .int .i64 x.val, .int .u8 (x.side : Nat), .bool x.err, .bool x.late] 25 (0, 0)) := by rw [hW1]; exact heap_alloc_new W _
  rw [← hW1]
  clear hW1
  have ok := HO.out
  have HC : ∀ i w, Since W1 w → w.cell? ⟨W.heap.size, i, none⟩ = (#[.int .u32 (x.key : Nat), .int .i64 x.time, .int .i64 x.val, .int .u8 (x.side : Nat), .bool x.err, .bool x.late] : Array Value)[i]? := fun i w hg => by
    have := (hg.block W.heap.size (Array.getElem?_eq_some_iff.1 HX).1).trans HX
    simp [World.cell?, this]
  refine tab_region (tab := recTab x W.heap.size) (opsT := recOps) (n := 28) (last := 25) (d := 2) (W := W1) (by kernel_rfl) (by kernel_rfl) (by kernel_rfl) (by kernel_rfl) rfl (Below.refl _ _) rec_mono (rec_steps ⟨ok, rfl, HC 0, HC 1, HC 2, HC 3, HC 4, HC 5, (by have := ok.key; omega), (Nat.le_trans (enc_len (by have := ok.key; omega)).2 (by decide)), ok.time, (Nat.le_trans (enc_len (zz_lt ok.time.1 ok.time.2)).2 (by decide)), ok.val, (Nat.le_trans (enc_len (zz_lt ok.val.1 ok.val.2)).2 (by decide)), (Nat.le_trans (enc_len (by unfold tr; split <;> omega)).2 (by decide)), (Nat.le_trans (enc_len (by unfold tr; split <;> omega)).2 (by decide))⟩) (by kernel_rfl) rfl ?_
  intro a w' e1 e2 e3 _ hb
  refine hK _ _ (wp_ret (bodyPost_ret (results_tmp rfl _ _ _) e1 ⟨?_, HB1.trans (hb.mono HB1.size)⟩))
  have hby : x.by_ = (((((enc x.key) ++ (enc (zz x.time))) ++ (enc (zz x.val))) ++ ([x.side])) ++ (enc (tr x.err))) ++ (enc (tr x.late)) := by unfold RecD.by_; simp only [List.append_assoc]
  simp [e3, hby]

noncomputable def opnOps : Array Oper := regAt Tryz.f14 1
noncomputable def opnTab (x : OpnD) (B : Nat)  (i : Nat) : Value ⊕ (Value → World → Prop) := match i with
  | 0 => .inl (.pointer (some ⟨B, 0, none⟩))
  | 1 => .inl (.int .i64 x.kind)
  | 2 => .inl (.string (sb (enc (zz x.kind))))
  | 3 => .inl (.pointer (some ⟨B, 1, none⟩))
  | 4 => .inl (.int .i64 x.a)
  | 5 => .inl (.string (sb (enc (zz x.a))))
  | 6 => .inl (.string (sb ((enc (zz x.kind)) ++ (enc (zz x.a)))))
  | 7 => .inl (.pointer (some ⟨B, 2, none⟩))
  | 8 => .inl (.int .i64 x.b)
  | 9 => .inl (.string (sb (enc (zz x.b))))
  | 10 => .inl (.string (sb (((enc (zz x.kind)) ++ (enc (zz x.a))) ++ (enc (zz x.b)))))
  | 11 => .inl (.pointer (some ⟨B, 3, none⟩))
  | 12 => .inl (.int .i64 x.agg)
  | 13 => .inl (.string (sb (enc (zz x.agg))))
  | 14 => .inl (.string (sb ((((enc (zz x.kind)) ++ (enc (zz x.a))) ++ (enc (zz x.b))) ++ (enc (zz x.agg)))))
  | 15 => .inl (.string (sb ((((enc (zz x.kind)) ++ (enc (zz x.a))) ++ (enc (zz x.b))) ++ (enc (zz x.agg)))))
  | _ => .inl undef
structure Hopn (x : OpnD) (B : Nat)  (W1 : World) (a0 : Act) : Prop where
  ok : x.ok
  p : a0.tmps[1]? = some (.pointer (some ⟨B, 0, none⟩))
  c0 : ∀ w, Since W1 w → w.cell? ⟨B, 0, none⟩ = some (.int .i64 x.kind)
  c1 : ∀ w, Since W1 w → w.cell? ⟨B, 1, none⟩ = some (.int .i64 x.a)
  c2 : ∀ w, Since W1 w → w.cell? ⟨B, 2, none⟩ = some (.int .i64 x.b)
  c3 : ∀ w, Since W1 w → w.cell? ⟨B, 3, none⟩ = some (.int .i64 x.agg)
  b_x_kind : w64 x.kind
  l_x_kind : (enc (zz x.kind)).length ≤ 100
  b_x_a : w64 x.a
  l_x_a : (enc (zz x.a)).length ≤ 100
  b_x_b : w64 x.b
  l_x_b : (enc (zz x.b)).length ≤ 100
  b_x_agg : w64 x.agg
  l_x_agg : (enc (zz x.agg)).length ≤ 100
section
variable {x : OpnD} {B : Nat}  {W1 : World} {a0 : Act} {Q : Exit → Act → World → Prop}
theorem opn_0 {o : Oper} {a : Act} {w : World} (h : Hopn x B  W1 a0) (hi : opnOps[0]? = some o) (hh : Here opnOps (Said (opnTab x B )) (Since W1) a0 0 o a w) :
    wpOp Tryz.prog opnOps Q 0 (fun a' w' => ∃ v, a' = a.put o.dst v ∧ Said (opnTab x B ) 0 v w' ∧ Since W1 w' ∧ Then w w') a w := by
  have hw := want_none (ops := opnOps) (a := a) (i := 0) (by kernel_rfl) hi
  have e1 := (hh.of_base 1 (by kernel_rfl)).trans h.p
  exact st_val hi hw _ (run_fieldAddr (op_of (op := .fieldAddr 28 (.tmp 1) 0) (by kernel_rfl) hi) (eval_at e1) (by kernel_rfl)) rfl hh.gr (Below.refl _ _)
theorem opn_1 {o : Oper} {a : Act} {w : World} (h : Hopn x B  W1 a0) (hi : opnOps[1]? = some o) (hh : Here opnOps (Said (opnTab x B )) (Since W1) a0 1 o a w) :
    wpOp Tryz.prog opnOps Q 1 (fun a' w' => ∃ v, a' = a.put o.dst v ∧ Said (opnTab x B ) 1 v w' ∧ Since W1 w' ∧ Then w w') a w := by
  have hw := want_none (ops := opnOps) (a := a) (i := 1) (by kernel_rfl) hi
  obtain ⟨v1, e1, hp1⟩ := hh.of_dep hi 0 3 (by kernel_rfl)
  have hp1 : v1 = .pointer (some ⟨B, 0, none⟩) := hp1
  subst hp1
  have c0 := h.c0 w hh.gr
  exact st_val hi hw _ (run_loadOp (op_of (op := .load 3 (.tmp 3)) (by kernel_rfl) hi) (eval_at e1) (by go_simp)) rfl hh.gr (Below.refl _ _)
theorem opn_2 {o : Oper} {a : Act} {w : World} (h : Hopn x B  W1 a0) (hi : opnOps[2]? = some o) (hh : Here opnOps (Said (opnTab x B )) (Since W1) a0 2 o a w) :
    wpOp Tryz.prog opnOps Q 2 (fun a' w' => ∃ v, a' = a.put o.dst v ∧ Said (opnTab x B ) 2 v w' ∧ Since W1 w' ∧ Then w w') a w := by
  have hw := want_none (ops := opnOps) (a := a) (i := 2) (by kernel_rfl) hi
  obtain ⟨v1, e1, hp1⟩ := hh.of_dep hi 1 4 (by kernel_rfl)
  have hp1 : v1 = .int .i64 x.kind := hp1
  subst hp1
  have hop := op_of (ops := opnOps) (op := .call { callee := .value (.func 24), args := #[.tmp 4], argTypes := #[3] }) (by kernel_rfl) hi
  exact st_call hi hw 24 _ (by simp [execOp, hop, resolve, invoke, Act.eval, Deferred.ofValue, e1]) ((w_any x.kind h.b_x_kind.1 h.b_x_kind.2 w).mono fun e w' hs => ⟨_, hs.1, rfl, Below.trans hh.gr (hs.2.mono hh.gr.size), hs.2⟩)
theorem opn_3 {o : Oper} {a : Act} {w : World} (h : Hopn x B  W1 a0) (hi : opnOps[3]? = some o) (hh : Here opnOps (Said (opnTab x B )) (Since W1) a0 3 o a w) :
    wpOp Tryz.prog opnOps Q 3 (fun a' w' => ∃ v, a' = a.put o.dst v ∧ Said (opnTab x B ) 3 v w' ∧ Since W1 w' ∧ Then w w') a w := by
  have hw := want_none (ops := opnOps) (a := a) (i := 3) (by kernel_rfl) hi
  have e1 := (hh.of_base 1 (by kernel_rfl)).trans h.p
  exact st_val hi hw _ (run_fieldAddr (op_of (op := .fieldAddr 28 (.tmp 1) 1) (by kernel_rfl) hi) (eval_at e1) (by kernel_rfl)) rfl hh.gr (Below.refl _ _)
theorem opn_4 {o : Oper} {a : Act} {w : World} (h : Hopn x B  W1 a0) (hi : opnOps[4]? = some o) (hh : Here opnOps (Said (opnTab x B )) (Since W1) a0 4 o a w) :
    wpOp Tryz.prog opnOps Q 4 (fun a' w' => ∃ v, a' = a.put o.dst v ∧ Said (opnTab x B ) 4 v w' ∧ Since W1 w' ∧ Then w w') a w := by
  have hw := want_none (ops := opnOps) (a := a) (i := 4) (by kernel_rfl) hi
  obtain ⟨v1, e1, hp1⟩ := hh.of_dep hi 3 6 (by kernel_rfl)
  have hp1 : v1 = .pointer (some ⟨B, 1, none⟩) := hp1
  subst hp1
  have c1 := h.c1 w hh.gr
  exact st_val hi hw _ (run_loadOp (op_of (op := .load 2 (.tmp 6)) (by kernel_rfl) hi) (eval_at e1) (by go_simp)) rfl hh.gr (Below.refl _ _)
theorem opn_5 {o : Oper} {a : Act} {w : World} (h : Hopn x B  W1 a0) (hi : opnOps[5]? = some o) (hh : Here opnOps (Said (opnTab x B )) (Since W1) a0 5 o a w) :
    wpOp Tryz.prog opnOps Q 5 (fun a' w' => ∃ v, a' = a.put o.dst v ∧ Said (opnTab x B ) 5 v w' ∧ Since W1 w' ∧ Then w w') a w := by
  have hw := want_none (ops := opnOps) (a := a) (i := 5) (by kernel_rfl) hi
  obtain ⟨v1, e1, hp1⟩ := hh.of_dep hi 4 7 (by kernel_rfl)
  have hp1 : v1 = .int .i64 x.a := hp1
  subst hp1
  have hop := op_of (ops := opnOps) (op := .call { callee := .value (.func 25), args := #[.tmp 7], argTypes := #[2] }) (by kernel_rfl) hi
  exact st_call hi hw 25 _ (by simp [execOp, hop, resolve, invoke, Act.eval, Deferred.ofValue, e1]) ((Int_any x.a h.b_x_a.1 h.b_x_a.2 w).mono fun e w' hs => ⟨_, hs.1, rfl, Below.trans hh.gr (hs.2.mono hh.gr.size), hs.2⟩)
theorem opn_6 {o : Oper} {a : Act} {w : World} (h : Hopn x B  W1 a0) (hi : opnOps[6]? = some o) (hh : Here opnOps (Said (opnTab x B )) (Since W1) a0 6 o a w) :
    wpOp Tryz.prog opnOps Q 6 (fun a' w' => ∃ v, a' = a.put o.dst v ∧ Said (opnTab x B ) 6 v w' ∧ Since W1 w' ∧ Then w w') a w := by
  have hw := want_none (ops := opnOps) (a := a) (i := 6) (by kernel_rfl) hi
  obtain ⟨v1, e1, hp1⟩ := hh.of_dep hi 2 5 (by kernel_rfl)
  have hp1 : v1 = .string (sb (enc (zz x.kind))) := hp1
  subst hp1
  obtain ⟨v2, e2, hp2⟩ := hh.of_dep hi 5 8 (by kernel_rfl)
  have hp2 : v2 = .string (sb (enc (zz x.a))) := hp2
  subst hp2
  refine st_val hi hw _ (run_bin (op_of (op := .binOp .add 9 (.tmp 5) (.tmp 8) 9) (by kernel_rfl) hi) (eval_at e1) (eval_at e2) (eqGuard_other (by simp) (by simp) w) (add_sb _ _ ?_ w)) rfl hh.gr (Below.refl _ _)
  try simp only [List.length_append, List.length_cons, List.length_nil]
  have := h.l_x_kind; have := h.l_x_a; have := h.l_x_b; have := h.l_x_agg; omega
theorem opn_7 {o : Oper} {a : Act} {w : World} (h : Hopn x B  W1 a0) (hi : opnOps[7]? = some o) (hh : Here opnOps (Said (opnTab x B )) (Since W1) a0 7 o a w) :
    wpOp Tryz.prog opnOps Q 7 (fun a' w' => ∃ v, a' = a.put o.dst v ∧ Said (opnTab x B ) 7 v w' ∧ Since W1 w' ∧ Then w w') a w := by
  have hw := want_none (ops := opnOps) (a := a) (i := 7) (by kernel_rfl) hi
  have e1 := (hh.of_base 1 (by kernel_rfl)).trans h.p
  exact st_val hi hw _ (run_fieldAddr (op_of (op := .fieldAddr 28 (.tmp 1) 2) (by kernel_rfl) hi) (eval_at e1) (by kernel_rfl)) rfl hh.gr (Below.refl _ _)
theorem opn_8 {o : Oper} {a : Act} {w : World} (h : Hopn x B  W1 a0) (hi : opnOps[8]? = some o) (hh : Here opnOps (Said (opnTab x B )) (Since W1) a0 8 o a w) :
    wpOp Tryz.prog opnOps Q 8 (fun a' w' => ∃ v, a' = a.put o.dst v ∧ Said (opnTab x B ) 8 v w' ∧ Since W1 w' ∧ Then w w') a w := by
  have hw := want_none (ops := opnOps) (a := a) (i := 8) (by kernel_rfl) hi
  obtain ⟨v1, e1, hp1⟩ := hh.of_dep hi 7 10 (by kernel_rfl)
  have hp1 : v1 = .pointer (some ⟨B, 2, none⟩) := hp1
  subst hp1
  have c2 := h.c2 w hh.gr
  exact st_val hi hw _ (run_loadOp (op_of (op := .load 2 (.tmp 10)) (by kernel_rfl) hi) (eval_at e1) (by go_simp)) rfl hh.gr (Below.refl _ _)
theorem opn_9 {o : Oper} {a : Act} {w : World} (h : Hopn x B  W1 a0) (hi : opnOps[9]? = some o) (hh : Here opnOps (Said (opnTab x B )) (Since W1) a0 9 o a w) :
    wpOp Tryz.prog opnOps Q 9 (fun a' w' => ∃ v, a' = a.put o.dst v ∧ Said (opnTab x B ) 9 v w' ∧ Since W1 w' ∧ Then w w') a w := by
  have hw := want_none (ops := opnOps) (a := a) (i := 9) (by kernel_rfl) hi
  obtain ⟨v1, e1, hp1⟩ := hh.of_dep hi 8 11 (by kernel_rfl)
  have hp1 : v1 = .int .i64 x.b := hp1
  subst hp1
  have hop := op_of (ops := opnOps) (op := .call { callee := .value (.func 25), args := #[.tmp 11], argTypes := #[2] }) (by kernel_rfl) hi
  exact st_call hi hw 25 _ (by simp [execOp, hop, resolve, invoke, Act.eval, Deferred.ofValue, e1]) ((Int_any x.b h.b_x_b.1 h.b_x_b.2 w).mono fun e w' hs => ⟨_, hs.1, rfl, Below.trans hh.gr (hs.2.mono hh.gr.size), hs.2⟩)
theorem opn_10 {o : Oper} {a : Act} {w : World} (h : Hopn x B  W1 a0) (hi : opnOps[10]? = some o) (hh : Here opnOps (Said (opnTab x B )) (Since W1) a0 10 o a w) :
    wpOp Tryz.prog opnOps Q 10 (fun a' w' => ∃ v, a' = a.put o.dst v ∧ Said (opnTab x B ) 10 v w' ∧ Since W1 w' ∧ Then w w') a w := by
  have hw := want_none (ops := opnOps) (a := a) (i := 10) (by kernel_rfl) hi
  obtain ⟨v1, e1, hp1⟩ := hh.of_dep hi 6 9 (by kernel_rfl)
  have hp1 : v1 = .string (sb ((enc (zz x.kind)) ++ (enc (zz x.a)))) := hp1
  subst hp1
  obtain ⟨v2, e2, hp2⟩ := hh.of_dep hi 9 12 (by kernel_rfl)
  have hp2 : v2 = .string (sb (enc (zz x.b))) := hp2
  subst hp2
  refine st_val hi hw _ (run_bin (op_of (op := .binOp .add 9 (.tmp 9) (.tmp 12) 9) (by kernel_rfl) hi) (eval_at e1) (eval_at e2) (eqGuard_other (by simp) (by simp) w) (add_sb _ _ ?_ w)) rfl hh.gr (Below.refl _ _)
  try simp only [List.length_append, List.length_cons, List.length_nil]
  have := h.l_x_kind; have := h.l_x_a; have := h.l_x_b; have := h.l_x_agg; omega
theorem opn_11 {o : Oper} {a : Act} {w : World} (h : Hopn x B  W1 a0) (hi : opnOps[11]? = some o) (hh : Here opnOps (Said (opnTab x B )) (Since W1) a0 11 o a w) :
    wpOp Tryz.prog opnOps Q 11 (fun a' w' => ∃ v, a' = a.put o.dst v ∧ Said (opnTab x B ) 11 v w' ∧ Since W1 w' ∧ Then w w') a w := by
  have hw := want_none (ops := opnOps) (a := a) (i := 11) (by kernel_rfl) hi
  have e1 := (hh.of_base 1 (by kernel_rfl)).trans h.p
  exact st_val hi hw _ (run_fieldAddr (op_of (op := .fieldAddr 28 (.tmp 1) 3) (by kernel_rfl) hi) (eval_at e1) (by kernel_rfl)) rfl hh.gr (Below.refl _ _)
theorem opn_12 {o : Oper} {a : Act} {w : World} (h : Hopn x B  W1 a0) (hi : opnOps[12]? = some o) (hh : Here opnOps (Said (opnTab x B )) (Since W1) a0 12 o a w) :
    wpOp Tryz.prog opnOps Q 12 (fun a' w' => ∃ v, a' = a.put o.dst v ∧ Said (opnTab x B ) 12 v w' ∧ Since W1 w' ∧ Then w w') a w := by
  have hw := want_none (ops := opnOps) (a := a) (i := 12) (by kernel_rfl) hi
  obtain ⟨v1, e1, hp1⟩ := hh.of_dep hi 11 14 (by kernel_rfl)
  have hp1 : v1 = .pointer (some ⟨B, 3, none⟩) := hp1
  subst hp1
  have c3 := h.c3 w hh.gr
  exact st_val hi hw _ (run_loadOp (op_of (op := .load 3 (.tmp 14)) (by kernel_rfl) hi) (eval_at e1) (by go_simp)) rfl hh.gr (Below.refl _ _)
theorem opn_13 {o : Oper} {a : Act} {w : World} (h : Hopn x B  W1 a0) (hi : opnOps[13]? = some o) (hh : Here opnOps (Said (opnTab x B )) (Since W1) a0 13 o a w) :
    wpOp Tryz.prog opnOps Q 13 (fun a' w' => ∃ v, a' = a.put o.dst v ∧ Said (opnTab x B ) 13 v w' ∧ Since W1 w' ∧ Then w w') a w := by
  have hw := want_none (ops := opnOps) (a := a) (i := 13) (by kernel_rfl) hi
  obtain ⟨v1, e1, hp1⟩ := hh.of_dep hi 12 15 (by kernel_rfl)
  have hp1 : v1 = .int .i64 x.agg := hp1
  subst hp1
  have hop := op_of (ops := opnOps) (op := .call { callee := .value (.func 24), args := #[.tmp 15], argTypes := #[3] }) (by kernel_rfl) hi
  exact st_call hi hw 24 _ (by simp [execOp, hop, resolve, invoke, Act.eval, Deferred.ofValue, e1]) ((w_any x.agg h.b_x_agg.1 h.b_x_agg.2 w).mono fun e w' hs => ⟨_, hs.1, rfl, Below.trans hh.gr (hs.2.mono hh.gr.size), hs.2⟩)
theorem opn_14 {o : Oper} {a : Act} {w : World} (h : Hopn x B  W1 a0) (hi : opnOps[14]? = some o) (hh : Here opnOps (Said (opnTab x B )) (Since W1) a0 14 o a w) :
    wpOp Tryz.prog opnOps Q 14 (fun a' w' => ∃ v, a' = a.put o.dst v ∧ Said (opnTab x B ) 14 v w' ∧ Since W1 w' ∧ Then w w') a w := by
  have hw := want_none (ops := opnOps) (a := a) (i := 14) (by kernel_rfl) hi
  obtain ⟨v1, e1, hp1⟩ := hh.of_dep hi 10 13 (by kernel_rfl)
  have hp1 : v1 = .string (sb (((enc (zz x.kind)) ++ (enc (zz x.a))) ++ (enc (zz x.b)))) := hp1
  subst hp1
  obtain ⟨v2, e2, hp2⟩ := hh.of_dep hi 13 16 (by kernel_rfl)
  have hp2 : v2 = .string (sb (enc (zz x.agg))) := hp2
  subst hp2
  refine st_val hi hw _ (run_bin (op_of (op := .binOp .add 9 (.tmp 13) (.tmp 16) 9) (by kernel_rfl) hi) (eval_at e1) (eval_at e2) (eqGuard_other (by simp) (by simp) w) (add_sb _ _ ?_ w)) rfl hh.gr (Below.refl _ _)
  try simp only [List.length_append, List.length_cons, List.length_nil]
  have := h.l_x_kind; have := h.l_x_a; have := h.l_x_b; have := h.l_x_agg; omega
theorem opn_15 {o : Oper} {a : Act} {w : World} (h : Hopn x B  W1 a0) (hi : opnOps[15]? = some o) (hh : Here opnOps (Said (opnTab x B )) (Since W1) a0 15 o a w) :
    wpOp Tryz.prog opnOps Q 15 (fun a' w' => ∃ v, a' = a.put o.dst v ∧ Said (opnTab x B ) 15 v w' ∧ Since W1 w' ∧ Then w w') a w := by
  have hw := want_none (ops := opnOps) (a := a) (i := 15) (by kernel_rfl) hi
  obtain ⟨v1, e1, hp1⟩ := hh.of_dep hi 14 17 (by kernel_rfl)
  have hp1 : v1 = .string (sb ((((enc (zz x.kind)) ++ (enc (zz x.a))) ++ (enc (zz x.b))) ++ (enc (zz x.agg)))) := hp1
  subst hp1
  exact st_val hi hw _ (run_assign (op_of (op := .assign (.tmp 17)) (by kernel_rfl) hi) (eval_at e1)) rfl hh.gr (Below.refl _ _)
theorem opn_mono (i : Nat) (v : Value) (w w' : World) (h : Said (opnTab x B ) i v w) (hx : Then w w') : Said (opnTab x B ) i v w' := by
  unfold Said at *
  split at h
  · exact h
  · rename_i f hf
    unfold opnTab at hf
    split at hf <;> first | (cases hf; done) | (cases hf; exact Made1.grown h hx)
theorem opn_steps (h : Hopn x B  W1 a0) : ∀ (i : Nat) (o : Oper) (a : Act) (w : World), opnOps[i]? = some o → Here opnOps (Said (opnTab x B )) (Since W1) a0 i o a w →
    wpOp Tryz.prog opnOps Q i (fun a' w' => ∃ v, a' = a.put o.dst v ∧ Said (opnTab x B ) i v w' ∧ Since W1 w' ∧ Then w w') a w := by
  intro i o a w hi hh
  match i, hi, hh with
  | 0, hi, hh => exact opn_0 h hi hh
  | 1, hi, hh => exact opn_1 h hi hh
  | 2, hi, hh => exact opn_2 h hi hh
  | 3, hi, hh => exact opn_3 h hi hh
  | 4, hi, hh => exact opn_4 h hi hh
  | 5, hi, hh => exact opn_5 h hi hh
  | 6, hi, hh => exact opn_6 h hi hh
  | 7, hi, hh => exact opn_7 h hi hh
  | 8, hi, hh => exact opn_8 h hi hh
  | 9, hi, hh => exact opn_9 h hi hh
  | 10, hi, hh => exact opn_10 h hi hh
  | 11, hi, hh => exact opn_11 h hi hh
  | 12, hi, hh => exact opn_12 h hi hh
  | 13, hi, hh => exact opn_13 h hi hh
  | 14, hi, hh => exact opn_14 h hi hh
  | 15, hi, hh => exact opn_15 h hi hh
  | n + 16, hi, _ =>
    exfalso
    have h1 := (Array.getElem?_eq_some_iff.1 hi).1
    have h2 : opnOps.size = 16 := by kernel_rfl
    omega
end
set_option maxRecDepth 100000 in
set_option maxHeartbeats 3200000 in
theorem ref_opn (x : OpnD) (W : World) (ok : x.ok) : Calls Tryz.prog 14 #[.agg #[.int .i64 x.kind, .int .i64 x.a, .int .i64 x.b, .int .i64 x.agg]] W (SB (sb x.by_) W) := by
  have HO := Lib.hid ok
  clear ok
  go_enter Tryz.func14, Tryz.ntmps14
  go_wp2_with fail
  rename_i K hK
  obtain ⟨W1, hW1⟩ : ∃ W1, W1 = W.alloc (.cells #[.int .i64 x.kind, .int .i64 x.a, .int .i64 x.b, .int .i64 x.agg] 28) := ⟨_, rfl⟩
  have HB1 : Below W.heap.size W W1 := by rw [hW1]; exact (Below.refl _ _).alloc (Nat.le_refl _) _
  have HX : W1.heap[W.heap.size]? = some (.cells #[.int .i64 x.kind, .int .i64 x.a, .int .i64 x.b, .int .i64 x.agg] 28 (0, 0)) := by rw [hW1]; exact heap_alloc_new W _
  rw [← hW1]
  clear hW1
  have ok := HO.out
  have HC : ∀ i w, Since W1 w → w.cell? ⟨W.heap.size, i, none⟩ = (#[.int .i64 x.kind, .int .i64 x.a, .int .i64 x.b, .int .i64 x.agg] : Array Value)[i]? := fun i w hg => by
    have := (hg.block W.heap.size (Array.getElem?_eq_some_iff.1 HX).1).trans HX
    simp [World.cell?, this]
  refine tab_region (tab := opnTab x W.heap.size) (opsT := opnOps) (n := 18) (last := 15) (d := 2) (W := W1) (by kernel_rfl) (by kernel_rfl) (by kernel_rfl) (by kernel_rfl) rfl (Below.refl _ _) opn_mono (opn_steps ⟨ok, rfl, HC 0, HC 1, HC 2, HC 3, ok.kind, (Nat.le_trans (enc_len (zz_lt ok.kind.1 ok.kind.2)).2 (by decide)), ok.a, (Nat.le_trans (enc_len (zz_lt ok.a.1 ok.a.2)).2 (by decide)), ok.b, (Nat.le_trans (enc_len (zz_lt ok.b.1 ok.b.2)).2 (by decide)), ok.agg, (Nat.le_trans (enc_len (zz_lt ok.agg.1 ok.agg.2)).2 (by decide))⟩) (by kernel_rfl) rfl ?_
  intro a w' e1 e2 e3 _ hb
  refine hK _ _ (wp_ret (bodyPost_ret (results_tmp rfl _ _ _) e1 ⟨?_, HB1.trans (hb.mono HB1.size)⟩))
  have hby : x.by_ = (((enc (zz x.kind)) ++ (enc (zz x.a))) ++ (enc (zz x.b))) ++ (enc (zz x.agg)) := by unfold OpnD.by_; simp only [List.append_assoc]
  simp [e3, hby]

noncomputable def accOps : Array Oper := regAt Tryz.f18 1
noncomputable def accTab (x : AccD) (B : Nat)  (i : Nat) : Value ⊕ (Value → World → Prop) := match i with
  | 0 => .inl (.pointer (some ⟨B, 0, none⟩))
  | 1 => .inl (.int .i64 x.n)
  | 2 => .inl (.string (sb (enc (zz x.n))))
  | 3 => .inl (.pointer (some ⟨B, 1, none⟩))
  | 4 => .inl (.int .i64 x.hi)
  | 5 => .inl (.string (sb (enc (zz x.hi))))
  | 6 => .inl (.string (sb ((enc (zz x.n)) ++ (enc (zz x.hi)))))
  | 7 => .inl (.pointer (some ⟨B, 2, none⟩))
  | 8 => .inl (.int .u64 (x.lo : Nat))
  | 9 => .inl (.string (sb (enc x.lo)))
  | 10 => .inl (.string (sb (((enc (zz x.n)) ++ (enc (zz x.hi))) ++ (enc x.lo))))
  | 11 => .inl (.pointer (some ⟨B, 3, none⟩))
  | 12 => .inl (.int .i64 x.min)
  | 13 => .inl (.string (sb (enc (zz x.min))))
  | 14 => .inl (.string (sb ((((enc (zz x.n)) ++ (enc (zz x.hi))) ++ (enc x.lo)) ++ (enc (zz x.min)))))
  | 15 => .inl (.pointer (some ⟨B, 4, none⟩))
  | 16 => .inl (.int .i64 x.max)
  | 17 => .inl (.string (sb (enc (zz x.max))))
  | 18 => .inl (.string (sb (((((enc (zz x.n)) ++ (enc (zz x.hi))) ++ (enc x.lo)) ++ (enc (zz x.min))) ++ (enc (zz x.max)))))
  | 19 => .inl (.string (sb (((((enc (zz x.n)) ++ (enc (zz x.hi))) ++ (enc x.lo)) ++ (enc (zz x.min))) ++ (enc (zz x.max)))))
  | _ => .inl undef
structure Hacc (x : AccD) (B : Nat)  (W1 : World) (a0 : Act) : Prop where
  ok : x.ok
  p : a0.tmps[1]? = some (.pointer (some ⟨B, 0, none⟩))
  c0 : ∀ w, Since W1 w → w.cell? ⟨B, 0, none⟩ = some (.int .i64 x.n)
  c1 : ∀ w, Since W1 w → w.cell? ⟨B, 1, none⟩ = some (.int .i64 x.hi)
  c2 : ∀ w, Since W1 w → w.cell? ⟨B, 2, none⟩ = some (.int .u64 (x.lo : Nat))
  c3 : ∀ w, Since W1 w → w.cell? ⟨B, 3, none⟩ = some (.int .i64 x.min)
  c4 : ∀ w, Since W1 w → w.cell? ⟨B, 4, none⟩ = some (.int .i64 x.max)
  b_x_n : w64 x.n
  l_x_n : (enc (zz x.n)).length ≤ 100
  b_x_hi : w64 x.hi
  l_x_hi : (enc (zz x.hi)).length ≤ 100
  b_x_lo : x.lo < 18446744073709551616
  l_x_lo : (enc x.lo).length ≤ 100
  b_x_min : w64 x.min
  l_x_min : (enc (zz x.min)).length ≤ 100
  b_x_max : w64 x.max
  l_x_max : (enc (zz x.max)).length ≤ 100
section
variable {x : AccD} {B : Nat}  {W1 : World} {a0 : Act} {Q : Exit → Act → World → Prop}
theorem acc_0 {o : Oper} {a : Act} {w : World} (h : Hacc x B  W1 a0) (hi : accOps[0]? = some o) (hh : Here accOps (Said (accTab x B )) (Since W1) a0 0 o a w) :
    wpOp Tryz.prog accOps Q 0 (fun a' w' => ∃ v, a' = a.put o.dst v ∧ Said (accTab x B ) 0 v w' ∧ Since W1 w' ∧ Then w w') a w := by
  have hw := want_none (ops := accOps) (a := a) (i := 0) (by kernel_rfl) hi
  have e1 := (hh.of_base 1 (by kernel_rfl)).trans h.p
  exact st_val hi hw _ (run_fieldAddr (op_of (op := .fieldAddr 43 (.tmp 1) 0) (by kernel_rfl) hi) (eval_at e1) (by kernel_rfl)) rfl hh.gr (Below.refl _ _)
theorem acc_1 {o : Oper} {a : Act} {w : World} (h : Hacc x B  W1 a0) (hi : accOps[1]? = some o) (hh : Here accOps (Said (accTab x B )) (Since W1) a0 1 o a w) :
    wpOp Tryz.prog accOps Q 1 (fun a' w' => ∃ v, a' = a.put o.dst v ∧ Said (accTab x B ) 1 v w' ∧ Since W1 w' ∧ Then w w') a w := by
  have hw := want_none (ops := accOps) (a := a) (i := 1) (by kernel_rfl) hi
  obtain ⟨v1, e1, hp1⟩ := hh.of_dep hi 0 3 (by kernel_rfl)
  have hp1 : v1 = .pointer (some ⟨B, 0, none⟩) := hp1
  subst hp1
  have c0 := h.c0 w hh.gr
  exact st_val hi hw _ (run_loadOp (op_of (op := .load 2 (.tmp 3)) (by kernel_rfl) hi) (eval_at e1) (by go_simp)) rfl hh.gr (Below.refl _ _)
theorem acc_2 {o : Oper} {a : Act} {w : World} (h : Hacc x B  W1 a0) (hi : accOps[2]? = some o) (hh : Here accOps (Said (accTab x B )) (Since W1) a0 2 o a w) :
    wpOp Tryz.prog accOps Q 2 (fun a' w' => ∃ v, a' = a.put o.dst v ∧ Said (accTab x B ) 2 v w' ∧ Since W1 w' ∧ Then w w') a w := by
  have hw := want_none (ops := accOps) (a := a) (i := 2) (by kernel_rfl) hi
  obtain ⟨v1, e1, hp1⟩ := hh.of_dep hi 1 4 (by kernel_rfl)
  have hp1 : v1 = .int .i64 x.n := hp1
  subst hp1
  have hop := op_of (ops := accOps) (op := .call { callee := .value (.func 25), args := #[.tmp 4], argTypes := #[2] }) (by kernel_rfl) hi
  exact st_call hi hw 25 _ (by simp [execOp, hop, resolve, invoke, Act.eval, Deferred.ofValue, e1]) ((Int_any x.n h.b_x_n.1 h.b_x_n.2 w).mono fun e w' hs => ⟨_, hs.1, rfl, Below.trans hh.gr (hs.2.mono hh.gr.size), hs.2⟩)
theorem acc_3 {o : Oper} {a : Act} {w : World} (h : Hacc x B  W1 a0) (hi : accOps[3]? = some o) (hh : Here accOps (Said (accTab x B )) (Since W1) a0 3 o a w) :
    wpOp Tryz.prog accOps Q 3 (fun a' w' => ∃ v, a' = a.put o.dst v ∧ Said (accTab x B ) 3 v w' ∧ Since W1 w' ∧ Then w w') a w := by
  have hw := want_none (ops := accOps) (a := a) (i := 3) (by kernel_rfl) hi
  have e1 := (hh.of_base 1 (by kernel_rfl)).trans h.p
  exact st_val hi hw _ (run_fieldAddr (op_of (op := .fieldAddr 43 (.tmp 1) 1) (by kernel_rfl) hi) (eval_at e1) (by kernel_rfl)) rfl hh.gr (Below.refl _ _)
theorem acc_4 {o : Oper} {a : Act} {w : World} (h : Hacc x B  W1 a0) (hi : accOps[4]? = some o) (hh : Here accOps (Said (accTab x B )) (Since W1) a0 4 o a w) :
    wpOp Tryz.prog accOps Q 4 (fun a' w' => ∃ v, a' = a.put o.dst v ∧ Said (accTab x B ) 4 v w' ∧ Since W1 w' ∧ Then w w') a w := by
  have hw := want_none (ops := accOps) (a := a) (i := 4) (by kernel_rfl) hi
  obtain ⟨v1, e1, hp1⟩ := hh.of_dep hi 3 6 (by kernel_rfl)
  have hp1 : v1 = .pointer (some ⟨B, 1, none⟩) := hp1
  subst hp1
  have c1 := h.c1 w hh.gr
  exact st_val hi hw _ (run_loadOp (op_of (op := .load 2 (.tmp 6)) (by kernel_rfl) hi) (eval_at e1) (by go_simp)) rfl hh.gr (Below.refl _ _)
theorem acc_5 {o : Oper} {a : Act} {w : World} (h : Hacc x B  W1 a0) (hi : accOps[5]? = some o) (hh : Here accOps (Said (accTab x B )) (Since W1) a0 5 o a w) :
    wpOp Tryz.prog accOps Q 5 (fun a' w' => ∃ v, a' = a.put o.dst v ∧ Said (accTab x B ) 5 v w' ∧ Since W1 w' ∧ Then w w') a w := by
  have hw := want_none (ops := accOps) (a := a) (i := 5) (by kernel_rfl) hi
  obtain ⟨v1, e1, hp1⟩ := hh.of_dep hi 4 7 (by kernel_rfl)
  have hp1 : v1 = .int .i64 x.hi := hp1
  subst hp1
  have hop := op_of (ops := accOps) (op := .call { callee := .value (.func 25), args := #[.tmp 7], argTypes := #[2] }) (by kernel_rfl) hi
  exact st_call hi hw 25 _ (by simp [execOp, hop, resolve, invoke, Act.eval, Deferred.ofValue, e1]) ((Int_any x.hi h.b_x_hi.1 h.b_x_hi.2 w).mono fun e w' hs => ⟨_, hs.1, rfl, Below.trans hh.gr (hs.2.mono hh.gr.size), hs.2⟩)
theorem acc_6 {o : Oper} {a : Act} {w : World} (h : Hacc x B  W1 a0) (hi : accOps[6]? = some o) (hh : Here accOps (Said (accTab x B )) (Since W1) a0 6 o a w) :
    wpOp Tryz.prog accOps Q 6 (fun a' w' => ∃ v, a' = a.put o.dst v ∧ Said (accTab x B ) 6 v w' ∧ Since W1 w' ∧ Then w w') a w := by
  have hw := want_none (ops := accOps) (a := a) (i := 6) (by kernel_rfl) hi
  obtain ⟨v1, e1, hp1⟩ := hh.of_dep hi 2 5 (by kernel_rfl)
  have hp1 : v1 = .string (sb (enc (zz x.n))) := hp1
  subst hp1
  obtain ⟨v2, e2, hp2⟩ := hh.of_dep hi 5 8 (by kernel_rfl)
  have hp2 : v2 = .string (sb (enc (zz x.hi))) := hp2
  subst hp2
  refine st_val hi hw _ (run_bin (op_of (op := .binOp .add 9 (.tmp 5) (.tmp 8) 9) (by kernel_rfl) hi) (eval_at e1) (eval_at e2) (eqGuard_other (by simp) (by simp) w) (add_sb _ _ ?_ w)) rfl hh.gr (Below.refl _ _)
  try simp only [List.length_append, List.length_cons, List.length_nil]
  have := h.l_x_n; have := h.l_x_hi; have := h.l_x_lo; have := h.l_x_min; have := h.l_x_max; omega
theorem acc_7 {o : Oper} {a : Act} {w : World} (h : Hacc x B  W1 a0) (hi : accOps[7]? = some o) (hh : Here accOps (Said (accTab x B )) (Since W1) a0 7 o a w) :
    wpOp Tryz.prog accOps Q 7 (fun a' w' => ∃ v, a' = a.put o.dst v ∧ Said (accTab x B ) 7 v w' ∧ Since W1 w' ∧ Then w w') a w := by
  have hw := want_none (ops := accOps) (a := a) (i := 7) (by kernel_rfl) hi
  have e1 := (hh.of_base 1 (by kernel_rfl)).trans h.p
  exact st_val hi hw _ (run_fieldAddr (op_of (op := .fieldAddr 43 (.tmp 1) 2) (by kernel_rfl) hi) (eval_at e1) (by kernel_rfl)) rfl hh.gr (Below.refl _ _)
theorem acc_8 {o : Oper} {a : Act} {w : World} (h : Hacc x B  W1 a0) (hi : accOps[8]? = some o) (hh : Here accOps (Said (accTab x B )) (Since W1) a0 8 o a w) :
    wpOp Tryz.prog accOps Q 8 (fun a' w' => ∃ v, a' = a.put o.dst v ∧ Said (accTab x B ) 8 v w' ∧ Since W1 w' ∧ Then w w') a w := by
  have hw := want_none (ops := accOps) (a := a) (i := 8) (by kernel_rfl) hi
  obtain ⟨v1, e1, hp1⟩ := hh.of_dep hi 7 10 (by kernel_rfl)
  have hp1 : v1 = .pointer (some ⟨B, 2, none⟩) := hp1
  subst hp1
  have c2 := h.c2 w hh.gr
  exact st_val hi hw _ (run_loadOp (op_of (op := .load 41 (.tmp 10)) (by kernel_rfl) hi) (eval_at e1) (by go_simp)) rfl hh.gr (Below.refl _ _)
theorem acc_9 {o : Oper} {a : Act} {w : World} (h : Hacc x B  W1 a0) (hi : accOps[9]? = some o) (hh : Here accOps (Said (accTab x B )) (Since W1) a0 9 o a w) :
    wpOp Tryz.prog accOps Q 9 (fun a' w' => ∃ v, a' = a.put o.dst v ∧ Said (accTab x B ) 9 v w' ∧ Since W1 w' ∧ Then w w') a w := by
  have hw := want_none (ops := accOps) (a := a) (i := 9) (by kernel_rfl) hi
  obtain ⟨v1, e1, hp1⟩ := hh.of_dep hi 8 11 (by kernel_rfl)
  have hp1 : v1 = .int .u64 (x.lo : Nat) := hp1
  subst hp1
  have hop := op_of (ops := accOps) (op := .call { callee := .value (.func 31), args := #[.tmp 11], argTypes := #[41] }) (by kernel_rfl) hi
  exact st_call hi hw 31 _ (by simp [execOp, hop, resolve, invoke, Act.eval, Deferred.ofValue, e1]) ((Num_any x.lo (by have := h.b_x_lo; omega) w).mono fun e w' hs => ⟨_, hs.1, rfl, Below.trans hh.gr (hs.2.mono hh.gr.size), hs.2⟩)
theorem acc_10 {o : Oper} {a : Act} {w : World} (h : Hacc x B  W1 a0) (hi : accOps[10]? = some o) (hh : Here accOps (Said (accTab x B )) (Since W1) a0 10 o a w) :
    wpOp Tryz.prog accOps Q 10 (fun a' w' => ∃ v, a' = a.put o.dst v ∧ Said (accTab x B ) 10 v w' ∧ Since W1 w' ∧ Then w w') a w := by
  have hw := want_none (ops := accOps) (a := a) (i := 10) (by kernel_rfl) hi
  obtain ⟨v1, e1, hp1⟩ := hh.of_dep hi 6 9 (by kernel_rfl)
  have hp1 : v1 = .string (sb ((enc (zz x.n)) ++ (enc (zz x.hi)))) := hp1
  subst hp1
  obtain ⟨v2, e2, hp2⟩ := hh.of_dep hi 9 12 (by kernel_rfl)
  have hp2 : v2 = .string (sb (enc x.lo)) := hp2
  subst hp2
  refine st_val hi hw _ (run_bin (op_of (op := .binOp .add 9 (.tmp 9) (.tmp 12) 9) (by kernel_rfl) hi) (eval_at e1) (eval_at e2) (eqGuard_other (by simp) (by simp) w) (add_sb _ _ ?_ w)) rfl hh.gr (Below.refl _ _)
  try simp only [List.length_append, List.length_cons, List.length_nil]
  have := h.l_x_n; have := h.l_x_hi; have := h.l_x_lo; have := h.l_x_min; have := h.l_x_max; omega
theorem acc_11 {o : Oper} {a : Act} {w : World} (h : Hacc x B  W1 a0) (hi : accOps[11]? = some o) (hh : Here accOps (Said (accTab x B )) (Since W1) a0 11 o a w) :
    wpOp Tryz.prog accOps Q 11 (fun a' w' => ∃ v, a' = a.put o.dst v ∧ Said (accTab x B ) 11 v w' ∧ Since W1 w' ∧ Then w w') a w := by
  have hw := want_none (ops := accOps) (a := a) (i := 11) (by kernel_rfl) hi
  have e1 := (hh.of_base 1 (by kernel_rfl)).trans h.p
  exact st_val hi hw _ (run_fieldAddr (op_of (op := .fieldAddr 43 (.tmp 1) 3) (by kernel_rfl) hi) (eval_at e1) (by kernel_rfl)) rfl hh.gr (Below.refl _ _)
theorem acc_12 {o : Oper} {a : Act} {w : World} (h : Hacc x B  W1 a0) (hi : accOps[12]? = some o) (hh : Here accOps (Said (accTab x B )) (Since W1) a0 12 o a w) :
    wpOp Tryz.prog accOps Q 12 (fun a' w' => ∃ v, a' = a.put o.dst v ∧ Said (accTab x B ) 12 v w' ∧ Since W1 w' ∧ Then w w') a w := by
  have hw := want_none (ops := accOps) (a := a) (i := 12) (by kernel_rfl) hi
  obtain ⟨v1, e1, hp1⟩ := hh.of_dep hi 11 14 (by kernel_rfl)
  have hp1 : v1 = .pointer (some ⟨B, 3, none⟩) := hp1
  subst hp1
  have c3 := h.c3 w hh.gr
  exact st_val hi hw _ (run_loadOp (op_of (op := .load 2 (.tmp 14)) (by kernel_rfl) hi) (eval_at e1) (by go_simp)) rfl hh.gr (Below.refl _ _)
theorem acc_13 {o : Oper} {a : Act} {w : World} (h : Hacc x B  W1 a0) (hi : accOps[13]? = some o) (hh : Here accOps (Said (accTab x B )) (Since W1) a0 13 o a w) :
    wpOp Tryz.prog accOps Q 13 (fun a' w' => ∃ v, a' = a.put o.dst v ∧ Said (accTab x B ) 13 v w' ∧ Since W1 w' ∧ Then w w') a w := by
  have hw := want_none (ops := accOps) (a := a) (i := 13) (by kernel_rfl) hi
  obtain ⟨v1, e1, hp1⟩ := hh.of_dep hi 12 15 (by kernel_rfl)
  have hp1 : v1 = .int .i64 x.min := hp1
  subst hp1
  have hop := op_of (ops := accOps) (op := .call { callee := .value (.func 25), args := #[.tmp 15], argTypes := #[2] }) (by kernel_rfl) hi
  exact st_call hi hw 25 _ (by simp [execOp, hop, resolve, invoke, Act.eval, Deferred.ofValue, e1]) ((Int_any x.min h.b_x_min.1 h.b_x_min.2 w).mono fun e w' hs => ⟨_, hs.1, rfl, Below.trans hh.gr (hs.2.mono hh.gr.size), hs.2⟩)
theorem acc_14 {o : Oper} {a : Act} {w : World} (h : Hacc x B  W1 a0) (hi : accOps[14]? = some o) (hh : Here accOps (Said (accTab x B )) (Since W1) a0 14 o a w) :
    wpOp Tryz.prog accOps Q 14 (fun a' w' => ∃ v, a' = a.put o.dst v ∧ Said (accTab x B ) 14 v w' ∧ Since W1 w' ∧ Then w w') a w := by
  have hw := want_none (ops := accOps) (a := a) (i := 14) (by kernel_rfl) hi
  obtain ⟨v1, e1, hp1⟩ := hh.of_dep hi 10 13 (by kernel_rfl)
  have hp1 : v1 = .string (sb (((enc (zz x.n)) ++ (enc (zz x.hi))) ++ (enc x.lo))) := hp1
  subst hp1
  obtain ⟨v2, e2, hp2⟩ := hh.of_dep hi 13 16 (by kernel_rfl)
  have hp2 : v2 = .string (sb (enc (zz x.min))) := hp2
  subst hp2
  refine st_val hi hw _ (run_bin (op_of (op := .binOp .add 9 (.tmp 13) (.tmp 16) 9) (by kernel_rfl) hi) (eval_at e1) (eval_at e2) (eqGuard_other (by simp) (by simp) w) (add_sb _ _ ?_ w)) rfl hh.gr (Below.refl _ _)
  try simp only [List.length_append, List.length_cons, List.length_nil]
  have := h.l_x_n; have := h.l_x_hi; have := h.l_x_lo; have := h.l_x_min; have := h.l_x_max; omega
theorem acc_15 {o : Oper} {a : Act} {w : World} (h : Hacc x B  W1 a0) (hi : accOps[15]? = some o) (hh : Here accOps (Said (accTab x B )) (Since W1) a0 15 o a w) :
    wpOp Tryz.prog accOps Q 15 (fun a' w' => ∃ v, a' = a.put o.dst v ∧ Said (accTab x B ) 15 v w' ∧ Since W1 w' ∧ Then w w') a w := by
  have hw := want_none (ops := accOps) (a := a) (i := 15) (by kernel_rfl) hi
  have e1 := (hh.of_base 1 (by kernel_rfl)).trans h.p
  exact st_val hi hw _ (run_fieldAddr (op_of (op := .fieldAddr 43 (.tmp 1) 4) (by kernel_rfl) hi) (eval_at e1) (by kernel_rfl)) rfl hh.gr (Below.refl _ _)
theorem acc_16 {o : Oper} {a : Act} {w : World} (h : Hacc x B  W1 a0) (hi : accOps[16]? = some o) (hh : Here accOps (Said (accTab x B )) (Since W1) a0 16 o a w) :
    wpOp Tryz.prog accOps Q 16 (fun a' w' => ∃ v, a' = a.put o.dst v ∧ Said (accTab x B ) 16 v w' ∧ Since W1 w' ∧ Then w w') a w := by
  have hw := want_none (ops := accOps) (a := a) (i := 16) (by kernel_rfl) hi
  obtain ⟨v1, e1, hp1⟩ := hh.of_dep hi 15 18 (by kernel_rfl)
  have hp1 : v1 = .pointer (some ⟨B, 4, none⟩) := hp1
  subst hp1
  have c4 := h.c4 w hh.gr
  exact st_val hi hw _ (run_loadOp (op_of (op := .load 2 (.tmp 18)) (by kernel_rfl) hi) (eval_at e1) (by go_simp)) rfl hh.gr (Below.refl _ _)
theorem acc_17 {o : Oper} {a : Act} {w : World} (h : Hacc x B  W1 a0) (hi : accOps[17]? = some o) (hh : Here accOps (Said (accTab x B )) (Since W1) a0 17 o a w) :
    wpOp Tryz.prog accOps Q 17 (fun a' w' => ∃ v, a' = a.put o.dst v ∧ Said (accTab x B ) 17 v w' ∧ Since W1 w' ∧ Then w w') a w := by
  have hw := want_none (ops := accOps) (a := a) (i := 17) (by kernel_rfl) hi
  obtain ⟨v1, e1, hp1⟩ := hh.of_dep hi 16 19 (by kernel_rfl)
  have hp1 : v1 = .int .i64 x.max := hp1
  subst hp1
  have hop := op_of (ops := accOps) (op := .call { callee := .value (.func 25), args := #[.tmp 19], argTypes := #[2] }) (by kernel_rfl) hi
  exact st_call hi hw 25 _ (by simp [execOp, hop, resolve, invoke, Act.eval, Deferred.ofValue, e1]) ((Int_any x.max h.b_x_max.1 h.b_x_max.2 w).mono fun e w' hs => ⟨_, hs.1, rfl, Below.trans hh.gr (hs.2.mono hh.gr.size), hs.2⟩)
theorem acc_18 {o : Oper} {a : Act} {w : World} (h : Hacc x B  W1 a0) (hi : accOps[18]? = some o) (hh : Here accOps (Said (accTab x B )) (Since W1) a0 18 o a w) :
    wpOp Tryz.prog accOps Q 18 (fun a' w' => ∃ v, a' = a.put o.dst v ∧ Said (accTab x B ) 18 v w' ∧ Since W1 w' ∧ Then w w') a w := by
  have hw := want_none (ops := accOps) (a := a) (i := 18) (by kernel_rfl) hi
  obtain ⟨v1, e1, hp1⟩ := hh.of_dep hi 14 17 (by kernel_rfl)
  have hp1 : v1 = .string (sb ((((enc (zz x.n)) ++ (enc (zz x.hi))) ++ (enc x.lo)) ++ (enc (zz x.min)))) := hp1
  subst hp1
  obtain ⟨v2, e2, hp2⟩ := hh.of_dep hi 17 20 (by kernel_rfl)
  have hp2 : v2 = .string (sb (enc (zz x.max))) := hp2
  subst hp2
  refine st_val hi hw _ (run_bin (op_of (op := .binOp .add 9 (.tmp 17) (.tmp 20) 9) (by kernel_rfl) hi) (eval_at e1) (eval_at e2) (eqGuard_other (by simp) (by simp) w) (add_sb _ _ ?_ w)) rfl hh.gr (Below.refl _ _)
  try simp only [List.length_append, List.length_cons, List.length_nil]
  have := h.l_x_n; have := h.l_x_hi; have := h.l_x_lo; have := h.l_x_min; have := h.l_x_max; omega
theorem acc_19 {o : Oper} {a : Act} {w : World} (h : Hacc x B  W1 a0) (hi : accOps[19]? = some o) (hh : Here accOps (Said (accTab x B )) (Since W1) a0 19 o a w) :
    wpOp Tryz.prog accOps Q 19 (fun a' w' => ∃ v, a' = a.put o.dst v ∧ Said (accTab x B ) 19 v w' ∧ Since W1 w' ∧ Then w w') a w := by
  have hw := want_none (ops := accOps) (a := a) (i := 19) (by kernel_rfl) hi
  obtain ⟨v1, e1, hp1⟩ := hh.of_dep hi 18 21 (by kernel_rfl)
  have hp1 : v1 = .string (sb (((((enc (zz x.n)) ++ (enc (zz x.hi))) ++ (enc x.lo)) ++ (enc (zz x.min))) ++ (enc (zz x.max)))) := hp1
  subst hp1
  exact st_val hi hw _ (run_assign (op_of (op := .assign (.tmp 21)) (by kernel_rfl) hi) (eval_at e1)) rfl hh.gr (Below.refl _ _)
theorem acc_mono (i : Nat) (v : Value) (w w' : World) (h : Said (accTab x B ) i v w) (hx : Then w w') : Said (accTab x B ) i v w' := by
  unfold Said at *
  split at h
  · exact h
  · rename_i f hf
    unfold accTab at hf
    split at hf <;> first | (cases hf; done) | (cases hf; exact Made1.grown h hx)
theorem acc_steps (h : Hacc x B  W1 a0) : ∀ (i : Nat) (o : Oper) (a : Act) (w : World), accOps[i]? = some o → Here accOps (Said (accTab x B )) (Since W1) a0 i o a w →
    wpOp Tryz.prog accOps Q i (fun a' w' => ∃ v, a' = a.put o.dst v ∧ Said (accTab x B ) i v w' ∧ Since W1 w' ∧ Then w w') a w := by
  intro i o a w hi hh
  match i, hi, hh with
  | 0, hi, hh => exact acc_0 h hi hh
  | 1, hi, hh => exact acc_1 h hi hh
  | 2, hi, hh => exact acc_2 h hi hh
  | 3, hi, hh => exact acc_3 h hi hh
  | 4, hi, hh => exact acc_4 h hi hh
  | 5, hi, hh => exact acc_5 h hi hh
  | 6, hi, hh => exact acc_6 h hi hh
  | 7, hi, hh => exact acc_7 h hi hh
  | 8, hi, hh => exact acc_8 h hi hh
  | 9, hi, hh => exact acc_9 h hi hh
  | 10, hi, hh => exact acc_10 h hi hh
  | 11, hi, hh => exact acc_11 h hi hh
  | 12, hi, hh => exact acc_12 h hi hh
  | 13, hi, hh => exact acc_13 h hi hh
  | 14, hi, hh => exact acc_14 h hi hh
  | 15, hi, hh => exact acc_15 h hi hh
  | 16, hi, hh => exact acc_16 h hi hh
  | 17, hi, hh => exact acc_17 h hi hh
  | 18, hi, hh => exact acc_18 h hi hh
  | 19, hi, hh => exact acc_19 h hi hh
  | n + 20, hi, _ =>
    exfalso
    have h1 := (Array.getElem?_eq_some_iff.1 hi).1
    have h2 : accOps.size = 20 := by kernel_rfl
    omega
end
set_option maxRecDepth 100000 in
set_option maxHeartbeats 3200000 in
theorem ref_acc (x : AccD) (W : World) (ok : x.ok) : Calls Tryz.prog 18 #[.agg #[.int .i64 x.n, .int .i64 x.hi, .int .u64 (x.lo : Nat), .int .i64 x.min, .int .i64 x.max]] W (SB (sb x.by_) W) := by
  have HO := Lib.hid ok
  clear ok
  go_enter Tryz.func18, Tryz.ntmps18
  go_wp2_with fail
  rename_i K hK
  obtain ⟨W1, hW1⟩ : ∃ W1, W1 = W.alloc (.cells #[.int .i64 x.n, .int .i64 x.hi, .int .u64 (x.lo : Nat), .int .i64 x.min, .int .i64 x.max] 43) := ⟨_, rfl⟩
  have HB1 : Below W.heap.size W W1 := by rw [hW1]; exact (Below.refl _ _).alloc (Nat.le_refl _) _
  have HX : W1.heap[W.heap.size]? = some (.cells #[.int .i64 x.n, .int .i64 x.hi, .int .u64 (x.lo : Nat), .int .i64 x.min, .int .i64 x.max] 43 (0, 0)) := by rw [hW1]; exact heap_alloc_new W _
  rw [← hW1]
  clear hW1
  have ok := HO.out
  have HC : ∀ i w, Since W1 w → w.cell? ⟨W.heap.size, i, none⟩ = (#[.int .i64 x.n, .int .i64 x.hi, .int .u64 (x.lo : Nat), .int .i64 x.min, .int .i64 x.max] : Array Value)[i]? := fun i w hg => by
    have := (hg.block W.heap.size (Array.getElem?_eq_some_iff.1 HX).1).trans HX
    simp [World.cell?, this]
  refine tab_region (tab := accTab x W.heap.size) (opsT := accOps) (n := 22) (last := 19) (d := 2) (W := W1) (by kernel_rfl) (by kernel_rfl) (by kernel_rfl) (by kernel_rfl) rfl (Below.refl _ _) acc_mono (acc_steps ⟨ok, rfl, HC 0, HC 1, HC 2, HC 3, HC 4, ok.n, (Nat.le_trans (enc_len (zz_lt ok.n.1 ok.n.2)).2 (by decide)), ok.hi, (Nat.le_trans (enc_len (zz_lt ok.hi.1 ok.hi.2)).2 (by decide)), (by have := ok.lo; omega), (Nat.le_trans (enc_len (by have := ok.lo; omega)).2 (by decide)), ok.min, (Nat.le_trans (enc_len (zz_lt ok.min.1 ok.min.2)).2 (by decide)), ok.max, (Nat.le_trans (enc_len (zz_lt ok.max.1 ok.max.2)).2 (by decide))⟩) (by kernel_rfl) rfl ?_
  intro a w' e1 e2 e3 _ hb
  refine hK _ _ (wp_ret (bodyPost_ret (results_tmp rfl _ _ _) e1 ⟨?_, HB1.trans (hb.mono HB1.size)⟩))
  have hby : x.by_ = ((((enc (zz x.n)) ++ (enc (zz x.hi))) ++ (enc x.lo)) ++ (enc (zz x.min))) ++ (enc (zz x.max)) := by unfold AccD.by_; simp only [List.append_assoc]
  simp [e3, hby]

noncomputable def itemOps : Array Oper := regAt Tryz.f8 1
noncomputable def itemTab (x : ItemD) (B : Nat)  (i : Nat) : Value ⊕ (Value → World → Prop) := match i with
  | 0 => .inl (.pointer (some ⟨B, 0, none⟩))
  | 1 => .inl (.bool x.isMark)
  | 2 => .inl (.string (sb (enc (tr x.isMark))))
  | 3 => .inl (.pointer (some ⟨B, 1, none⟩))
  | 4 => .inl (.int .i64 x.time)
  | 5 => .inl (.string (sb (enc (zz x.time))))
  | 6 => .inl (.string (sb ((enc (tr x.isMark)) ++ (enc (zz x.time)))))
  | 7 => .inl (.pointer (some ⟨B, 2, none⟩))
  | 8 => .inl (.agg #[.int .u32 (x.rc.key : Nat), .int .i64 x.rc.time, .int .i64 x.rc.val, .int .u8 (x.rc.side : Nat), .bool x.rc.err, .bool x.rc.late])
  | 9 => .inl (.string (sb (x.rc.by_)))
  | 10 => .inl (.string (sb (((enc (tr x.isMark)) ++ (enc (zz x.time))) ++ (x.rc.by_))))
  | 11 => .inl (.string (sb (((enc (tr x.isMark)) ++ (enc (zz x.time))) ++ (x.rc.by_))))
  | _ => .inl undef
structure Hitem (x : ItemD) (B : Nat)  (W1 : World) (a0 : Act) : Prop where
  ok : x.ok
  p : a0.tmps[1]? = some (.pointer (some ⟨B, 0, none⟩))
  c0 : ∀ w, Since W1 w → w.cell? ⟨B, 0, none⟩ = some (.bool x.isMark)
  c1 : ∀ w, Since W1 w → w.cell? ⟨B, 1, none⟩ = some (.int .i64 x.time)
  c2 : ∀ w, Since W1 w → w.cell? ⟨B, 2, none⟩ = some (.int .u32 (x.rc.key : Nat))
  c3 : ∀ w, Since W1 w → w.cell? ⟨B, 3, none⟩ = some (.int .i64 x.rc.time)
  c4 : ∀ w, Since W1 w → w.cell? ⟨B, 4, none⟩ = some (.int .i64 x.rc.val)
  c5 : ∀ w, Since W1 w → w.cell? ⟨B, 5, none⟩ = some (.int .u8 (x.rc.side : Nat))
  c6 : ∀ w, Since W1 w → w.cell? ⟨B, 6, none⟩ = some (.bool x.rc.err)
  c7 : ∀ w, Since W1 w → w.cell? ⟨B, 7, none⟩ = some (.bool x.rc.late)
  l_x_isMark : (enc (tr x.isMark)).length ≤ 100
  b_x_time : w64 x.time
  l_x_time : (enc (zz x.time)).length ≤ 100
  b_x_rc : x.rc.ok
  l_x_rc : x.rc.by_.length ≤ 100
section
variable {x : ItemD} {B : Nat}  {W1 : World} {a0 : Act} {Q : Exit → Act → World → Prop}
theorem item_0 {o : Oper} {a : Act} {w : World} (h : Hitem x B  W1 a0) (hi : itemOps[0]? = some o) (hh : Here itemOps (Said (itemTab x B )) (Since W1) a0 0 o a w) :
    wpOp Tryz.prog itemOps Q 0 (fun a' w' => ∃ v, a' = a.put o.dst v ∧ Said (itemTab x B ) 0 v w' ∧ Since W1 w' ∧ Then w w') a w := by
  have hw := want_none (ops := itemOps) (a := a) (i := 0) (by kernel_rfl) hi
  have e1 := (hh.of_base 1 (by kernel_rfl)).trans h.p
  exact st_val hi hw _ (run_fieldAddr (op_of (op := .fieldAddr 37 (.tmp 1) 0) (by kernel_rfl) hi) (eval_at e1) (by kernel_rfl)) rfl hh.gr (Below.refl _ _)
theorem item_1 {o : Oper} {a : Act} {w : World} (h : Hitem x B  W1 a0) (hi : itemOps[1]? = some o) (hh : Here itemOps (Said (itemTab x B )) (Since W1) a0 1 o a w) :
    wpOp Tryz.prog itemOps Q 1 (fun a' w' => ∃ v, a' = a.put o.dst v ∧ Said (itemTab x B ) 1 v w' ∧ Since W1 w' ∧ Then w w') a w := by
  have hw := want_none (ops := itemOps) (a := a) (i := 1) (by kernel_rfl) hi
  obtain ⟨v1, e1, hp1⟩ := hh.of_dep hi 0 3 (by kernel_rfl)
  have hp1 : v1 = .pointer (some ⟨B, 0, none⟩) := hp1
  subst hp1
  have c0 := h.c0 w hh.gr
  exact st_val hi hw _ (run_loadOp (op_of (op := .load 4 (.tmp 3)) (by kernel_rfl) hi) (eval_at e1) (by go_simp)) rfl hh.gr (Below.refl _ _)
theorem item_2 {o : Oper} {a : Act} {w : World} (h : Hitem x B  W1 a0) (hi : itemOps[2]? = some o) (hh : Here itemOps (Said (itemTab x B )) (Since W1) a0 2 o a w) :
    wpOp Tryz.prog itemOps Q 2 (fun a' w' => ∃ v, a' = a.put o.dst v ∧ Said (itemTab x B ) 2 v w' ∧ Since W1 w' ∧ Then w w') a w := by
  have hw := want_none (ops := itemOps) (a := a) (i := 2) (by kernel_rfl) hi
  obtain ⟨v1, e1, hp1⟩ := hh.of_dep hi 1 4 (by kernel_rfl)
  have hp1 : v1 = .bool x.isMark := hp1
  subst hp1
  have hop := op_of (ops := itemOps) (op := .call { callee := .value (.func 28), args := #[.tmp 4], argTypes := #[4] }) (by kernel_rfl) hi
  exact st_call hi hw 28 _ (by simp [execOp, hop, resolve, invoke, Act.eval, Deferred.ofValue, e1]) ((tr_any x.isMark w).mono fun e w' hs => ⟨_, hs.1, rfl, Below.trans hh.gr (hs.2.mono hh.gr.size), hs.2⟩)
theorem item_3 {o : Oper} {a : Act} {w : World} (h : Hitem x B  W1 a0) (hi : itemOps[3]? = some o) (hh : Here itemOps (Said (itemTab x B )) (Since W1) a0 3 o a w) :
    wpOp Tryz.prog itemOps Q 3 (fun a' w' => ∃ v, a' = a.put o.dst v ∧ Said (itemTab x B ) 3 v w' ∧ Since W1 w' ∧ Then w w') a w := by
  have hw := want_none (ops := itemOps) (a := a) (i := 3) (by kernel_rfl) hi
  have e1 := (hh.of_base 1 (by kernel_rfl)).trans h.p
  exact st_val hi hw _ (run_fieldAddr (op_of (op := .fieldAddr 37 (.tmp 1) 1) (by kernel_rfl) hi) (eval_at e1) (by kernel_rfl)) rfl hh.gr (Below.refl _ _)
theorem item_4 {o : Oper} {a : Act} {w : World} (h : Hitem x B  W1 a0) (hi : itemOps[4]? = some o) (hh : Here itemOps (Said (itemTab x B )) (Since W1) a0 4 o a w) :
    wpOp Tryz.prog itemOps Q 4 (fun a' w' => ∃ v, a' = a.put o.dst v ∧ Said (itemTab x B ) 4 v w' ∧ Since W1 w' ∧ Then w w') a w := by
  have hw := want_none (ops := itemOps) (a := a) (i := 4) (by kernel_rfl) hi
  obtain ⟨v1, e1, hp1⟩ := hh.of_dep hi 3 6 (by kernel_rfl)
  have hp1 : v1 = .pointer (some ⟨B, 1, none⟩) := hp1
  subst hp1
  have c1 := h.c1 w hh.gr
  exact st_val hi hw _ (run_loadOp (op_of (op := .load 2 (.tmp 6)) (by kernel_rfl) hi) (eval_at e1) (by go_simp)) rfl hh.gr (Below.refl _ _)
theorem item_5 {o : Oper} {a : Act} {w : World} (h : Hitem x B  W1 a0) (hi : itemOps[5]? = some o) (hh : Here itemOps (Said (itemTab x B )) (Since W1) a0 5 o a w) :
    wpOp Tryz.prog itemOps Q 5 (fun a' w' => ∃ v, a' = a.put o.dst v ∧ Said (itemTab x B ) 5 v w' ∧ Since W1 w' ∧ Then w w') a w := by
  have hw := want_none (ops := itemOps) (a := a) (i := 5) (by kernel_rfl) hi
  obtain ⟨v1, e1, hp1⟩ := hh.of_dep hi 4 7 (by kernel_rfl)
  have hp1 : v1 = .int .i64 x.time := hp1
  subst hp1
  have hop := op_of (ops := itemOps) (op := .call { callee := .value (.func 25), args := #[.tmp 7], argTypes := #[2] }) (by kernel_rfl) hi
  exact st_call hi hw 25 _ (by simp [execOp, hop, resolve, invoke, Act.eval, Deferred.ofValue, e1]) ((Int_any x.time h.b_x_time.1 h.b_x_time.2 w).mono fun e w' hs => ⟨_, hs.1, rfl, Below.trans hh.gr (hs.2.mono hh.gr.size), hs.2⟩)
theorem item_6 {o : Oper} {a : Act} {w : World} (h : Hitem x B  W1 a0) (hi : itemOps[6]? = some o) (hh : Here itemOps (Said (itemTab x B )) (Since W1) a0 6 o a w) :
    wpOp Tryz.prog itemOps Q 6 (fun a' w' => ∃ v, a' = a.put o.dst v ∧ Said (itemTab x B ) 6 v w' ∧ Since W1 w' ∧ Then w w') a w := by
  have hw := want_none (ops := itemOps) (a := a) (i := 6) (by kernel_rfl) hi
  obtain ⟨v1, e1, hp1⟩ := hh.of_dep hi 2 5 (by kernel_rfl)
  have hp1 : v1 = .string (sb (enc (tr x.isMark))) := hp1
  subst hp1
  obtain ⟨v2, e2, hp2⟩ := hh.of_dep hi 5 8 (by kernel_rfl)
  have hp2 : v2 = .string (sb (enc (zz x.time))) := hp2
  subst hp2
  refine st_val hi hw _ (run_bin (op_of (op := .binOp .add 9 (.tmp 5) (.tmp 8) 9) (by kernel_rfl) hi) (eval_at e1) (eval_at e2) (eqGuard_other (by simp) (by simp) w) (add_sb _ _ ?_ w)) rfl hh.gr (Below.refl _ _)
  try simp only [List.length_append, List.length_cons, List.length_nil]
  have := h.l_x_isMark; have := h.l_x_time; have := h.l_x_rc; omega
theorem item_7 {o : Oper} {a : Act} {w : World} (h : Hitem x B  W1 a0) (hi : itemOps[7]? = some o) (hh : Here itemOps (Said (itemTab x B )) (Since W1) a0 7 o a w) :
    wpOp Tryz.prog itemOps Q 7 (fun a' w' => ∃ v, a' = a.put o.dst v ∧ Said (itemTab x B ) 7 v w' ∧ Since W1 w' ∧ Then w w') a w := by
  have hw := want_none (ops := itemOps) (a := a) (i := 7) (by kernel_rfl) hi
  have e1 := (hh.of_base 1 (by kernel_rfl)).trans h.p
  exact st_val hi hw _ (run_fieldAddr (op_of (op := .fieldAddr 37 (.tmp 1) 2) (by kernel_rfl) hi) (eval_at e1) (by kernel_rfl)) rfl hh.gr (Below.refl _ _)
theorem item_8 {o : Oper} {a : Act} {w : World} (h : Hitem x B  W1 a0) (hi : itemOps[8]? = some o) (hh : Here itemOps (Said (itemTab x B )) (Since W1) a0 8 o a w) :
    wpOp Tryz.prog itemOps Q 8 (fun a' w' => ∃ v, a' = a.put o.dst v ∧ Said (itemTab x B ) 8 v w' ∧ Since W1 w' ∧ Then w w') a w := by
  have hw := want_none (ops := itemOps) (a := a) (i := 8) (by kernel_rfl) hi
  obtain ⟨v1, e1, hp1⟩ := hh.of_dep hi 7 10 (by kernel_rfl)
  have hp1 : v1 = .pointer (some ⟨B, 2, none⟩) := hp1
  subst hp1
  have c2 := h.c2 w hh.gr
  have c3 := h.c3 w hh.gr
  have c4 := h.c4 w hh.gr
  have c5 := h.c5 w hh.gr
  have c6 := h.c6 w hh.gr
  have c7 := h.c7 w hh.gr
  exact st_val hi hw _ (run_loadOp (op_of (op := .load 25 (.tmp 10)) (by kernel_rfl) hi) (eval_at e1) (by go_simp)) rfl hh.gr (Below.refl _ _)
theorem item_9 {o : Oper} {a : Act} {w : World} (h : Hitem x B  W1 a0) (hi : itemOps[9]? = some o) (hh : Here itemOps (Said (itemTab x B )) (Since W1) a0 9 o a w) :
    wpOp Tryz.prog itemOps Q 9 (fun a' w' => ∃ v, a' = a.put o.dst v ∧ Said (itemTab x B ) 9 v w' ∧ Since W1 w' ∧ Then w w') a w := by
  have hw := want_none (ops := itemOps) (a := a) (i := 9) (by kernel_rfl) hi
  obtain ⟨v1, e1, hp1⟩ := hh.of_dep hi 8 11 (by kernel_rfl)
  have hp1 : v1 = .agg #[.int .u32 (x.rc.key : Nat), .int .i64 x.rc.time, .int .i64 x.rc.val, .int .u8 (x.rc.side : Nat), .bool x.rc.err, .bool x.rc.late] := hp1
  subst hp1
  have hop := op_of (ops := itemOps) (op := .call { callee := .value (.func 10), args := #[.tmp 11], argTypes := #[25] }) (by kernel_rfl) hi
  exact st_call hi hw 10 _ (by simp [execOp, hop, resolve, invoke, Act.eval, Deferred.ofValue, e1]) ((ref_rec x.rc w h.b_x_rc).mono fun e w' hs => ⟨_, hs.1, rfl, Below.trans hh.gr (hs.2.mono hh.gr.size), hs.2⟩)
theorem item_10 {o : Oper} {a : Act} {w : World} (h : Hitem x B  W1 a0) (hi : itemOps[10]? = some o) (hh : Here itemOps (Said (itemTab x B )) (Since W1) a0 10 o a w) :
    wpOp Tryz.prog itemOps Q 10 (fun a' w' => ∃ v, a' = a.put o.dst v ∧ Said (itemTab x B ) 10 v w' ∧ Since W1 w' ∧ Then w w') a w := by
  have hw := want_none (ops := itemOps) (a := a) (i := 10) (by kernel_rfl) hi
  obtain ⟨v1, e1, hp1⟩ := hh.of_dep hi 6 9 (by kernel_rfl)
  have hp1 : v1 = .string (sb ((enc (tr x.isMark)) ++ (enc (zz x.time)))) := hp1
  subst hp1
  obtain ⟨v2, e2, hp2⟩ := hh.of_dep hi 9 12 (by kernel_rfl)
  have hp2 : v2 = .string (sb (x.rc.by_)) := hp2
  subst hp2
  refine st_val hi hw _ (run_bin (op_of (op := .binOp .add 9 (.tmp 9) (.tmp 12) 9) (by kernel_rfl) hi) (eval_at e1) (eval_at e2) (eqGuard_other (by simp) (by simp) w) (add_sb _ _ ?_ w)) rfl hh.gr (Below.refl _ _)
  try simp only [List.length_append, List.length_cons, List.length_nil]
  have := h.l_x_isMark; have := h.l_x_time; have := h.l_x_rc; omega
theorem item_11 {o : Oper} {a : Act} {w : World} (h : Hitem x B  W1 a0) (hi : itemOps[11]? = some o) (hh : Here itemOps (Said (itemTab x B )) (Since W1) a0 11 o a w) :
    wpOp Tryz.prog itemOps Q 11 (fun a' w' => ∃ v, a' = a.put o.dst v ∧ Said (itemTab x B ) 11 v w' ∧ Since W1 w' ∧ Then w w') a w := by
  have hw := want_none (ops := itemOps) (a := a) (i := 11) (by kernel_rfl) hi
  obtain ⟨v1, e1, hp1⟩ := hh.of_dep hi 10 13 (by kernel_rfl)
  have hp1 : v1 = .string (sb (((enc (tr x.isMark)) ++ (enc (zz x.time))) ++ (x.rc.by_))) := hp1
  subst hp1
  exact st_val hi hw _ (run_assign (op_of (op := .assign (.tmp 13)) (by kernel_rfl) hi) (eval_at e1)) rfl hh.gr (Below.refl _ _)
theorem item_mono (i : Nat) (v : Value) (w w' : World) (h : Said (itemTab x B ) i v w) (hx : Then w w') : Said (itemTab x B ) i v w' := by
  unfold Said at *
  split at h
  · exact h
  · rename_i f hf
    unfold itemTab at hf
    split at hf <;> first | (cases hf; done) | (cases hf; exact Made1.grown h hx)
theorem item_steps (h : Hitem x B  W1 a0) : ∀ (i : Nat) (o : Oper) (a : Act) (w : World), itemOps[i]? = some o → Here itemOps (Said (itemTab x B )) (Since W1) a0 i o a w →
    wpOp Tryz.prog itemOps Q i (fun a' w' => ∃ v, a' = a.put o.dst v ∧ Said (itemTab x B ) i v w' ∧ Since W1 w' ∧ Then w w') a w := by
  intro i o a w hi hh
  match i, hi, hh with
  | 0, hi, hh => exact item_0 h hi hh
  | 1, hi, hh => exact item_1 h hi hh
  | 2, hi, hh => exact item_2 h hi hh
  | 3, hi, hh => exact item_3 h hi hh
  | 4, hi, hh => exact item_4 h hi hh
  | 5, hi, hh => exact item_5 h hi hh
  | 6, hi, hh => exact item_6 h hi hh
  | 7, hi, hh => exact item_7 h hi hh
  | 8, hi, hh => exact item_8 h hi hh
  | 9, hi, hh => exact item_9 h hi hh
  | 10, hi, hh => exact item_10 h hi hh
  | 11, hi, hh => exact item_11 h hi hh
  | n + 12, hi, _ =>
    exfalso
    have h1 := (Array.getElem?_eq_some_iff.1 hi).1
    have h2 : itemOps.size = 12 := by kernel_rfl
    omega
end
set_option maxRecDepth 100000 in
set_option maxHeartbeats 3200000 in
theorem ref_item (x : ItemD) (W : World) (ok : x.ok) : Calls Tryz.prog 8 #[.agg #[.bool x.isMark, .int .i64 x.time, .int .u32 (x.rc.key : Nat), .int .i64 x.rc.time, .int .i64 x.rc.val, .int .u8 (x.rc.side : Nat), .bool x.rc.err, .bool x.rc.late]] W (SB (sb x.by_) W) := by
  have HO := Lib.hid ok
  clear ok
  go_enter Tryz.func8, Tryz.ntmps8
  go_wp2_with fail
  rename_i K hK
  obtain ⟨W1, hW1⟩ : ∃ W1, W1 = W.alloc (.cells #[.bool x.isMark, .int .i64 x.time, .int .u32 (x.rc.key : Nat), .int .i64 x.rc.time, .int .i64 x.rc.val, .int .u8 (x.rc.side : Nat), .bool x.rc.err, .bool x.rc.late] 37) := ⟨_, rfl⟩
  have HB1 : Below W.heap.size W W1 := by rw [hW1]; exact (Below.refl _ _).alloc (Nat.le_refl _) _
  have HX : W1.heap[W.heap.size]? = some (.cells #[.bool x.isMark, .int .i64 x.time, .int .u32 (x.rc.key : Nat), .int .i64 x.rc.time, .int .i64 x.rc.val, .int .u8 (x.rc.side : Nat), .bool x.rc.err, .bool x.rc.late] 37 (0, 0)) := by rw [hW1]; exact heap_alloc_new W _
  rw [← hW1]
  clear hW1
  have ok := HO.out
  have HC : ∀ i w, Since W1 w → w.cell? ⟨W.heap.size, i, none⟩ = (#[.bool x.isMark, .int .i64 x.time, .int .u32 (x.rc.key : Nat), .int .i64 x.rc.time, .int .i64 x.rc.val, .int .u8 (x.rc.side : Nat), .bool x.rc.err, .bool x.rc.late] : Array Value)[i]? := fun i w hg => by
    have := (hg.block W.heap.size (Array.getElem?_eq_some_iff.1 HX).1).trans HX
    simp [World.cell?, this]
  refine tab_region (tab := itemTab x W.heap.size) (opsT := itemOps) (n := 14) (last := 11) (d := 2) (W := W1) (by kernel_rfl) (by kernel_rfl) (by kernel_rfl) (by kernel_rfl) rfl (Below.refl _ _) item_mono (item_steps ⟨ok, rfl, HC 0, HC 1, HC 2, HC 3, HC 4, HC 5, HC 6, HC 7, (Nat.le_trans (enc_len (by unfold tr; split <;> omega)).2 (by decide)), ok.time, (Nat.le_trans (enc_len (zz_lt ok.time.1 ok.time.2)).2 (by decide)), ok.rc, (Nat.le_trans (RecD.len _ ok.rc) (by decide))⟩) (by kernel_rfl) rfl ?_
  intro a w' e1 e2 e3 _ hb
  refine hK _ _ (wp_ret (bodyPost_ret (results_tmp rfl _ _ _) e1 ⟨?_, HB1.trans (hb.mono HB1.size)⟩))
  have hby : x.by_ = ((enc (tr x.isMark)) ++ (enc (zz x.time))) ++ (x.rc.by_) := by unfold ItemD.by_; simp only [List.append_assoc]
  simp [e3, hby]

noncomputable def entOps : Array Oper := regAt Tryz.f16 1
noncomputable def entTab (x : EntD) (B : Nat)  (i : Nat) : Value ⊕ (Value → World → Prop) := match i with
  | 0 => .inl (.pointer (some ⟨B, 0, none⟩))
  | 1 => .inl (.int .i64 x.ver)
  | 2 => .inl (.string (sb (enc (zz x.ver))))
  | 3 => .inl (.pointer (some ⟨B, 1, none⟩))
  | 4 => .inl (.int .u32 (x.key : Nat))
  | 5 => .inl (.int .u64 (x.key : Nat))
  | 6 => .inl (.string (sb (enc x.key)))
  | 7 => .inl (.string (sb ((enc (zz x.ver)) ++ (enc x.key))))
  | 8 => .inl (.pointer (some ⟨B, 2, none⟩))
  | 9 => .inl (.int .i64 x.start)
  | 10 => .inl (.string (sb (enc (zz x.start))))
  | 11 => .inl (.string (sb (((enc (zz x.ver)) ++ (enc x.key)) ++ (enc (zz x.start)))))
  | 12 => .inl (.pointer (some ⟨B, 3, none⟩))
  | 13 => .inl (.int .i64 x.end_)
  | 14 => .inl (.string (sb (enc (zz x.end_))))
  | 15 => .inl (.string (sb ((((enc (zz x.ver)) ++ (enc x.key)) ++ (enc (zz x.start))) ++ (enc (zz x.end_)))))
  | 16 => .inl (.pointer (some ⟨B, 4, none⟩))
  | 17 => .inl (.int .u8 (x.side : Nat))
  | 18 => .inr (Made1 (x.side))
  | 19 => .inl (.string (sb ([x.side])))
  | 20 => .inl (.string (sb (((((enc (zz x.ver)) ++ (enc x.key)) ++ (enc (zz x.start))) ++ (enc (zz x.end_))) ++ ([x.side]))))
  | 21 => .inl (.pointer (some ⟨B, 5, none⟩))
  | 22 => .inl (.agg #[.int .i64 x.acc.n, .int .i64 x.acc.hi, .int .u64 (x.acc.lo : Nat), .int .i64 x.acc.min, .int .i64 x.acc.max])
  | 23 => .inl (.string (sb (x.acc.by_)))
  | 24 => .inl (.string (sb ((((((enc (zz x.ver)) ++ (enc x.key)) ++ (enc (zz x.start))) ++ (enc (zz x.end_))) ++ ([x.side])) ++ (x.acc.by_))))
  | 25 => .inl (.string (sb ((((((enc (zz x.ver)) ++ (enc x.key)) ++ (enc (zz x.start))) ++ (enc (zz x.end_))) ++ ([x.side])) ++ (x.acc.by_))))
  | _ => .inl undef
structure Hent (x : EntD) (B : Nat)  (W1 : World) (a0 : Act) : Prop where
  ok : x.ok
  p : a0.tmps[1]? = some (.pointer (some ⟨B, 0, none⟩))
  c0 : ∀ w, Since W1 w → w.cell? ⟨B, 0, none⟩ = some (.int .i64 x.ver)
  c1 : ∀ w, Since W1 w → w.cell? ⟨B, 1, none⟩ = some (.int .u32 (x.key : Nat))
  c2 : ∀ w, Since W1 w → w.cell? ⟨B, 2, none⟩ = some (.int .i64 x.start)
  c3 : ∀ w, Since W1 w → w.cell? ⟨B, 3, none⟩ = some (.int .i64 x.end_)
  c4 : ∀ w, Since W1 w → w.cell? ⟨B, 4, none⟩ = some (.int .u8 (x.side : Nat))
  c5 : ∀ w, Since W1 w → w.cell? ⟨B, 5, none⟩ = some (.int .i64 x.acc.n)
  c6 : ∀ w, Since W1 w → w.cell? ⟨B, 6, none⟩ = some (.int .i64 x.acc.hi)
  c7 : ∀ w, Since W1 w → w.cell? ⟨B, 7, none⟩ = some (.int .u64 (x.acc.lo : Nat))
  c8 : ∀ w, Since W1 w → w.cell? ⟨B, 8, none⟩ = some (.int .i64 x.acc.min)
  c9 : ∀ w, Since W1 w → w.cell? ⟨B, 9, none⟩ = some (.int .i64 x.acc.max)
  b_x_ver : w64 x.ver
  l_x_ver : (enc (zz x.ver)).length ≤ 100
  b_x_key : x.key < 18446744073709551616
  l_x_key : (enc x.key).length ≤ 100
  b_x_start : w64 x.start
  l_x_start : (enc (zz x.start)).length ≤ 100
  b_x_end_ : w64 x.end_
  l_x_end_ : (enc (zz x.end_)).length ≤ 100
  b_x_acc : x.acc.ok
  l_x_acc : x.acc.by_.length ≤ 100
section
variable {x : EntD} {B : Nat}  {W1 : World} {a0 : Act} {Q : Exit → Act → World → Prop}
theorem ent_0 {o : Oper} {a : Act} {w : World} (h : Hent x B  W1 a0) (hi : entOps[0]? = some o) (hh : Here entOps (Said (entTab x B )) (Since W1) a0 0 o a w) :
    wpOp Tryz.prog entOps Q 0 (fun a' w' => ∃ v, a' = a.put o.dst v ∧ Said (entTab x B ) 0 v w' ∧ Since W1 w' ∧ Then w w') a w := by
  have hw := want_none (ops := entOps) (a := a) (i := 0) (by kernel_rfl) hi
  have e1 := (hh.of_base 1 (by kernel_rfl)).trans h.p
  exact st_val hi hw _ (run_fieldAddr (op_of (op := .fieldAddr 45 (.tmp 1) 0) (by kernel_rfl) hi) (eval_at e1) (by kernel_rfl)) rfl hh.gr (Below.refl _ _)
theorem ent_1 {o : Oper} {a : Act} {w : World} (h : Hent x B  W1 a0) (hi : entOps[1]? = some o) (hh : Here entOps (Said (entTab x B )) (Since W1) a0 1 o a w) :
    wpOp Tryz.prog entOps Q 1 (fun a' w' => ∃ v, a' = a.put o.dst v ∧ Said (entTab x B ) 1 v w' ∧ Since W1 w' ∧ Then w w') a w := by
  have hw := want_none (ops := entOps) (a := a) (i := 1) (by kernel_rfl) hi
  obtain ⟨v1, e1, hp1⟩ := hh.of_dep hi 0 3 (by kernel_rfl)
  have hp1 : v1 = .pointer (some ⟨B, 0, none⟩) := hp1
  subst hp1
  have c0 := h.c0 w hh.gr
  exact st_val hi hw _ (run_loadOp (op_of (op := .load 3 (.tmp 3)) (by kernel_rfl) hi) (eval_at e1) (by go_simp)) rfl hh.gr (Below.refl _ _)
theorem ent_2 {o : Oper} {a : Act} {w : World} (h : Hent x B  W1 a0) (hi : entOps[2]? = some o) (hh : Here entOps (Said (entTab x B )) (Since W1) a0 2 o a w) :
    wpOp Tryz.prog entOps Q 2 (fun a' w' => ∃ v, a' = a.put o.dst v ∧ Said (entTab x B ) 2 v w' ∧ Since W1 w' ∧ Then w w') a w := by
  have hw := want_none (ops := entOps) (a := a) (i := 2) (by kernel_rfl) hi
  obtain ⟨v1, e1, hp1⟩ := hh.of_dep hi 1 4 (by kernel_rfl)
  have hp1 : v1 = .int .i64 x.ver := hp1
  subst hp1
  have hop := op_of (ops := entOps) (op := .call { callee := .value (.func 24), args := #[.tmp 4], argTypes := #[3] }) (by kernel_rfl) hi
  exact st_call hi hw 24 _ (by simp [execOp, hop, resolve, invoke, Act.eval, Deferred.ofValue, e1]) ((w_any x.ver h.b_x_ver.1 h.b_x_ver.2 w).mono fun e w' hs => ⟨_, hs.1, rfl, Below.trans hh.gr (hs.2.mono hh.gr.size), hs.2⟩)
theorem ent_3 {o : Oper} {a : Act} {w : World} (h : Hent x B  W1 a0) (hi : entOps[3]? = some o) (hh : Here entOps (Said (entTab x B )) (Since W1) a0 3 o a w) :
    wpOp Tryz.prog entOps Q 3 (fun a' w' => ∃ v, a' = a.put o.dst v ∧ Said (entTab x B ) 3 v w' ∧ Since W1 w' ∧ Then w w') a w := by
  have hw := want_none (ops := entOps) (a := a) (i := 3) (by kernel_rfl) hi
  have e1 := (hh.of_base 1 (by kernel_rfl)).trans h.p
  exact st_val hi hw _ (run_fieldAddr (op_of (op := .fieldAddr 45 (.tmp 1) 1) (by kernel_rfl) hi) (eval_at e1) (by kernel_rfl)) rfl hh.gr (Below.refl _ _)
theorem ent_4 {o : Oper} {a : Act} {w : World} (h : Hent x B  W1 a0) (hi : entOps[4]? = some o) (hh : Here entOps (Said (entTab x B )) (Since W1) a0 4 o a w) :
    wpOp Tryz.prog entOps Q 4 (fun a' w' => ∃ v, a' = a.put o.dst v ∧ Said (entTab x B ) 4 v w' ∧ Since W1 w' ∧ Then w w') a w := by
  have hw := want_none (ops := entOps) (a := a) (i := 4) (by kernel_rfl) hi
  obtain ⟨v1, e1, hp1⟩ := hh.of_dep hi 3 6 (by kernel_rfl)
  have hp1 : v1 = .pointer (some ⟨B, 1, none⟩) := hp1
  subst hp1
  have c1 := h.c1 w hh.gr
  exact st_val hi hw _ (run_loadOp (op_of (op := .load 23 (.tmp 6)) (by kernel_rfl) hi) (eval_at e1) (by go_simp)) rfl hh.gr (Below.refl _ _)
theorem ent_5 {o : Oper} {a : Act} {w : World} (h : Hent x B  W1 a0) (hi : entOps[5]? = some o) (hh : Here entOps (Said (entTab x B )) (Since W1) a0 5 o a w) :
    wpOp Tryz.prog entOps Q 5 (fun a' w' => ∃ v, a' = a.put o.dst v ∧ Said (entTab x B ) 5 v w' ∧ Since W1 w' ∧ Then w w') a w := by
  have hw := want_none (ops := entOps) (a := a) (i := 5) (by kernel_rfl) hi
  obtain ⟨v1, e1, hp1⟩ := hh.of_dep hi 4 7 (by kernel_rfl)
  have hp1 : v1 = .int .u32 (x.key : Nat) := hp1
  subst hp1
  exact st_val hi hw _ (run_conv (op_of (op := .convert 23 41 (.tmp 7)) (by kernel_rfl) hi) (eval_at e1) (conv_u32 x.key (by have := h.ok.key; omega) w)) rfl hh.gr (Below.refl _ _)
theorem ent_6 {o : Oper} {a : Act} {w : World} (h : Hent x B  W1 a0) (hi : entOps[6]? = some o) (hh : Here entOps (Said (entTab x B )) (Since W1) a0 6 o a w) :
    wpOp Tryz.prog entOps Q 6 (fun a' w' => ∃ v, a' = a.put o.dst v ∧ Said (entTab x B ) 6 v w' ∧ Since W1 w' ∧ Then w w') a w := by
  have hw := want_none (ops := entOps) (a := a) (i := 6) (by kernel_rfl) hi
  obtain ⟨v1, e1, hp1⟩ := hh.of_dep hi 5 8 (by kernel_rfl)
  have hp1 : v1 = .int .u64 (x.key : Nat) := hp1
  subst hp1
  have hop := op_of (ops := entOps) (op := .call { callee := .value (.func 31), args := #[.tmp 8], argTypes := #[41] }) (by kernel_rfl) hi
  exact st_call hi hw 31 _ (by simp [execOp, hop, resolve, invoke, Act.eval, Deferred.ofValue, e1]) ((Num_any x.key (by have := h.b_x_key; omega) w).mono fun e w' hs => ⟨_, hs.1, rfl, Below.trans hh.gr (hs.2.mono hh.gr.size), hs.2⟩)
theorem ent_7 {o : Oper} {a : Act} {w : World} (h : Hent x B  W1 a0) (hi : entOps[7]? = some o) (hh : Here entOps (Said (entTab x B )) (Since W1) a0 7 o a w) :
    wpOp Tryz.prog entOps Q 7 (fun a' w' => ∃ v, a' = a.put o.dst v ∧ Said (entTab x B ) 7 v w' ∧ Since W1 w' ∧ Then w w') a w := by
  have hw := want_none (ops := entOps) (a := a) (i := 7) (by kernel_rfl) hi
  obtain ⟨v1, e1, hp1⟩ := hh.of_dep hi 2 5 (by kernel_rfl)
  have hp1 : v1 = .string (sb (enc (zz x.ver))) := hp1
  subst hp1
  obtain ⟨v2, e2, hp2⟩ := hh.of_dep hi 6 9 (by kernel_rfl)
  have hp2 : v2 = .string (sb (enc x.key)) := hp2
  subst hp2
  refine st_val hi hw _ (run_bin (op_of (op := .binOp .add 9 (.tmp 5) (.tmp 9) 9) (by kernel_rfl) hi) (eval_at e1) (eval_at e2) (eqGuard_other (by simp) (by simp) w) (add_sb _ _ ?_ w)) rfl hh.gr (Below.refl _ _)
  try simp only [List.length_append, List.length_cons, List.length_nil]
  have := h.l_x_ver; have := h.l_x_key; have := h.l_x_start; have := h.l_x_end_; have := h.l_x_acc; omega
theorem ent_8 {o : Oper} {a : Act} {w : World} (h : Hent x B  W1 a0) (hi : entOps[8]? = some o) (hh : Here entOps (Said (entTab x B )) (Since W1) a0 8 o a w) :
    wpOp Tryz.prog entOps Q 8 (fun a' w' => ∃ v, a' = a.put o.dst v ∧ Said (entTab x B ) 8 v w' ∧ Since W1 w' ∧ Then w w') a w := by
  have hw := want_none (ops := entOps) (a := a) (i := 8) (by kernel_rfl) hi
  have e1 := (hh.of_base 1 (by kernel_rfl)).trans h.p
  exact st_val hi hw _ (run_fieldAddr (op_of (op := .fieldAddr 45 (.tmp 1) 2) (by kernel_rfl) hi) (eval_at e1) (by kernel_rfl)) rfl hh.gr (Below.refl _ _)
theorem ent_9 {o : Oper} {a : Act} {w : World} (h : Hent x B  W1 a0) (hi : entOps[9]? = some o) (hh : Here entOps (Said (entTab x B )) (Since W1) a0 9 o a w) :
    wpOp Tryz.prog entOps Q 9 (fun a' w' => ∃ v, a' = a.put o.dst v ∧ Said (entTab x B ) 9 v w' ∧ Since W1 w' ∧ Then w w') a w := by
  have hw := want_none (ops := entOps) (a := a) (i := 9) (by kernel_rfl) hi
  obtain ⟨v1, e1, hp1⟩ := hh.of_dep hi 8 11 (by kernel_rfl)
  have hp1 : v1 = .pointer (some ⟨B, 2, none⟩) := hp1
  subst hp1
  have c2 := h.c2 w hh.gr
  exact st_val hi hw _ (run_loadOp (op_of (op := .load 2 (.tmp 11)) (by kernel_rfl) hi) (eval_at e1) (by go_simp)) rfl hh.gr (Below.refl _ _)
theorem ent_10 {o : Oper} {a : Act} {w : World} (h : Hent x B  W1 a0) (hi : entOps[10]? = some o) (hh : Here entOps (Said (entTab x B )) (Since W1) a0 10 o a w) :
    wpOp Tryz.prog entOps Q 10 (fun a' w' => ∃ v, a' = a.put o.dst v ∧ Said (entTab x B ) 10 v w' ∧ Since W1 w' ∧ Then w w') a w := by
  have hw := want_none (ops := entOps) (a := a) (i := 10) (by kernel_rfl) hi
  obtain ⟨v1, e1, hp1⟩ := hh.of_dep hi 9 12 (by kernel_rfl)
  have hp1 : v1 = .int .i64 x.start := hp1
  subst hp1
  have hop := op_of (ops := entOps) (op := .call { callee := .value (.func 25), args := #[.tmp 12], argTypes := #[2] }) (by kernel_rfl) hi
  exact st_call hi hw 25 _ (by simp [execOp, hop, resolve, invoke, Act.eval, Deferred.ofValue, e1]) ((Int_any x.start h.b_x_start.1 h.b_x_start.2 w).mono fun e w' hs => ⟨_, hs.1, rfl, Below.trans hh.gr (hs.2.mono hh.gr.size), hs.2⟩)
theorem ent_11 {o : Oper} {a : Act} {w : World} (h : Hent x B  W1 a0) (hi : entOps[11]? = some o) (hh : Here entOps (Said (entTab x B )) (Since W1) a0 11 o a w) :
    wpOp Tryz.prog entOps Q 11 (fun a' w' => ∃ v, a' = a.put o.dst v ∧ Said (entTab x B ) 11 v w' ∧ Since W1 w' ∧ Then w w') a w := by
  have hw := want_none (ops := entOps) (a := a) (i := 11) (by kernel_rfl) hi
  obtain ⟨v1, e1, hp1⟩ := hh.of_dep hi 7 10 (by kernel_rfl)
  have hp1 : v1 = .string (sb ((enc (zz x.ver)) ++ (enc x.key))) := hp1
  subst hp1
  obtain ⟨v2, e2, hp2⟩ := hh.of_dep hi 10 13 (by kernel_rfl)
  have hp2 : v2 = .string (sb (enc (zz x.start))) := hp2
  subst hp2
  refine st_val hi hw _ (run_bin (op_of (op := .binOp .add 9 (.tmp 10) (.tmp 13) 9) (by kernel_rfl) hi) (eval_at e1) (eval_at e2) (eqGuard_other (by simp) (by simp) w) (add_sb _ _ ?_ w)) rfl hh.gr (Below.refl _ _)
  try simp only [List.length_append, List.length_cons, List.length_nil]
  have := h.l_x_ver; have := h.l_x_key; have := h.l_x_start; have := h.l_x_end_; have := h.l_x_acc; omega
theorem ent_12 {o : Oper} {a : Act} {w : World} (h : Hent x B  W1 a0) (hi : entOps[12]? = some o) (hh : Here entOps (Said (entTab x B )) (Since W1) a0 12 o a w) :
    wpOp Tryz.prog entOps Q 12 (fun a' w' => ∃ v, a' = a.put o.dst v ∧ Said (entTab x B ) 12 v w' ∧ Since W1 w' ∧ Then w w') a w := by
  have hw := want_none (ops := entOps) (a := a) (i := 12) (by kernel_rfl) hi
  have e1 := (hh.of_base 1 (by kernel_rfl)).trans h.p
  exact st_val hi hw _ (run_fieldAddr (op_of (op := .fieldAddr 45 (.tmp 1) 3) (by kernel_rfl) hi) (eval_at e1) (by kernel_rfl)) rfl hh.gr (Below.refl _ _)
theorem ent_13 {o : Oper} {a : Act} {w : World} (h : Hent x B  W1 a0) (hi : entOps[13]? = some o) (hh : Here entOps (Said (entTab x B )) (Since W1) a0 13 o a w) :
    wpOp Tryz.prog entOps Q 13 (fun a' w' => ∃ v, a' = a.put o.dst v ∧ Said (entTab x B ) 13 v w' ∧ Since W1 w' ∧ Then w w') a w := by
  have hw := want_none (ops := entOps) (a := a) (i := 13) (by kernel_rfl) hi
  obtain ⟨v1, e1, hp1⟩ := hh.of_dep hi 12 15 (by kernel_rfl)
  have hp1 : v1 = .pointer (some ⟨B, 3, none⟩) := hp1
  subst hp1
  have c3 := h.c3 w hh.gr
  exact st_val hi hw _ (run_loadOp (op_of (op := .load 2 (.tmp 15)) (by kernel_rfl) hi) (eval_at e1) (by go_simp)) rfl hh.gr (Below.refl _ _)
theorem ent_14 {o : Oper} {a : Act} {w : World} (h : Hent x B  W1 a0) (hi : entOps[14]? = some o) (hh : Here entOps (Said (entTab x B )) (Since W1) a0 14 o a w) :
    wpOp Tryz.prog entOps Q 14 (fun a' w' => ∃ v, a' = a.put o.dst v ∧ Said (entTab x B ) 14 v w' ∧ Since W1 w' ∧ Then w w') a w := by
  have hw := want_none (ops := entOps) (a := a) (i := 14) (by kernel_rfl) hi
  obtain ⟨v1, e1, hp1⟩ := hh.of_dep hi 13 16 (by kernel_rfl)
  have hp1 : v1 = .int .i64 x.end_ := hp1
  subst hp1
  have hop := op_of (ops := entOps) (op := .call { callee := .value (.func 25), args := #[.tmp 16], argTypes := #[2] }) (by kernel_rfl) hi
  exact st_call hi hw 25 _ (by simp [execOp, hop, resolve, invoke, Act.eval, Deferred.ofValue, e1]) ((Int_any x.end_ h.b_x_end_.1 h.b_x_end_.2 w).mono fun e w' hs => ⟨_, hs.1, rfl, Below.trans hh.gr (hs.2.mono hh.gr.size), hs.2⟩)
theorem ent_15 {o : Oper} {a : Act} {w : World} (h : Hent x B  W1 a0) (hi : entOps[15]? = some o) (hh : Here entOps (Said (entTab x B )) (Since W1) a0 15 o a w) :
    wpOp Tryz.prog entOps Q 15 (fun a' w' => ∃ v, a' = a.put o.dst v ∧ Said (entTab x B ) 15 v w' ∧ Since W1 w' ∧ Then w w') a w := by
  have hw := want_none (ops := entOps) (a := a) (i := 15) (by kernel_rfl) hi
  obtain ⟨v1, e1, hp1⟩ := hh.of_dep hi 11 14 (by kernel_rfl)
  have hp1 : v1 = .string (sb (((enc (zz x.ver)) ++ (enc x.key)) ++ (enc (zz x.start)))) := hp1
  subst hp1
  obtain ⟨v2, e2, hp2⟩ := hh.of_dep hi 14 17 (by kernel_rfl)
  have hp2 : v2 = .string (sb (enc (zz x.end_))) := hp2
  subst hp2
  refine st_val hi hw _ (run_bin (op_of (op := .binOp .add 9 (.tmp 14) (.tmp 17) 9) (by kernel_rfl) hi) (eval_at e1) (eval_at e2) (eqGuard_other (by simp) (by simp) w) (add_sb _ _ ?_ w)) rfl hh.gr (Below.refl _ _)
  try simp only [List.length_append, List.length_cons, List.length_nil]
  have := h.l_x_ver; have := h.l_x_key; have := h.l_x_start; have := h.l_x_end_; have := h.l_x_acc; omega
theorem ent_16 {o : Oper} {a : Act} {w : World} (h : Hent x B  W1 a0) (hi : entOps[16]? = some o) (hh : Here entOps (Said (entTab x B )) (Since W1) a0 16 o a w) :
    wpOp Tryz.prog entOps Q 16 (fun a' w' => ∃ v, a' = a.put o.dst v ∧ Said (entTab x B ) 16 v w' ∧ Since W1 w' ∧ Then w w') a w := by
  have hw := want_none (ops := entOps) (a := a) (i := 16) (by kernel_rfl) hi
  have e1 := (hh.of_base 1 (by kernel_rfl)).trans h.p
  exact st_val hi hw _ (run_fieldAddr (op_of (op := .fieldAddr 45 (.tmp 1) 4) (by kernel_rfl) hi) (eval_at e1) (by kernel_rfl)) rfl hh.gr (Below.refl _ _)
theorem ent_17 {o : Oper} {a : Act} {w : World} (h : Hent x B  W1 a0) (hi : entOps[17]? = some o) (hh : Here entOps (Said (entTab x B )) (Since W1) a0 17 o a w) :
    wpOp Tryz.prog entOps Q 17 (fun a' w' => ∃ v, a' = a.put o.dst v ∧ Said (entTab x B ) 17 v w' ∧ Since W1 w' ∧ Then w w') a w := by
  have hw := want_none (ops := entOps) (a := a) (i := 17) (by kernel_rfl) hi
  obtain ⟨v1, e1, hp1⟩ := hh.of_dep hi 16 19 (by kernel_rfl)
  have hp1 : v1 = .pointer (some ⟨B, 4, none⟩) := hp1
  subst hp1
  have c4 := h.c4 w hh.gr
  exact st_val hi hw _ (run_loadOp (op_of (op := .load 5 (.tmp 19)) (by kernel_rfl) hi) (eval_at e1) (by go_simp)) rfl hh.gr (Below.refl _ _)
theorem ent_18 {o : Oper} {a : Act} {w : World} (h : Hent x B  W1 a0) (hi : entOps[18]? = some o) (hh : Here entOps (Said (entTab x B )) (Since W1) a0 18 o a w) :
    wpOp Tryz.prog entOps Q 18 (fun a' w' => ∃ v, a' = a.put o.dst v ∧ Said (entTab x B ) 18 v w' ∧ Since W1 w' ∧ Then w w') a w := by
  have hw := want_none (ops := entOps) (a := a) (i := 18) (by kernel_rfl) hi
  obtain ⟨v1, e1, hp1⟩ := hh.of_dep hi 17 20 (by kernel_rfl)
  have hp1 : v1 = .int .u8 (x.side : Nat) := hp1
  subst hp1
  obtain ⟨ie, k0, k1, k2, -⟩ := info_parts8 info8
  exact st_made hi hw _ _ (run_build1 (op_of (op := .buildSlice 22 1 #[(0, .tmp 20)]) (by kernel_rfl) hi) (eval_at e1) Tryz.underlying22 k0 k1 k2 (by kernel_rfl)) ⟨_, rfl, st_new _ h.ok.side w⟩ (Below.alloc hh.gr hh.gr.size _) ((Below.refl _ _).alloc (Nat.le_refl _) _)
theorem ent_19 {o : Oper} {a : Act} {w : World} (h : Hent x B  W1 a0) (hi : entOps[19]? = some o) (hh : Here entOps (Said (entTab x B )) (Since W1) a0 19 o a w) :
    wpOp Tryz.prog entOps Q 19 (fun a' w' => ∃ v, a' = a.put o.dst v ∧ Said (entTab x B ) 19 v w' ∧ Since W1 w' ∧ Then w w') a w := by
  have hw := want_none (ops := entOps) (a := a) (i := 19) (by kernel_rfl) hi
  obtain ⟨v1, e1, hp1⟩ := hh.of_dep hi 18 21 (by kernel_rfl)
  obtain ⟨g1, q1, hs1⟩ : Made1 (x.side) v1 w := hp1
  subst q1
  exact st_val hi hw _ (run_conv (op_of (op := .convert 22 9 (.tmp 21)) (by kernel_rfl) hi) (eval_at e1) (st_conv hs1)) rfl hh.gr (Below.refl _ _)
theorem ent_20 {o : Oper} {a : Act} {w : World} (h : Hent x B  W1 a0) (hi : entOps[20]? = some o) (hh : Here entOps (Said (entTab x B )) (Since W1) a0 20 o a w) :
    wpOp Tryz.prog entOps Q 20 (fun a' w' => ∃ v, a' = a.put o.dst v ∧ Said (entTab x B ) 20 v w' ∧ Since W1 w' ∧ Then w w') a w := by
  have hw := want_none (ops := entOps) (a := a) (i := 20) (by kernel_rfl) hi
  obtain ⟨v1, e1, hp1⟩ := hh.of_dep hi 15 18 (by kernel_rfl)
  have hp1 : v1 = .string (sb ((((enc (zz x.ver)) ++ (enc x.key)) ++ (enc (zz x.start))) ++ (enc (zz x.end_)))) := hp1
  subst hp1
  obtain ⟨v2, e2, hp2⟩ := hh.of_dep hi 19 22 (by kernel_rfl)
  have hp2 : v2 = .string (sb ([x.side])) := hp2
  subst hp2
  refine st_val hi hw _ (run_bin (op_of (op := .binOp .add 9 (.tmp 18) (.tmp 22) 9) (by kernel_rfl) hi) (eval_at e1) (eval_at e2) (eqGuard_other (by simp) (by simp) w) (add_sb _ _ ?_ w)) rfl hh.gr (Below.refl _ _)
  try simp only [List.length_append, List.length_cons, List.length_nil]
  have := h.l_x_ver; have := h.l_x_key; have := h.l_x_start; have := h.l_x_end_; have := h.l_x_acc; omega
theorem ent_21 {o : Oper} {a : Act} {w : World} (h : Hent x B  W1 a0) (hi : entOps[21]? = some o) (hh : Here entOps (Said (entTab x B )) (Since W1) a0 21 o a w) :
    wpOp Tryz.prog entOps Q 21 (fun a' w' => ∃ v, a' = a.put o.dst v ∧ Said (entTab x B ) 21 v w' ∧ Since W1 w' ∧ Then w w') a w := by
  have hw := want_none (ops := entOps) (a := a) (i := 21) (by kernel_rfl) hi
  have e1 := (hh.of_base 1 (by kernel_rfl)).trans h.p
  exact st_val hi hw _ (run_fieldAddr (op_of (op := .fieldAddr 45 (.tmp 1) 5) (by kernel_rfl) hi) (eval_at e1) (by kernel_rfl)) rfl hh.gr (Below.refl _ _)
theorem ent_22 {o : Oper} {a : Act} {w : World} (h : Hent x B  W1 a0) (hi : entOps[22]? = some o) (hh : Here entOps (Said (entTab x B )) (Since W1) a0 22 o a w) :
    wpOp Tryz.prog entOps Q 22 (fun a' w' => ∃ v, a' = a.put o.dst v ∧ Said (entTab x B ) 22 v w' ∧ Since W1 w' ∧ Then w w') a w := by
  have hw := want_none (ops := entOps) (a := a) (i := 22) (by kernel_rfl) hi
  obtain ⟨v1, e1, hp1⟩ := hh.of_dep hi 21 24 (by kernel_rfl)
  have hp1 : v1 = .pointer (some ⟨B, 5, none⟩) := hp1
  subst hp1
  have c5 := h.c5 w hh.gr
  have c6 := h.c6 w hh.gr
  have c7 := h.c7 w hh.gr
  have c8 := h.c8 w hh.gr
  have c9 := h.c9 w hh.gr
  exact st_val hi hw _ (run_loadOp (op_of (op := .load 43 (.tmp 24)) (by kernel_rfl) hi) (eval_at e1) (by go_simp)) rfl hh.gr (Below.refl _ _)
theorem ent_23 {o : Oper} {a : Act} {w : World} (h : Hent x B  W1 a0) (hi : entOps[23]? = some o) (hh : Here entOps (Said (entTab x B )) (Since W1) a0 23 o a w) :
    wpOp Tryz.prog entOps Q 23 (fun a' w' => ∃ v, a' = a.put o.dst v ∧ Said (entTab x B ) 23 v w' ∧ Since W1 w' ∧ Then w w') a w := by
  have hw := want_none (ops := entOps) (a := a) (i := 23) (by kernel_rfl) hi
  obtain ⟨v1, e1, hp1⟩ := hh.of_dep hi 22 25 (by kernel_rfl)
  have hp1 : v1 = .agg #[.int .i64 x.acc.n, .int .i64 x.acc.hi, .int .u64 (x.acc.lo : Nat), .int .i64 x.acc.min, .int .i64 x.acc.max] := hp1
  subst hp1
  have hop := op_of (ops := entOps) (op := .call { callee := .value (.func 18), args := #[.tmp 25], argTypes := #[43] }) (by kernel_rfl) hi
  exact st_call hi hw 18 _ (by simp [execOp, hop, resolve, invoke, Act.eval, Deferred.ofValue, e1]) ((ref_acc x.acc w h.b_x_acc).mono fun e w' hs => ⟨_, hs.1, rfl, Below.trans hh.gr (hs.2.mono hh.gr.size), hs.2⟩)
theorem ent_24 {o : Oper} {a : Act} {w : World} (h : Hent x B  W1 a0) (hi : entOps[24]? = some o) (hh : Here entOps (Said (entTab x B )) (Since W1) a0 24 o a w) :
    wpOp Tryz.prog entOps Q 24 (fun a' w' => ∃ v, a' = a.put o.dst v ∧ Said (entTab x B ) 24 v w' ∧ Since W1 w' ∧ Then w w') a w := by
  have hw := want_none (ops := entOps) (a := a) (i := 24) (by kernel_rfl) hi
  obtain ⟨v1, e1, hp1⟩ := hh.of_dep hi 20 23 (by kernel_rfl)
  have hp1 : v1 = .string (sb (((((enc (zz x.ver)) ++ (enc x.key)) ++ (enc (zz x.start))) ++ (enc (zz x.end_))) ++ ([x.side]))) := hp1
  subst hp1
  obtain ⟨v2, e2, hp2⟩ := hh.of_dep hi 23 26 (by kernel_rfl)
  have hp2 : v2 = .string (sb (x.acc.by_)) := hp2
  subst hp2
  refine st_val hi hw _ (run_bin (op_of (op := .binOp .add 9 (.tmp 23) (.tmp 26) 9) (by kernel_rfl) hi) (eval_at e1) (eval_at e2) (eqGuard_other (by simp) (by simp) w) (add_sb _ _ ?_ w)) rfl hh.gr (Below.refl _ _)
  try simp only [List.length_append, List.length_cons, List.length_nil]
  have := h.l_x_ver; have := h.l_x_key; have := h.l_x_start; have := h.l_x_end_; have := h.l_x_acc; omega
theorem ent_25 {o : Oper} {a : Act} {w : World} (h : Hent x B  W1 a0) (hi : entOps[25]? = some o) (hh : Here entOps (Said (entTab x B )) (Since W1) a0 25 o a w) :
    wpOp Tryz.prog entOps Q 25 (fun a' w' => ∃ v, a' = a.put o.dst v ∧ Said (entTab x B ) 25 v w' ∧ Since W1 w' ∧ Then w w') a w := by
  have hw := want_none (ops := entOps) (a := a) (i := 25) (by kernel_rfl) hi
  obtain ⟨v1, e1, hp1⟩ := hh.of_dep hi 24 27 (by kernel_rfl)
  have hp1 : v1 = .string (sb ((((((enc (zz x.ver)) ++ (enc x.key)) ++ (enc (zz x.start))) ++ (enc (zz x.end_))) ++ ([x.side])) ++ (x.acc.by_))) := hp1
  subst hp1
  exact st_val hi hw _ (run_assign (op_of (op := .assign (.tmp 27)) (by kernel_rfl) hi) (eval_at e1)) rfl hh.gr (Below.refl _ _)
theorem ent_mono (i : Nat) (v : Value) (w w' : World) (h : Said (entTab x B ) i v w) (hx : Then w w') : Said (entTab x B ) i v w' := by
  unfold Said at *
  split at h
  · exact h
  · rename_i f hf
    unfold entTab at hf
    split at hf <;> first | (cases hf; done) | (cases hf; exact Made1.grown h hx)
theorem ent_steps (h : Hent x B  W1 a0) : ∀ (i : Nat) (o : Oper) (a : Act) (w : World), entOps[i]? = some o → Here entOps (Said (entTab x B )) (Since W1) a0 i o a w →
    wpOp Tryz.prog entOps Q i (fun a' w' => ∃ v, a' = a.put o.dst v ∧ Said (entTab x B ) i v w' ∧ Since W1 w' ∧ Then w w') a w := by
  intro i o a w hi hh
  match i, hi, hh with
  | 0, hi, hh => exact ent_0 h hi hh
  | 1, hi, hh => exact ent_1 h hi hh
  | 2, hi, hh => exact ent_2 h hi hh
  | 3, hi, hh => exact ent_3 h hi hh
  | 4, hi, hh => exact ent_4 h hi hh
  | 5, hi, hh => exact ent_5 h hi hh
  | 6, hi, hh => exact ent_6 h hi hh
  | 7, hi, hh => exact ent_7 h hi hh
  | 8, hi, hh => exact ent_8 h hi hh
  | 9, hi, hh => exact ent_9 h hi hh
  | 10, hi, hh => exact ent_10 h hi hh
  | 11, hi, hh => exact ent_11 h hi hh
  | 12, hi, hh => exact ent_12 h hi hh
  | 13, hi, hh => exact ent_13 h hi hh
  | 14, hi, hh => exact ent_14 h hi hh
  | 15, hi, hh => exact ent_15 h hi hh
  | 16, hi, hh => exact ent_16 h hi hh
  | 17, hi, hh => exact ent_17 h hi hh
  | 18, hi, hh => exact ent_18 h hi hh
  | 19, hi, hh => exact ent_19 h hi hh
  | 20, hi, hh => exact ent_20 h hi hh
  | 21, hi, hh => exact ent_21 h hi hh
  | 22, hi, hh => exact ent_22 h hi hh
  | 23, hi, hh => exact ent_23 h hi hh
  | 24, hi, hh => exact ent_24 h hi hh
  | 25, hi, hh => exact ent_25 h hi hh
  | n + 26, hi, _ =>
    exfalso
    have h1 := (Array.getElem?_eq_some_iff.1 hi).1
    have h2 : entOps.size = 26 := by kernel_rfl
    omega
end
set_option maxRecDepth 100000 in
set_option maxHeartbeats 3200000 in
theorem ref_ent (x : EntD) (W : World) (ok : x.ok) : Calls Tryz.prog 16 #[.agg #[.int .i64 x.ver, .int .u32 (x.key : Nat), .int .i64 x.start, .int .i64 x.end_, .int .u8 (x.side : Nat), .int .i64 x.acc.n, .int .i64 x.acc.hi, .int .u64 (x.acc.lo : Nat), .int .i64 x.acc.min, .int .i64 x.acc.max]] W (SB (sb x.by_) W) := by
  have HO := Lib.hid ok
  clear ok
  go_enter Tryz.func16, Tryz.ntmps16
  go_wp2_with fail
  rename_i K hK
  obtain ⟨W1, hW1⟩ : ∃ W1, W1 = W.alloc (.cells #[.int .i64 x.ver, .int .u32 (x.key : Nat), .int .i64 x.start, .int .i64 x.end_, .int .u8 (x.side : Nat), .int .i64 x.acc.n, .int .i64 x.acc.hi, .int .u64 (x.acc.lo : Nat), .int .i64 x.acc.min, .int .i64 x.acc.max] 45) := ⟨_, rfl⟩
  have HB1 : Below W.heap.size W W1 := by rw [hW1]; exact (Below.refl _ _).alloc (Nat.le_refl _) _
  have HX : W1.heap[W.heap.size]? = some (.cells #[.int .i64 x.ver, .int .u32 (x.key : Nat), .int .i64 x.start, .int .i64 x.end_, .int .u8 (x.side : Nat), .int .i64 x.acc.n, .int .i64 x.acc.hi, .int .u64 (x.acc.lo : Nat), .int .i64 x.acc.min, .int .i64 x.acc.max] 45 (0, 0)) := by rw [hW1]; exact heap_alloc_new W _
  rw [← hW1]
  clear hW1
  have ok := HO.out
  have HC : ∀ i w, Since W1 w → w.cell? ⟨W.heap.size, i, none⟩ = (#[.int .i64 x.ver, .int .u32 (x.key : Nat), .int .i64 x.start, .int .i64 x.end_, .int .u8 (x.side : Nat), .int .i64 x.acc.n, .int .i64 x.acc.hi, .int .u64 (x.acc.lo : Nat), .int .i64 x.acc.min, .int .i64 x.acc.max] : Array Value)[i]? := fun i w hg => by
    have := (hg.block W.heap.size (Array.getElem?_eq_some_iff.1 HX).1).trans HX
    simp [World.cell?, this]
  refine tab_region (tab := entTab x W.heap.size) (opsT := entOps) (n := 28) (last := 25) (d := 2) (W := W1) (by kernel_rfl) (by kernel_rfl) (by kernel_rfl) (by kernel_rfl) rfl (Below.refl _ _) ent_mono (ent_steps ⟨ok, rfl, HC 0, HC 1, HC 2, HC 3, HC 4, HC 5, HC 6, HC 7, HC 8, HC 9, ok.ver, (Nat.le_trans (enc_len (zz_lt ok.ver.1 ok.ver.2)).2 (by decide)), (by have := ok.key; omega), (Nat.le_trans (enc_len (by have := ok.key; omega)).2 (by decide)), ok.start, (Nat.le_trans (enc_len (zz_lt ok.start.1 ok.start.2)).2 (by decide)), ok.end_, (Nat.le_trans (enc_len (zz_lt ok.end_.1 ok.end_.2)).2 (by decide)), ok.acc, (Nat.le_trans (AccD.len _ ok.acc) (by decide))⟩) (by kernel_rfl) rfl ?_
  intro a w' e1 e2 e3 _ hb
  refine hK _ _ (wp_ret (bodyPost_ret (results_tmp rfl _ _ _) e1 ⟨?_, HB1.trans (hb.mono HB1.size)⟩))
  have hby : x.by_ = (((((enc (zz x.ver)) ++ (enc x.key)) ++ (enc (zz x.start))) ++ (enc (zz x.end_))) ++ ([x.side])) ++ (x.acc.by_) := by unfold EntD.by_; simp only [List.append_assoc]
  simp [e3, hby]

theorem conv_len (n : Nat) (h : n < 4611686018427387904) (w : World) : (convert 3 41 (.int .i64 (n : Nat))).run Tryz.prog w = .ok (.int .u64 (n : Nat)) w := by
  have e : Tryz.prog.intKind 41 = .u64 := by kernel_rfl
  have := run_convert_int (P := Tryz.prog) w 3 41 .i64 (n : Int) (by rw [Tryz.underlying3]; rfl) (by rw [e]; exact Tryz.underlying41)
  rw [this, e, IntWalk.u64_in _ (by omega)]
noncomputable def cmdAOps : Array Oper := regAt Tryz.f12 1
noncomputable def cmdATab (x : CmdD) (B : Nat) (A : Option Addr) (c : Nat) (S : List Nat) (i : Nat) : Value ⊕ (Value → World → Prop) := match i with
  | 0 => .inl (.pointer (some ⟨B, 0, none⟩))
  | 1 => .inl (.int .i64 x.kind)
  | 2 => .inl (.string (sb (enc (zz x.kind))))
  | 3 => .inl (.pointer (some ⟨B, 1, none⟩))
  | 4 => .inl (.int .i64 x.at_)
  | 5 => .inl (.string (sb (enc (zz x.at_))))
  | 6 => .inl (.string (sb ((enc (zz x.kind)) ++ (enc (zz x.at_)))))
  | 7 => .inl (.pointer (some ⟨B, 2, none⟩))
  | 8 => .inl (.slice A x.bins.length c)
  | 9 => .inl (.int .i64 (x.bins.length : Nat))
  | 10 => .inl (.int .u64 (x.bins.length : Nat))
  | 11 => .inl (.string (sb (enc x.bins.length)))
  | 12 => .inl (.string (sb (((enc (zz x.kind)) ++ (enc (zz x.at_))) ++ (enc x.bins.length))))
  | 13 => .inl (.string (sb (((enc (zz x.kind)) ++ (enc (zz x.at_))) ++ (enc x.bins.length))))
  | _ => .inl undef
structure HcmdA (x : CmdD) (B : Nat) (A : Option Addr) (c : Nat) (S : List Nat) (W1 : World) (a0 : Act) : Prop where
  ok : x.ok
  p : a0.tmps[1]? = some (.pointer (some ⟨B, 0, none⟩))
  c0 : ∀ w, Since W1 w → w.cell? ⟨B, 0, none⟩ = some (.int .i64 x.kind)
  c1 : ∀ w, Since W1 w → w.cell? ⟨B, 1, none⟩ = some (.int .i64 x.at_)
  c2 : ∀ w, Since W1 w → w.cell? ⟨B, 2, none⟩ = some (.slice A x.bins.length c)
  c3 : ∀ w, Since W1 w → w.cell? ⟨B, 3, none⟩ = some (.int .i64 x.dst)
  c4 : ∀ w, Since W1 w → w.cell? ⟨B, 4, none⟩ = some (.int .i64 x.node)
  c5 : ∀ w, Since W1 w → w.cell? ⟨B, 5, none⟩ = some (.int .i64 x.op.kind)
  c6 : ∀ w, Since W1 w → w.cell? ⟨B, 6, none⟩ = some (.int .i64 x.op.a)
  c7 : ∀ w, Since W1 w → w.cell? ⟨B, 7, none⟩ = some (.int .i64 x.op.b)
  c8 : ∀ w, Since W1 w → w.cell? ⟨B, 8, none⟩ = some (.int .i64 x.op.agg)
  c9 : ∀ w, Since W1 w → w.cell? ⟨B, 9, none⟩ = some (.int .i64 x.mode)
  b_x_kind : w64 x.kind
  l_x_kind : (enc (zz x.kind)).length ≤ 100
  b_x_at_ : w64 x.at_
  l_x_at_ : (enc (zz x.at_)).length ≤ 100
  b_x_bins_length : x.bins.length < 4611686018427387904
  l_x_bins_length : (enc x.bins.length).length ≤ 100
  b_x_dst : w64 x.dst
  l_x_dst : (enc (zz x.dst)).length ≤ 100
  b_x_node : w64 x.node
  l_x_node : (enc (zz x.node)).length ≤ 100
  b_x_op : x.op.ok
  l_x_op : x.op.by_.length ≤ 100
  b_x_mode : w64 x.mode
  l_x_mode : (enc (zz x.mode)).length ≤ 100
section
variable {x : CmdD} {B : Nat} {A : Option Addr} {c : Nat} {S : List Nat} {W1 : World} {a0 : Act} {Q : Exit → Act → World → Prop}
theorem cmdA_0 {o : Oper} {a : Act} {w : World} (h : HcmdA x B A c S W1 a0) (hi : cmdAOps[0]? = some o) (hh : Here cmdAOps (Said (cmdATab x B A c S)) (Since W1) a0 0 o a w) :
    wpOp Tryz.prog cmdAOps Q 0 (fun a' w' => ∃ v, a' = a.put o.dst v ∧ Said (cmdATab x B A c S) 0 v w' ∧ Since W1 w' ∧ Then w w') a w := by
  have hw := want_none (ops := cmdAOps) (a := a) (i := 0) (by kernel_rfl) hi
  have e1 := (hh.of_base 1 (by kernel_rfl)).trans h.p
  exact st_val hi hw _ (run_fieldAddr (op_of (op := .fieldAddr 30 (.tmp 1) 0) (by kernel_rfl) hi) (eval_at e1) (by kernel_rfl)) rfl hh.gr (Below.refl _ _)
theorem cmdA_1 {o : Oper} {a : Act} {w : World} (h : HcmdA x B A c S W1 a0) (hi : cmdAOps[1]? = some o) (hh : Here cmdAOps (Said (cmdATab x B A c S)) (Since W1) a0 1 o a w) :
    wpOp Tryz.prog cmdAOps Q 1 (fun a' w' => ∃ v, a' = a.put o.dst v ∧ Said (cmdATab x B A c S) 1 v w' ∧ Since W1 w' ∧ Then w w') a w := by
  have hw := want_none (ops := cmdAOps) (a := a) (i := 1) (by kernel_rfl) hi
  obtain ⟨v1, e1, hp1⟩ := hh.of_dep hi 0 5 (by kernel_rfl)
  have hp1 : v1 = .pointer (some ⟨B, 0, none⟩) := hp1
  subst hp1
  have c0 := h.c0 w hh.gr
  exact st_val hi hw _ (run_loadOp (op_of (op := .load 3 (.tmp 5)) (by kernel_rfl) hi) (eval_at e1) (by go_simp)) rfl hh.gr (Below.refl _ _)
theorem cmdA_2 {o : Oper} {a : Act} {w : World} (h : HcmdA x B A c S W1 a0) (hi : cmdAOps[2]? = some o) (hh : Here cmdAOps (Said (cmdATab x B A c S)) (Since W1) a0 2 o a w) :
    wpOp Tryz.prog cmdAOps Q 2 (fun a' w' => ∃ v, a' = a.put o.dst v ∧ Said (cmdATab x B A c S) 2 v w' ∧ Since W1 w' ∧ Then w w') a w := by
  have hw := want_none (ops := cmdAOps) (a := a) (i := 2) (by kernel_rfl) hi
  obtain ⟨v1, e1, hp1⟩ := hh.of_dep hi 1 6 (by kernel_rfl)
  have hp1 : v1 = .int .i64 x.kind := hp1
  subst hp1
  have hop := op_of (ops := cmdAOps) (op := .call { callee := .value (.func 24), args := #[.tmp 6], argTypes := #[3] }) (by kernel_rfl) hi
  exact st_call hi hw 24 _ (by simp [execOp, hop, resolve, invoke, Act.eval, Deferred.ofValue, e1]) ((w_any x.kind h.b_x_kind.1 h.b_x_kind.2 w).mono fun e w' hs => ⟨_, hs.1, rfl, Below.trans hh.gr (hs.2.mono hh.gr.size), hs.2⟩)
theorem cmdA_3 {o : Oper} {a : Act} {w : World} (h : HcmdA x B A c S W1 a0) (hi : cmdAOps[3]? = some o) (hh : Here cmdAOps (Said (cmdATab x B A c S)) (Since W1) a0 3 o a w) :
    wpOp Tryz.prog cmdAOps Q 3 (fun a' w' => ∃ v, a' = a.put o.dst v ∧ Said (cmdATab x B A c S) 3 v w' ∧ Since W1 w' ∧ Then w w') a w := by
  have hw := want_none (ops := cmdAOps) (a := a) (i := 3) (by kernel_rfl) hi
  have e1 := (hh.of_base 1 (by kernel_rfl)).trans h.p
  exact st_val hi hw _ (run_fieldAddr (op_of (op := .fieldAddr 30 (.tmp 1) 1) (by kernel_rfl) hi) (eval_at e1) (by kernel_rfl)) rfl hh.gr (Below.refl _ _)
theorem cmdA_4 {o : Oper} {a : Act} {w : World} (h : HcmdA x B A c S W1 a0) (hi : cmdAOps[4]? = some o) (hh : Here cmdAOps (Said (cmdATab x B A c S)) (Since W1) a0 4 o a w) :
    wpOp Tryz.prog cmdAOps Q 4 (fun a' w' => ∃ v, a' = a.put o.dst v ∧ Said (cmdATab x B A c S) 4 v w' ∧ Since W1 w' ∧ Then w w') a w := by
  have hw := want_none (ops := cmdAOps) (a := a) (i := 4) (by kernel_rfl) hi
  obtain ⟨v1, e1, hp1⟩ := hh.of_dep hi 3 8 (by kernel_rfl)
  have hp1 : v1 = .pointer (some ⟨B, 1, none⟩) := hp1
  subst hp1
  have c1 := h.c1 w hh.gr
  exact st_val hi hw _ (run_loadOp (op_of (op := .load 2 (.tmp 8)) (by kernel_rfl) hi) (eval_at e1) (by go_simp)) rfl hh.gr (Below.refl _ _)
theorem cmdA_5 {o : Oper} {a : Act} {w : World} (h : HcmdA x B A c S W1 a0) (hi : cmdAOps[5]? = some o) (hh : Here cmdAOps (Said (cmdATab x B A c S)) (Since W1) a0 5 o a w) :
    wpOp Tryz.prog cmdAOps Q 5 (fun a' w' => ∃ v, a' = a.put o.dst v ∧ Said (cmdATab x B A c S) 5 v w' ∧ Since W1 w' ∧ Then w w') a w := by
  have hw := want_none (ops := cmdAOps) (a := a) (i := 5) (by kernel_rfl) hi
  obtain ⟨v1, e1, hp1⟩ := hh.of_dep hi 4 9 (by kernel_rfl)
  have hp1 : v1 = .int .i64 x.at_ := hp1
  subst hp1
  have hop := op_of (ops := cmdAOps) (op := .call { callee := .value (.func 25), args := #[.tmp 9], argTypes := #[2] }) (by kernel_rfl) hi
  exact st_call hi hw 25 _ (by simp [execOp, hop, resolve, invoke, Act.eval, Deferred.ofValue, e1]) ((Int_any x.at_ h.b_x_at_.1 h.b_x_at_.2 w).mono fun e w' hs => ⟨_, hs.1, rfl, Below.trans hh.gr (hs.2.mono hh.gr.size), hs.2⟩)
theorem cmdA_6 {o : Oper} {a : Act} {w : World} (h : HcmdA x B A c S W1 a0) (hi : cmdAOps[6]? = some o) (hh : Here cmdAOps (Said (cmdATab x B A c S)) (Since W1) a0 6 o a w) :
    wpOp Tryz.prog cmdAOps Q 6 (fun a' w' => ∃ v, a' = a.put o.dst v ∧ Said (cmdATab x B A c S) 6 v w' ∧ Since W1 w' ∧ Then w w') a w := by
  have hw := want_none (ops := cmdAOps) (a := a) (i := 6) (by kernel_rfl) hi
  obtain ⟨v1, e1, hp1⟩ := hh.of_dep hi 2 7 (by kernel_rfl)
  have hp1 : v1 = .string (sb (enc (zz x.kind))) := hp1
  subst hp1
  obtain ⟨v2, e2, hp2⟩ := hh.of_dep hi 5 10 (by kernel_rfl)
  have hp2 : v2 = .string (sb (enc (zz x.at_))) := hp2
  subst hp2
  refine st_val hi hw _ (run_bin (op_of (op := .binOp .add 9 (.tmp 7) (.tmp 10) 9) (by kernel_rfl) hi) (eval_at e1) (eval_at e2) (eqGuard_other (by simp) (by simp) w) (add_sb _ _ ?_ w)) rfl hh.gr (Below.refl _ _)
  try simp only [List.length_append, List.length_cons, List.length_nil]
  have := h.l_x_kind; have := h.l_x_at_; have := h.l_x_bins_length; omega
theorem cmdA_7 {o : Oper} {a : Act} {w : World} (h : HcmdA x B A c S W1 a0) (hi : cmdAOps[7]? = some o) (hh : Here cmdAOps (Said (cmdATab x B A c S)) (Since W1) a0 7 o a w) :
    wpOp Tryz.prog cmdAOps Q 7 (fun a' w' => ∃ v, a' = a.put o.dst v ∧ Said (cmdATab x B A c S) 7 v w' ∧ Since W1 w' ∧ Then w w') a w := by
  have hw := want_none (ops := cmdAOps) (a := a) (i := 7) (by kernel_rfl) hi
  have e1 := (hh.of_base 1 (by kernel_rfl)).trans h.p
  exact st_val hi hw _ (run_fieldAddr (op_of (op := .fieldAddr 30 (.tmp 1) 2) (by kernel_rfl) hi) (eval_at e1) (by kernel_rfl)) rfl hh.gr (Below.refl _ _)
theorem cmdA_8 {o : Oper} {a : Act} {w : World} (h : HcmdA x B A c S W1 a0) (hi : cmdAOps[8]? = some o) (hh : Here cmdAOps (Said (cmdATab x B A c S)) (Since W1) a0 8 o a w) :
    wpOp Tryz.prog cmdAOps Q 8 (fun a' w' => ∃ v, a' = a.put o.dst v ∧ Said (cmdATab x B A c S) 8 v w' ∧ Since W1 w' ∧ Then w w') a w := by
  have hw := want_none (ops := cmdAOps) (a := a) (i := 8) (by kernel_rfl) hi
  obtain ⟨v1, e1, hp1⟩ := hh.of_dep hi 7 12 (by kernel_rfl)
  have hp1 : v1 = .pointer (some ⟨B, 2, none⟩) := hp1
  subst hp1
  have c2 := h.c2 w hh.gr
  exact st_val hi hw _ (run_loadOp (op_of (op := .load 26 (.tmp 12)) (by kernel_rfl) hi) (eval_at e1) (by go_simp)) rfl hh.gr (Below.refl _ _)
theorem cmdA_9 {o : Oper} {a : Act} {w : World} (h : HcmdA x B A c S W1 a0) (hi : cmdAOps[9]? = some o) (hh : Here cmdAOps (Said (cmdATab x B A c S)) (Since W1) a0 9 o a w) :
    wpOp Tryz.prog cmdAOps Q 9 (fun a' w' => ∃ v, a' = a.put o.dst v ∧ Said (cmdATab x B A c S) 9 v w' ∧ Since W1 w' ∧ Then w w') a w := by
  have hw := want_none (ops := cmdAOps) (a := a) (i := 9) (by kernel_rfl) hi
  obtain ⟨v1, e1, hp1⟩ := hh.of_dep hi 8 13 (by kernel_rfl)
  have hp1 : v1 = .slice A x.bins.length c := hp1
  subst hp1
  exact st_val hi hw _ (run_len (op_of (op := .call { callee := .builtin .len, args := #[.tmp 13], argTypes := #[26] }) (by kernel_rfl) hi) (eval_at e1) (by go_simp)) rfl hh.gr (Below.refl _ _)
theorem cmdA_10 {o : Oper} {a : Act} {w : World} (h : HcmdA x B A c S W1 a0) (hi : cmdAOps[10]? = some o) (hh : Here cmdAOps (Said (cmdATab x B A c S)) (Since W1) a0 10 o a w) :
    wpOp Tryz.prog cmdAOps Q 10 (fun a' w' => ∃ v, a' = a.put o.dst v ∧ Said (cmdATab x B A c S) 10 v w' ∧ Since W1 w' ∧ Then w w') a w := by
  have hw := want_none (ops := cmdAOps) (a := a) (i := 10) (by kernel_rfl) hi
  obtain ⟨v1, e1, hp1⟩ := hh.of_dep hi 9 14 (by kernel_rfl)
  have hp1 : v1 = .int .i64 (x.bins.length : Nat) := hp1
  subst hp1
  exact st_val hi hw _ (run_conv (op_of (op := .convert 3 41 (.tmp 14)) (by kernel_rfl) hi) (eval_at e1) (conv_len x.bins.length (by have := h.b_x_bins_length; omega) w)) rfl hh.gr (Below.refl _ _)
theorem cmdA_11 {o : Oper} {a : Act} {w : World} (h : HcmdA x B A c S W1 a0) (hi : cmdAOps[11]? = some o) (hh : Here cmdAOps (Said (cmdATab x B A c S)) (Since W1) a0 11 o a w) :
    wpOp Tryz.prog cmdAOps Q 11 (fun a' w' => ∃ v, a' = a.put o.dst v ∧ Said (cmdATab x B A c S) 11 v w' ∧ Since W1 w' ∧ Then w w') a w := by
  have hw := want_none (ops := cmdAOps) (a := a) (i := 11) (by kernel_rfl) hi
  obtain ⟨v1, e1, hp1⟩ := hh.of_dep hi 10 15 (by kernel_rfl)
  have hp1 : v1 = .int .u64 (x.bins.length : Nat) := hp1
  subst hp1
  have hop := op_of (ops := cmdAOps) (op := .call { callee := .value (.func 31), args := #[.tmp 15], argTypes := #[41] }) (by kernel_rfl) hi
  exact st_call hi hw 31 _ (by simp [execOp, hop, resolve, invoke, Act.eval, Deferred.ofValue, e1]) ((Num_any x.bins.length (by have := h.b_x_bins_length; omega) w).mono fun e w' hs => ⟨_, hs.1, rfl, Below.trans hh.gr (hs.2.mono hh.gr.size), hs.2⟩)
theorem cmdA_12 {o : Oper} {a : Act} {w : World} (h : HcmdA x B A c S W1 a0) (hi : cmdAOps[12]? = some o) (hh : Here cmdAOps (Said (cmdATab x B A c S)) (Since W1) a0 12 o a w) :
    wpOp Tryz.prog cmdAOps Q 12 (fun a' w' => ∃ v, a' = a.put o.dst v ∧ Said (cmdATab x B A c S) 12 v w' ∧ Since W1 w' ∧ Then w w') a w := by
  have hw := want_none (ops := cmdAOps) (a := a) (i := 12) (by kernel_rfl) hi
  obtain ⟨v1, e1, hp1⟩ := hh.of_dep hi 6 11 (by kernel_rfl)
  have hp1 : v1 = .string (sb ((enc (zz x.kind)) ++ (enc (zz x.at_)))) := hp1
  subst hp1
  obtain ⟨v2, e2, hp2⟩ := hh.of_dep hi 11 16 (by kernel_rfl)
  have hp2 : v2 = .string (sb (enc x.bins.length)) := hp2
  subst hp2
  refine st_val hi hw _ (run_bin (op_of (op := .binOp .add 9 (.tmp 11) (.tmp 16) 9) (by kernel_rfl) hi) (eval_at e1) (eval_at e2) (eqGuard_other (by simp) (by simp) w) (add_sb _ _ ?_ w)) rfl hh.gr (Below.refl _ _)
  try simp only [List.length_append, List.length_cons, List.length_nil]
  have := h.l_x_kind; have := h.l_x_at_; have := h.l_x_bins_length; omega
theorem cmdA_13 {o : Oper} {a : Act} {w : World} (h : HcmdA x B A c S W1 a0) (hi : cmdAOps[13]? = some o) (hh : Here cmdAOps (Said (cmdATab x B A c S)) (Since W1) a0 13 o a w) :
    wpOp Tryz.prog cmdAOps Q 13 (fun a' w' => ∃ v, a' = a.put o.dst v ∧ Said (cmdATab x B A c S) 13 v w' ∧ Since W1 w' ∧ Then w w') a w := by
  have hw := want_none (ops := cmdAOps) (a := a) (i := 13) (by kernel_rfl) hi
  obtain ⟨v1, e1, hp1⟩ := hh.of_dep hi 12 17 (by kernel_rfl)
  have hp1 : v1 = .string (sb (((enc (zz x.kind)) ++ (enc (zz x.at_))) ++ (enc x.bins.length))) := hp1
  subst hp1
  exact st_val hi hw _ (run_assign (op_of (op := .assign (.tmp 17)) (by kernel_rfl) hi) (eval_at e1)) rfl hh.gr (Below.refl _ _)
theorem cmdA_mono (i : Nat) (v : Value) (w w' : World) (h : Said (cmdATab x B A c S) i v w) (hx : Then w w') : Said (cmdATab x B A c S) i v w' := by
  unfold Said at *
  split at h
  · exact h
  · rename_i f hf
    unfold cmdATab at hf
    split at hf <;> first | (cases hf; done) | (cases hf; exact Made1.grown h hx)
theorem cmdA_steps (h : HcmdA x B A c S W1 a0) : ∀ (i : Nat) (o : Oper) (a : Act) (w : World), cmdAOps[i]? = some o → Here cmdAOps (Said (cmdATab x B A c S)) (Since W1) a0 i o a w →
    wpOp Tryz.prog cmdAOps Q i (fun a' w' => ∃ v, a' = a.put o.dst v ∧ Said (cmdATab x B A c S) i v w' ∧ Since W1 w' ∧ Then w w') a w := by
  intro i o a w hi hh
  match i, hi, hh with
  | 0, hi, hh => exact cmdA_0 h hi hh
  | 1, hi, hh => exact cmdA_1 h hi hh
  | 2, hi, hh => exact cmdA_2 h hi hh
  | 3, hi, hh => exact cmdA_3 h hi hh
  | 4, hi, hh => exact cmdA_4 h hi hh
  | 5, hi, hh => exact cmdA_5 h hi hh
  | 6, hi, hh => exact cmdA_6 h hi hh
  | 7, hi, hh => exact cmdA_7 h hi hh
  | 8, hi, hh => exact cmdA_8 h hi hh
  | 9, hi, hh => exact cmdA_9 h hi hh
  | 10, hi, hh => exact cmdA_10 h hi hh
  | 11, hi, hh => exact cmdA_11 h hi hh
  | 12, hi, hh => exact cmdA_12 h hi hh
  | 13, hi, hh => exact cmdA_13 h hi hh
  | n + 14, hi, _ =>
    exfalso
    have h1 := (Array.getElem?_eq_some_iff.1 hi).1
    have h2 : cmdAOps.size = 14 := by kernel_rfl
    omega
end
noncomputable def cmdBOps : Array Oper := regAt Tryz.f12 6
noncomputable def cmdBTab (x : CmdD) (B : Nat) (A : Option Addr) (c : Nat) (S : List Nat) (i : Nat) : Value ⊕ (Value → World → Prop) := match i with
  | 0 => .inl (.string (sb S))
  | 1 => .inl (.pointer (some ⟨B, 3, none⟩))
  | 2 => .inl (.int .i64 x.dst)
  | 3 => .inl (.string (sb (enc (zz x.dst))))
  | 4 => .inl (.string (sb ((S) ++ (enc (zz x.dst)))))
  | 5 => .inl (.pointer (some ⟨B, 4, none⟩))
  | 6 => .inl (.int .i64 x.node)
  | 7 => .inl (.string (sb (enc (zz x.node))))
  | 8 => .inl (.string (sb (((S) ++ (enc (zz x.dst))) ++ (enc (zz x.node)))))
  | 9 => .inl (.pointer (some ⟨B, 5, none⟩))
  | 10 => .inl (.agg #[.int .i64 x.op.kind, .int .i64 x.op.a, .int .i64 x.op.b, .int .i64 x.op.agg])
  | 11 => .inl (.string (sb (x.op.by_)))
  | 12 => .inl (.string (sb ((((S) ++ (enc (zz x.dst))) ++ (enc (zz x.node))) ++ (x.op.by_))))
  | 13 => .inl (.pointer (some ⟨B, 9, none⟩))
  | 14 => .inl (.int .i64 x.mode)
  | 15 => .inl (.string (sb (enc (zz x.mode))))
  | 16 => .inl (.string (sb (((((S) ++ (enc (zz x.dst))) ++ (enc (zz x.node))) ++ (x.op.by_)) ++ (enc (zz x.mode)))))
  | 17 => .inl (.string (sb (((((S) ++ (enc (zz x.dst))) ++ (enc (zz x.node))) ++ (x.op.by_)) ++ (enc (zz x.mode)))))
  | _ => .inl undef
structure HcmdB (x : CmdD) (B : Nat) (A : Option Addr) (c : Nat) (S : List Nat) (W1 : World) (a0 : Act) : Prop where
  ok : x.ok
  p : a0.tmps[1]? = some (.pointer (some ⟨B, 0, none⟩))
  c0 : ∀ w, Since W1 w → w.cell? ⟨B, 0, none⟩ = some (.int .i64 x.kind)
  c1 : ∀ w, Since W1 w → w.cell? ⟨B, 1, none⟩ = some (.int .i64 x.at_)
  c2 : ∀ w, Since W1 w → w.cell? ⟨B, 2, none⟩ = some (.slice A x.bins.length c)
  c3 : ∀ w, Since W1 w → w.cell? ⟨B, 3, none⟩ = some (.int .i64 x.dst)
  c4 : ∀ w, Since W1 w → w.cell? ⟨B, 4, none⟩ = some (.int .i64 x.node)
  c5 : ∀ w, Since W1 w → w.cell? ⟨B, 5, none⟩ = some (.int .i64 x.op.kind)
  c6 : ∀ w, Since W1 w → w.cell? ⟨B, 6, none⟩ = some (.int .i64 x.op.a)
  c7 : ∀ w, Since W1 w → w.cell? ⟨B, 7, none⟩ = some (.int .i64 x.op.b)
  c8 : ∀ w, Since W1 w → w.cell? ⟨B, 8, none⟩ = some (.int .i64 x.op.agg)
  c9 : ∀ w, Since W1 w → w.cell? ⟨B, 9, none⟩ = some (.int .i64 x.mode)
  s3 : a0.tmps[3]? = some (.string (sb S))
  l_S : S.length ≤ 1000000000000000
  b_x_kind : w64 x.kind
  l_x_kind : (enc (zz x.kind)).length ≤ 100
  b_x_at_ : w64 x.at_
  l_x_at_ : (enc (zz x.at_)).length ≤ 100
  b_x_bins_length : x.bins.length < 4611686018427387904
  l_x_bins_length : (enc x.bins.length).length ≤ 100
  b_x_dst : w64 x.dst
  l_x_dst : (enc (zz x.dst)).length ≤ 100
  b_x_node : w64 x.node
  l_x_node : (enc (zz x.node)).length ≤ 100
  b_x_op : x.op.ok
  l_x_op : x.op.by_.length ≤ 100
  b_x_mode : w64 x.mode
  l_x_mode : (enc (zz x.mode)).length ≤ 100
section
variable {x : CmdD} {B : Nat} {A : Option Addr} {c : Nat} {S : List Nat} {W1 : World} {a0 : Act} {Q : Exit → Act → World → Prop}
theorem cmdB_0 {o : Oper} {a : Act} {w : World} (h : HcmdB x B A c S W1 a0) (hi : cmdBOps[0]? = some o) (hh : Here cmdBOps (Said (cmdBTab x B A c S)) (Since W1) a0 0 o a w) :
    wpOp Tryz.prog cmdBOps Q 0 (fun a' w' => ∃ v, a' = a.put o.dst v ∧ Said (cmdBTab x B A c S) 0 v w' ∧ Since W1 w' ∧ Then w w') a w := by
  have hw := want_none (ops := cmdBOps) (a := a) (i := 0) (by kernel_rfl) hi
  have e1 := (hh.of_base 3 (by kernel_rfl)).trans h.s3
  exact st_val hi hw _ (run_move (op_of (op := .move (.tmp 3)) (by kernel_rfl) hi) (eval_at e1)) rfl hh.gr (Below.refl _ _)
theorem cmdB_1 {o : Oper} {a : Act} {w : World} (h : HcmdB x B A c S W1 a0) (hi : cmdBOps[1]? = some o) (hh : Here cmdBOps (Said (cmdBTab x B A c S)) (Since W1) a0 1 o a w) :
    wpOp Tryz.prog cmdBOps Q 1 (fun a' w' => ∃ v, a' = a.put o.dst v ∧ Said (cmdBTab x B A c S) 1 v w' ∧ Since W1 w' ∧ Then w w') a w := by
  have hw := want_none (ops := cmdBOps) (a := a) (i := 1) (by kernel_rfl) hi
  have e1 := (hh.of_base 1 (by kernel_rfl)).trans h.p
  exact st_val hi hw _ (run_fieldAddr (op_of (op := .fieldAddr 30 (.tmp 1) 3) (by kernel_rfl) hi) (eval_at e1) (by kernel_rfl)) rfl hh.gr (Below.refl _ _)
theorem cmdB_2 {o : Oper} {a : Act} {w : World} (h : HcmdB x B A c S W1 a0) (hi : cmdBOps[2]? = some o) (hh : Here cmdBOps (Said (cmdBTab x B A c S)) (Since W1) a0 2 o a w) :
    wpOp Tryz.prog cmdBOps Q 2 (fun a' w' => ∃ v, a' = a.put o.dst v ∧ Said (cmdBTab x B A c S) 2 v w' ∧ Since W1 w' ∧ Then w w') a w := by
  have hw := want_none (ops := cmdBOps) (a := a) (i := 2) (by kernel_rfl) hi
  obtain ⟨v1, e1, hp1⟩ := hh.of_dep hi 1 34 (by kernel_rfl)
  have hp1 : v1 = .pointer (some ⟨B, 3, none⟩) := hp1
  subst hp1
  have c3 := h.c3 w hh.gr
  exact st_val hi hw _ (run_loadOp (op_of (op := .load 3 (.tmp 34)) (by kernel_rfl) hi) (eval_at e1) (by go_simp)) rfl hh.gr (Below.refl _ _)
theorem cmdB_3 {o : Oper} {a : Act} {w : World} (h : HcmdB x B A c S W1 a0) (hi : cmdBOps[3]? = some o) (hh : Here cmdBOps (Said (cmdBTab x B A c S)) (Since W1) a0 3 o a w) :
    wpOp Tryz.prog cmdBOps Q 3 (fun a' w' => ∃ v, a' = a.put o.dst v ∧ Said (cmdBTab x B A c S) 3 v w' ∧ Since W1 w' ∧ Then w w') a w := by
  have hw := want_none (ops := cmdBOps) (a := a) (i := 3) (by kernel_rfl) hi
  obtain ⟨v1, e1, hp1⟩ := hh.of_dep hi 2 35 (by kernel_rfl)
  have hp1 : v1 = .int .i64 x.dst := hp1
  subst hp1
  have hop := op_of (ops := cmdBOps) (op := .call { callee := .value (.func 24), args := #[.tmp 35], argTypes := #[3] }) (by kernel_rfl) hi
  exact st_call hi hw 24 _ (by simp [execOp, hop, resolve, invoke, Act.eval, Deferred.ofValue, e1]) ((w_any x.dst h.b_x_dst.1 h.b_x_dst.2 w).mono fun e w' hs => ⟨_, hs.1, rfl, Below.trans hh.gr (hs.2.mono hh.gr.size), hs.2⟩)
theorem cmdB_4 {o : Oper} {a : Act} {w : World} (h : HcmdB x B A c S W1 a0) (hi : cmdBOps[4]? = some o) (hh : Here cmdBOps (Said (cmdBTab x B A c S)) (Since W1) a0 4 o a w) :
    wpOp Tryz.prog cmdBOps Q 4 (fun a' w' => ∃ v, a' = a.put o.dst v ∧ Said (cmdBTab x B A c S) 4 v w' ∧ Since W1 w' ∧ Then w w') a w := by
  have hw := want_none (ops := cmdBOps) (a := a) (i := 4) (by kernel_rfl) hi
  obtain ⟨v1, e1, hp1⟩ := hh.of_dep hi 0 33 (by kernel_rfl)
  have hp1 : v1 = .string (sb S) := hp1
  subst hp1
  obtain ⟨v2, e2, hp2⟩ := hh.of_dep hi 3 36 (by kernel_rfl)
  have hp2 : v2 = .string (sb (enc (zz x.dst))) := hp2
  subst hp2
  refine st_val hi hw _ (run_bin (op_of (op := .binOp .add 9 (.tmp 33) (.tmp 36) 9) (by kernel_rfl) hi) (eval_at e1) (eval_at e2) (eqGuard_other (by simp) (by simp) w) (add_sb _ _ ?_ w)) rfl hh.gr (Below.refl _ _)
  try simp only [List.length_append, List.length_cons, List.length_nil]
  have := h.l_S; have := h.l_x_dst; have := h.l_x_node; have := h.l_x_op; have := h.l_x_mode; omega
theorem cmdB_5 {o : Oper} {a : Act} {w : World} (h : HcmdB x B A c S W1 a0) (hi : cmdBOps[5]? = some o) (hh : Here cmdBOps (Said (cmdBTab x B A c S)) (Since W1) a0 5 o a w) :
    wpOp Tryz.prog cmdBOps Q 5 (fun a' w' => ∃ v, a' = a.put o.dst v ∧ Said (cmdBTab x B A c S) 5 v w' ∧ Since W1 w' ∧ Then w w') a w := by
  have hw := want_none (ops := cmdBOps) (a := a) (i := 5) (by kernel_rfl) hi
  have e1 := (hh.of_base 1 (by kernel_rfl)).trans h.p
  exact st_val hi hw _ (run_fieldAddr (op_of (op := .fieldAddr 30 (.tmp 1) 4) (by kernel_rfl) hi) (eval_at e1) (by kernel_rfl)) rfl hh.gr (Below.refl _ _)
theorem cmdB_6 {o : Oper} {a : Act} {w : World} (h : HcmdB x B A c S W1 a0) (hi : cmdBOps[6]? = some o) (hh : Here cmdBOps (Said (cmdBTab x B A c S)) (Since W1) a0 6 o a w) :
    wpOp Tryz.prog cmdBOps Q 6 (fun a' w' => ∃ v, a' = a.put o.dst v ∧ Said (cmdBTab x B A c S) 6 v w' ∧ Since W1 w' ∧ Then w w') a w := by
  have hw := want_none (ops := cmdBOps) (a := a) (i := 6) (by kernel_rfl) hi
  obtain ⟨v1, e1, hp1⟩ := hh.of_dep hi 5 38 (by kernel_rfl)
  have hp1 : v1 = .pointer (some ⟨B, 4, none⟩) := hp1
  subst hp1
  have c4 := h.c4 w hh.gr
  exact st_val hi hw _ (run_loadOp (op_of (op := .load 3 (.tmp 38)) (by kernel_rfl) hi) (eval_at e1) (by go_simp)) rfl hh.gr (Below.refl _ _)
theorem cmdB_7 {o : Oper} {a : Act} {w : World} (h : HcmdB x B A c S W1 a0) (hi : cmdBOps[7]? = some o) (hh : Here cmdBOps (Said (cmdBTab x B A c S)) (Since W1) a0 7 o a w) :
    wpOp Tryz.prog cmdBOps Q 7 (fun a' w' => ∃ v, a' = a.put o.dst v ∧ Said (cmdBTab x B A c S) 7 v w' ∧ Since W1 w' ∧ Then w w') a w := by
  have hw := want_none (ops := cmdBOps) (a := a) (i := 7) (by kernel_rfl) hi
  obtain ⟨v1, e1, hp1⟩ := hh.of_dep hi 6 39 (by kernel_rfl)
  have hp1 : v1 = .int .i64 x.node := hp1
  subst hp1
  have hop := op_of (ops := cmdBOps) (op := .call { callee := .value (.func 24), args := #[.tmp 39], argTypes := #[3] }) (by kernel_rfl) hi
  exact st_call hi hw 24 _ (by simp [execOp, hop, resolve, invoke, Act.eval, Deferred.ofValue, e1]) ((w_any x.node h.b_x_node.1 h.b_x_node.2 w).mono fun e w' hs => ⟨_, hs.1, rfl, Below.trans hh.gr (hs.2.mono hh.gr.size), hs.2⟩)
theorem cmdB_8 {o : Oper} {a : Act} {w : World} (h : HcmdB x B A c S W1 a0) (hi : cmdBOps[8]? = some o) (hh : Here cmdBOps (Said (cmdBTab x B A c S)) (Since W1) a0 8 o a w) :
    wpOp Tryz.prog cmdBOps Q 8 (fun a' w' => ∃ v, a' = a.put o.dst v ∧ Said (cmdBTab x B A c S) 8 v w' ∧ Since W1 w' ∧ Then w w') a w := by
  have hw := want_none (ops := cmdBOps) (a := a) (i := 8) (by kernel_rfl) hi
  obtain ⟨v1, e1, hp1⟩ := hh.of_dep hi 4 37 (by kernel_rfl)
  have hp1 : v1 = .string (sb ((S) ++ (enc (zz x.dst)))) := hp1
  subst hp1
  obtain ⟨v2, e2, hp2⟩ := hh.of_dep hi 7 40 (by kernel_rfl)
  have hp2 : v2 = .string (sb (enc (zz x.node))) := hp2
  subst hp2
  refine st_val hi hw _ (run_bin (op_of (op := .binOp .add 9 (.tmp 37) (.tmp 40) 9) (by kernel_rfl) hi) (eval_at e1) (eval_at e2) (eqGuard_other (by simp) (by simp) w) (add_sb _ _ ?_ w)) rfl hh.gr (Below.refl _ _)
  try simp only [List.length_append, List.length_cons, List.length_nil]
  have := h.l_S; have := h.l_x_dst; have := h.l_x_node; have := h.l_x_op; have := h.l_x_mode; omega
theorem cmdB_9 {o : Oper} {a : Act} {w : World} (h : HcmdB x B A c S W1 a0) (hi : cmdBOps[9]? = some o) (hh : Here cmdBOps (Said (cmdBTab x B A c S)) (Since W1) a0 9 o a w) :
    wpOp Tryz.prog cmdBOps Q 9 (fun a' w' => ∃ v, a' = a.put o.dst v ∧ Said (cmdBTab x B A c S) 9 v w' ∧ Since W1 w' ∧ Then w w') a w := by
  have hw := want_none (ops := cmdBOps) (a := a) (i := 9) (by kernel_rfl) hi
  have e1 := (hh.of_base 1 (by kernel_rfl)).trans h.p
  exact st_val hi hw _ (run_fieldAddr (op_of (op := .fieldAddr 30 (.tmp 1) 5) (by kernel_rfl) hi) (eval_at e1) (by kernel_rfl)) rfl hh.gr (Below.refl _ _)
theorem cmdB_10 {o : Oper} {a : Act} {w : World} (h : HcmdB x B A c S W1 a0) (hi : cmdBOps[10]? = some o) (hh : Here cmdBOps (Said (cmdBTab x B A c S)) (Since W1) a0 10 o a w) :
    wpOp Tryz.prog cmdBOps Q 10 (fun a' w' => ∃ v, a' = a.put o.dst v ∧ Said (cmdBTab x B A c S) 10 v w' ∧ Since W1 w' ∧ Then w w') a w := by
  have hw := want_none (ops := cmdBOps) (a := a) (i := 10) (by kernel_rfl) hi
  obtain ⟨v1, e1, hp1⟩ := hh.of_dep hi 9 42 (by kernel_rfl)
  have hp1 : v1 = .pointer (some ⟨B, 5, none⟩) := hp1
  subst hp1
  have c5 := h.c5 w hh.gr
  have c6 := h.c6 w hh.gr
  have c7 := h.c7 w hh.gr
  have c8 := h.c8 w hh.gr
  exact st_val hi hw _ (run_loadOp (op_of (op := .load 28 (.tmp 42)) (by kernel_rfl) hi) (eval_at e1) (by go_simp)) rfl hh.gr (Below.refl _ _)
theorem cmdB_11 {o : Oper} {a : Act} {w : World} (h : HcmdB x B A c S W1 a0) (hi : cmdBOps[11]? = some o) (hh : Here cmdBOps (Said (cmdBTab x B A c S)) (Since W1) a0 11 o a w) :
    wpOp Tryz.prog cmdBOps Q 11 (fun a' w' => ∃ v, a' = a.put o.dst v ∧ Said (cmdBTab x B A c S) 11 v w' ∧ Since W1 w' ∧ Then w w') a w := by
  have hw := want_none (ops := cmdBOps) (a := a) (i := 11) (by kernel_rfl) hi
  obtain ⟨v1, e1, hp1⟩ := hh.of_dep hi 10 43 (by kernel_rfl)
  have hp1 : v1 = .agg #[.int .i64 x.op.kind, .int .i64 x.op.a, .int .i64 x.op.b, .int .i64 x.op.agg] := hp1
  subst hp1
  have hop := op_of (ops := cmdBOps) (op := .call { callee := .value (.func 14), args := #[.tmp 43], argTypes := #[28] }) (by kernel_rfl) hi
  exact st_call hi hw 14 _ (by simp [execOp, hop, resolve, invoke, Act.eval, Deferred.ofValue, e1]) ((ref_opn x.op w h.b_x_op).mono fun e w' hs => ⟨_, hs.1, rfl, Below.trans hh.gr (hs.2.mono hh.gr.size), hs.2⟩)
theorem cmdB_12 {o : Oper} {a : Act} {w : World} (h : HcmdB x B A c S W1 a0) (hi : cmdBOps[12]? = some o) (hh : Here cmdBOps (Said (cmdBTab x B A c S)) (Since W1) a0 12 o a w) :
    wpOp Tryz.prog cmdBOps Q 12 (fun a' w' => ∃ v, a' = a.put o.dst v ∧ Said (cmdBTab x B A c S) 12 v w' ∧ Since W1 w' ∧ Then w w') a w := by
  have hw := want_none (ops := cmdBOps) (a := a) (i := 12) (by kernel_rfl) hi
  obtain ⟨v1, e1, hp1⟩ := hh.of_dep hi 8 41 (by kernel_rfl)
  have hp1 : v1 = .string (sb (((S) ++ (enc (zz x.dst))) ++ (enc (zz x.node)))) := hp1
  subst hp1
  obtain ⟨v2, e2, hp2⟩ := hh.of_dep hi 11 44 (by kernel_rfl)
  have hp2 : v2 = .string (sb (x.op.by_)) := hp2
  subst hp2
  refine st_val hi hw _ (run_bin (op_of (op := .binOp .add 9 (.tmp 41) (.tmp 44) 9) (by kernel_rfl) hi) (eval_at e1) (eval_at e2) (eqGuard_other (by simp) (by simp) w) (add_sb _ _ ?_ w)) rfl hh.gr (Below.refl _ _)
  try simp only [List.length_append, List.length_cons, List.length_nil]
  have := h.l_S; have := h.l_x_dst; have := h.l_x_node; have := h.l_x_op; have := h.l_x_mode; omega
theorem cmdB_13 {o : Oper} {a : Act} {w : World} (h : HcmdB x B A c S W1 a0) (hi : cmdBOps[13]? = some o) (hh : Here cmdBOps (Said (cmdBTab x B A c S)) (Since W1) a0 13 o a w) :
    wpOp Tryz.prog cmdBOps Q 13 (fun a' w' => ∃ v, a' = a.put o.dst v ∧ Said (cmdBTab x B A c S) 13 v w' ∧ Since W1 w' ∧ Then w w') a w := by
  have hw := want_none (ops := cmdBOps) (a := a) (i := 13) (by kernel_rfl) hi
  have e1 := (hh.of_base 1 (by kernel_rfl)).trans h.p
  exact st_val hi hw _ (run_fieldAddr (op_of (op := .fieldAddr 30 (.tmp 1) 6) (by kernel_rfl) hi) (eval_at e1) (by kernel_rfl)) rfl hh.gr (Below.refl _ _)
theorem cmdB_14 {o : Oper} {a : Act} {w : World} (h : HcmdB x B A c S W1 a0) (hi : cmdBOps[14]? = some o) (hh : Here cmdBOps (Said (cmdBTab x B A c S)) (Since W1) a0 14 o a w) :
    wpOp Tryz.prog cmdBOps Q 14 (fun a' w' => ∃ v, a' = a.put o.dst v ∧ Said (cmdBTab x B A c S) 14 v w' ∧ Since W1 w' ∧ Then w w') a w := by
  have hw := want_none (ops := cmdBOps) (a := a) (i := 14) (by kernel_rfl) hi
  obtain ⟨v1, e1, hp1⟩ := hh.of_dep hi 13 46 (by kernel_rfl)
  have hp1 : v1 = .pointer (some ⟨B, 9, none⟩) := hp1
  subst hp1
  have c9 := h.c9 w hh.gr
  exact st_val hi hw _ (run_loadOp (op_of (op := .load 3 (.tmp 46)) (by kernel_rfl) hi) (eval_at e1) (by go_simp)) rfl hh.gr (Below.refl _ _)
theorem cmdB_15 {o : Oper} {a : Act} {w : World} (h : HcmdB x B A c S W1 a0) (hi : cmdBOps[15]? = some o) (hh : Here cmdBOps (Said (cmdBTab x B A c S)) (Since W1) a0 15 o a w) :
    wpOp Tryz.prog cmdBOps Q 15 (fun a' w' => ∃ v, a' = a.put o.dst v ∧ Said (cmdBTab x B A c S) 15 v w' ∧ Since W1 w' ∧ Then w w') a w := by
  have hw := want_none (ops := cmdBOps) (a := a) (i := 15) (by kernel_rfl) hi
  obtain ⟨v1, e1, hp1⟩ := hh.of_dep hi 14 47 (by kernel_rfl)
  have hp1 : v1 = .int .i64 x.mode := hp1
  subst hp1
  have hop := op_of (ops := cmdBOps) (op := .call { callee := .value (.func 24), args := #[.tmp 47], argTypes := #[3] }) (by kernel_rfl) hi
  exact st_call hi hw 24 _ (by simp [execOp, hop, resolve, invoke, Act.eval, Deferred.ofValue, e1]) ((w_any x.mode h.b_x_mode.1 h.b_x_mode.2 w).mono fun e w' hs => ⟨_, hs.1, rfl, Below.trans hh.gr (hs.2.mono hh.gr.size), hs.2⟩)
theorem cmdB_16 {o : Oper} {a : Act} {w : World} (h : HcmdB x B A c S W1 a0) (hi : cmdBOps[16]? = some o) (hh : Here cmdBOps (Said (cmdBTab x B A c S)) (Since W1) a0 16 o a w) :
    wpOp Tryz.prog cmdBOps Q 16 (fun a' w' => ∃ v, a' = a.put o.dst v ∧ Said (cmdBTab x B A c S) 16 v w' ∧ Since W1 w' ∧ Then w w') a w := by
  have hw := want_none (ops := cmdBOps) (a := a) (i := 16) (by kernel_rfl) hi
  obtain ⟨v1, e1, hp1⟩ := hh.of_dep hi 12 45 (by kernel_rfl)
  have hp1 : v1 = .string (sb ((((S) ++ (enc (zz x.dst))) ++ (enc (zz x.node))) ++ (x.op.by_))) := hp1
  subst hp1
  obtain ⟨v2, e2, hp2⟩ := hh.of_dep hi 15 48 (by kernel_rfl)
  have hp2 : v2 = .string (sb (enc (zz x.mode))) := hp2
  subst hp2
  refine st_val hi hw _ (run_bin (op_of (op := .binOp .add 9 (.tmp 45) (.tmp 48) 9) (by kernel_rfl) hi) (eval_at e1) (eval_at e2) (eqGuard_other (by simp) (by simp) w) (add_sb _ _ ?_ w)) rfl hh.gr (Below.refl _ _)
  try simp only [List.length_append, List.length_cons, List.length_nil]
  have := h.l_S; have := h.l_x_dst; have := h.l_x_node; have := h.l_x_op; have := h.l_x_mode; omega
theorem cmdB_17 {o : Oper} {a : Act} {w : World} (h : HcmdB x B A c S W1 a0) (hi : cmdBOps[17]? = some o) (hh : Here cmdBOps (Said (cmdBTab x B A c S)) (Since W1) a0 17 o a w) :
    wpOp Tryz.prog cmdBOps Q 17 (fun a' w' => ∃ v, a' = a.put o.dst v ∧ Said (cmdBTab x B A c S) 17 v w' ∧ Since W1 w' ∧ Then w w') a w := by
  have hw := want_none (ops := cmdBOps) (a := a) (i := 17) (by kernel_rfl) hi
  obtain ⟨v1, e1, hp1⟩ := hh.of_dep hi 16 49 (by kernel_rfl)
  have hp1 : v1 = .string (sb (((((S) ++ (enc (zz x.dst))) ++ (enc (zz x.node))) ++ (x.op.by_)) ++ (enc (zz x.mode)))) := hp1
  subst hp1
  exact st_val hi hw _ (run_assign (op_of (op := .assign (.tmp 49)) (by kernel_rfl) hi) (eval_at e1)) rfl hh.gr (Below.refl _ _)
theorem cmdB_mono (i : Nat) (v : Value) (w w' : World) (h : Said (cmdBTab x B A c S) i v w) (hx : Then w w') : Said (cmdBTab x B A c S) i v w' := by
  unfold Said at *
  split at h
  · exact h
  · rename_i f hf
    unfold cmdBTab at hf
    split at hf <;> first | (cases hf; done) | (cases hf; exact Made1.grown h hx)
theorem cmdB_steps (h : HcmdB x B A c S W1 a0) : ∀ (i : Nat) (o : Oper) (a : Act) (w : World), cmdBOps[i]? = some o → Here cmdBOps (Said (cmdBTab x B A c S)) (Since W1) a0 i o a w →
    wpOp Tryz.prog cmdBOps Q i (fun a' w' => ∃ v, a' = a.put o.dst v ∧ Said (cmdBTab x B A c S) i v w' ∧ Since W1 w' ∧ Then w w') a w := by
  intro i o a w hi hh
  match i, hi, hh with
  | 0, hi, hh => exact cmdB_0 h hi hh
  | 1, hi, hh => exact cmdB_1 h hi hh
  | 2, hi, hh => exact cmdB_2 h hi hh
  | 3, hi, hh => exact cmdB_3 h hi hh
  | 4, hi, hh => exact cmdB_4 h hi hh
  | 5, hi, hh => exact cmdB_5 h hi hh
  | 6, hi, hh => exact cmdB_6 h hi hh
  | 7, hi, hh => exact cmdB_7 h hi hh
  | 8, hi, hh => exact cmdB_8 h hi hh
  | 9, hi, hh => exact cmdB_9 h hi hh
  | 10, hi, hh => exact cmdB_10 h hi hh
  | 11, hi, hh => exact cmdB_11 h hi hh
  | 12, hi, hh => exact cmdB_12 h hi hh
  | 13, hi, hh => exact cmdB_13 h hi hh
  | 14, hi, hh => exact cmdB_14 h hi hh
  | 15, hi, hh => exact cmdB_15 h hi hh
  | 16, hi, hh => exact cmdB_16 h hi hh
  | 17, hi, hh => exact cmdB_17 h hi hh
  | n + 18, hi, _ =>
    exfalso
    have h1 := (Array.getElem?_eq_some_iff.1 hi).1
    have h2 : cmdBOps.size = 18 := by kernel_rfl
    omega
end
noncomputable def chkAOps : Array Oper := regAt Tryz.f20 1
noncomputable def chkATab (x : ChkD) (B : Nat) (A : Option Addr) (c : Nat) (S : List Nat) (i : Nat) : Value ⊕ (Value → World → Prop) := match i with
  | 0 => .inl (.pointer (some ⟨B, 0, none⟩))
  | 1 => .inl (.int .i64 x.bin)
  | 2 => .inl (.string (sb (enc (zz x.bin))))
  | 3 => .inl (.pointer (some ⟨B, 1, none⟩))
  | 4 => .inl (.int .i64 x.span)
  | 5 => .inl (.string (sb (enc (zz x.span))))
  | 6 => .inl (.string (sb ((enc (zz x.bin)) ++ (enc (zz x.span)))))
  | 7 => .inl (.pointer (some ⟨B, 2, none⟩))
  | 8 => .inl (.bool x.last)
  | 9 => .inl (.string (sb (enc (tr x.last))))
  | 10 => .inl (.string (sb (((enc (zz x.bin)) ++ (enc (zz x.span))) ++ (enc (tr x.last)))))
  | 11 => .inl (.pointer (some ⟨B, 3, none⟩))
  | 12 => .inl (.slice A x.entries.length c)
  | 13 => .inl (.int .i64 (x.entries.length : Nat))
  | 14 => .inl (.int .u64 (x.entries.length : Nat))
  | 15 => .inl (.string (sb (enc x.entries.length)))
  | 16 => .inl (.string (sb ((((enc (zz x.bin)) ++ (enc (zz x.span))) ++ (enc (tr x.last))) ++ (enc x.entries.length))))
  | 17 => .inl (.string (sb ((((enc (zz x.bin)) ++ (enc (zz x.span))) ++ (enc (tr x.last))) ++ (enc x.entries.length))))
  | _ => .inl undef
structure HchkA (x : ChkD) (B : Nat) (A : Option Addr) (c : Nat) (S : List Nat) (W1 : World) (a0 : Act) : Prop where
  ok : x.ok
  p : a0.tmps[1]? = some (.pointer (some ⟨B, 0, none⟩))
  c0 : ∀ w, Since W1 w → w.cell? ⟨B, 0, none⟩ = some (.int .i64 x.bin)
  c1 : ∀ w, Since W1 w → w.cell? ⟨B, 1, none⟩ = some (.int .i64 x.span)
  c2 : ∀ w, Since W1 w → w.cell? ⟨B, 2, none⟩ = some (.bool x.last)
  c3 : ∀ w, Since W1 w → w.cell? ⟨B, 3, none⟩ = some (.slice A x.entries.length c)
  b_x_bin : w64 x.bin
  l_x_bin : (enc (zz x.bin)).length ≤ 100
  b_x_span : w64 x.span
  l_x_span : (enc (zz x.span)).length ≤ 100
  l_x_last : (enc (tr x.last)).length ≤ 100
  b_x_entries_length : x.entries.length < 4611686018427387904
  l_x_entries_length : (enc x.entries.length).length ≤ 100
section
variable {x : ChkD} {B : Nat} {A : Option Addr} {c : Nat} {S : List Nat} {W1 : World} {a0 : Act} {Q : Exit → Act → World → Prop}
theorem chkA_0 {o : Oper} {a : Act} {w : World} (h : HchkA x B A c S W1 a0) (hi : chkAOps[0]? = some o) (hh : Here chkAOps (Said (chkATab x B A c S)) (Since W1) a0 0 o a w) :
    wpOp Tryz.prog chkAOps Q 0 (fun a' w' => ∃ v, a' = a.put o.dst v ∧ Said (chkATab x B A c S) 0 v w' ∧ Since W1 w' ∧ Then w w') a w := by
  have hw := want_none (ops := chkAOps) (a := a) (i := 0) (by kernel_rfl) hi
  have e1 := (hh.of_base 1 (by kernel_rfl)).trans h.p
  exact st_val hi hw _ (run_fieldAddr (op_of (op := .fieldAddr 33 (.tmp 1) 0) (by kernel_rfl) hi) (eval_at e1) (by kernel_rfl)) rfl hh.gr (Below.refl _ _)
theorem chkA_1 {o : Oper} {a : Act} {w : World} (h : HchkA x B A c S W1 a0) (hi : chkAOps[1]? = some o) (hh : Here chkAOps (Said (chkATab x B A c S)) (Since W1) a0 1 o a w) :
    wpOp Tryz.prog chkAOps Q 1 (fun a' w' => ∃ v, a' = a.put o.dst v ∧ Said (chkATab x B A c S) 1 v w' ∧ Since W1 w' ∧ Then w w') a w := by
  have hw := want_none (ops := chkAOps) (a := a) (i := 1) (by kernel_rfl) hi
  obtain ⟨v1, e1, hp1⟩ := hh.of_dep hi 0 5 (by kernel_rfl)
  have hp1 : v1 = .pointer (some ⟨B, 0, none⟩) := hp1
  subst hp1
  have c0 := h.c0 w hh.gr
  exact st_val hi hw _ (run_loadOp (op_of (op := .load 3 (.tmp 5)) (by kernel_rfl) hi) (eval_at e1) (by go_simp)) rfl hh.gr (Below.refl _ _)
theorem chkA_2 {o : Oper} {a : Act} {w : World} (h : HchkA x B A c S W1 a0) (hi : chkAOps[2]? = some o) (hh : Here chkAOps (Said (chkATab x B A c S)) (Since W1) a0 2 o a w) :
    wpOp Tryz.prog chkAOps Q 2 (fun a' w' => ∃ v, a' = a.put o.dst v ∧ Said (chkATab x B A c S) 2 v w' ∧ Since W1 w' ∧ Then w w') a w := by
  have hw := want_none (ops := chkAOps) (a := a) (i := 2) (by kernel_rfl) hi
  obtain ⟨v1, e1, hp1⟩ := hh.of_dep hi 1 6 (by kernel_rfl)
  have hp1 : v1 = .int .i64 x.bin := hp1
  subst hp1
  have hop := op_of (ops := chkAOps) (op := .call { callee := .value (.func 24), args := #[.tmp 6], argTypes := #[3] }) (by kernel_rfl) hi
  exact st_call hi hw 24 _ (by simp [execOp, hop, resolve, invoke, Act.eval, Deferred.ofValue, e1]) ((w_any x.bin h.b_x_bin.1 h.b_x_bin.2 w).mono fun e w' hs => ⟨_, hs.1, rfl, Below.trans hh.gr (hs.2.mono hh.gr.size), hs.2⟩)
theorem chkA_3 {o : Oper} {a : Act} {w : World} (h : HchkA x B A c S W1 a0) (hi : chkAOps[3]? = some o) (hh : Here chkAOps (Said (chkATab x B A c S)) (Since W1) a0 3 o a w) :
    wpOp Tryz.prog chkAOps Q 3 (fun a' w' => ∃ v, a' = a.put o.dst v ∧ Said (chkATab x B A c S) 3 v w' ∧ Since W1 w' ∧ Then w w') a w := by
  have hw := want_none (ops := chkAOps) (a := a) (i := 3) (by kernel_rfl) hi
  have e1 := (hh.of_base 1 (by kernel_rfl)).trans h.p
  exact st_val hi hw _ (run_fieldAddr (op_of (op := .fieldAddr 33 (.tmp 1) 1) (by kernel_rfl) hi) (eval_at e1) (by kernel_rfl)) rfl hh.gr (Below.refl _ _)
theorem chkA_4 {o : Oper} {a : Act} {w : World} (h : HchkA x B A c S W1 a0) (hi : chkAOps[4]? = some o) (hh : Here chkAOps (Said (chkATab x B A c S)) (Since W1) a0 4 o a w) :
    wpOp Tryz.prog chkAOps Q 4 (fun a' w' => ∃ v, a' = a.put o.dst v ∧ Said (chkATab x B A c S) 4 v w' ∧ Since W1 w' ∧ Then w w') a w := by
  have hw := want_none (ops := chkAOps) (a := a) (i := 4) (by kernel_rfl) hi
  obtain ⟨v1, e1, hp1⟩ := hh.of_dep hi 3 8 (by kernel_rfl)
  have hp1 : v1 = .pointer (some ⟨B, 1, none⟩) := hp1
  subst hp1
  have c1 := h.c1 w hh.gr
  exact st_val hi hw _ (run_loadOp (op_of (op := .load 3 (.tmp 8)) (by kernel_rfl) hi) (eval_at e1) (by go_simp)) rfl hh.gr (Below.refl _ _)
theorem chkA_5 {o : Oper} {a : Act} {w : World} (h : HchkA x B A c S W1 a0) (hi : chkAOps[5]? = some o) (hh : Here chkAOps (Said (chkATab x B A c S)) (Since W1) a0 5 o a w) :
    wpOp Tryz.prog chkAOps Q 5 (fun a' w' => ∃ v, a' = a.put o.dst v ∧ Said (chkATab x B A c S) 5 v w' ∧ Since W1 w' ∧ Then w w') a w := by
  have hw := want_none (ops := chkAOps) (a := a) (i := 5) (by kernel_rfl) hi
  obtain ⟨v1, e1, hp1⟩ := hh.of_dep hi 4 9 (by kernel_rfl)
  have hp1 : v1 = .int .i64 x.span := hp1
  subst hp1
  have hop := op_of (ops := chkAOps) (op := .call { callee := .value (.func 24), args := #[.tmp 9], argTypes := #[3] }) (by kernel_rfl) hi
  exact st_call hi hw 24 _ (by simp [execOp, hop, resolve, invoke, Act.eval, Deferred.ofValue, e1]) ((w_any x.span h.b_x_span.1 h.b_x_span.2 w).mono fun e w' hs => ⟨_, hs.1, rfl, Below.trans hh.gr (hs.2.mono hh.gr.size), hs.2⟩)
theorem chkA_6 {o : Oper} {a : Act} {w : World} (h : HchkA x B A c S W1 a0) (hi : chkAOps[6]? = some o) (hh : Here chkAOps (Said (chkATab x B A c S)) (Since W1) a0 6 o a w) :
    wpOp Tryz.prog chkAOps Q 6 (fun a' w' => ∃ v, a' = a.put o.dst v ∧ Said (chkATab x B A c S) 6 v w' ∧ Since W1 w' ∧ Then w w') a w := by
  have hw := want_none (ops := chkAOps) (a := a) (i := 6) (by kernel_rfl) hi
  obtain ⟨v1, e1, hp1⟩ := hh.of_dep hi 2 7 (by kernel_rfl)
  have hp1 : v1 = .string (sb (enc (zz x.bin))) := hp1
  subst hp1
  obtain ⟨v2, e2, hp2⟩ := hh.of_dep hi 5 10 (by kernel_rfl)
  have hp2 : v2 = .string (sb (enc (zz x.span))) := hp2
  subst hp2
  refine st_val hi hw _ (run_bin (op_of (op := .binOp .add 9 (.tmp 7) (.tmp 10) 9) (by kernel_rfl) hi) (eval_at e1) (eval_at e2) (eqGuard_other (by simp) (by simp) w) (add_sb _ _ ?_ w)) rfl hh.gr (Below.refl _ _)
  try simp only [List.length_append, List.length_cons, List.length_nil]
  have := h.l_x_bin; have := h.l_x_span; have := h.l_x_last; have := h.l_x_entries_length; omega
theorem chkA_7 {o : Oper} {a : Act} {w : World} (h : HchkA x B A c S W1 a0) (hi : chkAOps[7]? = some o) (hh : Here chkAOps (Said (chkATab x B A c S)) (Since W1) a0 7 o a w) :
    wpOp Tryz.prog chkAOps Q 7 (fun a' w' => ∃ v, a' = a.put o.dst v ∧ Said (chkATab x B A c S) 7 v w' ∧ Since W1 w' ∧ Then w w') a w := by
  have hw := want_none (ops := chkAOps) (a := a) (i := 7) (by kernel_rfl) hi
  have e1 := (hh.of_base 1 (by kernel_rfl)).trans h.p
  exact st_val hi hw _ (run_fieldAddr (op_of (op := .fieldAddr 33 (.tmp 1) 2) (by kernel_rfl) hi) (eval_at e1) (by kernel_rfl)) rfl hh.gr (Below.refl _ _)
theorem chkA_8 {o : Oper} {a : Act} {w : World} (h : HchkA x B A c S W1 a0) (hi : chkAOps[8]? = some o) (hh : Here chkAOps (Said (chkATab x B A c S)) (Since W1) a0 8 o a w) :
    wpOp Tryz.prog chkAOps Q 8 (fun a' w' => ∃ v, a' = a.put o.dst v ∧ Said (chkATab x B A c S) 8 v w' ∧ Since W1 w' ∧ Then w w') a w := by
  have hw := want_none (ops := chkAOps) (a := a) (i := 8) (by kernel_rfl) hi
  obtain ⟨v1, e1, hp1⟩ := hh.of_dep hi 7 12 (by kernel_rfl)
  have hp1 : v1 = .pointer (some ⟨B, 2, none⟩) := hp1
  subst hp1
  have c2 := h.c2 w hh.gr
  exact st_val hi hw _ (run_loadOp (op_of (op := .load 4 (.tmp 12)) (by kernel_rfl) hi) (eval_at e1) (by go_simp)) rfl hh.gr (Below.refl _ _)
theorem chkA_9 {o : Oper} {a : Act} {w : World} (h : HchkA x B A c S W1 a0) (hi : chkAOps[9]? = some o) (hh : Here chkAOps (Said (chkATab x B A c S)) (Since W1) a0 9 o a w) :
    wpOp Tryz.prog chkAOps Q 9 (fun a' w' => ∃ v, a' = a.put o.dst v ∧ Said (chkATab x B A c S) 9 v w' ∧ Since W1 w' ∧ Then w w') a w := by
  have hw := want_none (ops := chkAOps) (a := a) (i := 9) (by kernel_rfl) hi
  obtain ⟨v1, e1, hp1⟩ := hh.of_dep hi 8 13 (by kernel_rfl)
  have hp1 : v1 = .bool x.last := hp1
  subst hp1
  have hop := op_of (ops := chkAOps) (op := .call { callee := .value (.func 28), args := #[.tmp 13], argTypes := #[4] }) (by kernel_rfl) hi
  exact st_call hi hw 28 _ (by simp [execOp, hop, resolve, invoke, Act.eval, Deferred.ofValue, e1]) ((tr_any x.last w).mono fun e w' hs => ⟨_, hs.1, rfl, Below.trans hh.gr (hs.2.mono hh.gr.size), hs.2⟩)
theorem chkA_10 {o : Oper} {a : Act} {w : World} (h : HchkA x B A c S W1 a0) (hi : chkAOps[10]? = some o) (hh : Here chkAOps (Said (chkATab x B A c S)) (Since W1) a0 10 o a w) :
    wpOp Tryz.prog chkAOps Q 10 (fun a' w' => ∃ v, a' = a.put o.dst v ∧ Said (chkATab x B A c S) 10 v w' ∧ Since W1 w' ∧ Then w w') a w := by
  have hw := want_none (ops := chkAOps) (a := a) (i := 10) (by kernel_rfl) hi
  obtain ⟨v1, e1, hp1⟩ := hh.of_dep hi 6 11 (by kernel_rfl)
  have hp1 : v1 = .string (sb ((enc (zz x.bin)) ++ (enc (zz x.span)))) := hp1
  subst hp1
  obtain ⟨v2, e2, hp2⟩ := hh.of_dep hi 9 14 (by kernel_rfl)
  have hp2 : v2 = .string (sb (enc (tr x.last))) := hp2
  subst hp2
  refine st_val hi hw _ (run_bin (op_of (op := .binOp .add 9 (.tmp 11) (.tmp 14) 9) (by kernel_rfl) hi) (eval_at e1) (eval_at e2) (eqGuard_other (by simp) (by simp) w) (add_sb _ _ ?_ w)) rfl hh.gr (Below.refl _ _)
  try simp only [List.length_append, List.length_cons, List.length_nil]
  have := h.l_x_bin; have := h.l_x_span; have := h.l_x_last; have := h.l_x_entries_length; omega
theorem chkA_11 {o : Oper} {a : Act} {w : World} (h : HchkA x B A c S W1 a0) (hi : chkAOps[11]? = some o) (hh : Here chkAOps (Said (chkATab x B A c S)) (Since W1) a0 11 o a w) :
    wpOp Tryz.prog chkAOps Q 11 (fun a' w' => ∃ v, a' = a.put o.dst v ∧ Said (chkATab x B A c S) 11 v w' ∧ Since W1 w' ∧ Then w w') a w := by
  have hw := want_none (ops := chkAOps) (a := a) (i := 11) (by kernel_rfl) hi
  have e1 := (hh.of_base 1 (by kernel_rfl)).trans h.p
  exact st_val hi hw _ (run_fieldAddr (op_of (op := .fieldAddr 33 (.tmp 1) 3) (by kernel_rfl) hi) (eval_at e1) (by kernel_rfl)) rfl hh.gr (Below.refl _ _)
theorem chkA_12 {o : Oper} {a : Act} {w : World} (h : HchkA x B A c S W1 a0) (hi : chkAOps[12]? = some o) (hh : Here chkAOps (Said (chkATab x B A c S)) (Since W1) a0 12 o a w) :
    wpOp Tryz.prog chkAOps Q 12 (fun a' w' => ∃ v, a' = a.put o.dst v ∧ Said (chkATab x B A c S) 12 v w' ∧ Since W1 w' ∧ Then w w') a w := by
  have hw := want_none (ops := chkAOps) (a := a) (i := 12) (by kernel_rfl) hi
  obtain ⟨v1, e1, hp1⟩ := hh.of_dep hi 11 16 (by kernel_rfl)
  have hp1 : v1 = .pointer (some ⟨B, 3, none⟩) := hp1
  subst hp1
  have c3 := h.c3 w hh.gr
  exact st_val hi hw _ (run_loadOp (op_of (op := .load 31 (.tmp 16)) (by kernel_rfl) hi) (eval_at e1) (by go_simp)) rfl hh.gr (Below.refl _ _)
theorem chkA_13 {o : Oper} {a : Act} {w : World} (h : HchkA x B A c S W1 a0) (hi : chkAOps[13]? = some o) (hh : Here chkAOps (Said (chkATab x B A c S)) (Since W1) a0 13 o a w) :
    wpOp Tryz.prog chkAOps Q 13 (fun a' w' => ∃ v, a' = a.put o.dst v ∧ Said (chkATab x B A c S) 13 v w' ∧ Since W1 w' ∧ Then w w') a w := by
  have hw := want_none (ops := chkAOps) (a := a) (i := 13) (by kernel_rfl) hi
  obtain ⟨v1, e1, hp1⟩ := hh.of_dep hi 12 17 (by kernel_rfl)
  have hp1 : v1 = .slice A x.entries.length c := hp1
  subst hp1
  exact st_val hi hw _ (run_len (op_of (op := .call { callee := .builtin .len, args := #[.tmp 17], argTypes := #[31] }) (by kernel_rfl) hi) (eval_at e1) (by go_simp)) rfl hh.gr (Below.refl _ _)
theorem chkA_14 {o : Oper} {a : Act} {w : World} (h : HchkA x B A c S W1 a0) (hi : chkAOps[14]? = some o) (hh : Here chkAOps (Said (chkATab x B A c S)) (Since W1) a0 14 o a w) :
    wpOp Tryz.prog chkAOps Q 14 (fun a' w' => ∃ v, a' = a.put o.dst v ∧ Said (chkATab x B A c S) 14 v w' ∧ Since W1 w' ∧ Then w w') a w := by
  have hw := want_none (ops := chkAOps) (a := a) (i := 14) (by kernel_rfl) hi
  obtain ⟨v1, e1, hp1⟩ := hh.of_dep hi 13 18 (by kernel_rfl)
  have hp1 : v1 = .int .i64 (x.entries.length : Nat) := hp1
  subst hp1
  exact st_val hi hw _ (run_conv (op_of (op := .convert 3 41 (.tmp 18)) (by kernel_rfl) hi) (eval_at e1) (conv_len x.entries.length (by have := h.b_x_entries_length; omega) w)) rfl hh.gr (Below.refl _ _)
theorem chkA_15 {o : Oper} {a : Act} {w : World} (h : HchkA x B A c S W1 a0) (hi : chkAOps[15]? = some o) (hh : Here chkAOps (Said (chkATab x B A c S)) (Since W1) a0 15 o a w) :
    wpOp Tryz.prog chkAOps Q 15 (fun a' w' => ∃ v, a' = a.put o.dst v ∧ Said (chkATab x B A c S) 15 v w' ∧ Since W1 w' ∧ Then w w') a w := by
  have hw := want_none (ops := chkAOps) (a := a) (i := 15) (by kernel_rfl) hi
  obtain ⟨v1, e1, hp1⟩ := hh.of_dep hi 14 19 (by kernel_rfl)
  have hp1 : v1 = .int .u64 (x.entries.length : Nat) := hp1
  subst hp1
  have hop := op_of (ops := chkAOps) (op := .call { callee := .value (.func 31), args := #[.tmp 19], argTypes := #[41] }) (by kernel_rfl) hi
  exact st_call hi hw 31 _ (by simp [execOp, hop, resolve, invoke, Act.eval, Deferred.ofValue, e1]) ((Num_any x.entries.length (by have := h.b_x_entries_length; omega) w).mono fun e w' hs => ⟨_, hs.1, rfl, Below.trans hh.gr (hs.2.mono hh.gr.size), hs.2⟩)
theorem chkA_16 {o : Oper} {a : Act} {w : World} (h : HchkA x B A c S W1 a0) (hi : chkAOps[16]? = some o) (hh : Here chkAOps (Said (chkATab x B A c S)) (Since W1) a0 16 o a w) :
    wpOp Tryz.prog chkAOps Q 16 (fun a' w' => ∃ v, a' = a.put o.dst v ∧ Said (chkATab x B A c S) 16 v w' ∧ Since W1 w' ∧ Then w w') a w := by
  have hw := want_none (ops := chkAOps) (a := a) (i := 16) (by kernel_rfl) hi
  obtain ⟨v1, e1, hp1⟩ := hh.of_dep hi 10 15 (by kernel_rfl)
  have hp1 : v1 = .string (sb (((enc (zz x.bin)) ++ (enc (zz x.span))) ++ (enc (tr x.last)))) := hp1
  subst hp1
  obtain ⟨v2, e2, hp2⟩ := hh.of_dep hi 15 20 (by kernel_rfl)
  have hp2 : v2 = .string (sb (enc x.entries.length)) := hp2
  subst hp2
  refine st_val hi hw _ (run_bin (op_of (op := .binOp .add 9 (.tmp 15) (.tmp 20) 9) (by kernel_rfl) hi) (eval_at e1) (eval_at e2) (eqGuard_other (by simp) (by simp) w) (add_sb _ _ ?_ w)) rfl hh.gr (Below.refl _ _)
  try simp only [List.length_append, List.length_cons, List.length_nil]
  have := h.l_x_bin; have := h.l_x_span; have := h.l_x_last; have := h.l_x_entries_length; omega
theorem chkA_17 {o : Oper} {a : Act} {w : World} (h : HchkA x B A c S W1 a0) (hi : chkAOps[17]? = some o) (hh : Here chkAOps (Said (chkATab x B A c S)) (Since W1) a0 17 o a w) :
    wpOp Tryz.prog chkAOps Q 17 (fun a' w' => ∃ v, a' = a.put o.dst v ∧ Said (chkATab x B A c S) 17 v w' ∧ Since W1 w' ∧ Then w w') a w := by
  have hw := want_none (ops := chkAOps) (a := a) (i := 17) (by kernel_rfl) hi
  obtain ⟨v1, e1, hp1⟩ := hh.of_dep hi 16 21 (by kernel_rfl)
  have hp1 : v1 = .string (sb ((((enc (zz x.bin)) ++ (enc (zz x.span))) ++ (enc (tr x.last))) ++ (enc x.entries.length))) := hp1
  subst hp1
  exact st_val hi hw _ (run_assign (op_of (op := .assign (.tmp 21)) (by kernel_rfl) hi) (eval_at e1)) rfl hh.gr (Below.refl _ _)
theorem chkA_mono (i : Nat) (v : Value) (w w' : World) (h : Said (chkATab x B A c S) i v w) (hx : Then w w') : Said (chkATab x B A c S) i v w' := by
  unfold Said at *
  split at h
  · exact h
  · rename_i f hf
    unfold chkATab at hf
    split at hf <;> first | (cases hf; done) | (cases hf; exact Made1.grown h hx)
theorem chkA_steps (h : HchkA x B A c S W1 a0) : ∀ (i : Nat) (o : Oper) (a : Act) (w : World), chkAOps[i]? = some o → Here chkAOps (Said (chkATab x B A c S)) (Since W1) a0 i o a w →
    wpOp Tryz.prog chkAOps Q i (fun a' w' => ∃ v, a' = a.put o.dst v ∧ Said (chkATab x B A c S) i v w' ∧ Since W1 w' ∧ Then w w') a w := by
  intro i o a w hi hh
  match i, hi, hh with
  | 0, hi, hh => exact chkA_0 h hi hh
  | 1, hi, hh => exact chkA_1 h hi hh
  | 2, hi, hh => exact chkA_2 h hi hh
  | 3, hi, hh => exact chkA_3 h hi hh
  | 4, hi, hh => exact chkA_4 h hi hh
  | 5, hi, hh => exact chkA_5 h hi hh
  | 6, hi, hh => exact chkA_6 h hi hh
  | 7, hi, hh => exact chkA_7 h hi hh
  | 8, hi, hh => exact chkA_8 h hi hh
  | 9, hi, hh => exact chkA_9 h hi hh
  | 10, hi, hh => exact chkA_10 h hi hh
  | 11, hi, hh => exact chkA_11 h hi hh
  | 12, hi, hh => exact chkA_12 h hi hh
  | 13, hi, hh => exact chkA_13 h hi hh
  | 14, hi, hh => exact chkA_14 h hi hh
  | 15, hi, hh => exact chkA_15 h hi hh
  | 16, hi, hh => exact chkA_16 h hi hh
  | 17, hi, hh => exact chkA_17 h hi hh
  | n + 18, hi, _ =>
    exfalso
    have h1 := (Array.getElem?_eq_some_iff.1 hi).1
    have h2 : chkAOps.size = 18 := by kernel_rfl
    omega
end
noncomputable def msgAOps : Array Oper := regAt Tryz.f6 1
noncomputable def msgATab (x : MsgD) (B : Nat) (A : Option Addr) (c : Nat) (S : List Nat) (i : Nat) : Value ⊕ (Value → World → Prop) := match i with
  | 0 => .inl (.pointer (some ⟨B, 0, none⟩))
  | 1 => .inl (.int .i64 x.kind)
  | 2 => .inl (.string (sb (enc (zz x.kind))))
  | 3 => .inl (.pointer (some ⟨B, 1, none⟩))
  | 4 => .inl (.int .i64 x.ver)
  | 5 => .inl (.string (sb (enc (zz x.ver))))
  | 6 => .inl (.string (sb ((enc (zz x.kind)) ++ (enc (zz x.ver)))))
  | 7 => .inl (.string (sb ((enc (zz x.kind)) ++ (enc (zz x.ver)))))
  | _ => .inl undef
structure HmsgA (x : MsgD) (B : Nat) (A : Option Addr) (c : Nat) (S : List Nat) (W1 : World) (a0 : Act) : Prop where
  ok : x.ok
  p : a0.tmps[1]? = some (.pointer (some ⟨B, 0, none⟩))
  c0 : ∀ w, Since W1 w → w.cell? ⟨B, 0, none⟩ = some (.int .i64 x.kind)
  c1 : ∀ w, Since W1 w → w.cell? ⟨B, 1, none⟩ = some (.int .i64 x.ver)
  b_x_kind : w64 x.kind
  l_x_kind : (enc (zz x.kind)).length ≤ 100
  b_x_ver : w64 x.ver
  l_x_ver : (enc (zz x.ver)).length ≤ 100
section
variable {x : MsgD} {B : Nat} {A : Option Addr} {c : Nat} {S : List Nat} {W1 : World} {a0 : Act} {Q : Exit → Act → World → Prop}
theorem msgA_0 {o : Oper} {a : Act} {w : World} (h : HmsgA x B A c S W1 a0) (hi : msgAOps[0]? = some o) (hh : Here msgAOps (Said (msgATab x B A c S)) (Since W1) a0 0 o a w) :
    wpOp Tryz.prog msgAOps Q 0 (fun a' w' => ∃ v, a' = a.put o.dst v ∧ Said (msgATab x B A c S) 0 v w' ∧ Since W1 w' ∧ Then w w') a w := by
  have hw := want_none (ops := msgAOps) (a := a) (i := 0) (by kernel_rfl) hi
  have e1 := (hh.of_base 1 (by kernel_rfl)).trans h.p
  exact st_val hi hw _ (run_fieldAddr (op_of (op := .fieldAddr 35 (.tmp 1) 0) (by kernel_rfl) hi) (eval_at e1) (by kernel_rfl)) rfl hh.gr (Below.refl _ _)
theorem msgA_1 {o : Oper} {a : Act} {w : World} (h : HmsgA x B A c S W1 a0) (hi : msgAOps[1]? = some o) (hh : Here msgAOps (Said (msgATab x B A c S)) (Since W1) a0 1 o a w) :
    wpOp Tryz.prog msgAOps Q 1 (fun a' w' => ∃ v, a' = a.put o.dst v ∧ Said (msgATab x B A c S) 1 v w' ∧ Since W1 w' ∧ Then w w') a w := by
  have hw := want_none (ops := msgAOps) (a := a) (i := 1) (by kernel_rfl) hi
  obtain ⟨v1, e1, hp1⟩ := hh.of_dep hi 0 4 (by kernel_rfl)
  have hp1 : v1 = .pointer (some ⟨B, 0, none⟩) := hp1
  subst hp1
  have c0 := h.c0 w hh.gr
  exact st_val hi hw _ (run_loadOp (op_of (op := .load 3 (.tmp 4)) (by kernel_rfl) hi) (eval_at e1) (by go_simp)) rfl hh.gr (Below.refl _ _)
theorem msgA_2 {o : Oper} {a : Act} {w : World} (h : HmsgA x B A c S W1 a0) (hi : msgAOps[2]? = some o) (hh : Here msgAOps (Said (msgATab x B A c S)) (Since W1) a0 2 o a w) :
    wpOp Tryz.prog msgAOps Q 2 (fun a' w' => ∃ v, a' = a.put o.dst v ∧ Said (msgATab x B A c S) 2 v w' ∧ Since W1 w' ∧ Then w w') a w := by
  have hw := want_none (ops := msgAOps) (a := a) (i := 2) (by kernel_rfl) hi
  obtain ⟨v1, e1, hp1⟩ := hh.of_dep hi 1 5 (by kernel_rfl)
  have hp1 : v1 = .int .i64 x.kind := hp1
  subst hp1
  have hop := op_of (ops := msgAOps) (op := .call { callee := .value (.func 24), args := #[.tmp 5], argTypes := #[3] }) (by kernel_rfl) hi
  exact st_call hi hw 24 _ (by simp [execOp, hop, resolve, invoke, Act.eval, Deferred.ofValue, e1]) ((w_any x.kind h.b_x_kind.1 h.b_x_kind.2 w).mono fun e w' hs => ⟨_, hs.1, rfl, Below.trans hh.gr (hs.2.mono hh.gr.size), hs.2⟩)
theorem msgA_3 {o : Oper} {a : Act} {w : World} (h : HmsgA x B A c S W1 a0) (hi : msgAOps[3]? = some o) (hh : Here msgAOps (Said (msgATab x B A c S)) (Since W1) a0 3 o a w) :
    wpOp Tryz.prog msgAOps Q 3 (fun a' w' => ∃ v, a' = a.put o.dst v ∧ Said (msgATab x B A c S) 3 v w' ∧ Since W1 w' ∧ Then w w') a w := by
  have hw := want_none (ops := msgAOps) (a := a) (i := 3) (by kernel_rfl) hi
  have e1 := (hh.of_base 1 (by kernel_rfl)).trans h.p
  exact st_val hi hw _ (run_fieldAddr (op_of (op := .fieldAddr 35 (.tmp 1) 1) (by kernel_rfl) hi) (eval_at e1) (by kernel_rfl)) rfl hh.gr (Below.refl _ _)
theorem msgA_4 {o : Oper} {a : Act} {w : World} (h : HmsgA x B A c S W1 a0) (hi : msgAOps[4]? = some o) (hh : Here msgAOps (Said (msgATab x B A c S)) (Since W1) a0 4 o a w) :
    wpOp Tryz.prog msgAOps Q 4 (fun a' w' => ∃ v, a' = a.put o.dst v ∧ Said (msgATab x B A c S) 4 v w' ∧ Since W1 w' ∧ Then w w') a w := by
  have hw := want_none (ops := msgAOps) (a := a) (i := 4) (by kernel_rfl) hi
  obtain ⟨v1, e1, hp1⟩ := hh.of_dep hi 3 7 (by kernel_rfl)
  have hp1 : v1 = .pointer (some ⟨B, 1, none⟩) := hp1
  subst hp1
  have c1 := h.c1 w hh.gr
  exact st_val hi hw _ (run_loadOp (op_of (op := .load 3 (.tmp 7)) (by kernel_rfl) hi) (eval_at e1) (by go_simp)) rfl hh.gr (Below.refl _ _)
theorem msgA_5 {o : Oper} {a : Act} {w : World} (h : HmsgA x B A c S W1 a0) (hi : msgAOps[5]? = some o) (hh : Here msgAOps (Said (msgATab x B A c S)) (Since W1) a0 5 o a w) :
    wpOp Tryz.prog msgAOps Q 5 (fun a' w' => ∃ v, a' = a.put o.dst v ∧ Said (msgATab x B A c S) 5 v w' ∧ Since W1 w' ∧ Then w w') a w := by
  have hw := want_none (ops := msgAOps) (a := a) (i := 5) (by kernel_rfl) hi
  obtain ⟨v1, e1, hp1⟩ := hh.of_dep hi 4 8 (by kernel_rfl)
  have hp1 : v1 = .int .i64 x.ver := hp1
  subst hp1
  have hop := op_of (ops := msgAOps) (op := .call { callee := .value (.func 24), args := #[.tmp 8], argTypes := #[3] }) (by kernel_rfl) hi
  exact st_call hi hw 24 _ (by simp [execOp, hop, resolve, invoke, Act.eval, Deferred.ofValue, e1]) ((w_any x.ver h.b_x_ver.1 h.b_x_ver.2 w).mono fun e w' hs => ⟨_, hs.1, rfl, Below.trans hh.gr (hs.2.mono hh.gr.size), hs.2⟩)
theorem msgA_6 {o : Oper} {a : Act} {w : World} (h : HmsgA x B A c S W1 a0) (hi : msgAOps[6]? = some o) (hh : Here msgAOps (Said (msgATab x B A c S)) (Since W1) a0 6 o a w) :
    wpOp Tryz.prog msgAOps Q 6 (fun a' w' => ∃ v, a' = a.put o.dst v ∧ Said (msgATab x B A c S) 6 v w' ∧ Since W1 w' ∧ Then w w') a w := by
  have hw := want_none (ops := msgAOps) (a := a) (i := 6) (by kernel_rfl) hi
  obtain ⟨v1, e1, hp1⟩ := hh.of_dep hi 2 6 (by kernel_rfl)
  have hp1 : v1 = .string (sb (enc (zz x.kind))) := hp1
  subst hp1
  obtain ⟨v2, e2, hp2⟩ := hh.of_dep hi 5 9 (by kernel_rfl)
  have hp2 : v2 = .string (sb (enc (zz x.ver))) := hp2
  subst hp2
  refine st_val hi hw _ (run_bin (op_of (op := .binOp .add 9 (.tmp 6) (.tmp 9) 9) (by kernel_rfl) hi) (eval_at e1) (eval_at e2) (eqGuard_other (by simp) (by simp) w) (add_sb _ _ ?_ w)) rfl hh.gr (Below.refl _ _)
  try simp only [List.length_append, List.length_cons, List.length_nil]
  have := h.l_x_kind; have := h.l_x_ver; omega
theorem msgA_7 {o : Oper} {a : Act} {w : World} (h : HmsgA x B A c S W1 a0) (hi : msgAOps[7]? = some o) (hh : Here msgAOps (Said (msgATab x B A c S)) (Since W1) a0 7 o a w) :
    wpOp Tryz.prog msgAOps Q 7 (fun a' w' => ∃ v, a' = a.put o.dst v ∧ Said (msgATab x B A c S) 7 v w' ∧ Since W1 w' ∧ Then w w') a w := by
  have hw := want_none (ops := msgAOps) (a := a) (i := 7) (by kernel_rfl) hi
  obtain ⟨v1, e1, hp1⟩ := hh.of_dep hi 6 10 (by kernel_rfl)
  have hp1 : v1 = .string (sb ((enc (zz x.kind)) ++ (enc (zz x.ver)))) := hp1
  subst hp1
  exact st_val hi hw _ (run_assign (op_of (op := .assign (.tmp 10)) (by kernel_rfl) hi) (eval_at e1)) rfl hh.gr (Below.refl _ _)
theorem msgA_mono (i : Nat) (v : Value) (w w' : World) (h : Said (msgATab x B A c S) i v w) (hx : Then w w') : Said (msgATab x B A c S) i v w' := by
  unfold Said at *
  split at h
  · exact h
  · rename_i f hf
    unfold msgATab at hf
    split at hf <;> first | (cases hf; done) | (cases hf; exact Made1.grown h hx)
theorem msgA_steps (h : HmsgA x B A c S W1 a0) : ∀ (i : Nat) (o : Oper) (a : Act) (w : World), msgAOps[i]? = some o → Here msgAOps (Said (msgATab x B A c S)) (Since W1) a0 i o a w →
    wpOp Tryz.prog msgAOps Q i (fun a' w' => ∃ v, a' = a.put o.dst v ∧ Said (msgATab x B A c S) i v w' ∧ Since W1 w' ∧ Then w w') a w := by
  intro i o a w hi hh
  match i, hi, hh with
  | 0, hi, hh => exact msgA_0 h hi hh
  | 1, hi, hh => exact msgA_1 h hi hh
  | 2, hi, hh => exact msgA_2 h hi hh
  | 3, hi, hh => exact msgA_3 h hi hh
  | 4, hi, hh => exact msgA_4 h hi hh
  | 5, hi, hh => exact msgA_5 h hi hh
  | 6, hi, hh => exact msgA_6 h hi hh
  | 7, hi, hh => exact msgA_7 h hi hh
  | n + 8, hi, _ =>
    exfalso
    have h1 := (Array.getElem?_eq_some_iff.1 hi).1
    have h2 : msgAOps.size = 8 := by kernel_rfl
    omega
end
end Go.Proofs.YtpfeaekankkpiaaGreatDoor
