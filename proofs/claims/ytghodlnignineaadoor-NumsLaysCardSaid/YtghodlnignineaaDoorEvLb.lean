/-
  Promise P1.1's law NumsLays: its drawn region, one obligation an operation (written by a small program of mine off the operations).
-/
import Derived.Test.YtghodlnignineaaDoorEvV
import Derived.Test.YtghodlnignineaaDoorEvR
namespace Go.Proofs.YtghodlnignineaaDoor
open Go Go.RowKit Go.Lib Go.Ev

noncomputable def laysOps : Array Oper := regAt Tryd.f4 4
def EN (N : Nat) : ByteArray := sb (enc N)
def EI (N : Nat) : ByteArray := sb (enc (zz (wrap64 N)))
def EB (N : Nat) : ByteArray := sb (enc (if (N % 2 == 1) then 1 else 0))
def ES (S : ByteArray) : ByteArray := sb (enc S.size)
def PSv (T : ByteArray) (v : Value) (w : World) : Prop := ∃ g c, v = .slice (some ⟨g, 0, none⟩) T.size c ∧ StrAt w g T
def LGr (W w : World) : Prop := Below W.heap.size W w
def LExt (w w' : World) : Prop := Below w.heap.size w w'
noncomputable def layTab (A : Option Addr) (m c N : Nat) (S X : ByteArray) (i : Nat) : Value ⊕ ByteArray := match i with
  | 0 => .inl (.slice A m c)
  | 1 => .inl (.int .u64 N)
  | 2 => .inr (X ++ EN N)
  | 3 => .inl (.string (X ++ EN N))
  | 4 => .inl (.string X)
  | 5 => .inl (.int .u64 N)
  | 6 => .inl (.string (EN N))
  | 7 => .inl (.string (X ++ EN N))
  | 8 => .inl (.bool true)
  | 9 => .inl (.bool true)
  | 10 => .inl (.slice A m c)
  | 11 => .inl (.int .u64 N)
  | 12 => .inl (.int .i64 (wrap64 N))
  | 13 => .inr (X ++ EI N)
  | 14 => .inl (.string (X ++ EI N))
  | 15 => .inl (.string X)
  | 16 => .inl (.int .u64 N)
  | 17 => .inl (.int .i64 (wrap64 N))
  | 18 => .inl (.string (EI N))
  | 19 => .inl (.string (X ++ EI N))
  | 20 => .inl (.bool true)
  | 21 => .inl (.bool true)
  | 22 => .inl (.bool true)
  | 23 => .inl (.slice A m c)
  | 24 => .inl (.int .u64 N)
  | 25 => .inl (.int .u64 ((N % 2 : Nat) : Int))
  | 26 => .inl (.bool (N % 2 == 1))
  | 27 => .inr (X ++ EB N)
  | 28 => .inl (.string (X ++ EB N))
  | 29 => .inl (.string X)
  | 30 => .inl (.int .u64 N)
  | 31 => .inl (.int .u64 ((N % 2 : Nat) : Int))
  | 32 => .inl (.bool (N % 2 == 1))
  | 33 => .inl (.string (EB N))
  | 34 => .inl (.string (X ++ EB N))
  | 35 => .inl (.bool true)
  | 36 => .inl (.bool true)
  | 37 => .inl (.bool true)
  | 38 => .inl (.slice A m c)
  | 39 => .inl (.string S)
  | 40 => .inr (X ++ (ES S ++ S))
  | 41 => .inl (.string (X ++ (ES S ++ S)))
  | 42 => .inl (.string X)
  | 43 => .inl (.string S)
  | 44 => .inl (.string (ES S ++ S))
  | 45 => .inl (.string (X ++ (ES S ++ S)))
  | 46 => .inl (.bool true)
  | 47 => .inl (.bool true)
  | 48 => .inl (.bool true)
  | 49 => .inl (.slice A m c)
  | 50 => .inl (.string X)
  | 51 => .inl (.string X)
  | 52 => .inl (.bool true)
  | 53 => .inl (.bool true)
  | 54 => .inl (.bool true)
  | 55 => .inl (.bool true)
  | 56 => .inl (.bool true)
  | 57 => .inl (.bool true)
  | _ => .inl undef
def LPhi (A : Option Addr) (m c N : Nat) (S X : ByteArray) (i : Nat) (v : Value) (w : World) : Prop := match layTab A m c N S X i with
  | .inl u => v = u
  | .inr T => PSv T v w
theorem LPhi.mono {A : Option Addr} {m c N : Nat} {S X : ByteArray} (i : Nat) (v : Value) (w w' : World) (h : LPhi A m c N S X i v w) (hx : LExt w w') : LPhi A m c N S X i v w' := by
  unfold LPhi at *
  split at h
  · exact h
  · obtain ⟨g, c, e, hs⟩ := h
    exact ⟨g, c, e, hs.below hx⟩

structure LH (A : Option Addr) (m c N : Nat) (S X : ByteArray) (W : World) (a0 : Act) : Prop where
  s0 : a0.tmps[0]? = some (.slice A m c)
  s1 : a0.tmps[1]? = some (.int .u64 N)
  s2 : a0.tmps[2]? = some (.string S)
  s7 : a0.tmps[7]? = some (.string X)
  rd : Rd W W.heap.size A m c (strCells X)
  hm : m ≤ 100
  hN : N < 18446744073709551616
  hS : S.size ≤ 300
  cl : W.cell? ⟨0, 0, none⟩ = some (.iface 122 (.agg #[.pointer (some ⟨1, 31, none⟩)]))

section
variable {A : Option Addr} {m c N : Nat} {S X : ByteArray} {W : World} {a0 : Act} {w : World} {Q : Exit → Act → World → Prop}

theorem LH.xs (h : LH A m c N S X W a0) : X.size = m := by
  have := h.rd.1
  rwa [strCells_length] at this
theorem LH.rdw (h : LH A m c N S X W a0) (hg : LGr W w) : Rd w w.heap.size A m c (strCells X) := (h.rd.below hg).mono hg.size
theorem own_ps {w : World} {B : Nat} {v : Value} {n : Nat} {T : ByteArray} (ho : w.ownsRow B 5 1 v n (strCells T)) (hT : 1 ≤ T.size) : PSv T v w := by
  have hn : n = T.size := by have := ho.1; rw [strCells_length] at this; omega
  subst hn
  obtain ⟨g, c, rfl, _, hlt⟩ := ho.form (by omega)
  refine ⟨g, c, rfl, hlt, fun j hj => ?_⟩
  have := ho.cells (g := g) rfl j (.int .u8 (T.data.toList[j].toNat : Int)) (by simp [strCells, List.getElem?_eq_getElem hj])
  rw [add_lit, Nat.zero_add] at this
  exact this
theorem u8s_cells {l : List Nat} (h : ∀ x ∈ l, x < 256) : u8s l = strCells (sb l) := by
  simp only [u8s, strCells, sb, List.map_map]
  apply List.map_congr_left
  intro x hx
  show Value.int .u8 (x : Int) = Value.int .u8 ((UInt8.ofNat x).toNat : Int)
  rw [UInt8.toNat_ofNat_of_lt' (by simpa using h x hx)]
theorem cells_app (s t : ByteArray) : strCells s ++ strCells t = strCells (s ++ t) := by
  simp [strCells]
theorem lays_step {w w' : World} {n : Nat} {l : List Nat} {e : Ending} (hl : Lays w n (strCells X) l e w') (h1 : 1 ≤ l.length) (hs : ∀ x ∈ l, x < 256) (hg : LGr W w) :
    ∃ v, e = .returned v ∧ PSv (X ++ sb l) v w' ∧ LGr W w' ∧ LExt w w' := by
  obtain ⟨v, rfl, ho, hb⟩ := hl
  rw [u8s_cells hs, cells_app] at ho
  exact ⟨v, rfl, own_ps ho (by rw [ByteArray.size_append, sb_size]; omega), Below.trans hg (hb.mono hg.size), hb⟩
theorem LH.r1 (N : Nat) : -9223372036854775808 ≤ wrap64 N := by rw [wrap64_eq]; omega
theorem LH.r2 (N : Nat) : wrap64 N < 9223372036854775808 := by rw [wrap64_eq]; omega
theorem LH.cP (h : LH A m c N S X W a0) (hg : LGr W w) : Calls Tryd.prog 25 #[.slice A m c, .int .u64 N] w fun e w' => ∃ v, e = .returned v ∧ PSv (X ++ EN N) v w' ∧ LGr W w' ∧ LExt w w' :=
  (P_any A m c _ N w (h.rdw hg) (strCells_oneCell X) h.hN (by have := h.hm; omega)).mono fun _ _ hl => lays_step hl (enc_len h.hN).1 (enc_small N) hg
theorem LH.cPI (h : LH A m c N S X W a0) (hg : LGr W w) : Calls Tryd.prog 27 #[.slice A m c, .int .i64 (wrap64 N)] w fun e w' => ∃ v, e = .returned v ∧ PSv (X ++ EI N) v w' ∧ LGr W w' ∧ LExt w w' :=
  (PI_any A m c _ (wrap64 N) w (h.rdw hg) (strCells_oneCell X) (LH.r1 N) (LH.r2 N) (by have := h.hm; omega)).mono fun _ _ hl => lays_step hl (enc_len (zz_lt (LH.r1 N) (LH.r2 N))).1 (enc_small _) hg
theorem bit_lt (b : Bool) : (if b then 1 else 0 : Nat) < 18446744073709551616 := by cases b <;> simp
theorem LH.cPB (h : LH A m c N S X W a0) (hg : LGr W w) : Calls Tryd.prog 29 #[.slice A m c, .bool (N % 2 == 1)] w fun e w' => ∃ v, e = .returned v ∧ PSv (X ++ EB N) v w' ∧ LGr W w' ∧ LExt w w' :=
  (PBool_any A m c _ (N % 2 == 1) w (h.rdw hg) (strCells_oneCell X) (by have := h.hm; omega)).mono fun _ _ hl => lays_step hl (enc_len (bit_lt _)).1 (enc_small _) hg
theorem LH.cPT (h : LH A m c N S X W a0) (hg : LGr W w) : Calls Tryd.prog 31 #[.slice A m c, .string S] w fun e w' => ∃ v, e = .returned v ∧ PSv (X ++ (ES S ++ S)) v w' ∧ LGr W w' ∧ LExt w w' := by
  have hS := h.hS
  refine (PText_any A m c _ S w (h.rdw hg) (strCells_oneCell X) (by have := h.hm; omega)).mono ?_
  rintro e w' ⟨v, rfl, ho, hb⟩
  rw [u8s_cells (enc_small _), List.append_assoc, cells_app, cells_app] at ho
  have := (enc_len (n := S.size) (by omega)).1
  exact ⟨v, rfl, own_ps ho (by rw [ByteArray.size_append, ByteArray.size_append]; unfold ES; rw [sb_size]; omega), Below.trans hg (hb.mono hg.size), hb⟩
theorem sb_step {T : ByteArray} {w w' : World} {e : Ending} (hs : SB T w e w') (hg : LGr W w) : ∃ v, e = .returned v ∧ v = .string T ∧ LGr W w' ∧ LExt w w' :=
  ⟨_, hs.1, rfl, Below.trans hg (hs.2.mono hg.size), hs.2⟩
theorem LH.cNum (h : LH A m c N S X W a0) (hg : LGr W w) : Calls Tryd.prog 26 #[.int .u64 N] w fun e w' => ∃ v, e = .returned v ∧ v = .string (EN N) ∧ LGr W w' ∧ LExt w w' :=
  (Num_any N h.hN w).mono fun _ _ hs => sb_step hs hg
theorem LH.cInt (_ : LH A m c N S X W a0) (hg : LGr W w) : Calls Tryd.prog 28 #[.int .i64 (wrap64 N)] w fun e w' => ∃ v, e = .returned v ∧ v = .string (EI N) ∧ LGr W w' ∧ LExt w w' :=
  (Int_any (wrap64 N) (LH.r1 N) (LH.r2 N) w).mono fun _ _ hs => sb_step hs hg
theorem LH.cTruth (_ : LH A m c N S X W a0) (hg : LGr W w) : Calls Tryd.prog 30 #[.bool (N % 2 == 1)] w fun e w' => ∃ v, e = .returned v ∧ v = .string (EB N) ∧ LGr W w' ∧ LExt w w' :=
  (Truth_any _ w).mono fun _ _ hs => sb_step hs hg
theorem LH.cText (h : LH A m c N S X W a0) (hg : LGr W w) : Calls Tryd.prog 32 #[.string S] w fun e w' => ∃ v, e = .returned v ∧ v = .string (ES S ++ S) ∧ LGr W w' ∧ LExt w w' :=
  (Text_any S (by have := h.hS; omega) w).mono fun _ _ hs => sb_step hs hg
theorem LH.cW (h : LH A m c N S X W a0) (hg : LGr W w) : Calls Tryd.prog 24 #[] w fun e w' => ∃ v, e = .returned v ∧ v = .bool true ∧ LGr W w' ∧ LExt w w' := by
  have hlt : 0 < W.heap.size := by
    have := h.cl
    unfold World.cell? at this
    split at this
    · rename_i e; exact (Array.getElem?_eq_some_iff.1 e).1
    · simp at this
  refine (works ((hg.cell (p := ⟨0, 0, none⟩) hlt).trans h.cl)).mono ?_
  rintro e w' ⟨rfl, hb⟩
  exact ⟨_, rfl, rfl, Below.trans hg (hb.mono hg.size), hb⟩
theorem LH.convA (h : LH A m c N S X W a0) (hg : LGr W w) : (convert 61 9 (.slice A m c)).run Tryd.prog w = .ok (.string X) w := by
  have hr := h.rdw hg
  cases A with
  | none =>
    obtain ⟨rfl, rfl⟩ := hr.2.1 rfl
    have hX : X.data = #[] := by
      have := h.xs
      exact Array.eq_empty_of_size_eq_zero this
    have := run_convert_bytes_nil (P := Tryd.prog) w 61 5 Tryd.underlying61 Tryd.underlying5 0 0 9 Tryd.underlying9
    rw [show X = ByteArray.empty from ByteArray.ext hX]
    exact this
  | some ad =>
    have := run_convert_bytes_back (P := Tryd.prog) w 61 9 5 ad c X.data.toList Tryd.underlying61 Tryd.underlying5 Tryd.underlying9 (fun j hj => (hr.2.2 ad rfl).2 j _ (by simp [strCells, List.getElem?_eq_getElem hj]))
    rw [Array.length_toList] at this
    have hx : X.data.size = m := h.xs
    rw [hx] at this
    exact this
theorem wrap_i64 (n : Int) : IntKind.i64.wrap n = wrap64 n := by
  rw [wrap64_eq]; simp [IntKind.wrap, IntKind.bits, IntKind.signed]
  split <;> omega
theorem LH.convN (_ : LH A m c N S X W a0) (w : World) : (convert 29 2 (.int .u64 N)).run Tryd.prog w = .ok (.int .i64 (wrap64 N)) w := by
  have e : Tryd.prog.intKind 2 = .i64 := by kernel_rfl
  have := run_convert_int (P := Tryd.prog) w 29 2 .u64 (N : Int) (by rw [Tryd.underlying29]; rfl) (by rw [e]; exact Tryd.underlying2)
  rw [this, e, wrap_i64]
theorem eql_same (T : ByteArray) (w : World) : (binOp .eql 9 (.string T) (.string T)).run Tryd.prog w = .ok (.bool true) w := by
  simp [binOp_string_eql]
theorem add_run (s t : ByteArray) (h : s.size + t.size ≤ 9223372036854775807) (w : World) : (binOp .add 9 (.string s) (.string t)).run Tryd.prog w = .ok (.string (s ++ t)) w := by
  rw [binOp_string_add]; exact run_string_add_sum w s t h
theorem LH.add1 (h : LH A m c N S X W a0) (w : World) : (binOp .add 9 (.string X) (.string (EN N))).run Tryd.prog w = .ok (.string (X ++ EN N)) w :=
  add_run _ _ (by have := h.xs; have := h.hm; have := (enc_len h.hN).2; unfold EN; rw [sb_size]; omega) w
theorem LH.add2 (h : LH A m c N S X W a0) (w : World) : (binOp .add 9 (.string X) (.string (EI N))).run Tryd.prog w = .ok (.string (X ++ EI N)) w :=
  add_run _ _ (by have := h.xs; have := h.hm; have := (enc_len (zz_lt (LH.r1 N) (LH.r2 N))).2; unfold EI; rw [sb_size]; omega) w
theorem LH.add3 (h : LH A m c N S X W a0) (w : World) : (binOp .add 9 (.string X) (.string (EB N))).run Tryd.prog w = .ok (.string (X ++ EB N)) w :=
  add_run _ _ (by have := h.xs; have := h.hm; have := (enc_len (bit_lt (N % 2 == 1))).2; unfold EB; rw [sb_size]; omega) w
theorem LH.add4 (h : LH A m c N S X W a0) (w : World) : (binOp .add 9 (.string X) (.string (ES S ++ S))).run Tryd.prog w = .ok (.string (X ++ (ES S ++ S))) w :=
  add_run _ _ (by have := h.xs; have := h.hm; have h2 := h.hS; have := (enc_len (n := S.size) (by omega)).2; unfold ES; rw [ByteArray.size_append, sb_size]; omega) w
theorem LH.rem2 (_ : LH A m c N S X W a0) (w : World) : (binOp .rem 29 (.int .u64 N) (.int .u64 2)).run Tryd.prog w = .ok (.int .u64 ((N % 2 : Nat) : Int)) w := by
  simp [go_sem]
  exact Int.tmod_eq_emod_of_nonneg (by omega)
theorem LH.eql1 (_ : LH A m c N S X W a0) (w : World) : (binOp .eql 29 (.int .u64 ((N % 2 : Nat) : Int)) (.int .u64 1)).run Tryd.prog w = .ok (.bool (N % 2 == 1)) w := by
  simp [go_sem]
  rw [Bool.eq_iff_iff, beq_iff_eq, beq_iff_eq]
  omega
theorem lay_0 {o : Oper} {a : Act} {w : World} (h : LH A m c N S X W a0) (hi : laysOps[0]? = some o) (hh : Here laysOps (LPhi A m c N S X) (LGr W) a0 0 o a w) :
    wpOp Tryd.prog laysOps Q 0 (fun a' w' => ∃ v, a' = a.put o.dst v ∧ LPhi A m c N S X 0 v w' ∧ LGr W w' ∧ LExt w w') a w := by
  have hw := want_none (ops := laysOps) (a := a) (i := 0) (by kernel_rfl) hi
  have e1 := (hh.of_base 0 (by kernel_rfl)).trans h.s0
  exact st_val hi hw _ (run_move (op_of (op := .move (.tmp 0)) (by kernel_rfl) hi) (eval_at e1)) rfl hh.gr (Below.refl _ _)
theorem lay_1 {o : Oper} {a : Act} {w : World} (h : LH A m c N S X W a0) (hi : laysOps[1]? = some o) (hh : Here laysOps (LPhi A m c N S X) (LGr W) a0 1 o a w) :
    wpOp Tryd.prog laysOps Q 1 (fun a' w' => ∃ v, a' = a.put o.dst v ∧ LPhi A m c N S X 1 v w' ∧ LGr W w' ∧ LExt w w') a w := by
  have hw := want_none (ops := laysOps) (a := a) (i := 1) (by kernel_rfl) hi
  have e1 := (hh.of_base 1 (by kernel_rfl)).trans h.s1
  exact st_val hi hw _ (run_move (op_of (op := .move (.tmp 1)) (by kernel_rfl) hi) (eval_at e1)) rfl hh.gr (Below.refl _ _)
theorem lay_2 {o : Oper} {a : Act} {w : World} (h : LH A m c N S X W a0) (hi : laysOps[2]? = some o) (hh : Here laysOps (LPhi A m c N S X) (LGr W) a0 2 o a w) :
    wpOp Tryd.prog laysOps Q 2 (fun a' w' => ∃ v, a' = a.put o.dst v ∧ LPhi A m c N S X 2 v w' ∧ LGr W w' ∧ LExt w w') a w := by
  have hw := want_none (ops := laysOps) (a := a) (i := 2) (by kernel_rfl) hi
  obtain ⟨v1, e1, hp1⟩ := hh.of_dep hi 0 20 (by kernel_rfl)
  have hp1 : v1 = .slice A m c := hp1
  subst hp1
  obtain ⟨v2, e2, hp2⟩ := hh.of_dep hi 1 21 (by kernel_rfl)
  have hp2 : v2 = .int .u64 N := hp2
  subst hp2
  have hop := op_of (ops := laysOps) (op := .call { callee := .value (.func 25), args := #[.tmp 20, .tmp 21], argTypes := #[61, 29] }) (by kernel_rfl) hi
  exact st_call hi hw 25 _ (by simp [execOp, hop, resolve, invoke, Act.eval, Deferred.ofValue, e1, e2]) (h.cP hh.gr)
theorem lay_3 {o : Oper} {a : Act} {w : World} (_h : LH A m c N S X W a0) (hi : laysOps[3]? = some o) (hh : Here laysOps (LPhi A m c N S X) (LGr W) a0 3 o a w) :
    wpOp Tryd.prog laysOps Q 3 (fun a' w' => ∃ v, a' = a.put o.dst v ∧ LPhi A m c N S X 3 v w' ∧ LGr W w' ∧ LExt w w') a w := by
  have hw := want_none (ops := laysOps) (a := a) (i := 3) (by kernel_rfl) hi
  obtain ⟨v1, e1, hp1⟩ := hh.of_dep hi 2 22 (by kernel_rfl)
  obtain ⟨g1, c1, q1, hs1⟩ : PSv (X ++ EN N) v1 w := hp1
  subst q1
  exact st_val hi hw _ (run_conv (op_of (op := .convert 61 9 (.tmp 22)) (by kernel_rfl) hi) (eval_at e1) (hs1.conv)) rfl hh.gr (Below.refl _ _)
theorem lay_4 {o : Oper} {a : Act} {w : World} (h : LH A m c N S X W a0) (hi : laysOps[4]? = some o) (hh : Here laysOps (LPhi A m c N S X) (LGr W) a0 4 o a w) :
    wpOp Tryd.prog laysOps Q 4 (fun a' w' => ∃ v, a' = a.put o.dst v ∧ LPhi A m c N S X 4 v w' ∧ LGr W w' ∧ LExt w w') a w := by
  have hw := want_none (ops := laysOps) (a := a) (i := 4) (by kernel_rfl) hi
  have e1 := (hh.of_base 7 (by kernel_rfl)).trans h.s7
  exact st_val hi hw _ (run_move (op_of (op := .move (.tmp 7)) (by kernel_rfl) hi) (eval_at e1)) rfl hh.gr (Below.refl _ _)
theorem lay_5 {o : Oper} {a : Act} {w : World} (h : LH A m c N S X W a0) (hi : laysOps[5]? = some o) (hh : Here laysOps (LPhi A m c N S X) (LGr W) a0 5 o a w) :
    wpOp Tryd.prog laysOps Q 5 (fun a' w' => ∃ v, a' = a.put o.dst v ∧ LPhi A m c N S X 5 v w' ∧ LGr W w' ∧ LExt w w') a w := by
  have hw := want_none (ops := laysOps) (a := a) (i := 5) (by kernel_rfl) hi
  have e1 := (hh.of_base 1 (by kernel_rfl)).trans h.s1
  exact st_val hi hw _ (run_move (op_of (op := .move (.tmp 1)) (by kernel_rfl) hi) (eval_at e1)) rfl hh.gr (Below.refl _ _)
theorem lay_6 {o : Oper} {a : Act} {w : World} (h : LH A m c N S X W a0) (hi : laysOps[6]? = some o) (hh : Here laysOps (LPhi A m c N S X) (LGr W) a0 6 o a w) :
    wpOp Tryd.prog laysOps Q 6 (fun a' w' => ∃ v, a' = a.put o.dst v ∧ LPhi A m c N S X 6 v w' ∧ LGr W w' ∧ LExt w w') a w := by
  have hw := want_none (ops := laysOps) (a := a) (i := 6) (by kernel_rfl) hi
  obtain ⟨v1, e1, hp1⟩ := hh.of_dep hi 5 25 (by kernel_rfl)
  have hp1 : v1 = .int .u64 N := hp1
  subst hp1
  have hop := op_of (ops := laysOps) (op := .call { callee := .value (.func 26), args := #[.tmp 25], argTypes := #[29] }) (by kernel_rfl) hi
  exact st_call hi hw 26 _ (by simp [execOp, hop, resolve, invoke, Act.eval, Deferred.ofValue, e1]) (h.cNum hh.gr)
theorem lay_7 {o : Oper} {a : Act} {w : World} (h : LH A m c N S X W a0) (hi : laysOps[7]? = some o) (hh : Here laysOps (LPhi A m c N S X) (LGr W) a0 7 o a w) :
    wpOp Tryd.prog laysOps Q 7 (fun a' w' => ∃ v, a' = a.put o.dst v ∧ LPhi A m c N S X 7 v w' ∧ LGr W w' ∧ LExt w w') a w := by
  have hw := want_none (ops := laysOps) (a := a) (i := 7) (by kernel_rfl) hi
  obtain ⟨v1, e1, hp1⟩ := hh.of_dep hi 4 24 (by kernel_rfl)
  have hp1 : v1 = .string X := hp1
  subst hp1
  obtain ⟨v2, e2, hp2⟩ := hh.of_dep hi 6 26 (by kernel_rfl)
  have hp2 : v2 = .string (EN N) := hp2
  subst hp2
  refine st_val hi hw _ (run_bin (op_of (op := .binOp .add 9 (.tmp 24) (.tmp 26) 9) (by kernel_rfl) hi) (eval_at e1) (eval_at e2) (eqGuard_other (by simp) (by simp) w) (h.add1 w)) rfl hh.gr (Below.refl _ _)
theorem lay_8 {o : Oper} {a : Act} {w : World} (_h : LH A m c N S X W a0) (hi : laysOps[8]? = some o) (hh : Here laysOps (LPhi A m c N S X) (LGr W) a0 8 o a w) :
    wpOp Tryd.prog laysOps Q 8 (fun a' w' => ∃ v, a' = a.put o.dst v ∧ LPhi A m c N S X 8 v w' ∧ LGr W w' ∧ LExt w w') a w := by
  have hw := want_none (ops := laysOps) (a := a) (i := 8) (by kernel_rfl) hi
  obtain ⟨v1, e1, hp1⟩ := hh.of_dep hi 3 23 (by kernel_rfl)
  have hp1 : v1 = .string (X ++ EN N) := hp1
  subst hp1
  obtain ⟨v2, e2, hp2⟩ := hh.of_dep hi 7 27 (by kernel_rfl)
  have hp2 : v2 = .string (X ++ EN N) := hp2
  subst hp2
  refine st_val hi hw _ (run_bin (op_of (op := .binOp .eql 9 (.tmp 23) (.tmp 27) 9) (by kernel_rfl) hi) (eval_at e1) (eval_at e2) (eqGuard_other (by simp) (by simp) w) (eql_same _ w)) rfl hh.gr (Below.refl _ _)
theorem lay_9 {o : Oper} {a : Act} {w : World} (_h : LH A m c N S X W a0) (hi : laysOps[9]? = some o) (hh : Here laysOps (LPhi A m c N S X) (LGr W) a0 9 o a w) :
    wpOp Tryd.prog laysOps Q 9 (fun a' w' => ∃ v, a' = a.put o.dst v ∧ LPhi A m c N S X 9 v w' ∧ LGr W w' ∧ LExt w w') a w := by
  have hw := want_none (ops := laysOps) (a := a) (i := 9) (by kernel_rfl) hi
  obtain ⟨v1, e1, hp1⟩ := hh.of_dep hi 8 28 (by kernel_rfl)
  have hp1 : v1 = .bool true := hp1
  subst hp1
  exact st_val hi hw _ (run_move (op_of (op := .move (.tmp 28)) (by kernel_rfl) hi) (eval_at e1)) rfl hh.gr (Below.refl _ _)
theorem lay_10 {o : Oper} {a : Act} {w : World} (h : LH A m c N S X W a0) (hi : laysOps[10]? = some o) (hh : Here laysOps (LPhi A m c N S X) (LGr W) a0 10 o a w) :
    wpOp Tryd.prog laysOps Q 10 (fun a' w' => ∃ v, a' = a.put o.dst v ∧ LPhi A m c N S X 10 v w' ∧ LGr W w' ∧ LExt w w') a w := by
  obtain ⟨vg, eg, hpg⟩ := hh.of_dep hi 9 29 (by kernel_rfl)
  have hpg : vg = .bool true := hpg
  subst hpg
  have hw := want_true (ops := laysOps) (a := a) (i := 10) (j := 9) (t := 29) (by kernel_rfl) hi (by kernel_rfl) eg
  have e1 := (hh.of_base 0 (by kernel_rfl)).trans h.s0
  exact st_val hi hw _ (run_move (op_of (op := .move (.tmp 0)) (by kernel_rfl) hi) (eval_at e1)) rfl hh.gr (Below.refl _ _)
theorem lay_11 {o : Oper} {a : Act} {w : World} (h : LH A m c N S X W a0) (hi : laysOps[11]? = some o) (hh : Here laysOps (LPhi A m c N S X) (LGr W) a0 11 o a w) :
    wpOp Tryd.prog laysOps Q 11 (fun a' w' => ∃ v, a' = a.put o.dst v ∧ LPhi A m c N S X 11 v w' ∧ LGr W w' ∧ LExt w w') a w := by
  obtain ⟨vg, eg, hpg⟩ := hh.of_dep hi 9 29 (by kernel_rfl)
  have hpg : vg = .bool true := hpg
  subst hpg
  have hw := want_true (ops := laysOps) (a := a) (i := 11) (j := 9) (t := 29) (by kernel_rfl) hi (by kernel_rfl) eg
  have e1 := (hh.of_base 1 (by kernel_rfl)).trans h.s1
  exact st_val hi hw _ (run_move (op_of (op := .move (.tmp 1)) (by kernel_rfl) hi) (eval_at e1)) rfl hh.gr (Below.refl _ _)
theorem lay_12 {o : Oper} {a : Act} {w : World} (h : LH A m c N S X W a0) (hi : laysOps[12]? = some o) (hh : Here laysOps (LPhi A m c N S X) (LGr W) a0 12 o a w) :
    wpOp Tryd.prog laysOps Q 12 (fun a' w' => ∃ v, a' = a.put o.dst v ∧ LPhi A m c N S X 12 v w' ∧ LGr W w' ∧ LExt w w') a w := by
  obtain ⟨vg, eg, hpg⟩ := hh.of_dep hi 9 29 (by kernel_rfl)
  have hpg : vg = .bool true := hpg
  subst hpg
  have hw := want_true (ops := laysOps) (a := a) (i := 12) (j := 9) (t := 29) (by kernel_rfl) hi (by kernel_rfl) eg
  obtain ⟨v1, e1, hp1⟩ := hh.of_dep hi 11 31 (by kernel_rfl)
  have hp1 : v1 = .int .u64 N := hp1
  subst hp1
  exact st_val hi hw _ (run_conv (op_of (op := .convert 29 2 (.tmp 31)) (by kernel_rfl) hi) (eval_at e1) (h.convN w)) rfl hh.gr (Below.refl _ _)
theorem lay_13 {o : Oper} {a : Act} {w : World} (h : LH A m c N S X W a0) (hi : laysOps[13]? = some o) (hh : Here laysOps (LPhi A m c N S X) (LGr W) a0 13 o a w) :
    wpOp Tryd.prog laysOps Q 13 (fun a' w' => ∃ v, a' = a.put o.dst v ∧ LPhi A m c N S X 13 v w' ∧ LGr W w' ∧ LExt w w') a w := by
  obtain ⟨vg, eg, hpg⟩ := hh.of_dep hi 9 29 (by kernel_rfl)
  have hpg : vg = .bool true := hpg
  subst hpg
  have hw := want_true (ops := laysOps) (a := a) (i := 13) (j := 9) (t := 29) (by kernel_rfl) hi (by kernel_rfl) eg
  obtain ⟨v1, e1, hp1⟩ := hh.of_dep hi 10 30 (by kernel_rfl)
  have hp1 : v1 = .slice A m c := hp1
  subst hp1
  obtain ⟨v2, e2, hp2⟩ := hh.of_dep hi 12 32 (by kernel_rfl)
  have hp2 : v2 = .int .i64 (wrap64 N) := hp2
  subst hp2
  have hop := op_of (ops := laysOps) (op := .call { callee := .value (.func 27), args := #[.tmp 30, .tmp 32], argTypes := #[61, 2] }) (by kernel_rfl) hi
  exact st_call hi hw 27 _ (by simp [execOp, hop, resolve, invoke, Act.eval, Deferred.ofValue, e1, e2]) (h.cPI hh.gr)
theorem lay_14 {o : Oper} {a : Act} {w : World} (_h : LH A m c N S X W a0) (hi : laysOps[14]? = some o) (hh : Here laysOps (LPhi A m c N S X) (LGr W) a0 14 o a w) :
    wpOp Tryd.prog laysOps Q 14 (fun a' w' => ∃ v, a' = a.put o.dst v ∧ LPhi A m c N S X 14 v w' ∧ LGr W w' ∧ LExt w w') a w := by
  obtain ⟨vg, eg, hpg⟩ := hh.of_dep hi 9 29 (by kernel_rfl)
  have hpg : vg = .bool true := hpg
  subst hpg
  have hw := want_true (ops := laysOps) (a := a) (i := 14) (j := 9) (t := 29) (by kernel_rfl) hi (by kernel_rfl) eg
  obtain ⟨v1, e1, hp1⟩ := hh.of_dep hi 13 33 (by kernel_rfl)
  obtain ⟨g1, c1, q1, hs1⟩ : PSv (X ++ EI N) v1 w := hp1
  subst q1
  exact st_val hi hw _ (run_conv (op_of (op := .convert 61 9 (.tmp 33)) (by kernel_rfl) hi) (eval_at e1) (hs1.conv)) rfl hh.gr (Below.refl _ _)
theorem lay_15 {o : Oper} {a : Act} {w : World} (h : LH A m c N S X W a0) (hi : laysOps[15]? = some o) (hh : Here laysOps (LPhi A m c N S X) (LGr W) a0 15 o a w) :
    wpOp Tryd.prog laysOps Q 15 (fun a' w' => ∃ v, a' = a.put o.dst v ∧ LPhi A m c N S X 15 v w' ∧ LGr W w' ∧ LExt w w') a w := by
  obtain ⟨vg, eg, hpg⟩ := hh.of_dep hi 9 29 (by kernel_rfl)
  have hpg : vg = .bool true := hpg
  subst hpg
  have hw := want_true (ops := laysOps) (a := a) (i := 15) (j := 9) (t := 29) (by kernel_rfl) hi (by kernel_rfl) eg
  have e1 := (hh.of_base 7 (by kernel_rfl)).trans h.s7
  exact st_val hi hw _ (run_move (op_of (op := .move (.tmp 7)) (by kernel_rfl) hi) (eval_at e1)) rfl hh.gr (Below.refl _ _)
theorem lay_16 {o : Oper} {a : Act} {w : World} (h : LH A m c N S X W a0) (hi : laysOps[16]? = some o) (hh : Here laysOps (LPhi A m c N S X) (LGr W) a0 16 o a w) :
    wpOp Tryd.prog laysOps Q 16 (fun a' w' => ∃ v, a' = a.put o.dst v ∧ LPhi A m c N S X 16 v w' ∧ LGr W w' ∧ LExt w w') a w := by
  obtain ⟨vg, eg, hpg⟩ := hh.of_dep hi 9 29 (by kernel_rfl)
  have hpg : vg = .bool true := hpg
  subst hpg
  have hw := want_true (ops := laysOps) (a := a) (i := 16) (j := 9) (t := 29) (by kernel_rfl) hi (by kernel_rfl) eg
  have e1 := (hh.of_base 1 (by kernel_rfl)).trans h.s1
  exact st_val hi hw _ (run_move (op_of (op := .move (.tmp 1)) (by kernel_rfl) hi) (eval_at e1)) rfl hh.gr (Below.refl _ _)
theorem lay_17 {o : Oper} {a : Act} {w : World} (h : LH A m c N S X W a0) (hi : laysOps[17]? = some o) (hh : Here laysOps (LPhi A m c N S X) (LGr W) a0 17 o a w) :
    wpOp Tryd.prog laysOps Q 17 (fun a' w' => ∃ v, a' = a.put o.dst v ∧ LPhi A m c N S X 17 v w' ∧ LGr W w' ∧ LExt w w') a w := by
  obtain ⟨vg, eg, hpg⟩ := hh.of_dep hi 9 29 (by kernel_rfl)
  have hpg : vg = .bool true := hpg
  subst hpg
  have hw := want_true (ops := laysOps) (a := a) (i := 17) (j := 9) (t := 29) (by kernel_rfl) hi (by kernel_rfl) eg
  obtain ⟨v1, e1, hp1⟩ := hh.of_dep hi 16 36 (by kernel_rfl)
  have hp1 : v1 = .int .u64 N := hp1
  subst hp1
  exact st_val hi hw _ (run_conv (op_of (op := .convert 29 2 (.tmp 36)) (by kernel_rfl) hi) (eval_at e1) (h.convN w)) rfl hh.gr (Below.refl _ _)
theorem lay_18 {o : Oper} {a : Act} {w : World} (h : LH A m c N S X W a0) (hi : laysOps[18]? = some o) (hh : Here laysOps (LPhi A m c N S X) (LGr W) a0 18 o a w) :
    wpOp Tryd.prog laysOps Q 18 (fun a' w' => ∃ v, a' = a.put o.dst v ∧ LPhi A m c N S X 18 v w' ∧ LGr W w' ∧ LExt w w') a w := by
  obtain ⟨vg, eg, hpg⟩ := hh.of_dep hi 9 29 (by kernel_rfl)
  have hpg : vg = .bool true := hpg
  subst hpg
  have hw := want_true (ops := laysOps) (a := a) (i := 18) (j := 9) (t := 29) (by kernel_rfl) hi (by kernel_rfl) eg
  obtain ⟨v1, e1, hp1⟩ := hh.of_dep hi 17 37 (by kernel_rfl)
  have hp1 : v1 = .int .i64 (wrap64 N) := hp1
  subst hp1
  have hop := op_of (ops := laysOps) (op := .call { callee := .value (.func 28), args := #[.tmp 37], argTypes := #[2] }) (by kernel_rfl) hi
  exact st_call hi hw 28 _ (by simp [execOp, hop, resolve, invoke, Act.eval, Deferred.ofValue, e1]) (h.cInt hh.gr)
theorem lay_19 {o : Oper} {a : Act} {w : World} (h : LH A m c N S X W a0) (hi : laysOps[19]? = some o) (hh : Here laysOps (LPhi A m c N S X) (LGr W) a0 19 o a w) :
    wpOp Tryd.prog laysOps Q 19 (fun a' w' => ∃ v, a' = a.put o.dst v ∧ LPhi A m c N S X 19 v w' ∧ LGr W w' ∧ LExt w w') a w := by
  obtain ⟨vg, eg, hpg⟩ := hh.of_dep hi 9 29 (by kernel_rfl)
  have hpg : vg = .bool true := hpg
  subst hpg
  have hw := want_true (ops := laysOps) (a := a) (i := 19) (j := 9) (t := 29) (by kernel_rfl) hi (by kernel_rfl) eg
  obtain ⟨v1, e1, hp1⟩ := hh.of_dep hi 15 35 (by kernel_rfl)
  have hp1 : v1 = .string X := hp1
  subst hp1
  obtain ⟨v2, e2, hp2⟩ := hh.of_dep hi 18 38 (by kernel_rfl)
  have hp2 : v2 = .string (EI N) := hp2
  subst hp2
  refine st_val hi hw _ (run_bin (op_of (op := .binOp .add 9 (.tmp 35) (.tmp 38) 9) (by kernel_rfl) hi) (eval_at e1) (eval_at e2) (eqGuard_other (by simp) (by simp) w) (h.add2 w)) rfl hh.gr (Below.refl _ _)
theorem lay_20 {o : Oper} {a : Act} {w : World} (_h : LH A m c N S X W a0) (hi : laysOps[20]? = some o) (hh : Here laysOps (LPhi A m c N S X) (LGr W) a0 20 o a w) :
    wpOp Tryd.prog laysOps Q 20 (fun a' w' => ∃ v, a' = a.put o.dst v ∧ LPhi A m c N S X 20 v w' ∧ LGr W w' ∧ LExt w w') a w := by
  obtain ⟨vg, eg, hpg⟩ := hh.of_dep hi 9 29 (by kernel_rfl)
  have hpg : vg = .bool true := hpg
  subst hpg
  have hw := want_true (ops := laysOps) (a := a) (i := 20) (j := 9) (t := 29) (by kernel_rfl) hi (by kernel_rfl) eg
  obtain ⟨v1, e1, hp1⟩ := hh.of_dep hi 14 34 (by kernel_rfl)
  have hp1 : v1 = .string (X ++ EI N) := hp1
  subst hp1
  obtain ⟨v2, e2, hp2⟩ := hh.of_dep hi 19 39 (by kernel_rfl)
  have hp2 : v2 = .string (X ++ EI N) := hp2
  subst hp2
  refine st_val hi hw _ (run_bin (op_of (op := .binOp .eql 9 (.tmp 34) (.tmp 39) 9) (by kernel_rfl) hi) (eval_at e1) (eval_at e2) (eqGuard_other (by simp) (by simp) w) (eql_same _ w)) rfl hh.gr (Below.refl _ _)
theorem lay_21 {o : Oper} {a : Act} {w : World} (_h : LH A m c N S X W a0) (hi : laysOps[21]? = some o) (hh : Here laysOps (LPhi A m c N S X) (LGr W) a0 21 o a w) :
    wpOp Tryd.prog laysOps Q 21 (fun a' w' => ∃ v, a' = a.put o.dst v ∧ LPhi A m c N S X 21 v w' ∧ LGr W w' ∧ LExt w w') a w := by
  have hw := want_none (ops := laysOps) (a := a) (i := 21) (by kernel_rfl) hi
  obtain ⟨v1, e1, hp1⟩ := hh.of_dep hi 9 29 (by kernel_rfl)
  have hp1 : v1 = .bool true := hp1
  subst hp1
  obtain ⟨v2, e2, hp2⟩ := hh.of_dep hi 20 40 (by kernel_rfl)
  have hp2 : v2 = .bool true := hp2
  subst hp2
  exact st_val hi hw _ (run_pick (op_of (op := .pick (.tmp 29) (.tmp 40) (.const (.bool false))) (by kernel_rfl) hi) (eval_at e1) (eval_at e2) rfl) rfl hh.gr (Below.refl _ _)
theorem lay_22 {o : Oper} {a : Act} {w : World} (_h : LH A m c N S X W a0) (hi : laysOps[22]? = some o) (hh : Here laysOps (LPhi A m c N S X) (LGr W) a0 22 o a w) :
    wpOp Tryd.prog laysOps Q 22 (fun a' w' => ∃ v, a' = a.put o.dst v ∧ LPhi A m c N S X 22 v w' ∧ LGr W w' ∧ LExt w w') a w := by
  have hw := want_none (ops := laysOps) (a := a) (i := 22) (by kernel_rfl) hi
  obtain ⟨v1, e1, hp1⟩ := hh.of_dep hi 21 41 (by kernel_rfl)
  have hp1 : v1 = .bool true := hp1
  subst hp1
  exact st_val hi hw _ (run_move (op_of (op := .move (.tmp 41)) (by kernel_rfl) hi) (eval_at e1)) rfl hh.gr (Below.refl _ _)
theorem lay_23 {o : Oper} {a : Act} {w : World} (h : LH A m c N S X W a0) (hi : laysOps[23]? = some o) (hh : Here laysOps (LPhi A m c N S X) (LGr W) a0 23 o a w) :
    wpOp Tryd.prog laysOps Q 23 (fun a' w' => ∃ v, a' = a.put o.dst v ∧ LPhi A m c N S X 23 v w' ∧ LGr W w' ∧ LExt w w') a w := by
  obtain ⟨vg, eg, hpg⟩ := hh.of_dep hi 22 42 (by kernel_rfl)
  have hpg : vg = .bool true := hpg
  subst hpg
  have hw := want_true (ops := laysOps) (a := a) (i := 23) (j := 22) (t := 42) (by kernel_rfl) hi (by kernel_rfl) eg
  have e1 := (hh.of_base 0 (by kernel_rfl)).trans h.s0
  exact st_val hi hw _ (run_move (op_of (op := .move (.tmp 0)) (by kernel_rfl) hi) (eval_at e1)) rfl hh.gr (Below.refl _ _)
theorem lay_24 {o : Oper} {a : Act} {w : World} (h : LH A m c N S X W a0) (hi : laysOps[24]? = some o) (hh : Here laysOps (LPhi A m c N S X) (LGr W) a0 24 o a w) :
    wpOp Tryd.prog laysOps Q 24 (fun a' w' => ∃ v, a' = a.put o.dst v ∧ LPhi A m c N S X 24 v w' ∧ LGr W w' ∧ LExt w w') a w := by
  obtain ⟨vg, eg, hpg⟩ := hh.of_dep hi 22 42 (by kernel_rfl)
  have hpg : vg = .bool true := hpg
  subst hpg
  have hw := want_true (ops := laysOps) (a := a) (i := 24) (j := 22) (t := 42) (by kernel_rfl) hi (by kernel_rfl) eg
  have e1 := (hh.of_base 1 (by kernel_rfl)).trans h.s1
  exact st_val hi hw _ (run_move (op_of (op := .move (.tmp 1)) (by kernel_rfl) hi) (eval_at e1)) rfl hh.gr (Below.refl _ _)
theorem lay_25 {o : Oper} {a : Act} {w : World} (h : LH A m c N S X W a0) (hi : laysOps[25]? = some o) (hh : Here laysOps (LPhi A m c N S X) (LGr W) a0 25 o a w) :
    wpOp Tryd.prog laysOps Q 25 (fun a' w' => ∃ v, a' = a.put o.dst v ∧ LPhi A m c N S X 25 v w' ∧ LGr W w' ∧ LExt w w') a w := by
  obtain ⟨vg, eg, hpg⟩ := hh.of_dep hi 22 42 (by kernel_rfl)
  have hpg : vg = .bool true := hpg
  subst hpg
  have hw := want_true (ops := laysOps) (a := a) (i := 25) (j := 22) (t := 42) (by kernel_rfl) hi (by kernel_rfl) eg
  obtain ⟨v1, e1, hp1⟩ := hh.of_dep hi 24 44 (by kernel_rfl)
  have hp1 : v1 = .int .u64 N := hp1
  subst hp1
  refine st_val hi hw _ (run_bin (op_of (op := .binOp .rem 29 (.tmp 44) (.const (.int .u64 2)) 29) (by kernel_rfl) hi) (eval_at e1) rfl (eqGuard_other (by simp) (by simp) w) (h.rem2 w)) rfl hh.gr (Below.refl _ _)
theorem lay_26 {o : Oper} {a : Act} {w : World} (h : LH A m c N S X W a0) (hi : laysOps[26]? = some o) (hh : Here laysOps (LPhi A m c N S X) (LGr W) a0 26 o a w) :
    wpOp Tryd.prog laysOps Q 26 (fun a' w' => ∃ v, a' = a.put o.dst v ∧ LPhi A m c N S X 26 v w' ∧ LGr W w' ∧ LExt w w') a w := by
  obtain ⟨vg, eg, hpg⟩ := hh.of_dep hi 22 42 (by kernel_rfl)
  have hpg : vg = .bool true := hpg
  subst hpg
  have hw := want_true (ops := laysOps) (a := a) (i := 26) (j := 22) (t := 42) (by kernel_rfl) hi (by kernel_rfl) eg
  obtain ⟨v1, e1, hp1⟩ := hh.of_dep hi 25 45 (by kernel_rfl)
  have hp1 : v1 = .int .u64 ((N % 2 : Nat) : Int) := hp1
  subst hp1
  refine st_val hi hw _ (run_bin (op_of (op := .binOp .eql 29 (.tmp 45) (.const (.int .u64 1)) 29) (by kernel_rfl) hi) (eval_at e1) rfl (eqGuard_other (by simp) (by simp) w) (h.eql1 w)) rfl hh.gr (Below.refl _ _)
theorem lay_27 {o : Oper} {a : Act} {w : World} (h : LH A m c N S X W a0) (hi : laysOps[27]? = some o) (hh : Here laysOps (LPhi A m c N S X) (LGr W) a0 27 o a w) :
    wpOp Tryd.prog laysOps Q 27 (fun a' w' => ∃ v, a' = a.put o.dst v ∧ LPhi A m c N S X 27 v w' ∧ LGr W w' ∧ LExt w w') a w := by
  obtain ⟨vg, eg, hpg⟩ := hh.of_dep hi 22 42 (by kernel_rfl)
  have hpg : vg = .bool true := hpg
  subst hpg
  have hw := want_true (ops := laysOps) (a := a) (i := 27) (j := 22) (t := 42) (by kernel_rfl) hi (by kernel_rfl) eg
  obtain ⟨v1, e1, hp1⟩ := hh.of_dep hi 23 43 (by kernel_rfl)
  have hp1 : v1 = .slice A m c := hp1
  subst hp1
  obtain ⟨v2, e2, hp2⟩ := hh.of_dep hi 26 46 (by kernel_rfl)
  have hp2 : v2 = .bool (N % 2 == 1) := hp2
  subst hp2
  have hop := op_of (ops := laysOps) (op := .call { callee := .value (.func 29), args := #[.tmp 43, .tmp 46], argTypes := #[61, 4] }) (by kernel_rfl) hi
  exact st_call hi hw 29 _ (by simp [execOp, hop, resolve, invoke, Act.eval, Deferred.ofValue, e1, e2]) (h.cPB hh.gr)
theorem lay_28 {o : Oper} {a : Act} {w : World} (_h : LH A m c N S X W a0) (hi : laysOps[28]? = some o) (hh : Here laysOps (LPhi A m c N S X) (LGr W) a0 28 o a w) :
    wpOp Tryd.prog laysOps Q 28 (fun a' w' => ∃ v, a' = a.put o.dst v ∧ LPhi A m c N S X 28 v w' ∧ LGr W w' ∧ LExt w w') a w := by
  obtain ⟨vg, eg, hpg⟩ := hh.of_dep hi 22 42 (by kernel_rfl)
  have hpg : vg = .bool true := hpg
  subst hpg
  have hw := want_true (ops := laysOps) (a := a) (i := 28) (j := 22) (t := 42) (by kernel_rfl) hi (by kernel_rfl) eg
  obtain ⟨v1, e1, hp1⟩ := hh.of_dep hi 27 47 (by kernel_rfl)
  obtain ⟨g1, c1, q1, hs1⟩ : PSv (X ++ EB N) v1 w := hp1
  subst q1
  exact st_val hi hw _ (run_conv (op_of (op := .convert 61 9 (.tmp 47)) (by kernel_rfl) hi) (eval_at e1) (hs1.conv)) rfl hh.gr (Below.refl _ _)
theorem lay_29 {o : Oper} {a : Act} {w : World} (h : LH A m c N S X W a0) (hi : laysOps[29]? = some o) (hh : Here laysOps (LPhi A m c N S X) (LGr W) a0 29 o a w) :
    wpOp Tryd.prog laysOps Q 29 (fun a' w' => ∃ v, a' = a.put o.dst v ∧ LPhi A m c N S X 29 v w' ∧ LGr W w' ∧ LExt w w') a w := by
  obtain ⟨vg, eg, hpg⟩ := hh.of_dep hi 22 42 (by kernel_rfl)
  have hpg : vg = .bool true := hpg
  subst hpg
  have hw := want_true (ops := laysOps) (a := a) (i := 29) (j := 22) (t := 42) (by kernel_rfl) hi (by kernel_rfl) eg
  have e1 := (hh.of_base 7 (by kernel_rfl)).trans h.s7
  exact st_val hi hw _ (run_move (op_of (op := .move (.tmp 7)) (by kernel_rfl) hi) (eval_at e1)) rfl hh.gr (Below.refl _ _)
theorem lay_30 {o : Oper} {a : Act} {w : World} (h : LH A m c N S X W a0) (hi : laysOps[30]? = some o) (hh : Here laysOps (LPhi A m c N S X) (LGr W) a0 30 o a w) :
    wpOp Tryd.prog laysOps Q 30 (fun a' w' => ∃ v, a' = a.put o.dst v ∧ LPhi A m c N S X 30 v w' ∧ LGr W w' ∧ LExt w w') a w := by
  obtain ⟨vg, eg, hpg⟩ := hh.of_dep hi 22 42 (by kernel_rfl)
  have hpg : vg = .bool true := hpg
  subst hpg
  have hw := want_true (ops := laysOps) (a := a) (i := 30) (j := 22) (t := 42) (by kernel_rfl) hi (by kernel_rfl) eg
  have e1 := (hh.of_base 1 (by kernel_rfl)).trans h.s1
  exact st_val hi hw _ (run_move (op_of (op := .move (.tmp 1)) (by kernel_rfl) hi) (eval_at e1)) rfl hh.gr (Below.refl _ _)
theorem lay_31 {o : Oper} {a : Act} {w : World} (h : LH A m c N S X W a0) (hi : laysOps[31]? = some o) (hh : Here laysOps (LPhi A m c N S X) (LGr W) a0 31 o a w) :
    wpOp Tryd.prog laysOps Q 31 (fun a' w' => ∃ v, a' = a.put o.dst v ∧ LPhi A m c N S X 31 v w' ∧ LGr W w' ∧ LExt w w') a w := by
  obtain ⟨vg, eg, hpg⟩ := hh.of_dep hi 22 42 (by kernel_rfl)
  have hpg : vg = .bool true := hpg
  subst hpg
  have hw := want_true (ops := laysOps) (a := a) (i := 31) (j := 22) (t := 42) (by kernel_rfl) hi (by kernel_rfl) eg
  obtain ⟨v1, e1, hp1⟩ := hh.of_dep hi 30 50 (by kernel_rfl)
  have hp1 : v1 = .int .u64 N := hp1
  subst hp1
  refine st_val hi hw _ (run_bin (op_of (op := .binOp .rem 29 (.tmp 50) (.const (.int .u64 2)) 29) (by kernel_rfl) hi) (eval_at e1) rfl (eqGuard_other (by simp) (by simp) w) (h.rem2 w)) rfl hh.gr (Below.refl _ _)
theorem lay_32 {o : Oper} {a : Act} {w : World} (h : LH A m c N S X W a0) (hi : laysOps[32]? = some o) (hh : Here laysOps (LPhi A m c N S X) (LGr W) a0 32 o a w) :
    wpOp Tryd.prog laysOps Q 32 (fun a' w' => ∃ v, a' = a.put o.dst v ∧ LPhi A m c N S X 32 v w' ∧ LGr W w' ∧ LExt w w') a w := by
  obtain ⟨vg, eg, hpg⟩ := hh.of_dep hi 22 42 (by kernel_rfl)
  have hpg : vg = .bool true := hpg
  subst hpg
  have hw := want_true (ops := laysOps) (a := a) (i := 32) (j := 22) (t := 42) (by kernel_rfl) hi (by kernel_rfl) eg
  obtain ⟨v1, e1, hp1⟩ := hh.of_dep hi 31 51 (by kernel_rfl)
  have hp1 : v1 = .int .u64 ((N % 2 : Nat) : Int) := hp1
  subst hp1
  refine st_val hi hw _ (run_bin (op_of (op := .binOp .eql 29 (.tmp 51) (.const (.int .u64 1)) 29) (by kernel_rfl) hi) (eval_at e1) rfl (eqGuard_other (by simp) (by simp) w) (h.eql1 w)) rfl hh.gr (Below.refl _ _)
theorem lay_33 {o : Oper} {a : Act} {w : World} (h : LH A m c N S X W a0) (hi : laysOps[33]? = some o) (hh : Here laysOps (LPhi A m c N S X) (LGr W) a0 33 o a w) :
    wpOp Tryd.prog laysOps Q 33 (fun a' w' => ∃ v, a' = a.put o.dst v ∧ LPhi A m c N S X 33 v w' ∧ LGr W w' ∧ LExt w w') a w := by
  obtain ⟨vg, eg, hpg⟩ := hh.of_dep hi 22 42 (by kernel_rfl)
  have hpg : vg = .bool true := hpg
  subst hpg
  have hw := want_true (ops := laysOps) (a := a) (i := 33) (j := 22) (t := 42) (by kernel_rfl) hi (by kernel_rfl) eg
  obtain ⟨v1, e1, hp1⟩ := hh.of_dep hi 32 52 (by kernel_rfl)
  have hp1 : v1 = .bool (N % 2 == 1) := hp1
  subst hp1
  have hop := op_of (ops := laysOps) (op := .call { callee := .value (.func 30), args := #[.tmp 52], argTypes := #[4] }) (by kernel_rfl) hi
  exact st_call hi hw 30 _ (by simp [execOp, hop, resolve, invoke, Act.eval, Deferred.ofValue, e1]) (h.cTruth hh.gr)
theorem lay_34 {o : Oper} {a : Act} {w : World} (h : LH A m c N S X W a0) (hi : laysOps[34]? = some o) (hh : Here laysOps (LPhi A m c N S X) (LGr W) a0 34 o a w) :
    wpOp Tryd.prog laysOps Q 34 (fun a' w' => ∃ v, a' = a.put o.dst v ∧ LPhi A m c N S X 34 v w' ∧ LGr W w' ∧ LExt w w') a w := by
  obtain ⟨vg, eg, hpg⟩ := hh.of_dep hi 22 42 (by kernel_rfl)
  have hpg : vg = .bool true := hpg
  subst hpg
  have hw := want_true (ops := laysOps) (a := a) (i := 34) (j := 22) (t := 42) (by kernel_rfl) hi (by kernel_rfl) eg
  obtain ⟨v1, e1, hp1⟩ := hh.of_dep hi 29 49 (by kernel_rfl)
  have hp1 : v1 = .string X := hp1
  subst hp1
  obtain ⟨v2, e2, hp2⟩ := hh.of_dep hi 33 53 (by kernel_rfl)
  have hp2 : v2 = .string (EB N) := hp2
  subst hp2
  refine st_val hi hw _ (run_bin (op_of (op := .binOp .add 9 (.tmp 49) (.tmp 53) 9) (by kernel_rfl) hi) (eval_at e1) (eval_at e2) (eqGuard_other (by simp) (by simp) w) (h.add3 w)) rfl hh.gr (Below.refl _ _)
theorem lay_35 {o : Oper} {a : Act} {w : World} (_h : LH A m c N S X W a0) (hi : laysOps[35]? = some o) (hh : Here laysOps (LPhi A m c N S X) (LGr W) a0 35 o a w) :
    wpOp Tryd.prog laysOps Q 35 (fun a' w' => ∃ v, a' = a.put o.dst v ∧ LPhi A m c N S X 35 v w' ∧ LGr W w' ∧ LExt w w') a w := by
  obtain ⟨vg, eg, hpg⟩ := hh.of_dep hi 22 42 (by kernel_rfl)
  have hpg : vg = .bool true := hpg
  subst hpg
  have hw := want_true (ops := laysOps) (a := a) (i := 35) (j := 22) (t := 42) (by kernel_rfl) hi (by kernel_rfl) eg
  obtain ⟨v1, e1, hp1⟩ := hh.of_dep hi 28 48 (by kernel_rfl)
  have hp1 : v1 = .string (X ++ EB N) := hp1
  subst hp1
  obtain ⟨v2, e2, hp2⟩ := hh.of_dep hi 34 54 (by kernel_rfl)
  have hp2 : v2 = .string (X ++ EB N) := hp2
  subst hp2
  refine st_val hi hw _ (run_bin (op_of (op := .binOp .eql 9 (.tmp 48) (.tmp 54) 9) (by kernel_rfl) hi) (eval_at e1) (eval_at e2) (eqGuard_other (by simp) (by simp) w) (eql_same _ w)) rfl hh.gr (Below.refl _ _)
theorem lay_36 {o : Oper} {a : Act} {w : World} (_h : LH A m c N S X W a0) (hi : laysOps[36]? = some o) (hh : Here laysOps (LPhi A m c N S X) (LGr W) a0 36 o a w) :
    wpOp Tryd.prog laysOps Q 36 (fun a' w' => ∃ v, a' = a.put o.dst v ∧ LPhi A m c N S X 36 v w' ∧ LGr W w' ∧ LExt w w') a w := by
  have hw := want_none (ops := laysOps) (a := a) (i := 36) (by kernel_rfl) hi
  obtain ⟨v1, e1, hp1⟩ := hh.of_dep hi 22 42 (by kernel_rfl)
  have hp1 : v1 = .bool true := hp1
  subst hp1
  obtain ⟨v2, e2, hp2⟩ := hh.of_dep hi 35 55 (by kernel_rfl)
  have hp2 : v2 = .bool true := hp2
  subst hp2
  exact st_val hi hw _ (run_pick (op_of (op := .pick (.tmp 42) (.tmp 55) (.const (.bool false))) (by kernel_rfl) hi) (eval_at e1) (eval_at e2) rfl) rfl hh.gr (Below.refl _ _)
theorem lay_37 {o : Oper} {a : Act} {w : World} (_h : LH A m c N S X W a0) (hi : laysOps[37]? = some o) (hh : Here laysOps (LPhi A m c N S X) (LGr W) a0 37 o a w) :
    wpOp Tryd.prog laysOps Q 37 (fun a' w' => ∃ v, a' = a.put o.dst v ∧ LPhi A m c N S X 37 v w' ∧ LGr W w' ∧ LExt w w') a w := by
  have hw := want_none (ops := laysOps) (a := a) (i := 37) (by kernel_rfl) hi
  obtain ⟨v1, e1, hp1⟩ := hh.of_dep hi 36 56 (by kernel_rfl)
  have hp1 : v1 = .bool true := hp1
  subst hp1
  exact st_val hi hw _ (run_move (op_of (op := .move (.tmp 56)) (by kernel_rfl) hi) (eval_at e1)) rfl hh.gr (Below.refl _ _)
theorem lay_38 {o : Oper} {a : Act} {w : World} (h : LH A m c N S X W a0) (hi : laysOps[38]? = some o) (hh : Here laysOps (LPhi A m c N S X) (LGr W) a0 38 o a w) :
    wpOp Tryd.prog laysOps Q 38 (fun a' w' => ∃ v, a' = a.put o.dst v ∧ LPhi A m c N S X 38 v w' ∧ LGr W w' ∧ LExt w w') a w := by
  obtain ⟨vg, eg, hpg⟩ := hh.of_dep hi 37 57 (by kernel_rfl)
  have hpg : vg = .bool true := hpg
  subst hpg
  have hw := want_true (ops := laysOps) (a := a) (i := 38) (j := 37) (t := 57) (by kernel_rfl) hi (by kernel_rfl) eg
  have e1 := (hh.of_base 0 (by kernel_rfl)).trans h.s0
  exact st_val hi hw _ (run_move (op_of (op := .move (.tmp 0)) (by kernel_rfl) hi) (eval_at e1)) rfl hh.gr (Below.refl _ _)
theorem lay_39 {o : Oper} {a : Act} {w : World} (h : LH A m c N S X W a0) (hi : laysOps[39]? = some o) (hh : Here laysOps (LPhi A m c N S X) (LGr W) a0 39 o a w) :
    wpOp Tryd.prog laysOps Q 39 (fun a' w' => ∃ v, a' = a.put o.dst v ∧ LPhi A m c N S X 39 v w' ∧ LGr W w' ∧ LExt w w') a w := by
  obtain ⟨vg, eg, hpg⟩ := hh.of_dep hi 37 57 (by kernel_rfl)
  have hpg : vg = .bool true := hpg
  subst hpg
  have hw := want_true (ops := laysOps) (a := a) (i := 39) (j := 37) (t := 57) (by kernel_rfl) hi (by kernel_rfl) eg
  have e1 := (hh.of_base 2 (by kernel_rfl)).trans h.s2
  exact st_val hi hw _ (run_move (op_of (op := .move (.tmp 2)) (by kernel_rfl) hi) (eval_at e1)) rfl hh.gr (Below.refl _ _)
theorem lay_40 {o : Oper} {a : Act} {w : World} (h : LH A m c N S X W a0) (hi : laysOps[40]? = some o) (hh : Here laysOps (LPhi A m c N S X) (LGr W) a0 40 o a w) :
    wpOp Tryd.prog laysOps Q 40 (fun a' w' => ∃ v, a' = a.put o.dst v ∧ LPhi A m c N S X 40 v w' ∧ LGr W w' ∧ LExt w w') a w := by
  obtain ⟨vg, eg, hpg⟩ := hh.of_dep hi 37 57 (by kernel_rfl)
  have hpg : vg = .bool true := hpg
  subst hpg
  have hw := want_true (ops := laysOps) (a := a) (i := 40) (j := 37) (t := 57) (by kernel_rfl) hi (by kernel_rfl) eg
  obtain ⟨v1, e1, hp1⟩ := hh.of_dep hi 38 58 (by kernel_rfl)
  have hp1 : v1 = .slice A m c := hp1
  subst hp1
  obtain ⟨v2, e2, hp2⟩ := hh.of_dep hi 39 59 (by kernel_rfl)
  have hp2 : v2 = .string S := hp2
  subst hp2
  have hop := op_of (ops := laysOps) (op := .call { callee := .value (.func 31), args := #[.tmp 58, .tmp 59], argTypes := #[61, 9] }) (by kernel_rfl) hi
  exact st_call hi hw 31 _ (by simp [execOp, hop, resolve, invoke, Act.eval, Deferred.ofValue, e1, e2]) (h.cPT hh.gr)
theorem lay_41 {o : Oper} {a : Act} {w : World} (_h : LH A m c N S X W a0) (hi : laysOps[41]? = some o) (hh : Here laysOps (LPhi A m c N S X) (LGr W) a0 41 o a w) :
    wpOp Tryd.prog laysOps Q 41 (fun a' w' => ∃ v, a' = a.put o.dst v ∧ LPhi A m c N S X 41 v w' ∧ LGr W w' ∧ LExt w w') a w := by
  obtain ⟨vg, eg, hpg⟩ := hh.of_dep hi 37 57 (by kernel_rfl)
  have hpg : vg = .bool true := hpg
  subst hpg
  have hw := want_true (ops := laysOps) (a := a) (i := 41) (j := 37) (t := 57) (by kernel_rfl) hi (by kernel_rfl) eg
  obtain ⟨v1, e1, hp1⟩ := hh.of_dep hi 40 60 (by kernel_rfl)
  obtain ⟨g1, c1, q1, hs1⟩ : PSv (X ++ (ES S ++ S)) v1 w := hp1
  subst q1
  exact st_val hi hw _ (run_conv (op_of (op := .convert 61 9 (.tmp 60)) (by kernel_rfl) hi) (eval_at e1) (hs1.conv)) rfl hh.gr (Below.refl _ _)
theorem lay_42 {o : Oper} {a : Act} {w : World} (h : LH A m c N S X W a0) (hi : laysOps[42]? = some o) (hh : Here laysOps (LPhi A m c N S X) (LGr W) a0 42 o a w) :
    wpOp Tryd.prog laysOps Q 42 (fun a' w' => ∃ v, a' = a.put o.dst v ∧ LPhi A m c N S X 42 v w' ∧ LGr W w' ∧ LExt w w') a w := by
  obtain ⟨vg, eg, hpg⟩ := hh.of_dep hi 37 57 (by kernel_rfl)
  have hpg : vg = .bool true := hpg
  subst hpg
  have hw := want_true (ops := laysOps) (a := a) (i := 42) (j := 37) (t := 57) (by kernel_rfl) hi (by kernel_rfl) eg
  have e1 := (hh.of_base 7 (by kernel_rfl)).trans h.s7
  exact st_val hi hw _ (run_move (op_of (op := .move (.tmp 7)) (by kernel_rfl) hi) (eval_at e1)) rfl hh.gr (Below.refl _ _)
theorem lay_43 {o : Oper} {a : Act} {w : World} (h : LH A m c N S X W a0) (hi : laysOps[43]? = some o) (hh : Here laysOps (LPhi A m c N S X) (LGr W) a0 43 o a w) :
    wpOp Tryd.prog laysOps Q 43 (fun a' w' => ∃ v, a' = a.put o.dst v ∧ LPhi A m c N S X 43 v w' ∧ LGr W w' ∧ LExt w w') a w := by
  obtain ⟨vg, eg, hpg⟩ := hh.of_dep hi 37 57 (by kernel_rfl)
  have hpg : vg = .bool true := hpg
  subst hpg
  have hw := want_true (ops := laysOps) (a := a) (i := 43) (j := 37) (t := 57) (by kernel_rfl) hi (by kernel_rfl) eg
  have e1 := (hh.of_base 2 (by kernel_rfl)).trans h.s2
  exact st_val hi hw _ (run_move (op_of (op := .move (.tmp 2)) (by kernel_rfl) hi) (eval_at e1)) rfl hh.gr (Below.refl _ _)
theorem lay_44 {o : Oper} {a : Act} {w : World} (h : LH A m c N S X W a0) (hi : laysOps[44]? = some o) (hh : Here laysOps (LPhi A m c N S X) (LGr W) a0 44 o a w) :
    wpOp Tryd.prog laysOps Q 44 (fun a' w' => ∃ v, a' = a.put o.dst v ∧ LPhi A m c N S X 44 v w' ∧ LGr W w' ∧ LExt w w') a w := by
  obtain ⟨vg, eg, hpg⟩ := hh.of_dep hi 37 57 (by kernel_rfl)
  have hpg : vg = .bool true := hpg
  subst hpg
  have hw := want_true (ops := laysOps) (a := a) (i := 44) (j := 37) (t := 57) (by kernel_rfl) hi (by kernel_rfl) eg
  obtain ⟨v1, e1, hp1⟩ := hh.of_dep hi 43 63 (by kernel_rfl)
  have hp1 : v1 = .string S := hp1
  subst hp1
  have hop := op_of (ops := laysOps) (op := .call { callee := .value (.func 32), args := #[.tmp 63], argTypes := #[9] }) (by kernel_rfl) hi
  exact st_call hi hw 32 _ (by simp [execOp, hop, resolve, invoke, Act.eval, Deferred.ofValue, e1]) (h.cText hh.gr)
theorem lay_45 {o : Oper} {a : Act} {w : World} (h : LH A m c N S X W a0) (hi : laysOps[45]? = some o) (hh : Here laysOps (LPhi A m c N S X) (LGr W) a0 45 o a w) :
    wpOp Tryd.prog laysOps Q 45 (fun a' w' => ∃ v, a' = a.put o.dst v ∧ LPhi A m c N S X 45 v w' ∧ LGr W w' ∧ LExt w w') a w := by
  obtain ⟨vg, eg, hpg⟩ := hh.of_dep hi 37 57 (by kernel_rfl)
  have hpg : vg = .bool true := hpg
  subst hpg
  have hw := want_true (ops := laysOps) (a := a) (i := 45) (j := 37) (t := 57) (by kernel_rfl) hi (by kernel_rfl) eg
  obtain ⟨v1, e1, hp1⟩ := hh.of_dep hi 42 62 (by kernel_rfl)
  have hp1 : v1 = .string X := hp1
  subst hp1
  obtain ⟨v2, e2, hp2⟩ := hh.of_dep hi 44 64 (by kernel_rfl)
  have hp2 : v2 = .string (ES S ++ S) := hp2
  subst hp2
  refine st_val hi hw _ (run_bin (op_of (op := .binOp .add 9 (.tmp 62) (.tmp 64) 9) (by kernel_rfl) hi) (eval_at e1) (eval_at e2) (eqGuard_other (by simp) (by simp) w) (h.add4 w)) rfl hh.gr (Below.refl _ _)
theorem lay_46 {o : Oper} {a : Act} {w : World} (_h : LH A m c N S X W a0) (hi : laysOps[46]? = some o) (hh : Here laysOps (LPhi A m c N S X) (LGr W) a0 46 o a w) :
    wpOp Tryd.prog laysOps Q 46 (fun a' w' => ∃ v, a' = a.put o.dst v ∧ LPhi A m c N S X 46 v w' ∧ LGr W w' ∧ LExt w w') a w := by
  obtain ⟨vg, eg, hpg⟩ := hh.of_dep hi 37 57 (by kernel_rfl)
  have hpg : vg = .bool true := hpg
  subst hpg
  have hw := want_true (ops := laysOps) (a := a) (i := 46) (j := 37) (t := 57) (by kernel_rfl) hi (by kernel_rfl) eg
  obtain ⟨v1, e1, hp1⟩ := hh.of_dep hi 41 61 (by kernel_rfl)
  have hp1 : v1 = .string (X ++ (ES S ++ S)) := hp1
  subst hp1
  obtain ⟨v2, e2, hp2⟩ := hh.of_dep hi 45 65 (by kernel_rfl)
  have hp2 : v2 = .string (X ++ (ES S ++ S)) := hp2
  subst hp2
  refine st_val hi hw _ (run_bin (op_of (op := .binOp .eql 9 (.tmp 61) (.tmp 65) 9) (by kernel_rfl) hi) (eval_at e1) (eval_at e2) (eqGuard_other (by simp) (by simp) w) (eql_same _ w)) rfl hh.gr (Below.refl _ _)
theorem lay_47 {o : Oper} {a : Act} {w : World} (_h : LH A m c N S X W a0) (hi : laysOps[47]? = some o) (hh : Here laysOps (LPhi A m c N S X) (LGr W) a0 47 o a w) :
    wpOp Tryd.prog laysOps Q 47 (fun a' w' => ∃ v, a' = a.put o.dst v ∧ LPhi A m c N S X 47 v w' ∧ LGr W w' ∧ LExt w w') a w := by
  have hw := want_none (ops := laysOps) (a := a) (i := 47) (by kernel_rfl) hi
  obtain ⟨v1, e1, hp1⟩ := hh.of_dep hi 37 57 (by kernel_rfl)
  have hp1 : v1 = .bool true := hp1
  subst hp1
  obtain ⟨v2, e2, hp2⟩ := hh.of_dep hi 46 66 (by kernel_rfl)
  have hp2 : v2 = .bool true := hp2
  subst hp2
  exact st_val hi hw _ (run_pick (op_of (op := .pick (.tmp 57) (.tmp 66) (.const (.bool false))) (by kernel_rfl) hi) (eval_at e1) (eval_at e2) rfl) rfl hh.gr (Below.refl _ _)
theorem lay_48 {o : Oper} {a : Act} {w : World} (_h : LH A m c N S X W a0) (hi : laysOps[48]? = some o) (hh : Here laysOps (LPhi A m c N S X) (LGr W) a0 48 o a w) :
    wpOp Tryd.prog laysOps Q 48 (fun a' w' => ∃ v, a' = a.put o.dst v ∧ LPhi A m c N S X 48 v w' ∧ LGr W w' ∧ LExt w w') a w := by
  have hw := want_none (ops := laysOps) (a := a) (i := 48) (by kernel_rfl) hi
  obtain ⟨v1, e1, hp1⟩ := hh.of_dep hi 47 67 (by kernel_rfl)
  have hp1 : v1 = .bool true := hp1
  subst hp1
  exact st_val hi hw _ (run_move (op_of (op := .move (.tmp 67)) (by kernel_rfl) hi) (eval_at e1)) rfl hh.gr (Below.refl _ _)
theorem lay_49 {o : Oper} {a : Act} {w : World} (h : LH A m c N S X W a0) (hi : laysOps[49]? = some o) (hh : Here laysOps (LPhi A m c N S X) (LGr W) a0 49 o a w) :
    wpOp Tryd.prog laysOps Q 49 (fun a' w' => ∃ v, a' = a.put o.dst v ∧ LPhi A m c N S X 49 v w' ∧ LGr W w' ∧ LExt w w') a w := by
  obtain ⟨vg, eg, hpg⟩ := hh.of_dep hi 48 68 (by kernel_rfl)
  have hpg : vg = .bool true := hpg
  subst hpg
  have hw := want_true (ops := laysOps) (a := a) (i := 49) (j := 48) (t := 68) (by kernel_rfl) hi (by kernel_rfl) eg
  have e1 := (hh.of_base 0 (by kernel_rfl)).trans h.s0
  exact st_val hi hw _ (run_move (op_of (op := .move (.tmp 0)) (by kernel_rfl) hi) (eval_at e1)) rfl hh.gr (Below.refl _ _)
theorem lay_50 {o : Oper} {a : Act} {w : World} (h : LH A m c N S X W a0) (hi : laysOps[50]? = some o) (hh : Here laysOps (LPhi A m c N S X) (LGr W) a0 50 o a w) :
    wpOp Tryd.prog laysOps Q 50 (fun a' w' => ∃ v, a' = a.put o.dst v ∧ LPhi A m c N S X 50 v w' ∧ LGr W w' ∧ LExt w w') a w := by
  obtain ⟨vg, eg, hpg⟩ := hh.of_dep hi 48 68 (by kernel_rfl)
  have hpg : vg = .bool true := hpg
  subst hpg
  have hw := want_true (ops := laysOps) (a := a) (i := 50) (j := 48) (t := 68) (by kernel_rfl) hi (by kernel_rfl) eg
  obtain ⟨v1, e1, hp1⟩ := hh.of_dep hi 49 69 (by kernel_rfl)
  have hp1 : v1 = .slice A m c := hp1
  subst hp1
  exact st_val hi hw _ (run_conv (op_of (op := .convert 61 9 (.tmp 69)) (by kernel_rfl) hi) (eval_at e1) (h.convA hh.gr)) rfl hh.gr (Below.refl _ _)
theorem lay_51 {o : Oper} {a : Act} {w : World} (h : LH A m c N S X W a0) (hi : laysOps[51]? = some o) (hh : Here laysOps (LPhi A m c N S X) (LGr W) a0 51 o a w) :
    wpOp Tryd.prog laysOps Q 51 (fun a' w' => ∃ v, a' = a.put o.dst v ∧ LPhi A m c N S X 51 v w' ∧ LGr W w' ∧ LExt w w') a w := by
  obtain ⟨vg, eg, hpg⟩ := hh.of_dep hi 48 68 (by kernel_rfl)
  have hpg : vg = .bool true := hpg
  subst hpg
  have hw := want_true (ops := laysOps) (a := a) (i := 51) (j := 48) (t := 68) (by kernel_rfl) hi (by kernel_rfl) eg
  have e1 := (hh.of_base 7 (by kernel_rfl)).trans h.s7
  exact st_val hi hw _ (run_move (op_of (op := .move (.tmp 7)) (by kernel_rfl) hi) (eval_at e1)) rfl hh.gr (Below.refl _ _)
theorem lay_52 {o : Oper} {a : Act} {w : World} (_h : LH A m c N S X W a0) (hi : laysOps[52]? = some o) (hh : Here laysOps (LPhi A m c N S X) (LGr W) a0 52 o a w) :
    wpOp Tryd.prog laysOps Q 52 (fun a' w' => ∃ v, a' = a.put o.dst v ∧ LPhi A m c N S X 52 v w' ∧ LGr W w' ∧ LExt w w') a w := by
  obtain ⟨vg, eg, hpg⟩ := hh.of_dep hi 48 68 (by kernel_rfl)
  have hpg : vg = .bool true := hpg
  subst hpg
  have hw := want_true (ops := laysOps) (a := a) (i := 52) (j := 48) (t := 68) (by kernel_rfl) hi (by kernel_rfl) eg
  obtain ⟨v1, e1, hp1⟩ := hh.of_dep hi 50 70 (by kernel_rfl)
  have hp1 : v1 = .string X := hp1
  subst hp1
  obtain ⟨v2, e2, hp2⟩ := hh.of_dep hi 51 71 (by kernel_rfl)
  have hp2 : v2 = .string X := hp2
  subst hp2
  refine st_val hi hw _ (run_bin (op_of (op := .binOp .eql 9 (.tmp 70) (.tmp 71) 9) (by kernel_rfl) hi) (eval_at e1) (eval_at e2) (eqGuard_other (by simp) (by simp) w) (eql_same _ w)) rfl hh.gr (Below.refl _ _)
theorem lay_53 {o : Oper} {a : Act} {w : World} (_h : LH A m c N S X W a0) (hi : laysOps[53]? = some o) (hh : Here laysOps (LPhi A m c N S X) (LGr W) a0 53 o a w) :
    wpOp Tryd.prog laysOps Q 53 (fun a' w' => ∃ v, a' = a.put o.dst v ∧ LPhi A m c N S X 53 v w' ∧ LGr W w' ∧ LExt w w') a w := by
  have hw := want_none (ops := laysOps) (a := a) (i := 53) (by kernel_rfl) hi
  obtain ⟨v1, e1, hp1⟩ := hh.of_dep hi 48 68 (by kernel_rfl)
  have hp1 : v1 = .bool true := hp1
  subst hp1
  obtain ⟨v2, e2, hp2⟩ := hh.of_dep hi 52 72 (by kernel_rfl)
  have hp2 : v2 = .bool true := hp2
  subst hp2
  exact st_val hi hw _ (run_pick (op_of (op := .pick (.tmp 68) (.tmp 72) (.const (.bool false))) (by kernel_rfl) hi) (eval_at e1) (eval_at e2) rfl) rfl hh.gr (Below.refl _ _)
theorem lay_54 {o : Oper} {a : Act} {w : World} (_h : LH A m c N S X W a0) (hi : laysOps[54]? = some o) (hh : Here laysOps (LPhi A m c N S X) (LGr W) a0 54 o a w) :
    wpOp Tryd.prog laysOps Q 54 (fun a' w' => ∃ v, a' = a.put o.dst v ∧ LPhi A m c N S X 54 v w' ∧ LGr W w' ∧ LExt w w') a w := by
  have hw := want_none (ops := laysOps) (a := a) (i := 54) (by kernel_rfl) hi
  obtain ⟨v1, e1, hp1⟩ := hh.of_dep hi 53 73 (by kernel_rfl)
  have hp1 : v1 = .bool true := hp1
  subst hp1
  exact st_val hi hw _ (run_move (op_of (op := .move (.tmp 73)) (by kernel_rfl) hi) (eval_at e1)) rfl hh.gr (Below.refl _ _)
theorem lay_55 {o : Oper} {a : Act} {w : World} (h : LH A m c N S X W a0) (hi : laysOps[55]? = some o) (hh : Here laysOps (LPhi A m c N S X) (LGr W) a0 55 o a w) :
    wpOp Tryd.prog laysOps Q 55 (fun a' w' => ∃ v, a' = a.put o.dst v ∧ LPhi A m c N S X 55 v w' ∧ LGr W w' ∧ LExt w w') a w := by
  obtain ⟨vg, eg, hpg⟩ := hh.of_dep hi 54 74 (by kernel_rfl)
  have hpg : vg = .bool true := hpg
  subst hpg
  have hw := want_true (ops := laysOps) (a := a) (i := 55) (j := 54) (t := 74) (by kernel_rfl) hi (by kernel_rfl) eg
  have hop := op_of (ops := laysOps) (op := .call { callee := .value (.func 24), args := #[], argTypes := #[] }) (by kernel_rfl) hi
  exact st_call hi hw 24 _ (by simp [execOp, hop, resolve, invoke, Act.eval, Deferred.ofValue]) (h.cW hh.gr)
theorem lay_56 {o : Oper} {a : Act} {w : World} (_h : LH A m c N S X W a0) (hi : laysOps[56]? = some o) (hh : Here laysOps (LPhi A m c N S X) (LGr W) a0 56 o a w) :
    wpOp Tryd.prog laysOps Q 56 (fun a' w' => ∃ v, a' = a.put o.dst v ∧ LPhi A m c N S X 56 v w' ∧ LGr W w' ∧ LExt w w') a w := by
  have hw := want_none (ops := laysOps) (a := a) (i := 56) (by kernel_rfl) hi
  obtain ⟨v1, e1, hp1⟩ := hh.of_dep hi 54 74 (by kernel_rfl)
  have hp1 : v1 = .bool true := hp1
  subst hp1
  obtain ⟨v2, e2, hp2⟩ := hh.of_dep hi 55 75 (by kernel_rfl)
  have hp2 : v2 = .bool true := hp2
  subst hp2
  exact st_val hi hw _ (run_pick (op_of (op := .pick (.tmp 74) (.tmp 75) (.const (.bool false))) (by kernel_rfl) hi) (eval_at e1) (eval_at e2) rfl) rfl hh.gr (Below.refl _ _)
theorem lay_57 {o : Oper} {a : Act} {w : World} (_h : LH A m c N S X W a0) (hi : laysOps[57]? = some o) (hh : Here laysOps (LPhi A m c N S X) (LGr W) a0 57 o a w) :
    wpOp Tryd.prog laysOps Q 57 (fun a' w' => ∃ v, a' = a.put o.dst v ∧ LPhi A m c N S X 57 v w' ∧ LGr W w' ∧ LExt w w') a w := by
  have hw := want_none (ops := laysOps) (a := a) (i := 57) (by kernel_rfl) hi
  obtain ⟨v1, e1, hp1⟩ := hh.of_dep hi 56 76 (by kernel_rfl)
  have hp1 : v1 = .bool true := hp1
  subst hp1
  exact st_val hi hw _ (run_assign (op_of (op := .assign (.tmp 76)) (by kernel_rfl) hi) (eval_at e1)) rfl hh.gr (Below.refl _ _)

theorem lays_steps (h : LH A m c N S X W a0) : ∀ (i : Nat) (o : Oper) (a : Act) (w : World), laysOps[i]? = some o → Here laysOps (LPhi A m c N S X) (LGr W) a0 i o a w →
    wpOp Tryd.prog laysOps Q i (fun a' w' => ∃ v, a' = a.put o.dst v ∧ LPhi A m c N S X i v w' ∧ LGr W w' ∧ LExt w w') a w := by
  intro i o a w hi hh
  match i, hi, hh with
  | 0, hi, hh => exact lay_0 h hi hh
  | 1, hi, hh => exact lay_1 h hi hh
  | 2, hi, hh => exact lay_2 h hi hh
  | 3, hi, hh => exact lay_3 h hi hh
  | 4, hi, hh => exact lay_4 h hi hh
  | 5, hi, hh => exact lay_5 h hi hh
  | 6, hi, hh => exact lay_6 h hi hh
  | 7, hi, hh => exact lay_7 h hi hh
  | 8, hi, hh => exact lay_8 h hi hh
  | 9, hi, hh => exact lay_9 h hi hh
  | 10, hi, hh => exact lay_10 h hi hh
  | 11, hi, hh => exact lay_11 h hi hh
  | 12, hi, hh => exact lay_12 h hi hh
  | 13, hi, hh => exact lay_13 h hi hh
  | 14, hi, hh => exact lay_14 h hi hh
  | 15, hi, hh => exact lay_15 h hi hh
  | 16, hi, hh => exact lay_16 h hi hh
  | 17, hi, hh => exact lay_17 h hi hh
  | 18, hi, hh => exact lay_18 h hi hh
  | 19, hi, hh => exact lay_19 h hi hh
  | 20, hi, hh => exact lay_20 h hi hh
  | 21, hi, hh => exact lay_21 h hi hh
  | 22, hi, hh => exact lay_22 h hi hh
  | 23, hi, hh => exact lay_23 h hi hh
  | 24, hi, hh => exact lay_24 h hi hh
  | 25, hi, hh => exact lay_25 h hi hh
  | 26, hi, hh => exact lay_26 h hi hh
  | 27, hi, hh => exact lay_27 h hi hh
  | 28, hi, hh => exact lay_28 h hi hh
  | 29, hi, hh => exact lay_29 h hi hh
  | 30, hi, hh => exact lay_30 h hi hh
  | 31, hi, hh => exact lay_31 h hi hh
  | 32, hi, hh => exact lay_32 h hi hh
  | 33, hi, hh => exact lay_33 h hi hh
  | 34, hi, hh => exact lay_34 h hi hh
  | 35, hi, hh => exact lay_35 h hi hh
  | 36, hi, hh => exact lay_36 h hi hh
  | 37, hi, hh => exact lay_37 h hi hh
  | 38, hi, hh => exact lay_38 h hi hh
  | 39, hi, hh => exact lay_39 h hi hh
  | 40, hi, hh => exact lay_40 h hi hh
  | 41, hi, hh => exact lay_41 h hi hh
  | 42, hi, hh => exact lay_42 h hi hh
  | 43, hi, hh => exact lay_43 h hi hh
  | 44, hi, hh => exact lay_44 h hi hh
  | 45, hi, hh => exact lay_45 h hi hh
  | 46, hi, hh => exact lay_46 h hi hh
  | 47, hi, hh => exact lay_47 h hi hh
  | 48, hi, hh => exact lay_48 h hi hh
  | 49, hi, hh => exact lay_49 h hi hh
  | 50, hi, hh => exact lay_50 h hi hh
  | 51, hi, hh => exact lay_51 h hi hh
  | 52, hi, hh => exact lay_52 h hi hh
  | 53, hi, hh => exact lay_53 h hi hh
  | 54, hi, hh => exact lay_54 h hi hh
  | 55, hi, hh => exact lay_55 h hi hh
  | 56, hi, hh => exact lay_56 h hi hh
  | 57, hi, hh => exact lay_57 h hi hh
  | n + 58, hi, _ =>
    exfalso
    have h1 := (Array.getElem?_eq_some_iff.1 hi).1
    have h2 : laysOps.size = 58 := by kernel_rfl
    omega

def dstOk (ops : Array Oper) (n : Nat) : Bool := (List.range ops.size).all fun i => match ops[i]? with
  | some o => (match o.dst with
    | some d => decide (d < n) && (List.range ops.size).all fun j => j == i || !((ops[j]?).bind (fun o => o.dst) == some d)
    | none => true)
  | none => true
theorem dst_ok : dstOk laysOps 77 = true := by kernel_rfl
theorem back_ok : allBack 0 laysOps.toList = true := by kernel_rfl

theorem lays_region {ops : Array Oper} {w0 : World} (ho : ops = laysOps) (h : LH A m c N S X W a0) (hs : a0.tmps.size = 77) (hg : LGr W w0)
    (hQ : ∀ a w, a.defers = a0.defers → a.tmps.size = 77 → a.tmps[6]? = some (.bool true) → LGr W w → Q .normal a w) :
    (Code.region 4 ops true).wp Tryd.prog Q a0 w0 := by
  subst ho
  have hd : ∀ (i : Nat) (o : Oper) (d : Nat), laysOps[i]? = some o → o.dst = some d → d < 77 ∧ ∀ j, j < laysOps.size → j = i ∨ (laysOps[j]?).bind (fun o => o.dst) ≠ some d := by
    intro i o d hi hd
    have := List.all_eq_true.1 dst_ok i (List.mem_range.2 (Array.getElem?_eq_some_iff.1 hi).1)
    simp only [hi, hd, Bool.and_eq_true, decide_eq_true_eq] at this
    refine ⟨this.1, fun j hj => ?_⟩
    have := List.all_eq_true.1 this.2 j (List.mem_range.2 hj)
    simp only [Bool.or_eq_true, beq_iff_eq, Bool.not_eq_true', beq_eq_false_iff_ne] at this
    exact this
  refine wp_region_order (Φ := LPhi A m c N S X) (Gr := LGr W) (Ext := LExt) (by kernel_rfl) ?_ ?_ ?_ LPhi.mono hg.drew (lays_steps h) ?_
  · intro i j o o' d hi hj e1 e2
    rcases (hd i o d hi e1).2 j (Array.getElem?_eq_some_iff.1 hj).1 with h1 | h1
    · exact h1.symm
    · exact absurd (by rw [hj]; exact e2) h1
  · intro i o d hi e1
    rw [hs]
    exact (hd i o d hi e1).1
  · intro i o hi e he hb
    have := allBack_spec back_ok i o (by rw [Array.getElem?_toList]; exact hi) e he hb
    omega
  · intro a w e1 e2 e3 e4 _
    have hx : (laysOps[57]?).map (fun o => o.dst) = some (some 6) := by kernel_rfl
    cases ho : laysOps[57]? with
    | none => rw [ho] at hx; simp at hx
    | some o =>
      rw [ho] at hx
      simp at hx
      obtain ⟨v, hv, hp⟩ := e4 57 o 6 ho hx
      have hp : v = .bool true := hp
      subst hp
      exact hQ a w e1 (by rw [e2, hs]) hv e3
end
end Go.Proofs.YtghodlnignineaaDoor
