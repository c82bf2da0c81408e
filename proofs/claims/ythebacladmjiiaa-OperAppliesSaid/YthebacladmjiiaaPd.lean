/-
  The walk of OperParts.
-/
import Derived.Test.YthebacladmjiiaaPc
import Derived.BigQuiet
namespace Go.Proofs.Ythebacladmjiiaa
open Go Go.RowKit Go.Lib

theorem boxed_rec (r : RecD) (w w' : World) (h : Below (w.heap.size + 1) (w.alloc (.cells r.cells.toArray 36)) w') : w'.heap[w.heap.size]? = some (.cells r.cells.toArray 36 (0, 0)) :=
  (h.block _ (by omega)).trans (World.alloc_heap_new w _)
theorem ops_at (l : List DrD) (A : Option Addr) (cap B : Nat) (w : World) (hin : Drafts w B A l) (hB : B ≤ w.heap.size) (hlen : l.length ≤ maxLen) :
    Calls Try.prog 14 #[.slice A l.length cap] w fun e w' => ∃ A' c' ops, e = .returned (.slice A' ops.length c') ∧ ops.length ≤ 6 ∧ Opers w' w'.heap.size A' ops ∧ Below w.heap.size w w' :=
  ops_any l A cap w (by
    rcases hin with h | ⟨ad, rfl, hg, hc⟩
    · exact .inl h
    · exact .inr ⟨ad, rfl, by omega, hc⟩) hlen
theorem apply_at (ops : List OpD) (A : Option Addr) (cap : Nat) (r : RecD) (w : World) (hin : Opers w w.heap.size A ops) (hlen : ops.length ≤ 12) :
    Calls Try.prog 15 #[.slice A ops.length cap, r.v] w fun e w' => ∃ A' c' wh, e = .returned (.slice A' wh.length c') ∧ applyM ops r = wh ∧ wh.length ≤ 600000 ∧ Recs w' w'.heap.size (.slice A' wh.length c') wh ∧ Below w.heap.size w w' :=
  (apply_any ops A cap r w hin hlen).mono fun e w' ⟨A', c', h1, h2, h3⟩ => ⟨A', c', _, h1, rfl, by
    have h := applyM_len ops r ops.length (Nat.le_refl _)
    rw [List.take_length] at h
    have h2 : (3 : Nat) ^ ops.length ≤ 3 ^ 12 := Nat.pow_le_pow_right (by omega) hlen
    have h3 : (3 : Nat) ^ 12 = 531441 := by decide
    omega, h2, h3⟩
theorem below_drewN {B : Nat} {W W1 : World} (h : Below B W W1) (n : Nat) : Below B W (W1.drewN n) := by
  induction n with
  | zero => exact h
  | succ n ih => exact ih.drew
theorem check3 (o : OpD) (h : o.kind = 3) (w : World) : Calls Try.prog 9 #[.agg #[.int .i64 3, .int .i64 o.a, .int .i64 o.b, .int .i64 o.agg]] w fun e w' => e = .returned (.int .i64 (codeM o)) ∧ Below w.heap.size w w' := by
  have q := check_any o w
  unfold OpD.val at q
  rw [h] at q
  exact q
theorem own_opers' {W : World} {base n c : Nat} {A : Option Addr} {l : List OpD} (h : W.ownsRow base 23 4 (.slice A n c) l.length (cellsO l)) : Opers W W.heap.size A l := by
  obtain ⟨A', c', e, h⟩ := own_opers h
  simp only [Value.slice.injEq] at e
  obtain ⟨rfl, _, _⟩ := e
  exact h
theorem own_recs' {W : World} {base n c : Nat} {A : Option Addr} {l : List RecD} (h : W.ownsRow base 36 6 (.slice A n c) l.length (cellsL l)) : Recs W W.heap.size (.slice A n c) l := own_recs h
theorem recs_at {W : World} {B n c j : Nat} {A : Option Addr} {l : List RecD} {x : RecD} (h : Recs W B (.slice A n c) l) (hx : l[j]? = some x) : ∃ g, A = some ⟨g, 0, none⟩ ∧ g < B ∧ RecIn W g (j * 6) x := by
  obtain ⟨A', c', e, h | ⟨g, e2, hg, hc⟩⟩ := h
  · subst h; simp at hx
  · simp only [Value.slice.injEq] at e
    obtain ⟨rfl, _, _⟩ := e
    exact ⟨g, e2, hg, hc j x hx⟩
theorem opers_at {W : World} {B j : Nat} {A : Option Addr} {l : List OpD} {x : OpD} (h : Opers W B A l) (hx : l[j]? = some x) : ∃ g, A = some ⟨g, 0, none⟩ ∧ g < B ∧ OpIn W g (j * 4) x := by
  rcases h with h | ⟨g, e2, hg, hc⟩
  · subst h; simp at hx
  · exact ⟨g, e2, hg, hc j x hx⟩
theorem flat_takeL {α β : Type} (f : α → List β) (l : List α) (j : Nat) : ((l.take j).flatMap f).length ≤ (l.flatMap f).length := by
  have h : l.flatMap f = (l.take j).flatMap f ++ (l.drop j).flatMap f := by rw [← List.flatMap_append, List.take_append_drop]
  rw [h, List.length_append]
  omega
theorem flat_next {α β : Type} (f : α → List β) (l : List α) (j : Nat) (h : j < l.length) : (l.take (j + 1)).flatMap f = (l.take j).flatMap f ++ f l[j] := by
  rw [List.take_succ_eq_append_getElem h, List.flatMap_append]
  simp

set_option maxRecDepth 100000 in
set_option maxHeartbeats 3200000 in
theorem parts_any (l1 l2 : List DrD) (A1 A2 : Option Addr) (cap1 cap2 : Nat) (r : RecD) (w : World) (hd1 : Drafts w w.heap.size A1 l1) (hd2 : Drafts w w.heap.size A2 l2) (hlen1 : l1.length ≤ maxLen) (hlen2 : l2.length ≤ maxLen) :
    Calls Try.prog 5 #[.slice A1 l1.length cap1, .slice A2 l2.length cap2, r.v] w fun e w' => e = .returned (.bool true) ∧ Below w.heap.size w w' := by
  obtain ⟨key, time, val, side, err, late⟩ := r
  have HD1 := Lib.hid hd1
  have HD2 := Lib.hid hd2
  have HL1 := Lib.hid hlen1
  have HL2 := Lib.hid hlen2
  clear hd1 hd2 hlen1 hlen2
  obtain ⟨i0, hi, hz0, hz1, hz2⟩ := info_parts info23
  have HI := Lib.hid hi
  have HZ0 := Lib.hid hz0
  have HZ1 := Lib.hid hz1
  have HZ2 := Lib.hid hz2
  clear hi hz0 hz1 hz2
  obtain ⟨i1, hi, hz0, hz1, hz2⟩ := info_parts info36
  have KI := Lib.hid hi
  have KZ0 := Lib.hid hz0
  have KZ1 := Lib.hid hz1
  have KZ2 := Lib.hid hz2
  clear hi hz0 hz1 hz2
  have B0 : Hid (Below w.heap.size w (w.alloc (.cells (RecD.cells ⟨key, time, val, side, err, late⟩).toArray 36))) := Lib.hid ((Below.refl _ _).alloc (Nat.le_refl _) _)
  have HBX : Hid (∀ w', Below (w.heap.size + 1) (w.alloc (.cells (RecD.cells ⟨key, time, val, side, err, late⟩).toArray 36)) w' → w'.heap[w.heap.size]? = some (.cells (RecD.cells ⟨key, time, val, side, err, late⟩).toArray 36 (0, 0))) := Lib.hid (boxed_rec ⟨key, time, val, side, err, late⟩ w)
  go_enter Try.func5, Try.ntmps5
  go_wp2_with (first
    | (go_at_call 13
       (with_reducible refine (works _).mono ?_)
       rintro e w1 ⟨rfl, hb1⟩
       have X1 : Hid (Below (w.heap.size + 1) (w.alloc (.cells (RecD.cells ⟨key, time, val, side, err, late⟩).toArray 36)) w1) := Lib.hid (hb1.mono (by simp))
       have Z1 : Hid (w.heap.size + 1 ≤ w1.heap.size) := Lib.hid (by have := hb1.size; simpa using this)
       have D1 : Hid (Drafts w1 w.heap.size A1 l1) := Lib.hid ((HD1.out.below B0.out).below (X1.out.mono (by omega)))
       clear hb1)
    | (go_at_call 14
       (with_reducible refine (ops_at l1 A1 cap1 w.heap.size _ D1.out (by have := Z1.out; omega) HL1.out).mono ?_)
       rintro e w2 ⟨Aa, ca, la, rfl, hla, hoa, hb2⟩
       have X2 : Hid (Below (w.heap.size + 1) (w.alloc (.cells (RecD.cells ⟨key, time, val, side, err, late⟩).toArray 36)) w2) := Lib.hid (X1.out.trans (hb2.mono Z1.out))
       have Z2 : Hid (w.heap.size + 1 ≤ w2.heap.size) := Lib.hid (by have := hb2.size; have := Z1.out; omega)
       have D2 : Hid (Drafts w2 w.heap.size A2 l2) := Lib.hid ((HD2.out.below B0.out).below (X2.out.mono (by omega)))
       have HLA := Lib.hid hla
       have OA2 := Lib.hid hoa
       clear hb2 hla hoa)
    | (go_at_call 14
       (with_reducible refine (ops_at l2 A2 cap2 w.heap.size _ D2.out (by have := Z2.out; omega) HL2.out).mono ?_)
       rintro e w3 ⟨Ab, cb, lb, rfl, hlb, hob, hb3⟩
       have X3 : Hid (Below (w.heap.size + 1) (w.alloc (.cells (RecD.cells ⟨key, time, val, side, err, late⟩).toArray 36)) w3) := Lib.hid (X2.out.trans (hb3.mono Z2.out))
       have Z3 : Hid (w.heap.size + 1 ≤ w3.heap.size) := Lib.hid (by have := hb3.size; have := Z2.out; omega)
       have OA3 : Hid (Opers w3 w3.heap.size Aa la) := Lib.hid ((OA2.out.below hb3).mono hb3.size)
       have HLB := Lib.hid hlb
       have OB3 := Lib.hid hob
       clear hb3 hlb hob))
  obtain ⟨all, hall⟩ : ∃ all, la ++ lb = all := ⟨_, rfl⟩
  have HALL := Lib.hid hall
  have HALN : Hid (la.length + lb.length = all.length) := Lib.hid (by rw [← hall, List.length_append])
  have HALC : Hid (cellsO la ++ cellsO lb = cellsO all) := Lib.hid (by rw [← hall, cellsO_app])
  clear hall
  have HX : Hid (∀ w', Below w3.heap.size w3 w' → w'.cell? ⟨w.heap.size, 0, none⟩ = some (.int .u32 key) ∧ w'.cell? ⟨w.heap.size, 1, none⟩ = some (.int .i64 time) ∧ w'.cell? ⟨w.heap.size, 2, none⟩ = some (.int .i64 val) ∧ w'.cell? ⟨w.heap.size, 3, none⟩ = some (.int .u8 side) ∧ w'.cell? ⟨w.heap.size, 4, none⟩ = some (.bool err) ∧ w'.cell? ⟨w.heap.size, 5, none⟩ = some (.bool late) ∧ Below w3.heap.size w3 w') := Lib.hid (fun w' h => by
    have q := HBX.out w' (X3.out.trans (h.mono Z3.out))
    refine ⟨?_, ?_, ?_, ?_, ?_, ?_, h⟩ <;> (simp only [World.cell?, q]; rfl))
  go_region_held3 (fun w' => w'.cell? ⟨w.heap.size, 0, none⟩ = some (.int .u32 key) ∧ w'.cell? ⟨w.heap.size, 1, none⟩ = some (.int .i64 time) ∧ w'.cell? ⟨w.heap.size, 2, none⟩ = some (.int .i64 val) ∧ w'.cell? ⟨w.heap.size, 3, none⟩ = some (.int .u8 side) ∧ w'.cell? ⟨w.heap.size, 4, none⟩ = some (.bool err) ∧ w'.cell? ⟨w.heap.size, 5, none⟩ = some (.bool late) ∧ Below w3.heap.size w3 w')
    (first | assumption | (exact HX.out _ (Below.refl _ _)) | (exact HX.out _ ((Below.refl _ _).drew)) | (exact HX.out _ (((Below.refl _ _).drew).alloc (Nat.le_refl _) _)) | (exact HX.out _ (((Below.refl _ _).drew).alloc (by simp) _)) | (exact HX.out _ hs4) | (exact HX.out _ hs5) | (exact HX.out _ hs6))
    (first
      | (refine step_append_src _ rfl _ _ 37 rfl w3.heap.size 23 i0 _ 4 32 Try.underlying37 HI.out HZ0.out HZ1.out HZ2.out rfl (by decide) _ 0 [] rfl (World.ownsRow_lit w3.drew #[] 0 (Nat.le_refl _) (by decide) rfl) Aa la.length ca (cellsO la) rfl (cellsO_len la) (OA3.out.below (((Below.refl _ _).drew).alloc (Nat.le_refl _) _)).lies (oneCellsO la) la.length (by omega) (cellsO la) rfl (by have := HLA.out; unfold maxLen; omega) (by have := HLA.out; omega) (by simp) ?_
         intro A4 c4 w4 hown4 hg4
         have hs4 : Below w3.heap.size w3 w4 := (((Below.refl _ _).drew).alloc (Nat.le_refl _) _).grown hg4 (by simp) (fun k e => Nat.le_of_eq (Option.some.inj e))
         have O4 := Lib.hid hown4
         clear hown4 hg4)
      | (refine step_append_src _ rfl _ _ 37 rfl w3.heap.size 23 i0 _ 4 32 Try.underlying37 HI.out HZ0.out HZ1.out HZ2.out rfl (by decide) _ la.length (cellsO la) rfl O4.out Ab lb.length cb (cellsO lb) rfl (cellsO_len lb) (OB3.out.below hs4).lies (oneCellsO lb) all.length HALN.out (cellsO all) HALC.out (by have := HLA.out; have := HLB.out; have := HALN.out; unfold maxLen; omega) (by have := HLA.out; have := HLB.out; have := HALN.out; omega) (by have := hs4.size; simpa using this) ?_
         intro A5 c5 w5 hown5 hg5
         have hs5 : Below w3.heap.size w3 w5 := hs4.grown hg5 hs4.size (fun k e => (own_lt O4.out e).1)
         have O5 := Lib.hid hown5
         clear hown5 hg5)
      | (go_at_call 15
         (with_reducible refine (apply_at all A5 c5 ⟨key, time, val, side, err, late⟩ _ (own_opers' O5.out) (by have := HLA.out; have := HLB.out; have := HALN.out; omega)).mono ?_)
         rintro e w6 ⟨A6, c6, wh, rfl, hwh, hwl, hr6, hb6⟩
         have HWH := Lib.hid hwh
         have HWL := Lib.hid hwl
         have hs6 : Below w3.heap.size w3 w6 := hs5.trans (hb6.mono hs5.size)
         have R6 := Lib.hid hr6
         clear hb6 hr6 hwh hwl))
  obtain ⟨b0, b1, b2, b3, b4, b5, _⟩ := HX.out _ hs6
  have X6 : Hid (Below w3.heap.size w3 w6) := Lib.hid hs6
  have OA6 : Hid (Opers w6 w6.heap.size Aa la) := Lib.hid ((OA3.out.below hs6).mono hs6.size)
  clear hs4 hs5 hs6
  go_wp2_with (first
    | (go_at_call 15
       (with_reducible refine (apply_at la Aa ca ⟨key, time, val, side, err, late⟩ _ OA6.out (by have := HLA.out; omega)).mono ?_)
       rintro e w7 ⟨A7, c7, sm, rfl, hsm, hsl, hr7, hb7⟩
       have HSM := Lib.hid hsm
       have HSL := Lib.hid hsl
       have X7 : Hid (Below w3.heap.size w3 w7) := Lib.hid (X6.out.trans (hb7.mono X6.out.size))
       have R7 := Lib.hid hr7
       have R67 : Hid (Recs w7 w7.heap.size (.slice A6 wh.length c6) wh) := Lib.hid ((R6.out.below hb7).mono hb7.size)
       clear hb7 hr7 hsm hsl b0 b1 b2 b3 b4 b5))
  have HFL : Hid (sm.flatMap (applyM lb) = wh) := Lib.hid (by rw [← HSM.out, ← HWH.out, ← HALL.out, applyM_app])
  go_loopw [10, 12] (fun v10 i wr => ∃ (j : Nat) (A10 : Option Addr) (c10 : Nat) (ps : List RecD), i = .int .i64 j ∧ j ≤ sm.length ∧ v10 = .slice A10 ps.length c10 ∧ ps = (sm.take j).flatMap (applyM lb) ∧ wr.ownsRow w7.heap.size 36 6 (.slice A10 ps.length c10) ps.length (cellsL ps) ∧ Below w7.heap.size w7 wr) (fun _ i _ => sm.length - (intOf i).toNat)
  case atStart => exact ⟨0, none, 0, [], rfl, Nat.zero_le _, rfl, rfl, World.ownsRow_nil _ _ _ _, Below.refl _ _⟩
  case round =>
    obtain ⟨j, A10, c10, ps, rfl, hj, rfl, hps, hown, hb⟩ := hrel
    have BR := Lib.hid hb
    have OW := Lib.hid hown
    have HPS := Lib.hid hps
    have HPL : Hid (ps.length ≤ 600000) := Lib.hid (by have h := flat_takeL (applyM lb) sm j; rw [HFL.out, ← hps] at h; have := HWL.out; omega)
    clear hb hown hps
    by_cases hlt : j < sm.length
    · have hq1 : (j : Int) < (sm.length : Int) := by omega
      have hq0 : (0 : Int) ≤ (j : Int) := by omega
      have hsl := HSL.out
      have W1 : IntKind.i64.wrap ((j : Int) + 1) = (j : Int) + 1 := IntWalk.i64_in _ (by omega)
      obtain ⟨x, hx⟩ : ∃ x, sm[j] = x := ⟨_, rfl⟩
      obtain ⟨g, rfl, hg, q0, q1, q2, q3, q4, q5⟩ := recs_at (x := x) (R7.out.below BR.out) (by rw [List.getElem?_eq_getElem hlt, hx])
      have HXX : Hid ((sm.take (j + 1)).flatMap (applyM lb) = ps ++ applyM lb x) := Lib.hid (by rw [flat_next _ _ _ hlt, HPS.out, hx])
      have OBR : Hid (Opers wr wr.heap.size Ab lb) := Lib.hid (((OB3.out.below X7.out).mono X7.out.size |>.below BR.out).mono BR.out.size)
      clear hx
      go_wp2_with (first
        | (go_at_call 15
           (with_reducible refine (apply_at lb Ab cb x _ OBR.out (by have := HLB.out; omega)).mono ?_)
           rintro e w8 ⟨A8, c8, l8, rfl, hl8, hn8, hr8, hb8⟩
           have HL8 := Lib.hid hl8
           have HN8 := Lib.hid hn8
           have R8 := Lib.hid hr8
           have OW8 := Lib.hid (own_below OW.out hb8)
           have B8 : Hid (Below w7.heap.size w7 w8) := Lib.hid (BR.out.trans (hb8.mono BR.out.size))
           obtain ⟨ps2, hps2⟩ : ∃ ps2, ps ++ l8 = ps2 := ⟨_, rfl⟩
           have P2 := Lib.hid hps2
           have N2 : Hid (ps.length + l8.length = ps2.length) := Lib.hid (by rw [← hps2, List.length_append])
           have C2 : Hid (cellsL ps ++ cellsL l8 = cellsL ps2) := Lib.hid (by rw [← hps2, cellsL_app])
           clear hl8 hn8 hr8 hb8 hps2)
        | (at_builtin
           refine wpList_append_src _ rfl _ _ 39 rfl w7.heap.size 36 i1 _ 6 32 Try.underlying39 KI.out KZ0.out KZ1.out KZ2.out rfl (by decide) _ ps.length (cellsL ps) rfl OW8.out A8 l8.length c8 (cellsL l8) rfl (cellsL_len l8) R8.out.lies (oneCellsL l8) ps2.length N2.out (cellsL ps2) C2.out (by have := HPL.out; have := HN8.out; have := N2.out; unfold maxLen; omega) (by have := HPL.out; have := HN8.out; have := N2.out; omega) (by have := B8.out.size; simpa using this) ?_
           intro A9 c9 w9 hown9 hg9
           have O9 := Lib.hid hown9
           have B9 : Hid (Below w7.heap.size w7 w9) := Lib.hid (B8.out.grown hg9 B8.out.size (fun k e => (own_lt OW8.out e).1))
           clear hown9 hg9))
      go_roundw
      case rel => exact ⟨j + 1, A9, c9, ps2, by go_num, by omega, rfl, by rw [HXX.out, HL8.out, P2.out], O9.out, B9.out⟩
      case measure => simp [intOf]; omega
    · obtain rfl : j = sm.length := by omega
      have hq1 : ¬ ((sm.length : Nat) : Int) < (sm.length : Int) := by omega
      have hpw : wh = ps := by rw [HPS.out, List.take_length, HFL.out]
      subst hpw
      rename World => wa
      have OAR : Hid (Opers wa wa.heap.size Aa la) := Lib.hid (((OA3.out.below X7.out).mono X7.out.size |>.below BR.out).mono BR.out.size)
      have OBR : Hid (Opers wa wa.heap.size Ab lb) := Lib.hid (((OB3.out.below X7.out).mono X7.out.size |>.below BR.out).mono BR.out.size)
      go_wp2_with (first
        | (at_builtin
           refine wpList_append_src _ rfl _ _ 37 rfl wa.heap.size 23 i0 _ 4 32 Try.underlying37 HI.out HZ0.out HZ1.out HZ2.out rfl (by decide) _ 0 [] rfl (World.ownsRow_lit wa #[] 0 (Nat.le_refl _) (by decide) rfl) Aa la.length ca (cellsO la) rfl (cellsO_len la) (OAR.out.below ((Below.refl _ _).alloc (Nat.le_refl _) _)).lies (oneCellsO la) la.length (by omega) (cellsO la) rfl (by have := HLA.out; unfold maxLen; omega) (by have := HLA.out; omega) (by simp) ?_
           intro A11 c11 w11 hown11 hg11
           have B11 : Hid (Below wa.heap.size wa w11) := Lib.hid (((Below.refl _ _).alloc (Nat.le_refl _) _).grown hg11 (by simp) (fun k e => Nat.le_of_eq (Option.some.inj e)))
           have O11 := Lib.hid hown11
           clear hown11 hg11)
        | (at_builtin
           refine wpList_append_src _ rfl _ _ 37 rfl wa.heap.size 23 i0 _ 4 32 Try.underlying37 HI.out HZ0.out HZ1.out HZ2.out rfl (by decide) _ la.length (cellsO la) rfl O11.out Ab lb.length cb (cellsO lb) rfl (cellsO_len lb) (OBR.out.below B11.out).lies (oneCellsO lb) all.length HALN.out (cellsO all) HALC.out (by have := HLA.out; have := HLB.out; have := HALN.out; unfold maxLen; omega) (by have := HLA.out; have := HLB.out; have := HALN.out; omega) (by have := B11.out.size; simpa using this) ?_
           intro A12 c12 w12 hown12 hg12
           have B12 : Hid (Below wa.heap.size wa w12) := Lib.hid (B11.out.grown hg12 B11.out.size (fun k e => (own_lt O11.out e).1))
           have O12 : Hid (Opers w12 w12.heap.size A12 all) := Lib.hid (own_opers' hown12)
           clear hown12 hg12))
      have HAN : Hid (all.length ≤ 12) := Lib.hid (by have := HLA.out; have := HLB.out; have := HALN.out; omega)
      go_loopw [13, 15] (fun v13 i wr => ∃ (j : Nat), i = .int .i64 j ∧ j ≤ all.length ∧ v13 = .int .i64 ((prodM (all.take j) : Nat) : Int) ∧ Below w12.heap.size w12 wr) (fun _ i _ => all.length - (intOf i).toNat)
      case atStart => exact ⟨0, rfl, Nat.zero_le _, rfl, Below.refl _ _⟩
      case round =>
        obtain ⟨j, rfl, hj, rfl, hb⟩ := hrel
        have BL := Lib.hid hb
        clear hb
        obtain ⟨pr, hpr⟩ : ∃ pr, prodM (all.take j) = pr := ⟨_, rfl⟩
        have hpb := prodM_le all j hj
        rw [hpr] at hpb ⊢
        have HPB : Hid (1 ≤ pr ∧ pr ≤ 531441) := Lib.hid ⟨hpb.1, Nat.le_trans hpb.2 (Nat.le_trans (Nat.pow_le_pow_right (by omega) (show j ≤ 12 by have := HAN.out; omega)) (by decide))⟩
        have HPR := Lib.hid hpr
        clear hpb hpr
        by_cases hlt : j < all.length
        · have hq1 : (j : Int) < (all.length : Int) := by omega
          have hq0 : (0 : Int) ≤ (j : Int) := by omega
          have han := HAN.out
          have W1 : IntKind.i64.wrap ((j : Int) + 1) = (j : Int) + 1 := IntWalk.i64_in _ (by omega)
          obtain ⟨o, ho⟩ : ∃ o, all[j] = o := ⟨_, rfl⟩
          obtain ⟨g, rfl, hg, q0, q1, q2, q3⟩ := opers_at (x := o) (O12.out.below BL.out) (by rw [List.getElem?_eq_getElem hlt, ho])
          have HNX : Hid (prodM (all.take (j + 1)) = pr * facM o) := Lib.hid (by rw [prodM_take hlt, HPR.out, ho])
          clear ho
          by_cases hk : o.kind = 3
          · have hkd : decide (o.kind = 3) = true := decide_eq_true hk
            by_cases ha : allowsM o = true
            · have HC : Hid (codeM o = 0) := Lib.hid (by unfold codeM; rw [if_pos ha])
              have hfa : facM o = o.a.toNat := by unfold facM; rw [if_pos ⟨hk, ha⟩]
              have hfb := facM_le o
              have hoa : o.a = 1 ∨ o.a = 2 ∨ o.a = 3 := by omega
              have HEV : Hid (((prodM (all.take (j + 1)) : Nat) : Int) = wrap64 ((pr : Int) * o.a)) := Lib.hid (by
                rw [HNX.out, hfa]
                have := HPB.out
                rcases hoa with e | e | e
                · rw [show o.a.toNat = 1 from by omega, e]; unfold wrap64; omega
                · rw [show o.a.toNat = 2 from by omega, e]; unfold wrap64; omega
                · rw [show o.a.toNat = 3 from by omega, e]; unfold wrap64; omega)
              clear hfa hfb hoa
              go_wp2_with (first
                | (go_at_call 9
                   (with_reducible refine (check3 o hk _).mono ?_)
                   rw [HC.out]
                   rintro e w13 ⟨rfl, hb13⟩
                   have B13 : Hid (Below w12.heap.size w12 w13) := Lib.hid (BL.out.trans (hb13.mono BL.out.size))
                   have q1' := (cell_heap (off := j * 4 + 1) (hb13.block g (Nat.lt_of_lt_of_le hg BL.out.size))).trans q1
                   clear hb13))
              go_roundw
              case rel => exact ⟨j + 1, by go_num, by omega, by rw [HEV.out], B13.out⟩
              case measure => simp [intOf]; omega
            · have HC : Hid (codeM o = 13) := Lib.hid (by unfold codeM; rw [if_neg ha])
              have hfa : facM o = 1 := by unfold facM; rw [if_neg (fun h => ha h.2)]
              have HEV : Hid (prodM (all.take (j + 1)) = pr) := Lib.hid (by rw [HNX.out, hfa, Nat.mul_one])
              clear hfa
              go_wp2_with (first
                | (go_at_call 9
                   (with_reducible refine (check3 o hk _).mono ?_)
                   rw [HC.out]
                   rintro e w13 ⟨rfl, hb13⟩
                   have B13 : Hid (Below w12.heap.size w12 w13) := Lib.hid (BL.out.trans (hb13.mono BL.out.size))
                   clear hb13))
              go_roundw
              case rel => exact ⟨j + 1, by go_num, by omega, by rw [HEV.out], B13.out⟩
              case measure => simp [intOf]; omega
          · have hkd : decide (o.kind = 3) = false := decide_eq_false hk
            have hfa : facM o = 1 := by unfold facM; rw [if_neg (fun h => hk h.1)]
            have HEV : Hid (prodM (all.take (j + 1)) = pr) := Lib.hid (by rw [HNX.out, hfa, Nat.mul_one])
            clear hfa
            go_wp2_with fail
            go_roundw
            case rel => exact ⟨j + 1, by go_num, by omega, by rw [HEV.out], BL.out⟩
            case measure => simp [intOf]; omega
        · obtain rfl : j = all.length := by omega
          have hq1 : ¬ ((all.length : Nat) : Int) < (all.length : Int) := by omega
          rename World => wb
          have HWP : Hid (wh.length ≤ pr) := Lib.hid (by
            have h := apply_prod all ⟨key, time, val, side, err, late⟩ all.length (Nat.le_refl _)
            rw [HPR.out, List.take_length, HWH.out] at h
            exact h)
          have XB : Hid (Below w3.heap.size w3 wb) := Lib.hid (X7.out.trans ((BR.out.trans ((B12.out.trans (BL.out.mono B12.out.size)).mono BR.out.size)).mono X7.out.size))
          have YB : Hid (Below wa.heap.size wa wb) := Lib.hid (B12.out.trans (BL.out.mono B12.out.size))
          have RB6 : Hid (Recs wb wb.heap.size (.slice A6 wh.length c6) wh) := Lib.hid ((((R67.out.below BR.out).mono BR.out.size).below YB.out).mono YB.out.size)
          have RB10 : Hid (Recs wb wb.heap.size (.slice A10 wh.length c10) wh) := Lib.hid (((own_recs' OW.out).below YB.out).mono YB.out.size)
          have ZB : Hid (w.heap.size < wb.heap.size) := Lib.hid (by have := XB.out.size; have := Z3.out; omega)
          have HLK : Hid (∀ x ∈ wh, Like ⟨key, time, val, side, err, late⟩ x) := Lib.hid (fun x hx => apply_like all _ x (by rw [HWH.out]; exact hx))
          clear HL1 HL2 HPR
          go_wp2_with fail
          go_loopw [16] (fun i wr => ∃ (j : Nat), i = .int .i64 j ∧ j ≤ wh.length ∧ Below wb.heap.size wb wr) (fun i _ => wh.length - (intOf i).toNat)
          case atStart => exact ⟨0, rfl, Nat.zero_le _, Below.refl _ _⟩
          case round =>
            obtain ⟨j, rfl, hj, hb⟩ := hrel
            have BL3 := Lib.hid hb
            clear hb
            have hwl := HWL.out
            by_cases hlt : j < wh.length
            · have hq1 : (j : Int) < (wh.length : Int) := by omega
              have hq0 : (0 : Int) ≤ (j : Int) := by omega
              have W1 : IntKind.i64.wrap ((j : Int) + 1) = (j : Int) + 1 := IntWalk.i64_in _ (by omega)
              obtain ⟨x, hx⟩ : ∃ x, wh[j] = x := ⟨_, rfl⟩
              have hlk := HLK.out x (by rw [← hx]; exact List.getElem_mem _)
              have hxs : wh[j]? = some x := by rw [List.getElem?_eq_getElem hlt, hx]
              obtain ⟨k', t', v', s', e', l'⟩ := x
              obtain ⟨h1, h2, h3, h4, h5⟩ := hlk
              dsimp only at h1 h2 h3 h4 h5
              subst h1 h2 h3 h4
              obtain ⟨g6, rfl, hg6, q6⟩ := recs_at (RB6.out.below BL3.out) hxs
              obtain ⟨g10, rfl, hg10, q10⟩ := recs_at (RB10.out.below BL3.out) hxs
              have hg6' : g6 < wr.heap.size := Nat.lt_of_lt_of_le hg6 BL3.out.size
              have hg10' : g10 < wr.heap.size := Nat.lt_of_lt_of_le hg10 BL3.out.size
              have HQ10 := Lib.hid q10
              obtain ⟨q0, q1, q2, q3, q4, q5⟩ := q6
              clear q10 hx hxs
              go_wp2_with fail
              obtain ⟨wx, hwx⟩ : ∃ wx, wr.alloc (.cells #[.int .u32 k', .int .i64 t', .int .i64 v', .int .u8 s', .bool e', .bool l'] 36) = wx := ⟨_, rfl⟩
              have BX : Hid (Below wr.heap.size wr wx) := Lib.hid (by rw [← hwx]; exact (Below.refl _ _).alloc (Nat.le_refl _) _)
              have hnx : wx.heap[wr.heap.size]? = some (.cells #[.int .u32 k', .int .i64 t', .int .i64 v', .int .u8 s', .bool e', .bool l'] 36 (0, 0)) := by rw [← hwx]; exact World.alloc_heap_new wr _
              rw [hwx]
              clear hwx q0 q1 q2 q3 q4 q5
              have HS : Hid (wx.cell? ⟨w.heap.size, 0, none⟩ = some (.int .u32 key) ∧ wx.cell? ⟨w.heap.size, 1, none⟩ = some (.int .i64 t') ∧ wx.cell? ⟨w.heap.size, 2, none⟩ = some (.int .i64 val) ∧ wx.cell? ⟨w.heap.size, 3, none⟩ = some (.int .u8 s') ∧ wx.cell? ⟨w.heap.size, 4, none⟩ = some (.bool e') ∧ wx.cell? ⟨w.heap.size, 5, none⟩ = some (.bool l') ∧ wx.cell? ⟨wr.heap.size, 0, none⟩ = some (.int .u32 k') ∧ wx.cell? ⟨wr.heap.size, 1, none⟩ = some (.int .i64 t') ∧ wx.cell? ⟨wr.heap.size, 2, none⟩ = some (.int .i64 v') ∧ wx.cell? ⟨wr.heap.size, 3, none⟩ = some (.int .u8 s') ∧ wx.cell? ⟨wr.heap.size, 4, none⟩ = some (.bool e') ∧ wx.cell? ⟨wr.heap.size, 5, none⟩ = some (.bool l') ∧ wx.cell? ⟨g10, j * 6, none⟩ = some (.int .u32 k') ∧ wx.cell? ⟨g10, j * 6 + 1, none⟩ = some (.int .i64 t') ∧ wx.cell? ⟨g10, j * 6 + 2, none⟩ = some (.int .i64 v') ∧ wx.cell? ⟨g10, j * 6 + 3, none⟩ = some (.int .u8 s') ∧ wx.cell? ⟨g10, j * 6 + 4, none⟩ = some (.bool e') ∧ wx.cell? ⟨g10, j * 6 + 5, none⟩ = some (.bool l')) := Lib.hid (by
                obtain ⟨b0, b1, b2, b3, b4, b5, _⟩ := HX.out wx (XB.out.trans ((BL3.out.trans (BX.out.mono BL3.out.size)).mono XB.out.size))
                obtain ⟨p0, p1, p2, p3, p4, p5⟩ := HQ10.out.same (W' := wx) (BX.out.block _ hg10')
                refine ⟨b0, b1, b2, b3, b4, b5, ?_, ?_, ?_, ?_, ?_, ?_, p0, p1, p2, p3, p4, p5⟩ <;> (simp only [World.cell?, hnx]; rfl))
              have BE : Hid (Below wb.heap.size wb wx) := Lib.hid (BL3.out.trans (BX.out.mono BL3.out.size))
              clear hnx
              have hg : Try.prog.eqGuardType Try.prog.depth 36 = false := guard36
              by_cases hf : e' = true ∨ l' = true
              · have h6 := h5 hf
                simp only [RecD.mk.injEq, true_and, and_true] at h6
                obtain ⟨rfl, rfl⟩ := h6
                clear h5 HLK
                cases e' with
                | true =>
                  have hq := fun w => rec_eq ⟨k', t', v', s', true, l'⟩ w
                  obtain ⟨b0, b1, b2, b3, b4, b5, n0, n1, n2, n3, n4, n5, p0, p1, p2, p3, p4, p5⟩ := HS.out
                  go_quiet (fail)
                  go_wp2_with fail
                  go_roundw
                  case rel => exact ⟨j + 1, by go_num, by omega, below_drewN BE.out _⟩
                  case measure => simp [intOf]; omega
                | false =>
                  cases l' with
                  | true =>
                    have hq := fun w => rec_eq ⟨k', t', v', s', false, true⟩ w
                    obtain ⟨b0, b1, b2, b3, b4, b5, n0, n1, n2, n3, n4, n5, p0, p1, p2, p3, p4, p5⟩ := HS.out
                    go_quiet (fail)
                    go_wp2_with fail
                    go_roundw
                    case rel => exact ⟨j + 1, by go_num, by omega, below_drewN BE.out _⟩
                    case measure => simp [intOf]; omega
                  | false => simp at hf
              · have he' : e' = false := by cases e' <;> simp_all
                have hl' : l' = false := by cases l' <;> simp_all
                subst he' hl'
                clear h5 HLK hf
                have hq := fun w => rec_eq ⟨k', t', v', s', false, false⟩ w
                obtain ⟨b0, b1, b2, b3, b4, b5, n0, n1, n2, n3, n4, n5, p0, p1, p2, p3, p4, p5⟩ := HS.out
                go_quiet (fail)
                go_wp2_with fail
                go_roundw
                case rel => exact ⟨j + 1, by go_num, by omega, below_drewN BE.out _⟩
                case measure => simp [intOf]; omega
            · obtain rfl : j = wh.length := by omega
              have hq1 : ¬ ((wh.length : Nat) : Int) < (wh.length : Int) := by omega
              have hwp := HWP.out
              have hq2 : ((wh.length : Nat) : Int) ≤ (pr : Int) := by omega
              have BFI : Hid (Below w.heap.size w wr) := Lib.hid (B0.out.trans ((X3.out.trans ((XB.out.trans (BL3.out.mono XB.out.size)).mono Z3.out)).mono (by simp)))
              obtain ⟨b0, b1, b2, b3, b4, b5, _⟩ := HX.out wr (XB.out.trans (BL3.out.mono XB.out.size))
              cases err with
              | true =>
                have hl1 : ((wh.length : Nat) : Int) = 1 := by rw [← HWH.out, apply_flag _ (.inl rfl)]; rfl
                go_wp2_with fail
                go_ret
                exact ⟨rfl, BFI.out⟩
              | false =>
                cases late with
                | true =>
                  have hl1 : ((wh.length : Nat) : Int) = 1 := by rw [← HWH.out, apply_flag _ (.inr rfl)]; rfl
                  go_wp2_with fail
                  go_ret
                  exact ⟨rfl, BFI.out⟩
                | false =>
                  go_wp2_with fail
                  go_ret
                  exact ⟨rfl, BFI.out⟩
end Go.Proofs.Ythebacladmjiiaa
