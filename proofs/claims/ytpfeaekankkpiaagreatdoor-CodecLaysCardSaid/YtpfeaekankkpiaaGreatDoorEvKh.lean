/-
  The codec's messages, laid by a writer.
-/
import Derived.Test.YtpfeaekankkpiaaGreatDoorEvKg
namespace Go.Proofs.YtpfeaekankkpiaaGreatDoor
open Go Go.RowKit Go.Lib

structure MsgD where
  kind : Int
  ver : Int
  rc : RecD
  time : Int
  num : Int
  cmd : CmdD
  chunk : ChkD
structure MsgD.ok (x : MsgD) : Prop where
  kind : w64 x.kind
  ver : w64 x.ver
  rc : x.rc.ok
  time : w64 x.time
  num : w64 x.num
  cmd : x.cmd.ok
  chunk : x.chunk.ok
structure MsgAt (W : World) (B : Nat) (p : Addr) (x : MsgD) : Prop where
  kind : W.cell? p = some (.int .i64 x.kind)
  ver : W.cell? ⟨p.block, p.off + 1, none⟩ = some (.int .i64 x.ver)
  rc : RecAt W ⟨p.block, p.off + 2, none⟩ x.rc
  time : W.cell? ⟨p.block, p.off + 8, none⟩ = some (.int .i64 x.time)
  num : W.cell? ⟨p.block, p.off + 9, none⟩ = some (.int .i64 x.num)
  cmd : CmdAt W B ⟨p.block, p.off + 10, none⟩ x.cmd
  chunk : ChkAt W B ⟨p.block, p.off + 20, none⟩ x.chunk
theorem MsgAt.below {B : Nat} {W W' : World} {p : Addr} {x : MsgD} (h : MsgAt W B p x) (hb : Below B W W') (hq : p.block < B) : MsgAt W' B p x :=
  ⟨(hb.cell (p := p) hq).trans h.kind, (hb.cell (p := ⟨p.block, p.off + 1, none⟩) hq).trans h.ver, h.rc.below hb hq, (hb.cell (p := ⟨p.block, p.off + 8, none⟩) hq).trans h.time,
    (hb.cell (p := ⟨p.block, p.off + 9, none⟩) hq).trans h.num, h.cmd.below hb hq, h.chunk.below hb hq⟩
/-- What stands behind a message's version. -/
def MsgD.body (x : MsgD) : List Nat :=
  if x.kind = 0 then x.rc.by_ else if x.kind = 1 then enc (zz x.time) else if x.kind = 2 then enc (zz x.num) else if x.kind = 3 then x.cmd.by_ else if x.kind = 4 then x.chunk.by_ else []
def MsgD.by_ (x : MsgD) : List Nat := enc (zz x.kind) ++ enc (zz x.ver) ++ x.body

set_option maxRecDepth 100000 in
set_option maxHeartbeats 3200000 in
theorem msg_any (B g : Nat) (p : Addr) (L : List Nat) (x : MsgD) (W : World) (h : Wtr W B g L) (hx : MsgAt W B p x) (ok : x.ok) (hq : p.block < B) (hm : L.length + 10 * x.cmd.bins.length + 100 * x.chunk.entries.length + 500 ≤ 140737488355328) :
    Calls Tryz.prog 23 #[.iface 102 (.pointer (some ⟨g, 0, none⟩)), .pointer (some p)] W fun e w' => e = .returned (.tuple #[]) ∧ Wtr w' B g (L ++ x.by_) ∧ Below B W w' := by
  have H0 := Lib.hid h
  have HX := Lib.hid hx
  have HO := Lib.hid ok
  have B0 : Hid (Below B W W) := Lib.hid (Below.refl _ _)
  have HQ := Lib.hid hq
  have l0 : Hid ((enc (zz x.kind)).length ≤ 10) := Lib.hid ((enc_len (zz_lt HO.out.kind.1 HO.out.kind.2)).2)
  have l1 : Hid ((enc (zz x.ver)).length ≤ 10) := Lib.hid ((enc_len (zz_lt HO.out.ver.1 HO.out.ver.2)).2)
  have Nkind := fun w => ahead_kind ⟨g, 0, none⟩ w
  have Mkind := fun w => meth_kind ⟨g, 0, none⟩ w
  have Ninteger := fun w => ahead_integer ⟨g, 0, none⟩ w
  have Minteger := fun w => meth_integer ⟨g, 0, none⟩ w
  have Nwhole := fun w => ahead_whole ⟨g, 0, none⟩ w
  have Mwhole := fun w => meth_whole ⟨g, 0, none⟩ w
  clear h hx ok
  go_enter Tryz.func23, Tryz.ntmps23
  go_wp2_with fail
  go_region_held3 (fun w' => Below B W w')
    (first | assumption | (exact Below.drew (Below.refl _ _)))
    (first
      | (go_at_call 85
         (with_reducible refine (kind_any B g L x.kind p _ (H0.out.kept (Below.refl _ _).drew) ((HX.out.below B0.out.drew HQ.out).kind) HO.out.kind.1 HO.out.kind.2 (by omega)).mono ?_)
         rintro e w1 ⟨rfl, hw, hb⟩
         have H1 := Lib.hid hw
         have hs1 : Below B W w1 := (Below.refl _ _).drew.trans hb
         have B1 := Lib.hid (B0.out.trans hs1)
         clear hw hb))
  clear hs1
  go_wp2_with fail
  go_region_held3 (fun w' => Below B w1 w')
    (first | assumption | (exact Below.drew (Below.refl _ _)))
    (first
      | (go_at_call 89
         (with_reducible refine (whole_any B g (L ++ enc (zz x.kind)) x.ver ⟨p.block, p.off + 1, none⟩ _ (H1.out.kept (Below.refl _ _).drew) ((HX.out.below B1.out.drew HQ.out).ver) HO.out.ver.1 HO.out.ver.2 (by have := l0.out; have := l1.out; simp only [List.length_append] at *; omega)).mono ?_)
         rintro e w2 ⟨rfl, hw, hb⟩
         have H2 := Lib.hid hw
         have hs2 : Below B w1 w2 := (Below.refl _ _).drew.trans hb
         have B2 := Lib.hid (B1.out.trans hs2)
         clear hw hb))
  clear hs2
  have ck : w2.cell? p = some (.int .i64 x.kind) := (HX.out.below B2.out HQ.out).kind
  have hkk : x.kind = 0 ∨ x.kind = 1 ∨ x.kind = 2 ∨ x.kind = 3 ∨ x.kind = 4 ∨ (x.kind ≠ 0 ∧ x.kind ≠ 1 ∧ x.kind ≠ 2 ∧ x.kind ≠ 3 ∧ x.kind ≠ 4) := by omega
  rcases hkk with hk | hk | hk | hk | hk | hk
  · have HB : Hid (x.body = x.rc.by_) := Lib.hid (by unfold MsgD.body; simp [hk])
    rw [hk] at ck
    clear hk
    go_wp2_with (go_at_call 30
                 (with_reducible refine (rec_any B g ⟨p.block, p.off + 2, none⟩ (L ++ enc (zz x.kind) ++ enc (zz x.ver)) x.rc _ H2.out (HX.out.below B2.out HQ.out).rc HO.out.rc HQ.out (by have := l0.out; have := l1.out; simp only [List.length_append] at *; omega)).mono ?_)
                 rintro e w3 ⟨rfl, hw, hb⟩
                 have H3 := Lib.hid hw
                 have B3 := Lib.hid (B2.out.trans hb)
                 clear hw hb)
    go_end0
    exact ⟨rfl, by have hh := H3.out; unfold MsgD.by_; rw [HB.out]; simpa only [List.append_assoc, List.append_nil] using hh, B3.out⟩
  · have HB : Hid (x.body = enc (zz x.time)) := Lib.hid (by unfold MsgD.body; simp [hk])
    rw [hk] at ck
    clear hk
    go_wp2_with fail
    go_region_held3 (fun w' => Below B w2 w')
      (first | assumption | (exact Below.drew (Below.refl _ _)))
      (first
        | (go_at_call 83
           (with_reducible refine (integer_any B g (L ++ enc (zz x.kind) ++ enc (zz x.ver)) x.time ⟨p.block, p.off + 8, none⟩ _ (H2.out.kept (Below.refl _ _).drew) ((HX.out.below B2.out.drew HQ.out).time) HO.out.time.1 HO.out.time.2 (by have := l0.out; have := l1.out; simp only [List.length_append] at *; omega)).mono ?_)
           rintro e w3 ⟨rfl, hw, hb⟩
           have H3 := Lib.hid hw
           have hs3 : Below B w2 w3 := (Below.refl _ _).drew.trans hb
           have B3 := Lib.hid (B2.out.trans hs3)
           clear hw hb))
    clear hs3
    go_end0
    exact ⟨rfl, by have hh := H3.out; unfold MsgD.by_; rw [HB.out]; simpa only [List.append_assoc, List.append_nil] using hh, B3.out⟩
  · have HB : Hid (x.body = enc (zz x.num)) := Lib.hid (by unfold MsgD.body; simp [hk])
    rw [hk] at ck
    clear hk
    go_wp2_with fail
    go_region_held3 (fun w' => Below B w2 w')
      (first | assumption | (exact Below.drew (Below.refl _ _)))
      (first
        | (go_at_call 89
           (with_reducible refine (whole_any B g (L ++ enc (zz x.kind) ++ enc (zz x.ver)) x.num ⟨p.block, p.off + 9, none⟩ _ (H2.out.kept (Below.refl _ _).drew) ((HX.out.below B2.out.drew HQ.out).num) HO.out.num.1 HO.out.num.2 (by have := l0.out; have := l1.out; simp only [List.length_append] at *; omega)).mono ?_)
           rintro e w3 ⟨rfl, hw, hb⟩
           have H3 := Lib.hid hw
           have hs3 : Below B w2 w3 := (Below.refl _ _).drew.trans hb
           have B3 := Lib.hid (B2.out.trans hs3)
           clear hw hb))
    clear hs3
    go_end0
    exact ⟨rfl, by have hh := H3.out; unfold MsgD.by_; rw [HB.out]; simpa only [List.append_assoc, List.append_nil] using hh, B3.out⟩
  · have HB : Hid (x.body = x.cmd.by_) := Lib.hid (by unfold MsgD.body; simp [hk])
    rw [hk] at ck
    clear hk
    go_wp2_with (go_at_call 33
                 (with_reducible refine (cmd_any B g ⟨p.block, p.off + 10, none⟩ (L ++ enc (zz x.kind) ++ enc (zz x.ver)) x.cmd _ H2.out (HX.out.below B2.out HQ.out).cmd HO.out.cmd HQ.out (by have := l0.out; have := l1.out; simp only [List.length_append] at *; omega)).mono ?_)
                 rintro e w3 ⟨rfl, hw, hb⟩
                 have H3 := Lib.hid hw
                 have B3 := Lib.hid (B2.out.trans hb)
                 clear hw hb)
    go_end0
    exact ⟨rfl, by have hh := H3.out; unfold MsgD.by_; rw [HB.out]; simpa only [List.append_assoc, List.append_nil] using hh, B3.out⟩
  · have HB : Hid (x.body = x.chunk.by_) := Lib.hid (by unfold MsgD.body; simp [hk])
    rw [hk] at ck
    clear hk
    go_wp2_with (go_at_call 41
                 (with_reducible refine (chk_any B g ⟨p.block, p.off + 20, none⟩ (L ++ enc (zz x.kind) ++ enc (zz x.ver)) x.chunk _ H2.out (HX.out.below B2.out HQ.out).chunk HO.out.chunk HQ.out (by have := l0.out; have := l1.out; simp only [List.length_append] at *; omega)).mono ?_)
                 rintro e w3 ⟨rfl, hw, hb⟩
                 have H3 := Lib.hid hw
                 have B3 := Lib.hid (B2.out.trans hb)
                 clear hw hb)
    go_end0
    exact ⟨rfl, by have hh := H3.out; unfold MsgD.by_; rw [HB.out]; simpa only [List.append_assoc, List.append_nil] using hh, B3.out⟩
  · obtain ⟨k0, k1, k2, k3, k4⟩ := hk
    have HB : Hid (x.body = []) := Lib.hid (by unfold MsgD.body; simp [k0, k1, k2, k3, k4])
    have e0 : (x.kind == 0) = false := by simpa using k0
    have e1 : (x.kind == 1) = false := by simpa using k1
    have e2 : (x.kind == 2) = false := by simpa using k2
    have e3 : (x.kind == 3) = false := by simpa using k3
    have e4 : (x.kind == 4) = false := by simpa using k4
    clear k0 k1 k2 k3 k4
    go_wp2_with fail
    go_end0
    exact ⟨rfl, by have hh := H2.out; unfold MsgD.by_; rw [HB.out]; simpa only [List.append_assoc, List.append_nil] using hh, B2.out⟩
end Go.Proofs.YtpfeaekankkpiaaGreatDoor
