/-
  The codec's things that hold lists, laid by a writer: commands, chunks.
-/
import Derived.Test.YtpfeaekankkpiaaGreatDoorEvKf
namespace Go.Proofs.YtpfeaekankkpiaaGreatDoor
open Go Go.RowKit Go.Lib

theorem IntsAt.below {B : Nat} {W W' : World} {A : Option Addr} {l : List Int} (h : IntsAt W B A l) (hb : Below B W W') : IntsAt W' B A l := by
  rcases h with h | ⟨ad, rfl, h1, h2⟩
  · exact .inl h
  · exact .inr ⟨ad, rfl, h1, fun j z hz => (hb.cell (by rw [blk_add]; exact h1)).trans (h2 j z hz)⟩
theorem EntsAt.below {B : Nat} {W W' : World} {A : Option Addr} {l : List EntD} (h : EntsAt W B A l) (hb : Below B W W') : EntsAt W' B A l := by
  rcases h with h | ⟨ad, rfl, h1, h2⟩
  · exact .inl h
  · exact .inr ⟨ad, rfl, h1, fun j z hz => (h2 j z hz).below hb (by rw [blk_add]; exact h1)⟩

structure CmdD where
  kind : Int
  at_ : Int
  bins : List Int
  dst : Int
  node : Int
  op : OpnD
  mode : Int
structure CmdD.ok (x : CmdD) : Prop where
  kind : w64 x.kind
  at_ : w64 x.at_
  bins : ∀ z ∈ x.bins, w64 z
  bins_len : x.bins.length ≤ 1000000000000
  dst : w64 x.dst
  node : w64 x.node
  op : x.op.ok
  mode : w64 x.mode
structure CmdAt (W : World) (B : Nat) (p : Addr) (x : CmdD) : Prop where
  kind : W.cell? p = some (.int .i64 x.kind)
  at_ : W.cell? ⟨p.block, p.off + 1, none⟩ = some (.int .i64 x.at_)
  bins : ∃ A c, W.cell? ⟨p.block, p.off + 2, none⟩ = some (.slice A x.bins.length c) ∧ IntsAt W B A x.bins
  dst : W.cell? ⟨p.block, p.off + 3, none⟩ = some (.int .i64 x.dst)
  node : W.cell? ⟨p.block, p.off + 4, none⟩ = some (.int .i64 x.node)
  op : OpnAt W (⟨p.block, p.off + 5, none⟩) x.op
  mode : W.cell? ⟨p.block, p.off + 9, none⟩ = some (.int .i64 x.mode)
theorem CmdAt.below {B : Nat} {W W' : World} {p : Addr} {x : CmdD} (h : CmdAt W B p x) (hb : Below B W W') (hq : p.block < B) : CmdAt W' B p x := by
  obtain ⟨A, c, h1, h2⟩ := h.bins
  exact ⟨(hb.cell (p := p) hq).trans h.kind, (hb.cell (p := ⟨p.block, p.off + 1, none⟩) hq).trans h.at_, ⟨A, c, (hb.cell (p := ⟨p.block, p.off + 2, none⟩) hq).trans h1, h2.below hb⟩, (hb.cell (p := ⟨p.block, p.off + 3, none⟩) hq).trans h.dst, (hb.cell (p := ⟨p.block, p.off + 4, none⟩) hq).trans h.node, h.op.below hb hq, (hb.cell (p := ⟨p.block, p.off + 9, none⟩) hq).trans h.mode⟩
def CmdD.by_ (x : CmdD) : List Nat := enc (zz x.kind) ++ enc (zz x.at_) ++ (enc x.bins.length ++ wholesB x.bins) ++ enc (zz x.dst) ++ enc (zz x.node) ++ x.op.by_ ++ enc (zz x.mode)
theorem CmdD.len (x : CmdD) (ok : x.ok) : x.by_.length ≤ 100 + 10 * x.bins.length := by
  have HO := Lib.hid ok
  have l0 : (enc (zz x.kind)).length ≤ 10 := (enc_len (zz_lt HO.out.kind.1 HO.out.kind.2)).2
  have l1 : (enc (zz x.at_)).length ≤ 10 := (enc_len (zz_lt HO.out.at_.1 HO.out.at_.2)).2
  have l2 : ((enc x.bins.length ++ wholesB x.bins)).length ≤ 10 + 10 * x.bins.length := (by rw [List.length_append]; have h1 := (enc_len (n := x.bins.length) (by have := HO.out.bins_len; omega)).2; have h2 := wholesB_len HO.out.bins; omega)
  have l3 : (enc (zz x.dst)).length ≤ 10 := (enc_len (zz_lt HO.out.dst.1 HO.out.dst.2)).2
  have l4 : (enc (zz x.node)).length ≤ 10 := (enc_len (zz_lt HO.out.node.1 HO.out.node.2)).2
  have l5 : (x.op.by_).length ≤ 40 := x.op.len HO.out.op
  have l6 : (enc (zz x.mode)).length ≤ 10 := (enc_len (zz_lt HO.out.mode.1 HO.out.mode.2)).2
  unfold CmdD.by_
  simp only [List.length_append] at *
  omega

set_option maxRecDepth 100000 in
set_option maxHeartbeats 3200000 in
theorem cmd_any (B g : Nat) (p : Addr) (L : List Nat) (x : CmdD) (W : World) (h : Wtr W B g L) (hx : CmdAt W B p x) (ok : x.ok) (hq : p.block < B) (hm : L.length + (100 + 10 * x.bins.length) + 200 ≤ 140737488355328) :
    Calls Tryz.prog 33 #[.iface 102 (.pointer (some ⟨g, 0, none⟩)), .pointer (some p)] W fun e w' => e = .returned (.tuple #[]) ∧ Wtr w' B g (L ++ x.by_) ∧ Below B W w' := by
  have H0 := Lib.hid h
  have HX := Lib.hid hx
  have HO := Lib.hid ok
  have B0 : Hid (Below B W W) := Lib.hid (Below.refl _ _)
  have HQ := Lib.hid hq
  have l0 : Hid ((enc (zz x.kind)).length ≤ 10) := Lib.hid ((enc_len (zz_lt HO.out.kind.1 HO.out.kind.2)).2)
  have l1 : Hid ((enc (zz x.at_)).length ≤ 10) := Lib.hid ((enc_len (zz_lt HO.out.at_.1 HO.out.at_.2)).2)
  have l2 : Hid (((enc x.bins.length ++ wholesB x.bins)).length ≤ 10 + 10 * x.bins.length) := Lib.hid ((by rw [List.length_append]; have h1 := (enc_len (n := x.bins.length) (by have := HO.out.bins_len; omega)).2; have h2 := wholesB_len HO.out.bins; omega))
  have l3 : Hid ((enc (zz x.dst)).length ≤ 10) := Lib.hid ((enc_len (zz_lt HO.out.dst.1 HO.out.dst.2)).2)
  have l4 : Hid ((enc (zz x.node)).length ≤ 10) := Lib.hid ((enc_len (zz_lt HO.out.node.1 HO.out.node.2)).2)
  have l5 : Hid ((x.op.by_).length ≤ 40) := Lib.hid (x.op.len HO.out.op)
  have l6 : Hid ((enc (zz x.mode)).length ≤ 10) := Lib.hid ((enc_len (zz_lt HO.out.mode.1 HO.out.mode.2)).2)
  have Ninteger := fun w => ahead_integer ⟨g, 0, none⟩ w
  have Minteger := fun w => meth_integer ⟨g, 0, none⟩ w
  have Nwhole := fun w => ahead_whole ⟨g, 0, none⟩ w
  have Mwhole := fun w => meth_whole ⟨g, 0, none⟩ w
  obtain ⟨LA, Lc, hl1, hl2⟩ := hx.bins
  have HL1 := Lib.hid hl1
  have HL2 := Lib.hid hl2
  clear h hx ok hl1 hl2
  go_enter Tryz.func33, Tryz.ntmps33
  go_wp2_with fail
  go_region_held3 (fun w' => Below B W w')
    (first | assumption | (exact Below.drew (Below.refl _ _)))
    (first
      | (go_at_call 89
         (with_reducible refine (whole_any B g (L) x.kind p _ (H0.out.kept (Below.refl _ _).drew) ((HX.out.below B0.out.drew HQ.out).kind) HO.out.kind.1 HO.out.kind.2 (by omega)).mono ?_)
         rintro e w1 ⟨rfl, hw, hb⟩
         have H1 := Lib.hid hw
         have hs1 : Below B W w1 := (Below.refl _ _).drew.trans hb
         have B1 := Lib.hid (B0.out.trans hs1)
         clear hw hb))
  clear hs1
  go_wp2_with fail
  go_region_held3 (fun w' => Below B w1 w')
    (first | assumption | (exact Below.drew (Below.refl _ _)))
    (first
      | (go_at_call 83
         (with_reducible refine (integer_any B g (L ++ enc (zz x.kind)) x.at_ ⟨p.block, p.off + 1, none⟩ _ (H1.out.kept (Below.refl _ _).drew) ((HX.out.below B1.out.drew HQ.out).at_) HO.out.at_.1 HO.out.at_.2 (by have := l0.out; simp only [List.length_append] at *; omega)).mono ?_)
         rintro e w2 ⟨rfl, hw, hb⟩
         have H2 := Lib.hid hw
         have hs2 : Below B w1 w2 := (Below.refl _ _).drew.trans hb
         have B2 := Lib.hid (B1.out.trans hs2)
         clear hw hb))
  clear hs2
  go_wp2_with (go_at_call 47
               (with_reducible refine (ints_any B g Lc LA ⟨p.block, p.off + 2, none⟩ (8) (L ++ enc (zz x.kind) ++ enc (zz x.at_)) x.bins _ H2.out ((B2.out.cell (p := ⟨p.block, p.off + 2, none⟩) HQ.out).trans HL1.out) HQ.out (HL2.out.below B2.out) HO.out.bins (by have := l0.out; have := l1.out; simp only [List.length_append] at *; omega)).mono ?_)
               rintro e w3 ⟨rfl, hw, hb⟩
               have H3 := Lib.hid hw
               have B3 := Lib.hid (B2.out.trans hb)
               clear hw hb)
  go_wp2_with fail
  go_region_held3 (fun w' => Below B w3 w')
    (first | assumption | (exact Below.drew (Below.refl _ _)))
    (first
      | (go_at_call 89
         (with_reducible refine (whole_any B g (L ++ enc (zz x.kind) ++ enc (zz x.at_) ++ (enc x.bins.length ++ wholesB x.bins)) x.dst ⟨p.block, p.off + 3, none⟩ _ (H3.out.kept (Below.refl _ _).drew) ((HX.out.below B3.out.drew HQ.out).dst) HO.out.dst.1 HO.out.dst.2 (by have := l0.out; have := l1.out; have := l2.out; simp only [List.length_append] at *; omega)).mono ?_)
         rintro e w4 ⟨rfl, hw, hb⟩
         have H4 := Lib.hid hw
         have hs4 : Below B w3 w4 := (Below.refl _ _).drew.trans hb
         have B4 := Lib.hid (B3.out.trans hs4)
         clear hw hb))
  clear hs4
  go_wp2_with fail
  go_region_held3 (fun w' => Below B w4 w')
    (first | assumption | (exact Below.drew (Below.refl _ _)))
    (first
      | (go_at_call 89
         (with_reducible refine (whole_any B g (L ++ enc (zz x.kind) ++ enc (zz x.at_) ++ (enc x.bins.length ++ wholesB x.bins) ++ enc (zz x.dst)) x.node ⟨p.block, p.off + 4, none⟩ _ (H4.out.kept (Below.refl _ _).drew) ((HX.out.below B4.out.drew HQ.out).node) HO.out.node.1 HO.out.node.2 (by have := l0.out; have := l1.out; have := l2.out; have := l3.out; simp only [List.length_append] at *; omega)).mono ?_)
         rintro e w5 ⟨rfl, hw, hb⟩
         have H5 := Lib.hid hw
         have hs5 : Below B w4 w5 := (Below.refl _ _).drew.trans hb
         have B5 := Lib.hid (B4.out.trans hs5)
         clear hw hb))
  clear hs5
  go_wp2_with (go_at_call 35
               (with_reducible refine (opn_any B g ⟨p.block, p.off + 5, none⟩ (L ++ enc (zz x.kind) ++ enc (zz x.at_) ++ (enc x.bins.length ++ wholesB x.bins) ++ enc (zz x.dst) ++ enc (zz x.node)) x.op _ H5.out (HX.out.below B5.out HQ.out).op HO.out.op HQ.out (by have := l0.out; have := l1.out; have := l2.out; have := l3.out; have := l4.out; simp only [List.length_append] at *; omega)).mono ?_)
               rintro e w6 ⟨rfl, hw, hb⟩
               have H6 := Lib.hid hw
               have B6 := Lib.hid (B5.out.trans hb)
               clear hw hb)
  go_wp2_with fail
  go_region_held3 (fun w' => Below B w6 w')
    (first | assumption | (exact Below.drew (Below.refl _ _)))
    (first
      | (go_at_call 89
         (with_reducible refine (whole_any B g (L ++ enc (zz x.kind) ++ enc (zz x.at_) ++ (enc x.bins.length ++ wholesB x.bins) ++ enc (zz x.dst) ++ enc (zz x.node) ++ x.op.by_) x.mode ⟨p.block, p.off + 9, none⟩ _ (H6.out.kept (Below.refl _ _).drew) ((HX.out.below B6.out.drew HQ.out).mode) HO.out.mode.1 HO.out.mode.2 (by have := l0.out; have := l1.out; have := l2.out; have := l3.out; have := l4.out; have := l5.out; simp only [List.length_append] at *; omega)).mono ?_)
         rintro e w7 ⟨rfl, hw, hb⟩
         have H7 := Lib.hid hw
         have hs7 : Below B w6 w7 := (Below.refl _ _).drew.trans hb
         have B7 := Lib.hid (B6.out.trans hs7)
         clear hw hb))
  clear hs7
  go_end0
  exact ⟨rfl, by have hh := H7.out; unfold CmdD.by_; simpa only [List.append_assoc] using hh, B7.out⟩

structure ChkD where
  bin : Int
  span : Int
  last : Bool
  entries : List EntD
structure ChkD.ok (x : ChkD) : Prop where
  bin : w64 x.bin
  span : w64 x.span
  entries : ∀ z ∈ x.entries, z.ok
  entries_len : x.entries.length ≤ 1000000000000
structure ChkAt (W : World) (B : Nat) (p : Addr) (x : ChkD) : Prop where
  bin : W.cell? p = some (.int .i64 x.bin)
  span : W.cell? ⟨p.block, p.off + 1, none⟩ = some (.int .i64 x.span)
  last : W.cell? ⟨p.block, p.off + 2, none⟩ = some (.bool x.last)
  entries : ∃ A c, W.cell? ⟨p.block, p.off + 3, none⟩ = some (.slice A x.entries.length c) ∧ EntsAt W B A x.entries
theorem ChkAt.below {B : Nat} {W W' : World} {p : Addr} {x : ChkD} (h : ChkAt W B p x) (hb : Below B W W') (hq : p.block < B) : ChkAt W' B p x := by
  obtain ⟨A, c, h1, h2⟩ := h.entries
  exact ⟨(hb.cell (p := p) hq).trans h.bin, (hb.cell (p := ⟨p.block, p.off + 1, none⟩) hq).trans h.span, (hb.cell (p := ⟨p.block, p.off + 2, none⟩) hq).trans h.last, ⟨A, c, (hb.cell (p := ⟨p.block, p.off + 3, none⟩) hq).trans h1, h2.below hb⟩⟩
def ChkD.by_ (x : ChkD) : List Nat := enc (zz x.bin) ++ enc (zz x.span) ++ enc (tr x.last) ++ (enc x.entries.length ++ entsB x.entries)
theorem ChkD.len (x : ChkD) (ok : x.ok) : x.by_.length ≤ 40 + 100 * x.entries.length := by
  have HO := Lib.hid ok
  have l0 : (enc (zz x.bin)).length ≤ 10 := (enc_len (zz_lt HO.out.bin.1 HO.out.bin.2)).2
  have l1 : (enc (zz x.span)).length ≤ 10 := (enc_len (zz_lt HO.out.span.1 HO.out.span.2)).2
  have l2 : (enc (tr x.last)).length ≤ 10 := (enc_len (by unfold tr; split <;> omega)).2
  have l3 : ((enc x.entries.length ++ entsB x.entries)).length ≤ 10 + 100 * x.entries.length := (by rw [List.length_append]; have h1 := (enc_len (n := x.entries.length) (by have := HO.out.entries_len; omega)).2; have h2 := entsB_len HO.out.entries; omega)
  unfold ChkD.by_
  simp only [List.length_append] at *
  omega

set_option maxRecDepth 100000 in
set_option maxHeartbeats 3200000 in
theorem chk_any (B g : Nat) (p : Addr) (L : List Nat) (x : ChkD) (W : World) (h : Wtr W B g L) (hx : ChkAt W B p x) (ok : x.ok) (hq : p.block < B) (hm : L.length + (40 + 100 * x.entries.length) + 200 ≤ 140737488355328) :
    Calls Tryz.prog 41 #[.iface 102 (.pointer (some ⟨g, 0, none⟩)), .pointer (some p)] W fun e w' => e = .returned (.tuple #[]) ∧ Wtr w' B g (L ++ x.by_) ∧ Below B W w' := by
  have H0 := Lib.hid h
  have HX := Lib.hid hx
  have HO := Lib.hid ok
  have B0 : Hid (Below B W W) := Lib.hid (Below.refl _ _)
  have HQ := Lib.hid hq
  have l0 : Hid ((enc (zz x.bin)).length ≤ 10) := Lib.hid ((enc_len (zz_lt HO.out.bin.1 HO.out.bin.2)).2)
  have l1 : Hid ((enc (zz x.span)).length ≤ 10) := Lib.hid ((enc_len (zz_lt HO.out.span.1 HO.out.span.2)).2)
  have l2 : Hid ((enc (tr x.last)).length ≤ 10) := Lib.hid ((enc_len (by unfold tr; split <;> omega)).2)
  have l3 : Hid (((enc x.entries.length ++ entsB x.entries)).length ≤ 10 + 100 * x.entries.length) := Lib.hid ((by rw [List.length_append]; have h1 := (enc_len (n := x.entries.length) (by have := HO.out.entries_len; omega)).2; have h2 := entsB_len HO.out.entries; omega))
  have Ntruth := fun w => ahead_truth ⟨g, 0, none⟩ w
  have Mtruth := fun w => meth_truth ⟨g, 0, none⟩ w
  have Nwhole := fun w => ahead_whole ⟨g, 0, none⟩ w
  have Mwhole := fun w => meth_whole ⟨g, 0, none⟩ w
  obtain ⟨LA, Lc, hl1, hl2⟩ := hx.entries
  have HL1 := Lib.hid hl1
  have HL2 := Lib.hid hl2
  clear h hx ok hl1 hl2
  go_enter Tryz.func41, Tryz.ntmps41
  go_wp2_with fail
  go_region_held3 (fun w' => Below B W w')
    (first | assumption | (exact Below.drew (Below.refl _ _)))
    (first
      | (go_at_call 89
         (with_reducible refine (whole_any B g (L) x.bin p _ (H0.out.kept (Below.refl _ _).drew) ((HX.out.below B0.out.drew HQ.out).bin) HO.out.bin.1 HO.out.bin.2 (by omega)).mono ?_)
         rintro e w1 ⟨rfl, hw, hb⟩
         have H1 := Lib.hid hw
         have hs1 : Below B W w1 := (Below.refl _ _).drew.trans hb
         have B1 := Lib.hid (B0.out.trans hs1)
         clear hw hb))
  clear hs1
  go_wp2_with fail
  go_region_held3 (fun w' => Below B w1 w')
    (first | assumption | (exact Below.drew (Below.refl _ _)))
    (first
      | (go_at_call 89
         (with_reducible refine (whole_any B g (L ++ enc (zz x.bin)) x.span ⟨p.block, p.off + 1, none⟩ _ (H1.out.kept (Below.refl _ _).drew) ((HX.out.below B1.out.drew HQ.out).span) HO.out.span.1 HO.out.span.2 (by have := l0.out; simp only [List.length_append] at *; omega)).mono ?_)
         rintro e w2 ⟨rfl, hw, hb⟩
         have H2 := Lib.hid hw
         have hs2 : Below B w1 w2 := (Below.refl _ _).drew.trans hb
         have B2 := Lib.hid (B1.out.trans hs2)
         clear hw hb))
  clear hs2
  go_wp2_with fail
  go_region_held3 (fun w' => Below B w2 w')
    (first | assumption | (exact Below.drew (Below.refl _ _)))
    (first
      | (go_at_call 88
         (with_reducible refine (truth_any B g (L ++ enc (zz x.bin) ++ enc (zz x.span)) x.last ⟨p.block, p.off + 2, none⟩ _ (H2.out.kept (Below.refl _ _).drew) ((HX.out.below B2.out.drew HQ.out).last)  (by have := l0.out; have := l1.out; simp only [List.length_append] at *; omega)).mono ?_)
         rintro e w3 ⟨rfl, hw, hb⟩
         have H3 := Lib.hid hw
         have hs3 : Below B w2 w3 := (Below.refl _ _).drew.trans hb
         have B3 := Lib.hid (B2.out.trans hs3)
         clear hw hb))
  clear hs3
  go_wp2_with (go_at_call 48
               (with_reducible refine (ents_any B g Lc LA ⟨p.block, p.off + 3, none⟩ (64) (L ++ enc (zz x.bin) ++ enc (zz x.span) ++ enc (tr x.last)) x.entries _ H3.out ((B3.out.cell (p := ⟨p.block, p.off + 3, none⟩) HQ.out).trans HL1.out) HQ.out (HL2.out.below B3.out) HO.out.entries (by have := l0.out; have := l1.out; have := l2.out; simp only [List.length_append] at *; omega)).mono ?_)
               rintro e w4 ⟨rfl, hw, hb⟩
               have H4 := Lib.hid hw
               have B4 := Lib.hid (B3.out.trans hb)
               clear hw hb)
  go_end0
  exact ⟨rfl, by have hh := H4.out; unfold ChkD.by_; simpa only [List.append_assoc] using hh, B4.out⟩

end Go.Proofs.YtpfeaekankkpiaaGreatDoor
