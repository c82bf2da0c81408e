/-
  The codec's things, laid behind any bytes: the package's writing functions.
-/
import Derived.Test.YtpfeaekankkpiaaGreatDoorEvKi
namespace Go.Proofs.YtpfeaekankkpiaaGreatDoor
open Go Go.RowKit Go.Lib

theorem Out.boxed {W w' : World} {o : Obj} {L : List Nat} {e : Ending} (h : Out (W.alloc o) L e w') : Out W L e w' := by
  obtain ⟨A, c, he, hr, hb⟩ := h
  exact ⟨A, c, he, hr, ((Below.refl W.heap.size W).alloc (Nat.le_refl _) o).trans (hb.mono (by simp))⟩
theorem Out.val {W w' : World} {L : List Nat} {e : Ending} (h : Out W L e w') : ∃ v, e = .returned v ∧ Hid (Out W L (.returned v) w') := by
  obtain ⟨A, c, rfl, hr, hb⟩ := h
  exact ⟨_, rfl, Lib.hid ⟨A, c, rfl, hr, hb⟩⟩
theorem Rd.boxed {W : World} {A : Option Addr} {n c : Nat} {xs : List Value} (h : Rd W W.heap.size A n c xs) (o : Obj) : Rd (W.alloc o) (W.alloc o).heap.size A n c xs :=
  (h.below ((Below.refl _ _).alloc (Nat.le_refl _) _)).mono (by simp)
theorem IntsAt.mono {B B' : Nat} {W : World} {A : Option Addr} {l : List Int} (h : IntsAt W B A l) (hb : B ≤ B') : IntsAt W B' A l := by
  rcases h with h | ⟨ad, rfl, h1, h2⟩
  · exact .inl h
  · exact .inr ⟨ad, rfl, by omega, h2⟩
theorem EntsAt.mono {B B' : Nat} {W : World} {A : Option Addr} {l : List EntD} (h : EntsAt W B A l) (hb : B ≤ B') : EntsAt W B' A l := by
  rcases h with h | ⟨ad, rfl, h1, h2⟩
  · exact .inl h
  · exact .inr ⟨ad, rfl, by omega, h2⟩
theorem IntsAt.boxed {W : World} {A : Option Addr} {l : List Int} (h : IntsAt W W.heap.size A l) (o : Obj) : IntsAt (W.alloc o) (W.alloc o).heap.size A l :=
  (h.below ((Below.refl _ _).alloc (Nat.le_refl _) _)).mono (by simp)
theorem EntsAt.boxed {W : World} {A : Option Addr} {l : List EntD} (h : EntsAt W W.heap.size A l) (o : Obj) : EntsAt (W.alloc o) (W.alloc o).heap.size A l :=
  (h.below ((Below.refl _ _).alloc (Nat.le_refl _) _)).mono (by simp)

set_option maxRecDepth 100000 in
set_option maxHeartbeats 1600000 in
theorem PRec_any (A : Option Addr) (c : Nat) (Y : List Nat) (x : RecD) (W : World) (h : Rd W W.heap.size A Y.length c (u8s Y)) (ok : x.ok) (hm : Y.length + 70 ≤ 140737488355328) :
    Calls Tryz.prog 9 #[.slice A Y.length c, .agg #[.int .u32 x.key, .int .i64 x.time, .int .i64 x.val, .int .u8 x.side, .bool x.err, .bool x.late]] W (Out W (Y ++ x.by_)) := by
  have HR := Lib.hid h
  have HO := Lib.hid ok
  clear h ok
  go_enter Tryz.func9, Tryz.ntmps9
  go_wp2_with (go_at_call 29
               (with_reducible refine (put_rec A c ⟨W.heap.size, 0, none⟩ Y x _ (HR.out.boxed _) ⟨by simp, by simp, by simp, by simp, by simp, by simp⟩ HO.out (by simp) (by omega)).mono ?_)
               rintro e w1 ho
               obtain ⟨v9, rfl, O1⟩ := ho.boxed.val
               clear ho)
  go_ret
  exact O1.out

set_option maxRecDepth 100000 in
set_option maxHeartbeats 1600000 in
theorem POp_any (A : Option Addr) (c : Nat) (Y : List Nat) (x : OpnD) (W : World) (h : Rd W W.heap.size A Y.length c (u8s Y)) (ok : x.ok) (hm : Y.length + 50 ≤ 140737488355328) :
    Calls Tryz.prog 13 #[.slice A Y.length c, .agg #[.int .i64 x.kind, .int .i64 x.a, .int .i64 x.b, .int .i64 x.agg]] W (Out W (Y ++ x.by_)) := by
  have HR := Lib.hid h
  have HO := Lib.hid ok
  clear h ok
  go_enter Tryz.func13, Tryz.ntmps13
  go_wp2_with (go_at_call 34
               (with_reducible refine (put_opn A c ⟨W.heap.size, 0, none⟩ Y x _ (HR.out.boxed _) ⟨by simp, by simp, by simp, by simp⟩ HO.out (by simp) (by omega)).mono ?_)
               rintro e w1 ho
               obtain ⟨v9, rfl, O1⟩ := ho.boxed.val
               clear ho)
  go_ret
  exact O1.out

set_option maxRecDepth 100000 in
set_option maxHeartbeats 1600000 in
theorem PAcc_any (A : Option Addr) (c : Nat) (Y : List Nat) (x : AccD) (W : World) (h : Rd W W.heap.size A Y.length c (u8s Y)) (ok : x.ok) (hm : Y.length + 60 ≤ 140737488355328) :
    Calls Tryz.prog 17 #[.slice A Y.length c, .agg #[.int .i64 x.n, .int .i64 x.hi, .int .u64 x.lo, .int .i64 x.min, .int .i64 x.max]] W (Out W (Y ++ x.by_)) := by
  have HR := Lib.hid h
  have HO := Lib.hid ok
  clear h ok
  go_enter Tryz.func17, Tryz.ntmps17
  go_wp2_with (go_at_call 38
               (with_reducible refine (put_acc A c ⟨W.heap.size, 0, none⟩ Y x _ (HR.out.boxed _) ⟨by simp, by simp, by simp, by simp, by simp⟩ HO.out (by simp) (by omega)).mono ?_)
               rintro e w1 ho
               obtain ⟨v9, rfl, O1⟩ := ho.boxed.val
               clear ho)
  go_ret
  exact O1.out

set_option maxRecDepth 100000 in
set_option maxHeartbeats 1600000 in
theorem PItem_any (A : Option Addr) (c : Nat) (Y : List Nat) (x : ItemD) (W : World) (h : Rd W W.heap.size A Y.length c (u8s Y)) (ok : x.ok) (hm : Y.length + 90 ≤ 140737488355328) :
    Calls Tryz.prog 7 #[.slice A Y.length c, .agg #[.bool x.isMark, .int .i64 x.time, .int .u32 x.rc.key, .int .i64 x.rc.time, .int .i64 x.rc.val, .int .u8 x.rc.side, .bool x.rc.err, .bool x.rc.late]] W (Out W (Y ++ x.by_)) := by
  have HR := Lib.hid h
  have HO := Lib.hid ok
  clear h ok
  go_enter Tryz.func7, Tryz.ntmps7
  go_wp2_with (go_at_call 26
               (with_reducible refine (put_item A c ⟨W.heap.size, 0, none⟩ Y x _ (HR.out.boxed _) ⟨by simp, by simp, ⟨by simp, by simp, by simp, by simp, by simp, by simp⟩⟩ HO.out (by simp) (by omega)).mono ?_)
               rintro e w1 ho
               obtain ⟨v9, rfl, O1⟩ := ho.boxed.val
               clear ho)
  go_ret
  exact O1.out

set_option maxRecDepth 100000 in
set_option maxHeartbeats 1600000 in
theorem PEntry_any (A : Option Addr) (c : Nat) (Y : List Nat) (x : EntD) (W : World) (h : Rd W W.heap.size A Y.length c (u8s Y)) (ok : x.ok) (hm : Y.length + 110 ≤ 140737488355328) :
    Calls Tryz.prog 15 #[.slice A Y.length c, .agg #[.int .i64 x.ver, .int .u32 x.key, .int .i64 x.start, .int .i64 x.end_, .int .u8 x.side, .int .i64 x.acc.n, .int .i64 x.acc.hi, .int .u64 x.acc.lo, .int .i64 x.acc.min, .int .i64 x.acc.max]] W (Out W (Y ++ x.by_)) := by
  have HR := Lib.hid h
  have HO := Lib.hid ok
  clear h ok
  go_enter Tryz.func15, Tryz.ntmps15
  go_wp2_with (go_at_call 36
               (with_reducible refine (put_ent A c ⟨W.heap.size, 0, none⟩ Y x _ (HR.out.boxed _) ⟨by simp, by simp, by simp, by simp, by simp, ⟨by simp, by simp, by simp, by simp, by simp⟩⟩ HO.out (by simp) (by omega)).mono ?_)
               rintro e w1 ho
               obtain ⟨v9, rfl, O1⟩ := ho.boxed.val
               clear ho)
  go_ret
  exact O1.out

set_option maxRecDepth 100000 in
set_option maxHeartbeats 1600000 in
theorem PCmd_any (A : Option Addr) (c : Nat) (A1 : Option Addr) (c1 : Nat) (Y : List Nat) (x : CmdD) (W : World) (h : Rd W W.heap.size A Y.length c (u8s Y)) (ok : x.ok) (k1 : IntsAt W W.heap.size A1 x.bins) (hm : Y.length + (100 + 10 * x.bins.length) + 200 ≤ 140737488355328) :
    Calls Tryz.prog 11 #[.slice A Y.length c, .agg #[.int .i64 x.kind, .int .i64 x.at_, .slice A1 x.bins.length c1, .int .i64 x.dst, .int .i64 x.node, .int .i64 x.op.kind, .int .i64 x.op.a, .int .i64 x.op.b, .int .i64 x.op.agg, .int .i64 x.mode]] W (Out W (Y ++ x.by_)) := by
  have HR := Lib.hid h
  have HO := Lib.hid ok
  have K1 := Lib.hid k1
  clear k1
  clear h ok
  go_enter Tryz.func11, Tryz.ntmps11
  go_wp2_with (go_at_call 32
               (with_reducible refine (put_cmd A c ⟨W.heap.size, 0, none⟩ Y x _ (HR.out.boxed _) ⟨by simp, by simp, ⟨A1, c1, by simp, K1.out.boxed _⟩, by simp, by simp, ⟨by simp, by simp, by simp, by simp⟩, by simp⟩ HO.out (by simp) (by omega)).mono ?_)
               rintro e w1 ho
               obtain ⟨v9, rfl, O1⟩ := ho.boxed.val
               clear ho)
  go_ret
  exact O1.out

set_option maxRecDepth 100000 in
set_option maxHeartbeats 1600000 in
theorem PChunk_any (A : Option Addr) (c : Nat) (A2 : Option Addr) (c2 : Nat) (Y : List Nat) (x : ChkD) (W : World) (h : Rd W W.heap.size A Y.length c (u8s Y)) (ok : x.ok) (k2 : EntsAt W W.heap.size A2 x.entries) (hm : Y.length + (40 + 100 * x.entries.length) + 200 ≤ 140737488355328) :
    Calls Tryz.prog 19 #[.slice A Y.length c, .agg #[.int .i64 x.bin, .int .i64 x.span, .bool x.last, .slice A2 x.entries.length c2]] W (Out W (Y ++ x.by_)) := by
  have HR := Lib.hid h
  have HO := Lib.hid ok
  have K2 := Lib.hid k2
  clear k2
  clear h ok
  go_enter Tryz.func19, Tryz.ntmps19
  go_wp2_with (go_at_call 40
               (with_reducible refine (put_chk A c ⟨W.heap.size, 0, none⟩ Y x _ (HR.out.boxed _) ⟨by simp, by simp, by simp, ⟨A2, c2, by simp, K2.out.boxed _⟩⟩ HO.out (by simp) (by omega)).mono ?_)
               rintro e w1 ho
               obtain ⟨v9, rfl, O1⟩ := ho.boxed.val
               clear ho)
  go_ret
  exact O1.out

set_option maxRecDepth 100000 in
set_option maxHeartbeats 1600000 in
theorem PMsg_any (A : Option Addr) (c : Nat) (A1 : Option Addr) (c1 : Nat) (A2 : Option Addr) (c2 : Nat) (Y : List Nat) (x : MsgD) (W : World) (h : Rd W W.heap.size A Y.length c (u8s Y)) (ok : x.ok) (k1 : IntsAt W W.heap.size A1 x.cmd.bins) (k2 : EntsAt W W.heap.size A2 x.chunk.entries) (hm : Y.length + (10 * x.cmd.bins.length + 100 * x.chunk.entries.length + 300) + 200 ≤ 140737488355328) :
    Calls Tryz.prog 5 #[.slice A Y.length c, .agg #[.int .i64 x.kind, .int .i64 x.ver, .int .u32 x.rc.key, .int .i64 x.rc.time, .int .i64 x.rc.val, .int .u8 x.rc.side, .bool x.rc.err, .bool x.rc.late, .int .i64 x.time, .int .i64 x.num, .int .i64 x.cmd.kind, .int .i64 x.cmd.at_, .slice A1 x.cmd.bins.length c1, .int .i64 x.cmd.dst, .int .i64 x.cmd.node, .int .i64 x.cmd.op.kind, .int .i64 x.cmd.op.a, .int .i64 x.cmd.op.b, .int .i64 x.cmd.op.agg, .int .i64 x.cmd.mode, .int .i64 x.chunk.bin, .int .i64 x.chunk.span, .bool x.chunk.last, .slice A2 x.chunk.entries.length c2]] W (Out W (Y ++ x.by_)) := by
  have HR := Lib.hid h
  have HO := Lib.hid ok
  have K1 := Lib.hid k1
  clear k1
  have K2 := Lib.hid k2
  clear k2
  clear h ok
  go_enter Tryz.func5, Tryz.ntmps5
  go_wp2_with (go_at_call 22
               (with_reducible refine (put_msg A c ⟨W.heap.size, 0, none⟩ Y x _ (HR.out.boxed _) ⟨by simp, by simp, ⟨by simp, by simp, by simp, by simp, by simp, by simp⟩, by simp, by simp, ⟨by simp, by simp, ⟨A1, c1, by simp, K1.out.boxed _⟩, by simp, by simp, ⟨by simp, by simp, by simp, by simp⟩, by simp⟩, ⟨by simp, by simp, by simp, ⟨A2, c2, by simp, K2.out.boxed _⟩⟩⟩ HO.out (by simp) (by omega)).mono ?_)
               rintro e w1 ho
               obtain ⟨v9, rfl, O1⟩ := ho.boxed.val
               clear ho)
  go_ret
  exact O1.out

end Go.Proofs.YtpfeaekankkpiaaGreatDoor
