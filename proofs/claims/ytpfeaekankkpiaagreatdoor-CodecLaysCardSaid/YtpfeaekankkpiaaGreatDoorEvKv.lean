/-
  The reference's message.
-/
import Derived.Test.YtpfeaekankkpiaaGreatDoorEvKu
namespace Go.Proofs.YtpfeaekankkpiaaGreatDoor
open Go Go.RowKit Go.Lib Go.Ev

theorem IntsAt.more {W : World} {B B' : Nat} {A : Option Addr} {l : List Int} (h : IntsAt W B A l) (hb : B ≤ B') : IntsAt W B' A l := by
  rcases h with h | ⟨ad, e, h1, h2⟩
  · exact .inl h
  · exact .inr ⟨ad, e, Nat.lt_of_lt_of_le h1 hb, h2⟩
theorem EntsAt.more {W : World} {B B' : Nat} {A : Option Addr} {l : List EntD} (h : EntsAt W B A l) (hb : B ≤ B') : EntsAt W B' A l := by
  rcases h with h | ⟨ad, e, h1, h2⟩
  · exact .inl h
  · exact .inr ⟨ad, e, Nat.lt_of_lt_of_le h1 hb, h2⟩

set_option maxRecDepth 100000 in
set_option maxHeartbeats 3200000 in
theorem ref_msg (x : MsgD) (Ab Ae : Option Addr) (cb ce : Nat) (W : World) (ok : x.ok) (hl1 : IntsAt W W.heap.size Ab x.cmd.bins) (hl2 : EntsAt W W.heap.size Ae x.chunk.entries) : Calls Tryz.prog 6 #[.agg #[.int .i64 x.kind, .int .i64 x.ver, .int .u32 (x.rc.key : Nat), .int .i64 x.rc.time, .int .i64 x.rc.val, .int .u8 (x.rc.side : Nat), .bool x.rc.err, .bool x.rc.late, .int .i64 x.time, .int .i64 x.num, .int .i64 x.cmd.kind, .int .i64 x.cmd.at_, .slice Ab x.cmd.bins.length cb, .int .i64 x.cmd.dst, .int .i64 x.cmd.node, .int .i64 x.cmd.op.kind, .int .i64 x.cmd.op.a, .int .i64 x.cmd.op.b, .int .i64 x.cmd.op.agg, .int .i64 x.cmd.mode, .int .i64 x.chunk.bin, .int .i64 x.chunk.span, .bool x.chunk.last, .slice Ae x.chunk.entries.length ce]] W (SB (sb x.by_) W) := by
  have HO := Lib.hid ok
  have HL1 := Lib.hid hl1
  have HL2 := Lib.hid hl2
  clear ok hl1 hl2
  go_enter Tryz.func6, Tryz.ntmps6
  go_wp2_with fail
  rename_i K hK
  obtain ⟨W1, hW1⟩ : ∃ W1, W1 = W.alloc (.cells #[.int .i64 x.kind, .int .i64 x.ver, .int .u32 (x.rc.key : Nat), .int .i64 x.rc.time, .int .i64 x.rc.val, .int .u8 (x.rc.side : Nat), .bool x.rc.err, .bool x.rc.late, .int .i64 x.time, .int .i64 x.num, .int .i64 x.cmd.kind, .int .i64 x.cmd.at_, .slice Ab x.cmd.bins.length cb, .int .i64 x.cmd.dst, .int .i64 x.cmd.node, .int .i64 x.cmd.op.kind, .int .i64 x.cmd.op.a, .int .i64 x.cmd.op.b, .int .i64 x.cmd.op.agg, .int .i64 x.cmd.mode, .int .i64 x.chunk.bin, .int .i64 x.chunk.span, .bool x.chunk.last, .slice Ae x.chunk.entries.length ce] 35) := ⟨_, rfl⟩
  have HB1 : Hid (Below W.heap.size W W1) := Lib.hid (by rw [hW1]; exact (Below.refl _ _).alloc (Nat.le_refl _) _)
  have HX : W1.heap[W.heap.size]? = some (.cells #[.int .i64 x.kind, .int .i64 x.ver, .int .u32 (x.rc.key : Nat), .int .i64 x.rc.time, .int .i64 x.rc.val, .int .u8 (x.rc.side : Nat), .bool x.rc.err, .bool x.rc.late, .int .i64 x.time, .int .i64 x.num, .int .i64 x.cmd.kind, .int .i64 x.cmd.at_, .slice Ab x.cmd.bins.length cb, .int .i64 x.cmd.dst, .int .i64 x.cmd.node, .int .i64 x.cmd.op.kind, .int .i64 x.cmd.op.a, .int .i64 x.cmd.op.b, .int .i64 x.cmd.op.agg, .int .i64 x.cmd.mode, .int .i64 x.chunk.bin, .int .i64 x.chunk.span, .bool x.chunk.last, .slice Ae x.chunk.entries.length ce] 35 (0, 0)) := by rw [hW1]; exact heap_alloc_new W _
  rw [← hW1]
  clear hW1
  have ok := HO.out
  have HC : ∀ i w, Since W1 w → w.cell? ⟨W.heap.size, i, none⟩ = (#[.int .i64 x.kind, .int .i64 x.ver, .int .u32 (x.rc.key : Nat), .int .i64 x.rc.time, .int .i64 x.rc.val, .int .u8 (x.rc.side : Nat), .bool x.rc.err, .bool x.rc.late, .int .i64 x.time, .int .i64 x.num, .int .i64 x.cmd.kind, .int .i64 x.cmd.at_, .slice Ab x.cmd.bins.length cb, .int .i64 x.cmd.dst, .int .i64 x.cmd.node, .int .i64 x.cmd.op.kind, .int .i64 x.cmd.op.a, .int .i64 x.cmd.op.b, .int .i64 x.cmd.op.agg, .int .i64 x.cmd.mode, .int .i64 x.chunk.bin, .int .i64 x.chunk.span, .bool x.chunk.last, .slice Ae x.chunk.entries.length ce] : Array Value)[i]? := fun i w hg => by
    have := (hg.block W.heap.size (Array.getElem?_eq_some_iff.1 HX).1).trans HX
    simp only [World.cell?, this]
    rfl
  have e10 : ∀ n : Nat, n < 18446744073709551616 → (enc n).length ≤ 100 := fun n h => Nat.le_trans (enc_len h).2 (by decide)
  refine tab_region (tab := msgATab x W.heap.size Ab cb []) (opsT := msgAOps) (n := 49) (last := 7) (d := 3) (W := W1) (by kernel_rfl) (by kernel_rfl) (by kernel_rfl) (by kernel_rfl) rfl (Below.refl _ _) msgA_mono (msgA_steps ⟨ok, rfl, HC 0, HC 1, ok.kind, e10 _ (zz_lt ok.kind.1 ok.kind.2), ok.ver, e10 _ (zz_lt ok.ver.1 ok.ver.2)⟩) (by kernel_rfl) rfl ?_
  intro a w2 e1 e2 e3 e4 hb
  refine hK _ _ ?_
  obtain ⟨t, ht⟩ : ∃ t : Nat → Value, t = fun i => a.tmps.getD i undef := ⟨_, rfl⟩
  have hlit : a.tmps = List.toArray (t 0 :: t 1 :: t 2 :: t 3 :: t 4 :: t 5 :: t 6 :: t 7 :: t 8 :: t 9 :: t 10 :: t 11 :: t 12 :: t 13 :: t 14 :: t 15 :: t 16 :: t 17 :: t 18 :: t 19 :: t 20 :: t 21 :: t 22 :: t 23 :: t 24 :: t 25 :: t 26 :: t 27 :: t 28 :: t 29 :: t 30 :: t 31 :: t 32 :: t 33 :: t 34 :: t 35 :: t 36 :: t 37 :: t 38 :: t 39 :: t 40 :: t 41 :: t 42 :: t 43 :: t 44 :: t 45 :: t 46 :: t 47 :: t 48 :: []) := by
    have := lit_of a.tmps 49 e2
    rw [← ht] at this
    exact this
  have t1 : t 1 = .pointer (some ⟨W.heap.size, 0, none⟩) := by rw [ht]; exact slot_of (e4 1 (not_dst (by kernel_rfl))) rfl
  have t3 : t 3 = .string (sb (enc (zz x.kind) ++ enc (zz x.ver))) := by rw [ht]; exact slot_of (t := a.tmps) (t' := a.tmps) rfl e3
  have ha : a = { tmps := List.toArray (t 0 :: t 1 :: t 2 :: t 3 :: t 4 :: t 5 :: t 6 :: t 7 :: t 8 :: t 9 :: t 10 :: t 11 :: t 12 :: t 13 :: t 14 :: t 15 :: t 16 :: t 17 :: t 18 :: t 19 :: t 20 :: t 21 :: t 22 :: t 23 :: t 24 :: t 25 :: t 26 :: t 27 :: t 28 :: t 29 :: t 30 :: t 31 :: t 32 :: t 33 :: t 34 :: t 35 :: t 36 :: t 37 :: t 38 :: t 39 :: t 40 :: t 41 :: t 42 :: t 43 :: t 44 :: t 45 :: t 46 :: t 47 :: t 48 :: []), defers := [] } := by
    cases a
    simp only at hlit e1
    subst hlit
    simp [e1]
  rw [ha, t1, t3]
  have hw2 := HB1.out.trans (hb.mono HB1.out.size)
  have M1 : Hid (∀ w, _) := Lib.hid (fun w => ref_rec x.rc w ok.rc)
  have M2 := Lib.hid (fun w => Int_any x.time ok.time.1 ok.time.2 w)
  have M3 := Lib.hid (fun w => w_any x.num ok.num.1 ok.num.2 w)
  have M4 := Lib.hid (ref_cmd x.cmd Ab cb w2 ok.cmd ((HL1.out.below hw2).more hw2.size))
  have M5 := Lib.hid (ref_chk x.chunk Ae ce w2 ok.chunk ((HL2.out.below hw2).more hw2.size))
  have BF := Lib.hid hw2
  have q0 := HC 0 w2 hb
  have q1 := HC 1 w2 hb
  have q2 := HC 2 w2 hb
  have q3 := HC 3 w2 hb
  have q4 := HC 4 w2 hb
  have q5 := HC 5 w2 hb
  have q6 := HC 6 w2 hb
  have q7 := HC 7 w2 hb
  have q8 := HC 8 w2 hb
  have q9 := HC 9 w2 hb
  have q10 := HC 10 w2 hb
  have q11 := HC 11 w2 hb
  have q12 := HC 12 w2 hb
  have q13 := HC 13 w2 hb
  have q14 := HC 14 w2 hb
  have q15 := HC 15 w2 hb
  have q16 := HC 16 w2 hb
  have q17 := HC 17 w2 hb
  have q18 := HC 18 w2 hb
  have q19 := HC 19 w2 hb
  have q20 := HC 20 w2 hb
  have q21 := HC 21 w2 hb
  have q22 := HC 22 w2 hb
  have q23 := HC 23 w2 hb
  have hk1 : (sb (enc (zz x.kind) ++ enc (zz x.ver))).size ≤ 20 := by rw [sb_size, List.length_append]; have := (enc_len (zz_lt ok.kind.1 ok.kind.2)).2; have := (enc_len (zz_lt ok.ver.1 ok.ver.2)).2; omega
  have z0 : (sb x.rc.by_).size ≤ 60 := by rw [sb_size]; exact x.rc.len ok.rc
  have z1 : (sb (enc (zz x.time))).size ≤ 10 := by rw [sb_size]; exact (enc_len (zz_lt ok.time.1 ok.time.2)).2
  have z2 : (sb (enc (zz x.num))).size ≤ 10 := by rw [sb_size]; exact (enc_len (zz_lt ok.num.1 ok.num.2)).2
  have z3 : (sb x.cmd.by_).size ≤ 100000000000000 := by rw [sb_size]; have := x.cmd.len ok.cmd; have := ok.cmd.bins_len; omega
  have z4 : (sb x.chunk.by_).size ≤ 1000000000000000 := by rw [sb_size]; have := x.chunk.len ok.chunk; have := ok.chunk.entries_len; omega
  obtain ⟨p, hp⟩ : ∃ p, enc (zz x.kind) ++ enc (zz x.ver) = p := ⟨_, rfl⟩
  have HP := Lib.hid hp
  rw [hp] at hk1 ⊢
  clear ha hlit e1 e2 e3 e4 ht t1 t3 hK HC HX e10 ok hw2 hb hp
  by_cases k0 : x.kind = 0
  · have HBY : Hid (p ++ x.rc.by_ = x.by_) := Lib.hid (by rw [← HP.out]; unfold MsgD.by_ MsgD.body; simp [k0])
    go_wp2_with (first
      | (go_at_call 10
         (with_reducible refine (M1.out _).mono ?_)
         rintro e w3 ⟨rfl, hb3⟩
         have B3 := Lib.hid hb3
         clear hb3))
    go_ret
    exact ⟨by rw [sb_append, HBY.out]; rfl, BF.out.trans (B3.out.mono BF.out.size)⟩
  by_cases k1 : x.kind = 1
  · have HBY : Hid (p ++ enc (zz x.time) = x.by_) := Lib.hid (by rw [← HP.out]; unfold MsgD.by_ MsgD.body; simp [k1])
    go_wp2_with (first
      | (go_at_call 25
         (with_reducible refine (M2.out _).mono ?_)
         rintro e w3 ⟨rfl, hb3⟩
         have B3 := Lib.hid hb3
         clear hb3))
    go_ret
    exact ⟨by rw [sb_append, HBY.out]; rfl, BF.out.trans (B3.out.mono BF.out.size)⟩
  by_cases k2 : x.kind = 2
  · have HBY : Hid (p ++ enc (zz x.num) = x.by_) := Lib.hid (by rw [← HP.out]; unfold MsgD.by_ MsgD.body; simp [k2])
    go_wp2_with (first
      | (go_at_call 24
         (with_reducible refine (M3.out _).mono ?_)
         rintro e w3 ⟨rfl, hb3⟩
         have B3 := Lib.hid hb3
         clear hb3))
    go_ret
    exact ⟨by rw [sb_append, HBY.out]; rfl, BF.out.trans (B3.out.mono BF.out.size)⟩
  by_cases k3 : x.kind = 3
  · have HBY : Hid (p ++ x.cmd.by_ = x.by_) := Lib.hid (by rw [← HP.out]; unfold MsgD.by_ MsgD.body; simp [k3])
    go_wp2_with (first
      | (go_at_call 12
         (with_reducible refine (M4.out).mono ?_)
         rintro e w3 ⟨rfl, hb3⟩
         have B3 := Lib.hid hb3
         clear hb3))
    go_ret
    exact ⟨by rw [sb_append, HBY.out]; rfl, BF.out.trans (B3.out.mono BF.out.size)⟩
  by_cases k4 : x.kind = 4
  · have HBY : Hid (p ++ x.chunk.by_ = x.by_) := Lib.hid (by rw [← HP.out]; unfold MsgD.by_ MsgD.body; simp [k4])
    go_wp2_with (first
      | (go_at_call 20
         (with_reducible refine (M5.out).mono ?_)
         rintro e w3 ⟨rfl, hb3⟩
         have B3 := Lib.hid hb3
         clear hb3))
    go_ret
    exact ⟨by rw [sb_append, HBY.out]; rfl, BF.out.trans (B3.out.mono BF.out.size)⟩
  have HBY : Hid (p = x.by_) := Lib.hid (by rw [← HP.out]; unfold MsgD.by_ MsgD.body; simp [k0, k1, k2, k3, k4])
  go_wp2_with fail
  go_ret
  exact ⟨by rw [HBY.out]; rfl, BF.out⟩
end Go.Proofs.YtpfeaekankkpiaaGreatDoor
