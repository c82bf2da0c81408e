/-
  The reference's command.
-/
import Derived.Test.YtpfeaekankkpiaaGreatDoorEvKs
import Derived.LoopTactic
namespace Go.Proofs.YtpfeaekankkpiaaGreatDoor
open Go Go.RowKit Go.Lib Go.Ev

theorem not_dst {ops : Array Oper} {t : Nat} (h : baseOk ops t = true) : ∀ (i : Nat) (o : Oper), ops[i]? = some o → o.dst ≠ some t := by
  intro i o hi hd
  have := List.all_eq_true.1 h o (List.mem_of_getElem? (i := i) (by rw [Array.getElem?_toList]; exact hi))
  rw [hd] at this
  simp at this

set_option maxRecDepth 100000 in
set_option maxHeartbeats 3200000 in
theorem ref_cmd (x : CmdD) (A : Option Addr) (c : Nat) (W : World) (ok : x.ok) (hl : IntsAt W W.heap.size A x.bins) : Calls Tryz.prog 12 #[.agg #[.int .i64 x.kind, .int .i64 x.at_, .slice A x.bins.length c, .int .i64 x.dst, .int .i64 x.node, .int .i64 x.op.kind, .int .i64 x.op.a, .int .i64 x.op.b, .int .i64 x.op.agg, .int .i64 x.mode]] W (SB (sb x.by_) W) := by
  have HO := Lib.hid ok
  have HLI := Lib.hid hl
  clear ok hl
  go_enter Tryz.func12, Tryz.ntmps12
  go_wp2_with fail
  rename_i K hK
  obtain ⟨W1, hW1⟩ : ∃ W1, W1 = W.alloc (.cells #[.int .i64 x.kind, .int .i64 x.at_, .slice A x.bins.length c, .int .i64 x.dst, .int .i64 x.node, .int .i64 x.op.kind, .int .i64 x.op.a, .int .i64 x.op.b, .int .i64 x.op.agg, .int .i64 x.mode] 30) := ⟨_, rfl⟩
  have HB1 : Hid (Below W.heap.size W W1) := Lib.hid (by rw [hW1]; exact (Below.refl _ _).alloc (Nat.le_refl _) _)
  have HX : W1.heap[W.heap.size]? = some (.cells #[.int .i64 x.kind, .int .i64 x.at_, .slice A x.bins.length c, .int .i64 x.dst, .int .i64 x.node, .int .i64 x.op.kind, .int .i64 x.op.a, .int .i64 x.op.b, .int .i64 x.op.agg, .int .i64 x.mode] 30 (0, 0)) := by rw [hW1]; exact heap_alloc_new W _
  rw [← hW1]
  clear hW1
  have ok := HO.out
  have HC : ∀ i w, Since W1 w → w.cell? ⟨W.heap.size, i, none⟩ = (#[.int .i64 x.kind, .int .i64 x.at_, .slice A x.bins.length c, .int .i64 x.dst, .int .i64 x.node, .int .i64 x.op.kind, .int .i64 x.op.a, .int .i64 x.op.b, .int .i64 x.op.agg, .int .i64 x.mode] : Array Value)[i]? := fun i w hg => by
    have := (hg.block W.heap.size (Array.getElem?_eq_some_iff.1 HX).1).trans HX
    simp [World.cell?, this]
  have hbl := ok.bins_len
  have e10 : ∀ n : Nat, n < 18446744073709551616 → (enc n).length ≤ 100 := fun n h => Nat.le_trans (enc_len h).2 (by decide)
  refine tab_region (tab := cmdATab x W.heap.size A c []) (opsT := cmdAOps) (n := 50) (last := 13) (d := 3) (W := W1) (by kernel_rfl) (by kernel_rfl) (by kernel_rfl) (by kernel_rfl) rfl (Below.refl _ _) cmdA_mono (cmdA_steps ⟨ok, rfl, HC 0, HC 1, HC 2, HC 3, HC 4, HC 5, HC 6, HC 7, HC 8, HC 9, ok.kind, e10 _ (zz_lt ok.kind.1 ok.kind.2), ok.at_, e10 _ (zz_lt ok.at_.1 ok.at_.2), by omega, e10 _ (by omega), ok.dst, e10 _ (zz_lt ok.dst.1 ok.dst.2), ok.node, e10 _ (zz_lt ok.node.1 ok.node.2), ok.op, Nat.le_trans (x.op.len ok.op) (by decide), ok.mode, e10 _ (zz_lt ok.mode.1 ok.mode.2)⟩) (by kernel_rfl) rfl ?_
  intro a w2 e1 e2 e3 e4 hb
  refine hK _ _ ?_
  obtain ⟨t, ht⟩ : ∃ t : Nat → Value, t = fun i => a.tmps.getD i undef := ⟨_, rfl⟩
  have hlit : a.tmps = List.toArray (t 0 :: t 1 :: t 2 :: t 3 :: t 4 :: t 5 :: t 6 :: t 7 :: t 8 :: t 9 :: t 10 :: t 11 :: t 12 :: t 13 :: t 14 :: t 15 :: t 16 :: t 17 :: t 18 :: t 19 :: t 20 :: t 21 :: t 22 :: t 23 :: t 24 :: t 25 :: t 26 :: t 27 :: t 28 :: t 29 :: t 30 :: t 31 :: t 32 :: t 33 :: t 34 :: t 35 :: t 36 :: t 37 :: t 38 :: t 39 :: t 40 :: t 41 :: t 42 :: t 43 :: t 44 :: t 45 :: t 46 :: t 47 :: t 48 :: t 49 :: []) := by
    have := lit_of a.tmps 50 e2
    rw [← ht] at this
    exact this
  have t0 : t 0 = .agg #[.int .i64 x.kind, .int .i64 x.at_, .slice A x.bins.length c, .int .i64 x.dst, .int .i64 x.node, .int .i64 x.op.kind, .int .i64 x.op.a, .int .i64 x.op.b, .int .i64 x.op.agg, .int .i64 x.mode] := by rw [ht]; exact slot_of (e4 0 (not_dst (by kernel_rfl))) rfl
  have t1 : t 1 = .pointer (some ⟨W.heap.size, 0, none⟩) := by rw [ht]; exact slot_of (e4 1 (not_dst (by kernel_rfl))) rfl
  have t3 : t 3 = .string (sb (enc (zz x.kind) ++ enc (zz x.at_) ++ enc x.bins.length)) := by rw [ht]; exact slot_of (t := a.tmps) (t' := a.tmps) rfl e3
  have ha : a = { tmps := List.toArray (t 0 :: t 1 :: t 2 :: t 3 :: t 4 :: t 5 :: t 6 :: t 7 :: t 8 :: t 9 :: t 10 :: t 11 :: t 12 :: t 13 :: t 14 :: t 15 :: t 16 :: t 17 :: t 18 :: t 19 :: t 20 :: t 21 :: t 22 :: t 23 :: t 24 :: t 25 :: t 26 :: t 27 :: t 28 :: t 29 :: t 30 :: t 31 :: t 32 :: t 33 :: t 34 :: t 35 :: t 36 :: t 37 :: t 38 :: t 39 :: t 40 :: t 41 :: t 42 :: t 43 :: t 44 :: t 45 :: t 46 :: t 47 :: t 48 :: t 49 :: []), defers := [] } := by
    cases a
    simp only at hlit e1
    subst hlit
    simp [e1]
  rw [ha, t0, t1, t3]
  clear ha hlit e1 e2 e3 e4 ht t0 t1 t3 hK
  have HB2 := Lib.hid hb
  have HCC := Lib.hid HC
  have c2 := HC 2 w2 hb
  clear hb HC HX e10
  obtain ⟨n, hn⟩ : ∃ n, x.bins.length = n := ⟨_, rfl⟩
  have HNN := Lib.hid hn
  rw [hn]
  rw [hn] at c2 hbl
  simp only [hn] at HCC
  clear hn ok
  go_wp2_with fail
  go_loopw [3, 4] (fun s i wr => ∃ j : Nat, i = .int .i64 j ∧ j ≤ n ∧ s = .string (sb (enc (zz x.kind) ++ enc (zz x.at_) ++ enc n ++ wholesB (x.bins.take j))) ∧ Since W1 wr) (fun _ i _ => n - (intOf i).toNat)
  case atStart => exact ⟨0, rfl, Nat.zero_le _, by simp [wholesB], HB2.out⟩
  case round =>
    obtain ⟨j, rfl, hj, rfl, hb⟩ := hrel
    have HB := Lib.hid hb
    have c2 : wr.cell? ⟨W.heap.size, 2, none⟩ = some (.slice A n c) := HCC.out 2 wr hb
    by_cases hlt : j < n
    · have hjl : j < x.bins.length := by rw [HNN.out]; exact hlt
      have hstep := wholesB_snoc hjl
      rcases HLI.out.below (HB1.out.trans (hb.mono HB1.out.size)) with h0 | ⟨ad, rfl, hab, hcell⟩
      · rw [h0] at hjl; simp at hjl
      have hcj := hcell j _ (List.getElem?_eq_getElem hjl)
      have hzz := HO.out.bins _ (List.getElem_mem hjl)
      obtain ⟨z, hz⟩ : ∃ z, x.bins[j] = z := ⟨_, rfl⟩
      rw [hz] at hcj hzz hstep
      have K2 := Lib.hid (fun w => w_any z hzz.1 hzz.2 w)
      obtain ⟨p, hp⟩ : ∃ p, enc (zz x.kind) ++ enc (zz x.at_) ++ enc n ++ wholesB (x.bins.take j) = p := ⟨_, rfl⟩
      have hpl : p.length ≤ 20000000000000 := by
        rw [← hp]
        have h1 := (enc_len (zz_lt HO.out.kind.1 HO.out.kind.2)).2
        have h2 := (enc_len (zz_lt HO.out.at_.1 HO.out.at_.2)).2
        have h3 := (enc_len (n := n) (by omega)).2
        have h4 := wholesB_len (l := x.bins.take j) (fun z hz => HO.out.bins z (List.mem_of_mem_take hz))
        simp only [List.length_append, List.length_take] at *
        omega
      have hql : (enc (zz z)).length ≤ 10 := (enc_len (zz_lt hzz.1 hzz.2)).2
      have hadd : ∀ w, (binOp .add 9 (.string (sb p)) (.string (sb (enc (zz z))))).run Tryz.prog w = .ok (.string (sb (p ++ enc (zz z)))) w := fun w => add_sb p _ (by omega) w
      have HP : Hid (enc (zz x.kind) ++ enc (zz x.at_) ++ enc n ++ wholesB (x.bins.take (j + 1)) = p ++ enc (zz z)) := Lib.hid (by rw [← hp, hstep]; simp only [List.append_assoc])
      rw [hp]
      obtain ⟨r, hr⟩ : ∃ r, enc (zz z) = r := ⟨_, rfl⟩
      rw [hr] at K2 hadd HP hql
      clear hp hstep hz hzz hr hb hcell
      have hz1 : (sb p).size ≤ 20000000000000 := by rw [sb_size]; exact hpl
      have hz2 : (sb r).size ≤ 10 := by rw [sb_size]; exact hql
      clear hadd
      have hq0 : (0 : Int) ≤ (j : Int) := by omega
      have hq1 : (j : Int) < (n : Int) := by omega
      go_wp2_with (first
        | (go_at_call 24
           (with_reducible refine (K2.out _).mono ?_)
           rintro e w3 ⟨rfl, hb3⟩
           have B3 := Lib.hid hb3
           clear hb3))
      go_roundw
      case rel => exact ⟨j + 1, by go_num, by omega, by rw [HP.out, ← sb_append], HB.out.trans (B3.out.mono HB.out.size)⟩
      case measure => first | (simp [intOf]; done) | (simp [intOf]; omega)
    · obtain rfl : n = j := by omega
      have htk : x.bins.take n = x.bins := List.take_of_length_le (by rw [HNN.out]; exact Nat.le_refl _)
      rw [htk]
      obtain ⟨S, hS⟩ : ∃ S, enc (zz x.kind) ++ enc (zz x.at_) ++ enc n ++ wholesB x.bins = S := ⟨_, rfl⟩
      rw [hS]
      have hSl : S.length ≤ 1000000000000000 := by
        rw [← hS]
        have h1 := (enc_len (zz_lt HO.out.kind.1 HO.out.kind.2)).2
        have h2 := (enc_len (zz_lt HO.out.at_.1 HO.out.at_.2)).2
        have h3 := (enc_len (n := n) (by omega)).2
        have h4 := wholesB_len HO.out.bins
        rw [HNN.out] at h4
        simp only [List.length_append]
        omega
      have HSS := Lib.hid hS
      clear hS
      go_wp2_with fail
      rename_i K3 hK3
      have ok := HO.out
      have e10 : ∀ n : Nat, n < 18446744073709551616 → (enc n).length ≤ 100 := fun n h => Nat.le_trans (enc_len h).2 (by decide)
      have HC : ∀ i w, Since W1 w → w.cell? ⟨W.heap.size, i, none⟩ = (#[.int .i64 x.kind, .int .i64 x.at_, .slice A x.bins.length c, .int .i64 x.dst, .int .i64 x.node, .int .i64 x.op.kind, .int .i64 x.op.a, .int .i64 x.op.b, .int .i64 x.op.agg, .int .i64 x.mode] : Array Value)[i]? := fun i w hg => by rw [HNN.out]; exact HCC.out i w hg
      refine tab_region (tab := cmdBTab x W.heap.size A c S) (opsT := cmdBOps) (n := 50) (last := 17) (d := 2) (W := W1) (by kernel_rfl) (by kernel_rfl) (by kernel_rfl) (by kernel_rfl) rfl HB.out cmdB_mono (cmdB_steps ⟨ok, rfl, HC 0, HC 1, HC 2, HC 3, HC 4, HC 5, HC 6, HC 7, HC 8, HC 9, rfl, hSl, ok.kind, e10 _ (zz_lt ok.kind.1 ok.kind.2), ok.at_, e10 _ (zz_lt ok.at_.1 ok.at_.2), by have := HNN.out; omega, e10 _ (by have := HNN.out; omega), ok.dst, e10 _ (zz_lt ok.dst.1 ok.dst.2), ok.node, e10 _ (zz_lt ok.node.1 ok.node.2), ok.op, Nat.le_trans (x.op.len ok.op) (by decide), ok.mode, e10 _ (zz_lt ok.mode.1 ok.mode.2)⟩) (by kernel_rfl) rfl ?_
      intro a w3 e1 e2 e3 _ hb3
      refine hK3 _ _ (wp_ret (bodyPost_ret (results_tmp rfl _ _ _) e1 ⟨?_, HB1.out.trans (hb3.mono HB1.out.size)⟩))
      have hby : x.by_ = S ++ enc (zz x.dst) ++ enc (zz x.node) ++ x.op.by_ ++ enc (zz x.mode) := by rw [← HSS.out, ← HNN.out]; unfold CmdD.by_; simp only [List.append_assoc]
      simp [e3, hby]
set_option maxRecDepth 100000 in
set_option maxHeartbeats 3200000 in
theorem ref_chk (x : ChkD) (A : Option Addr) (c : Nat) (W : World) (ok : x.ok) (hl : EntsAt W W.heap.size A x.entries) : Calls Tryz.prog 20 #[.agg #[.int .i64 x.bin, .int .i64 x.span, .bool x.last, .slice A x.entries.length c]] W (SB (sb x.by_) W) := by
  have HO := Lib.hid ok
  have HLI := Lib.hid hl
  clear ok hl
  go_enter Tryz.func20, Tryz.ntmps20
  go_wp2_with fail
  rename_i K hK
  obtain ⟨W1, hW1⟩ : ∃ W1, W1 = W.alloc (.cells #[.int .i64 x.bin, .int .i64 x.span, .bool x.last, .slice A x.entries.length c] 33) := ⟨_, rfl⟩
  have HB1 : Hid (Below W.heap.size W W1) := Lib.hid (by rw [hW1]; exact (Below.refl _ _).alloc (Nat.le_refl _) _)
  have HX : W1.heap[W.heap.size]? = some (.cells #[.int .i64 x.bin, .int .i64 x.span, .bool x.last, .slice A x.entries.length c] 33 (0, 0)) := by rw [hW1]; exact heap_alloc_new W _
  rw [← hW1]
  clear hW1
  have ok := HO.out
  have HC : ∀ i w, Since W1 w → w.cell? ⟨W.heap.size, i, none⟩ = (#[.int .i64 x.bin, .int .i64 x.span, .bool x.last, .slice A x.entries.length c] : Array Value)[i]? := fun i w hg => by
    have := (hg.block W.heap.size (Array.getElem?_eq_some_iff.1 HX).1).trans HX
    simp [World.cell?, this]
  have hbl := ok.entries_len
  have e10 : ∀ n : Nat, n < 18446744073709551616 → (enc n).length ≤ 100 := fun n h => Nat.le_trans (enc_len h).2 (by decide)
  refine tab_region (tab := chkATab x W.heap.size A c []) (opsT := chkAOps) (n := 38) (last := 17) (d := 3) (W := W1) (by kernel_rfl) (by kernel_rfl) (by kernel_rfl) (by kernel_rfl) rfl (Below.refl _ _) chkA_mono (chkA_steps ⟨ok, rfl, HC 0, HC 1, HC 2, HC 3, ok.bin, e10 _ (zz_lt ok.bin.1 ok.bin.2), ok.span, e10 _ (zz_lt ok.span.1 ok.span.2), e10 _ (by unfold tr; split <;> omega), by omega, e10 _ (by omega)⟩) (by kernel_rfl) rfl ?_
  intro a w2 e1 e2 e3 e4 hb
  refine hK _ _ ?_
  obtain ⟨t, ht⟩ : ∃ t : Nat → Value, t = fun i => a.tmps.getD i undef := ⟨_, rfl⟩
  have hlit : a.tmps = List.toArray (t 0 :: t 1 :: t 2 :: t 3 :: t 4 :: t 5 :: t 6 :: t 7 :: t 8 :: t 9 :: t 10 :: t 11 :: t 12 :: t 13 :: t 14 :: t 15 :: t 16 :: t 17 :: t 18 :: t 19 :: t 20 :: t 21 :: t 22 :: t 23 :: t 24 :: t 25 :: t 26 :: t 27 :: t 28 :: t 29 :: t 30 :: t 31 :: t 32 :: t 33 :: t 34 :: t 35 :: t 36 :: t 37 :: []) := by
    have := lit_of a.tmps 38 e2
    rw [← ht] at this
    exact this
  have t0 : t 0 = .agg #[.int .i64 x.bin, .int .i64 x.span, .bool x.last, .slice A x.entries.length c] := by rw [ht]; exact slot_of (e4 0 (not_dst (by kernel_rfl))) rfl
  have t1 : t 1 = .pointer (some ⟨W.heap.size, 0, none⟩) := by rw [ht]; exact slot_of (e4 1 (not_dst (by kernel_rfl))) rfl
  have t3 : t 3 = .string (sb (enc (zz x.bin) ++ enc (zz x.span) ++ enc (tr x.last) ++ enc x.entries.length)) := by rw [ht]; exact slot_of (t := a.tmps) (t' := a.tmps) rfl e3
  have ha : a = { tmps := List.toArray (t 0 :: t 1 :: t 2 :: t 3 :: t 4 :: t 5 :: t 6 :: t 7 :: t 8 :: t 9 :: t 10 :: t 11 :: t 12 :: t 13 :: t 14 :: t 15 :: t 16 :: t 17 :: t 18 :: t 19 :: t 20 :: t 21 :: t 22 :: t 23 :: t 24 :: t 25 :: t 26 :: t 27 :: t 28 :: t 29 :: t 30 :: t 31 :: t 32 :: t 33 :: t 34 :: t 35 :: t 36 :: t 37 :: []), defers := [] } := by
    cases a
    simp only at hlit e1
    subst hlit
    simp [e1]
  rw [ha, t0, t1, t3]
  clear ha hlit e1 e2 e3 e4 ht t0 t1 t3 hK
  have HB2 := Lib.hid hb
  have HCC := Lib.hid HC
  have c2 := HC 3 w2 hb
  clear hb HC HX e10
  obtain ⟨n, hn⟩ : ∃ n, x.entries.length = n := ⟨_, rfl⟩
  have HNN := Lib.hid hn
  rw [hn]
  rw [hn] at c2 hbl
  simp only [hn] at HCC
  clear hn ok
  go_wp2_with fail
  go_loopw [3, 4] (fun s i wr => ∃ j : Nat, i = .int .i64 j ∧ j ≤ n ∧ s = .string (sb (enc (zz x.bin) ++ enc (zz x.span) ++ enc (tr x.last) ++ enc n ++ entsB (x.entries.take j))) ∧ Since W1 wr) (fun _ i _ => n - (intOf i).toNat)
  case atStart => exact ⟨0, rfl, Nat.zero_le _, by simp [entsB], HB2.out⟩
  case round =>
    obtain ⟨j, rfl, hj, rfl, hb⟩ := hrel
    have HB := Lib.hid hb
    have c2 : wr.cell? ⟨W.heap.size, 3, none⟩ = some (.slice A n c) := HCC.out 3 wr hb
    by_cases hlt : j < n
    · have hjl : j < x.entries.length := by rw [HNN.out]; exact hlt
      have hstep := entsB_snoc hjl
      rcases HLI.out.below (HB1.out.trans (hb.mono HB1.out.size)) with h0 | ⟨ad, rfl, hab, hcell⟩
      · rw [h0] at hjl; simp at hjl
      have hcj := hcell j _ (List.getElem?_eq_getElem hjl)
      have hzz := HO.out.entries _ (List.getElem_mem hjl)
      obtain ⟨z, hz⟩ : ∃ z, x.entries[j] = z := ⟨_, rfl⟩
      rw [hz] at hcj hzz hstep
      have K2 := Lib.hid (fun w => ref_ent z w hzz)
      have q0 := hcj.ver
      have q1 := hcj.key
      have q2 := hcj.start
      have q3 := hcj.end_
      have q4 := hcj.side
      have q5 := hcj.acc.n
      have q6 : wr.cell? ⟨(ad.add (j * 10)).block, (ad.add (j * 10)).off + 6, none⟩ = some (.int .i64 z.acc.hi) := hcj.acc.hi
      have q7 : wr.cell? ⟨(ad.add (j * 10)).block, (ad.add (j * 10)).off + 7, none⟩ = some (.int .u64 z.acc.lo) := hcj.acc.lo
      have q8 : wr.cell? ⟨(ad.add (j * 10)).block, (ad.add (j * 10)).off + 8, none⟩ = some (.int .i64 z.acc.min) := hcj.acc.min
      have q9 : wr.cell? ⟨(ad.add (j * 10)).block, (ad.add (j * 10)).off + 9, none⟩ = some (.int .i64 z.acc.max) := hcj.acc.max
      obtain ⟨p, hp⟩ : ∃ p, enc (zz x.bin) ++ enc (zz x.span) ++ enc (tr x.last) ++ enc n ++ entsB (x.entries.take j) = p := ⟨_, rfl⟩
      have hpl : p.length ≤ 200000000000000 := by
        rw [← hp]
        have h1 := (enc_len (zz_lt HO.out.bin.1 HO.out.bin.2)).2
        have h5 := (enc_len (n := tr x.last) (by unfold tr; split <;> omega)).2
        have h2 := (enc_len (zz_lt HO.out.span.1 HO.out.span.2)).2
        have h3 := (enc_len (n := n) (by omega)).2
        have h4 := entsB_len (l := x.entries.take j) (fun z hz => HO.out.entries z (List.mem_of_mem_take hz))
        simp only [List.length_append, List.length_take] at *
        omega
      have hql : (z.by_).length ≤ 100 := Nat.le_trans (z.len hzz) (by decide)
      have hadd : ∀ w, (binOp .add 9 (.string (sb p)) (.string (sb (z.by_)))).run Tryz.prog w = .ok (.string (sb (p ++ z.by_))) w := fun w => add_sb p _ (by omega) w
      have HP : Hid (enc (zz x.bin) ++ enc (zz x.span) ++ enc (tr x.last) ++ enc n ++ entsB (x.entries.take (j + 1)) = p ++ z.by_) := Lib.hid (by rw [← hp, hstep]; simp only [List.append_assoc])
      rw [hp]
      obtain ⟨r, hr⟩ : ∃ r, z.by_ = r := ⟨_, rfl⟩
      rw [hr] at K2 hadd HP hql
      clear hp hstep hz hzz hr hb hcell hcj
      have hz1 : (sb p).size ≤ 200000000000000 := by rw [sb_size]; exact hpl
      have hz2 : (sb r).size ≤ 100 := by rw [sb_size]; exact hql
      clear hadd
      have hq0 : (0 : Int) ≤ (j : Int) := by omega
      have hq1 : (j : Int) < (n : Int) := by omega
      go_wp2_with (first
        | (go_at_call 16
           (with_reducible refine (K2.out _).mono ?_)
           rintro e w3 ⟨rfl, hb3⟩
           have B3 := Lib.hid hb3
           clear hb3))
      go_roundw
      case rel => exact ⟨j + 1, by go_num, by omega, by rw [HP.out, ← sb_append], HB.out.trans (B3.out.mono HB.out.size)⟩
      case measure => first | (simp [intOf]; done) | (simp [intOf]; omega)
    · obtain rfl : n = j := by omega
      have htk : x.entries.take n = x.entries := List.take_of_length_le (by rw [HNN.out]; exact Nat.le_refl _)
      rw [htk]
      have HBY : Hid (enc (zz x.bin) ++ enc (zz x.span) ++ enc (tr x.last) ++ enc n ++ entsB x.entries = x.by_) := Lib.hid (by rw [← HNN.out]; unfold ChkD.by_; simp only [List.append_assoc])
      rw [HBY.out]
      go_wp2_with fail
      go_ret
      exact ⟨rfl, HB1.out.trans (HB.out.mono HB1.out.size)⟩
end Go.Proofs.YtpfeaekankkpiaaGreatDoor
