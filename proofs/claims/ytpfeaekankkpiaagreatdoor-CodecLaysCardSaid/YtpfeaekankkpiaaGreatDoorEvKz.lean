/-
  CodecLays, walked (printed by wip/tools/mkcz.py).
-/
import Derived.Test.YtpfeaekankkpiaaGreatDoorEvKy
import Derived.Deep.Cut
import Derived.Deep.MidRow
import Derived.LoopTactic
namespace Go.Proofs.YtpfeaekankkpiaaGreatDoor
open Go Go.RowKit Go.Lib Go.Ev

theorem mid_of (t : Array Value) (lo m : Nat) (h : lo + m ≤ t.size) : (t.toList.drop lo).take m = (List.range m).map (fun j => t.getD (lo + j) undef) := by
  refine List.ext_getElem? fun i => ?_
  rw [List.getElem?_take, List.getElem?_map]
  by_cases hi : i < m
  · rw [if_pos hi, List.getElem?_drop, List.getElem?_range hi]
    have h2 : lo + i < t.size := by omega
    simp [Array.getD, h2]
  · rw [if_neg hi, List.getElem?_eq_none (by simp; omega)]
    rfl
theorem frame_of {t t0 lit : Array Value} {lo m : Nat} (hs : t.size = t0.size) (hlo : lo + m ≤ t0.size) (hother : ∀ i, i < lo ∨ lo + m ≤ i → t[i]? = t0[i]?)
    (h1 : lit.toList = t0.toList.take lo ++ ((List.range m).map (fun j => t.getD (lo + j) undef) ++ t0.toList.drop (lo + m))) : t = lit := by
  rw [← mid_of t lo m (by omega)] at h1
  refine Array.toList_inj.1 ?_
  rw [h1]
  refine List.ext_getElem? fun i => ?_
  have hl : t.toList.length = t0.toList.length := by simpa using hs
  have hl0 : t0.toList.length = t0.size := by simp
  by_cases a : i < lo
  · rw [List.getElem?_append_left (by rw [List.length_take]; omega), List.getElem?_take, if_pos a]
    have := hother i (.inl a)
    simpa using this
  · rw [List.getElem?_append_right (by rw [List.length_take]; omega), List.length_take, Nat.min_eq_left (by omega)]
    by_cases b : i < lo + m
    · rw [List.getElem?_append_left (by rw [List.length_take, List.length_drop]; omega), List.getElem?_take, if_pos (by omega), List.getElem?_drop]
      congr 1; omega
    · rw [List.getElem?_append_right (by rw [List.length_take, List.length_drop]; omega), List.length_take, List.length_drop, Nat.min_eq_left (by omega), List.getElem?_drop]
      have := hother i (.inr (by omega))
      rw [show lo + m + (i - lo - m) = i by omega]
      simpa using this
theorem frame_let {t t0 : Array Value} (n lo m : Nat) (hs' : t.size = n) (h0 : t0.size = n) (hlo' : lo + m ≤ n) (hother : ∀ i, i < lo ∨ lo + m ≤ i → t[i]? = t0[i]?) :
    ∃ u : Nat → Value, t = (t0.toList.take lo ++ ((List.range' lo m).map u ++ t0.toList.drop (lo + m))).toArray ∧ ∀ i, lo ≤ i → i < lo + m → t[i]? = some (u i) := by
  have hs : t.size = t0.size := by omega
  have hlo : lo + m ≤ t0.size := by omega
  refine ⟨fun i => t.getD i undef, frame_of hs hlo hother ?_, fun i h1 h2 => ?_⟩
  · simp [List.range'_eq_map_range, Function.comp_def]
  · have : i < t.size := by omega
    simp [Array.getD, this]
def within (ops : Array Oper) (lo m : Nat) : Bool := ops.toList.all fun o => match o.dst with
  | some d => Nat.ble lo d && Nat.blt d (lo + m)
  | none => true
theorem within_of {ops : Array Oper} {lo m : Nat} (h : within ops lo m = true) {t : Nat} (ht : t < lo ∨ lo + m ≤ t) : ∀ (i : Nat) (o : Oper), ops[i]? = some o → o.dst ≠ some t := by
  intro i o hi hd
  have := List.all_eq_true.1 h o (List.mem_of_getElem? (i := i) (by rw [Array.getElem?_toList]; exact hi))
  rw [hd] at this
  simp only [Bool.and_eq_true, Nat.ble_eq, Nat.blt_eq] at this
  omega
/-- The message's box: what it holds, but for the kind. -/
def MBox (W : World) (g : Nat) (m : MsgD) (Ab : Option Addr) (cb : Nat) (Ae : Option Addr) (ce : Nat) (kk : Int) : Prop := W.heap[g]? = some (.cells #[.int .i64 kk, .int .i64 m.ver, .int .u32 (m.rc.key : Nat), .int .i64 m.rc.time, .int .i64 m.rc.val, .int .u8 (m.rc.side : Nat), .bool m.rc.err, .bool m.rc.late, .int .i64 m.time, .int .i64 m.num, .int .i64 m.cmd.kind, .int .i64 m.cmd.at_, .slice Ab m.cmd.bins.length cb, .int .i64 m.cmd.dst, .int .i64 m.cmd.node, .int .i64 m.cmd.op.kind, .int .i64 m.cmd.op.a, .int .i64 m.cmd.op.b, .int .i64 m.cmd.op.agg, .int .i64 m.cmd.mode, .int .i64 m.chunk.bin, .int .i64 m.chunk.span, .bool m.chunk.last, .slice Ae m.chunk.entries.length ce] 35 (0, 0))
def EBox (W : World) (g : Nat) (e : EntD) : Prop := W.heap[g]? = some (.cells #[.int .i64 e.ver, .int .u32 (e.key : Nat), .int .i64 e.start, .int .i64 e.end_, .int .u8 (e.side : Nat), .int .i64 e.acc.n, .int .i64 e.acc.hi, .int .u64 (e.acc.lo : Nat), .int .i64 e.acc.min, .int .i64 e.acc.max] 45 (0, 0))
def XBox (W : World) (g : Nat) (x : ItemD) : Prop := W.heap[g]? = some (.cells #[.bool x.isMark, .int .i64 x.time, .int .u32 (x.rc.key : Nat), .int .i64 x.rc.time, .int .i64 x.rc.val, .int .u8 (x.rc.side : Nat), .bool x.rc.err, .bool x.rc.late] 37 (0, 0))

set_option maxRecDepth 100000 in
set_option maxHeartbeats 6400000 in
theorem lays_any (A : Option Addr) (n c0 : Nat) (Y : List Nat) (m : MsgD) (Ab : Option Addr) (cb : Nat) (Ae : Option Addr) (ce nb ne : Nat) (x : ItemD) (W : World)
    (hY : (if (50 : Int) < (n : Int) then (50 : Int) else (n : Int)) = (Y.length : Int)) (hYc : Y.length ≤ c0) (yS : ∀ b ∈ Y, b < 256) (rd : Rd W W.heap.size A Y.length c0 (u8s Y))
    (okM : m.ok) (okX : x.ok) (b1 : min nb 12 = m.cmd.bins.length) (b2 : min ne 70 = m.chunk.entries.length) (k1 : nb ≤ cb) (k2 : ne ≤ ce)
    (i1 : IntsAt W W.heap.size Ab m.cmd.bins) (i2 : EntsAt W W.heap.size Ae m.chunk.entries)
    (works : ∀ w, Below W.heap.size W w → Calls Tryz.prog 21 #[] w fun e w' => e = .returned (.bool true) ∧ Below w.heap.size w w') :
    Calls Tryz.prog 3 #[.slice A n c0, .agg #[.int .i64 m.kind, .int .i64 m.ver, .int .u32 (m.rc.key : Nat), .int .i64 m.rc.time, .int .i64 m.rc.val, .int .u8 (m.rc.side : Nat), .bool m.rc.err, .bool m.rc.late, .int .i64 m.time, .int .i64 m.num, .int .i64 m.cmd.kind, .int .i64 m.cmd.at_, .slice Ab nb cb, .int .i64 m.cmd.dst, .int .i64 m.cmd.node, .int .i64 m.cmd.op.kind, .int .i64 m.cmd.op.a, .int .i64 m.cmd.op.b, .int .i64 m.cmd.op.agg, .int .i64 m.cmd.mode, .int .i64 m.chunk.bin, .int .i64 m.chunk.span, .bool m.chunk.last, .slice Ae ne ce], .agg #[.bool x.isMark, .int .i64 x.time, .int .u32 (x.rc.key : Nat), .int .i64 x.rc.time, .int .i64 x.rc.val, .int .u8 (x.rc.side : Nat), .bool x.rc.err, .bool x.rc.late]] W fun e w' => e = .returned (.bool true) ∧ Below W.heap.size W w' := by
  obtain ⟨y, hy⟩ : ∃ y, Y.length = y := ⟨_, rfl⟩
  have hy50 : y ≤ 50 := by rw [← hy]; split at hY <;> omega
  obtain ⟨mb, hmb⟩ : ∃ mb, m.cmd.bins.length = mb := ⟨_, rfl⟩
  obtain ⟨me, hme⟩ : ∃ me, m.chunk.entries.length = me := ⟨_, rfl⟩
  have HRD := Lib.hid rd
  have HYS := Lib.hid yS
  have HOM := Lib.hid okM
  have HOX := Lib.hid okX
  have HI1 := Lib.hid i1
  have HI2 := Lib.hid i2
  have HWK := Lib.hid works
  have HYL := Lib.hid hy
  have HMB := Lib.hid hmb
  have HME := Lib.hid hme
  obtain ⟨W1, hW1⟩ : ∃ W1, (W.alloc (.cells #[.int .i64 m.kind, .int .i64 m.ver, .int .u32 (m.rc.key : Nat), .int .i64 m.rc.time, .int .i64 m.rc.val, .int .u8 (m.rc.side : Nat), .bool m.rc.err, .bool m.rc.late, .int .i64 m.time, .int .i64 m.num, .int .i64 m.cmd.kind, .int .i64 m.cmd.at_, .slice Ab nb cb, .int .i64 m.cmd.dst, .int .i64 m.cmd.node, .int .i64 m.cmd.op.kind, .int .i64 m.cmd.op.a, .int .i64 m.cmd.op.b, .int .i64 m.cmd.op.agg, .int .i64 m.cmd.mode, .int .i64 m.chunk.bin, .int .i64 m.chunk.span, .bool m.chunk.last, .slice Ae ne ce] 35)).alloc (.cells #[.bool x.isMark, .int .i64 x.time, .int .u32 (x.rc.key : Nat), .int .i64 x.rc.time, .int .i64 x.rc.val, .int .u8 (x.rc.side : Nat), .bool x.rc.err, .bool x.rc.late] 37) = W1 := ⟨_, rfl⟩
  have s1 : W1.heap.size = W.heap.size + 2 := by rw [← hW1]; simp
  have B1 : Below W.heap.size W W1 := by rw [← hW1]; exact ((Below.refl _ _).alloc (Nat.le_refl _) _).alloc (by simp) _
  have M1 : W1.heap[W.heap.size]? = some (.cells #[.int .i64 m.kind, .int .i64 m.ver, .int .u32 (m.rc.key : Nat), .int .i64 m.rc.time, .int .i64 m.rc.val, .int .u8 (m.rc.side : Nat), .bool m.rc.err, .bool m.rc.late, .int .i64 m.time, .int .i64 m.num, .int .i64 m.cmd.kind, .int .i64 m.cmd.at_, .slice Ab nb cb, .int .i64 m.cmd.dst, .int .i64 m.cmd.node, .int .i64 m.cmd.op.kind, .int .i64 m.cmd.op.a, .int .i64 m.cmd.op.b, .int .i64 m.cmd.op.agg, .int .i64 m.cmd.mode, .int .i64 m.chunk.bin, .int .i64 m.chunk.span, .bool m.chunk.last, .slice Ae ne ce] 35 (0, 0)) := by rw [← hW1, Below.heap_alloc _ _ _ (by simp)]; exact heap_alloc_new W _
  have X1 : XBox W1 (W.heap.size + 1) x := by
    unfold XBox
    rw [← hW1]; exact heap_alloc2_new W _ _
  have HM1 : Hid (∀ w, Since W1 w → w.heap[W.heap.size]? = some (.cells #[.int .i64 m.kind, .int .i64 m.ver, .int .u32 (m.rc.key : Nat), .int .i64 m.rc.time, .int .i64 m.rc.val, .int .u8 (m.rc.side : Nat), .bool m.rc.err, .bool m.rc.late, .int .i64 m.time, .int .i64 m.num, .int .i64 m.cmd.kind, .int .i64 m.cmd.at_, .slice Ab nb cb, .int .i64 m.cmd.dst, .int .i64 m.cmd.node, .int .i64 m.cmd.op.kind, .int .i64 m.cmd.op.a, .int .i64 m.cmd.op.b, .int .i64 m.cmd.op.agg, .int .i64 m.cmd.mode, .int .i64 m.chunk.bin, .int .i64 m.chunk.span, .bool m.chunk.last, .slice Ae ne ce] 35 (0, 0))) := Lib.hid (fun w hw => (hw.block _ (by omega)).trans M1)
  have HX1 := Lib.hid X1
  have HB1 := Lib.hid B1
  have HS1 := Lib.hid s1
  rw [hmb] at b1
  rw [hme] at b2
  rw [hy] at hY hYc
  have HK := Lib.hid (And.intro b1 (And.intro b2 (And.intro k1 k2)))
  have HYW := Lib.hid (And.intro hY hYc)
  clear rd yS okM okX i1 i2 works hmb hme M1 X1 B1 s1 hy b1 b2 k1 k2 hY hYc
  go_enter Tryz.func3, Tryz.ntmps3
  go_wp2_with fail
  try rw [hW1]
  refine c1_region (A := A) (n := n) (y := y) (c0 := c0) (m := m) (Ab := Ab) (cb := cb) (Ae := Ae) (ce := ce) (nb := nb) (ne := ne) (mb := mb) (me := me) (gM := W.heap.size) (W1 := W1) ⟨rfl, rfl, HM1.out, HYW.out.1, HYW.out.2, HK.out.1, HK.out.2.1, HK.out.2.2.1, HK.out.2.2.2⟩ (by kernel_rfl) rfl (Below.refl _ _) ?_
  intro a9 w9 hd9 hs9 h09 ho9 hS9
  obtain ⟨tm, df⟩ := a9
  dsimp only at hd9 hs9 h09 ho9
  obtain ⟨u, e9, hu⟩ := frame_let 140 0 17 (t := tm) hs9 rfl (by decide) (fun i hi => ho9 i (by omega) (by omega))
  have u0 := (hu 0 (by omega) (by omega)).symm.trans h09
  have u1 := (hu 1 (by omega) (by omega)).symm.trans (ho9 1 (by omega) (by omega))
  have u2 := (hu 2 (by omega) (by omega)).symm.trans (ho9 2 (by omega) (by omega))
  have u3 := (hu 3 (by omega) (by omega)).symm.trans (ho9 3 (by omega) (by omega))
  have u4 := (hu 4 (by omega) (by omega)).symm.trans (ho9 4 (by omega) (by omega))
  have u5 := (hu 5 (by omega) (by omega)).symm.trans (ho9 5 (by omega) (by omega))
  have u6 := (hu 6 (by omega) (by omega)).symm.trans (ho9 6 (by omega) (by omega))
  have u7 := (hu 7 (by omega) (by omega)).symm.trans (ho9 7 (by omega) (by omega))
  have u8 := (hu 8 (by omega) (by omega)).symm.trans (ho9 8 (by omega) (by omega))
  have u9 := (hu 9 (by omega) (by omega)).symm.trans (ho9 9 (by omega) (by omega))
  simp only [Option.some.injEq, List.getElem?_toArray, List.getElem?_cons_succ, List.getElem?_cons_zero] at u0 u1 u2 u3 u4 u5 u6 u7 u8 u9
  clear hu ho9 hs9 h09
  simp only [List.range', List.map, List.take, List.drop, List.append, List.cons_append, List.nil_append, Nat.reduceAdd] at e9
  rw [u0, u1, u2, u3, u4, u5, u6, u7, u8, u9] at e9
  subst e9 hd9
  have HS9 := Lib.hid hS9
  have hS9' : Below W1.heap.size W1 w9 := hS9
  have HW9 := Lib.hid hS9'
  have sz9 : W.heap.size + 2 ≤ w9.heap.size := by have := hS9'.size; have := HS1.out; omega
  have mb9 := setRow_heap w9 W.heap.size _ #[.int .i64 m.kind, .int .i64 m.ver, .int .u32 (m.rc.key : Nat), .int .i64 m.rc.time, .int .i64 m.rc.val, .int .u8 (m.rc.side : Nat), .bool m.rc.err, .bool m.rc.late, .int .i64 m.time, .int .i64 m.num, .int .i64 m.cmd.kind, .int .i64 m.cmd.at_, .slice Ab mb cb, .int .i64 m.cmd.dst, .int .i64 m.cmd.node, .int .i64 m.cmd.op.kind, .int .i64 m.cmd.op.a, .int .i64 m.cmd.op.b, .int .i64 m.cmd.op.agg, .int .i64 m.cmd.mode, .int .i64 m.chunk.bin, .int .i64 m.chunk.span, .bool m.chunk.last, .slice Ae me ce] 35 (0, 0) (HM1.out w9 hS9)
  have bw9 : Below W.heap.size W w9 := HB1.out.trans (hS9'.mono HB1.out.size)
  have bw2 : Below W.heap.size W (w9.setRow W.heap.size #[.int .i64 m.kind, .int .i64 m.ver, .int .u32 (m.rc.key : Nat), .int .i64 m.rc.time, .int .i64 m.rc.val, .int .u8 (m.rc.side : Nat), .bool m.rc.err, .bool m.rc.late, .int .i64 m.time, .int .i64 m.num, .int .i64 m.cmd.kind, .int .i64 m.cmd.at_, .slice Ab mb cb, .int .i64 m.cmd.dst, .int .i64 m.cmd.node, .int .i64 m.cmd.op.kind, .int .i64 m.cmd.op.a, .int .i64 m.cmd.op.b, .int .i64 m.cmd.op.agg, .int .i64 m.cmd.mode, .int .i64 m.chunk.bin, .int .i64 m.chunk.span, .bool m.chunk.last, .slice Ae me ce]) := below_setRow bw9 (Nat.le_refl _) _
  have xb9 : XBox (w9.setRow W.heap.size #[.int .i64 m.kind, .int .i64 m.ver, .int .u32 (m.rc.key : Nat), .int .i64 m.rc.time, .int .i64 m.rc.val, .int .u8 (m.rc.side : Nat), .bool m.rc.err, .bool m.rc.late, .int .i64 m.time, .int .i64 m.num, .int .i64 m.cmd.kind, .int .i64 m.cmd.at_, .slice Ab mb cb, .int .i64 m.cmd.dst, .int .i64 m.cmd.node, .int .i64 m.cmd.op.kind, .int .i64 m.cmd.op.a, .int .i64 m.cmd.op.b, .int .i64 m.cmd.op.agg, .int .i64 m.cmd.mode, .int .i64 m.chunk.bin, .int .i64 m.chunk.span, .bool m.chunk.last, .slice Ae me ce]) (W.heap.size + 1) x := (setRow_other w9 W.heap.size (W.heap.size + 1) _ (by omega)).trans ((hS9'.block _ (by have := HS1.out; omega)).trans HX1.out)
  have sz2 : W.heap.size + 2 ≤ (w9.setRow W.heap.size #[.int .i64 m.kind, .int .i64 m.ver, .int .u32 (m.rc.key : Nat), .int .i64 m.rc.time, .int .i64 m.rc.val, .int .u8 (m.rc.side : Nat), .bool m.rc.err, .bool m.rc.late, .int .i64 m.time, .int .i64 m.num, .int .i64 m.cmd.kind, .int .i64 m.cmd.at_, .slice Ab mb cb, .int .i64 m.cmd.dst, .int .i64 m.cmd.node, .int .i64 m.cmd.op.kind, .int .i64 m.cmd.op.a, .int .i64 m.cmd.op.b, .int .i64 m.cmd.op.agg, .int .i64 m.cmd.mode, .int .i64 m.chunk.bin, .int .i64 m.chunk.span, .bool m.chunk.last, .slice Ae me ce]).heap.size := by simp [World.setRow]; exact sz9
  obtain ⟨w2, hw2⟩ : ∃ w2, w9.setRow W.heap.size #[.int .i64 m.kind, .int .i64 m.ver, .int .u32 (m.rc.key : Nat), .int .i64 m.rc.time, .int .i64 m.rc.val, .int .u8 (m.rc.side : Nat), .bool m.rc.err, .bool m.rc.late, .int .i64 m.time, .int .i64 m.num, .int .i64 m.cmd.kind, .int .i64 m.cmd.at_, .slice Ab mb cb, .int .i64 m.cmd.dst, .int .i64 m.cmd.node, .int .i64 m.cmd.op.kind, .int .i64 m.cmd.op.a, .int .i64 m.cmd.op.b, .int .i64 m.cmd.op.agg, .int .i64 m.cmd.mode, .int .i64 m.chunk.bin, .int .i64 m.chunk.span, .bool m.chunk.last, .slice Ae me ce] = w2 := ⟨_, rfl⟩
  rw [hw2] at mb9 bw2 xb9 sz2 ⊢
  rw [← HMB.out, ← HME.out] at mb9
  have mb2 : MBox w2 W.heap.size m Ab cb Ae ce m.kind := mb9
  have hcv : (convert 22 9 (.slice A y c0)).run Tryz.prog w2 = .ok (.string (sb Y)) w2 := by
    have h9 := conv_out (w := w2) (B := W.heap.size) (A := A) (c := c0) (L := Y) (HRD.out.below bw2) HYS.out
    rw [HYL.out] at h9
    exact h9
  obtain ⟨S, hS⟩ : ∃ S, sb Y = S := ⟨_, rfl⟩
  rw [hS] at hcv
  have HSY := Lib.hid hS
  have HMB2 := Lib.hid mb2
  have HXB2 := Lib.hid xb9
  have HBW2 := Lib.hid bw2
  have HSZ2 := Lib.hid sz2
  clear mb9 bw2 xb9 sz2 mb2 hw2 bw9 sz9 hS9 hS9' hS u0 u1 u2 u3 u4 u5 u6 u7 u8 u9
  go_wp2_with fail
  go_loopw [8] (fun i wr => ∃ k : Int, i = .int .i64 k ∧ -1 ≤ k ∧ k ≤ 6 ∧ (∃ kk, w64 kk ∧ MBox wr W.heap.size m Ab cb Ae ce kk) ∧ XBox wr (W.heap.size + 1) x ∧ Below W.heap.size W wr ∧ W.heap.size + 2 ≤ wr.heap.size) (fun i _ => (7 - intOf i).toNat)
  case atStart => exact ⟨-1, rfl, by omega, by omega, ⟨_, HOM.out.kind, HMB2.out⟩, HXB2.out, HBW2.out, HSZ2.out⟩
  case round =>
    rename World => wu
    obtain ⟨k, rfl, hk1, hk2, ⟨kk, hkk, hm⟩, hx, hb, hz⟩ := hrel
    by_cases hlt : k ≤ 5
    · have hm' : wu.heap[W.heap.size]? = _ := hm
      have z0 : wu.cell? ⟨W.heap.size, 0, none⟩ = some (.int .i64 kk) := by rw [Ev.cell_of_block hm']; rfl
      have f0 : wu.frozen? ⟨W.heap.size, 0, none⟩ = false := by simp [World.frozen?, hm']
      obtain ⟨w3, hw3⟩ : ∃ w3, wu.setCell ⟨W.heap.size, 0, none⟩ (.int .i64 k) = w3 := ⟨_, rfl⟩
      have s3 : w3.heap.size = wu.heap.size := by rw [← hw3]; simp [World.setCell]
      have m3 : MBox w3 W.heap.size m Ab cb Ae ce k := by
        unfold MBox
        rw [← hw3]
        exact Go.Joins.block_setCell (i := 0) hm' _
      have x3 : XBox w3 (W.heap.size + 1) x := by
        unfold XBox
        rw [← hw3, far2 (by simp)]
        exact hx
      have b3 : Below W.heap.size W w3 := by rw [← hw3]; exact hb.setCell (p := ⟨W.heap.size, 0, none⟩) (Nat.le_refl _) _
      have W1' : IntKind.i64.wrap (k + 1) = k + 1 := IntWalk.i64_in _ (by omega)
      have H3 := Lib.hid (And.intro m3 (And.intro x3 (And.intro b3 (show W.heap.size + 2 ≤ w3.heap.size by omega))))
      clear hm hm' hx hb s3 m3 x3 b3
      go_wp2_with fail
      refine Go.Ev.tab_region (P := Tryz.prog) (tab := csTab Y A c0 { m with kind := k } Ab cb Ae ce W.heap.size) (opsT := csOps) (id := 7) (n := 140) (last := 8) (d := 33) (val := .bool false) (W := w3) (by kernel_rfl) (by kernel_rfl) (by kernel_rfl) (by kernel_rfl) (by rfl) (Below.refl _ _) cs_mono (cs_steps ?h7) (by kernel_rfl) rfl ?hQ
      case h7 =>
        exact { t0 := by rw [HYL.out]; rfl, t7 := by rw [HSY.out]; rfl, t4 := rfl, rd := (HRD.out.below H3.out.2.2.1).mono H3.out.2.2.1.size, hY := by rw [HYL.out]; exact hy50, yS := HYS.out,
                M := fun w hw => (Below.block hw _ (by have := H3.out.2.2.2; omega)).trans H3.out.1, okM := { HOM.out with kind := ⟨by show -9223372036854775808 ≤ k; omega, by show k < 9223372036854775808; omega⟩ },
                k1 := (HI1.out.below H3.out.2.2.1).mono H3.out.2.2.1.size, k2 := (HI2.out.below H3.out.2.2.1).mono H3.out.2.2.1.size, n1 := by show m.cmd.bins.length ≤ 12; rw [HMB.out]; have := HK.out.1; omega, n2 := by show m.chunk.entries.length ≤ 70; rw [HME.out]; have := HK.out.2.1; omega }
      case hQ =>
        intro a8 w8 hd8 hs8 h84 ho8 hS8
        obtain ⟨tm, df⟩ := a8
        dsimp only at hd8 hs8 h84 ho8
        obtain ⟨v, e8, hv⟩ := frame_let 140 25 9 (t := tm) hs8 rfl (by decide) (fun i hi => ho8 i (within_of (lo := 25) (m := 9) (by kernel_rfl) hi))
        have v33 := hv 33 (by omega) (by omega)
        rw [h84] at v33
        have v33 : v 33 = .bool false := by simpa using v33.symm
        clear hv ho8 hs8 h84
        simp only [List.range', List.map, List.take, List.drop, List.append, List.cons_append, List.nil_append, Nat.reduceAdd] at e8
        rw [v33] at e8
        subst e8 hd8
        have hS8' : Below w3.heap.size w3 w8 := hS8
        have H8 : Hid (MBox w8 W.heap.size m Ab cb Ae ce k ∧ XBox w8 (W.heap.size + 1) x ∧ Below W.heap.size W w8 ∧ W.heap.size + 2 ≤ w8.heap.size) := Lib.hid
          ⟨(hS8'.block _ (by have := H3.out.2.2.2; omega)).trans H3.out.1, (hS8'.block _ (by have := H3.out.2.2.2; omega)).trans H3.out.2.1, H3.out.2.2.1.trans (hS8'.mono H3.out.2.2.1.size), by have := H3.out.2.2.2; have := hS8'.size; omega⟩
        clear hS8 hS8'
        go_wp2_with fail
        go_roundw
        case rel => exact ⟨k + 1, rfl, by omega, by omega, ⟨_, ⟨by show -9223372036854775808 ≤ k; omega, by show k < 9223372036854775808; omega⟩, H8.out.1⟩, H8.out.2.1, H8.out.2.2.1, H8.out.2.2.2⟩
        case measure => simp [intOf]; omega
    · obtain ⟨w4, hw4⟩ : ∃ w4, wu.alloc (.cells #[.int .i64 0, .int .u32 0, .int .i64 0, .int .i64 0, .int .u8 0, .int .i64 0, .int .i64 0, .int .u64 0, .int .i64 0, .int .i64 0] 45) = w4 := ⟨_, rfl⟩
      have m4 : MBox w4 W.heap.size m Ab cb Ae ce kk := by unfold MBox; rw [← hw4, Below.heap_alloc _ _ _ (by omega)]; exact hm
      have x4 : XBox w4 (W.heap.size + 1) x := by unfold XBox; rw [← hw4, Below.heap_alloc _ _ _ (by omega)]; exact hx
      have e4 : EBox w4 wu.heap.size ⟨0, 0, 0, 0, 0, ⟨0, 0, 0, 0, 0⟩⟩ := by unfold EBox; rw [← hw4]; exact heap_alloc_new wu _
      have b4 : Below W.heap.size W w4 := by rw [← hw4]; exact hb.alloc (by omega) _
      have s4 : w4.heap.size = wu.heap.size + 1 := by rw [← hw4]; simp
      have m4' : w4.heap[W.heap.size]? = _ := m4
      have c23 : w4.cell? ⟨W.heap.size, 23, none⟩ = some (.slice Ae m.chunk.entries.length ce) := by rw [Ev.cell_of_block m4']; rfl
      rw [HME.out] at c23
      have H4 := Lib.hid (And.intro m4 (And.intro x4 (And.intro e4 (And.intro b4 (And.intro s4 hz)))))
      have HKK := Lib.hid hkk
      clear hm hx hb m4 x4 e4 b4 s4 m4' hkk
      rcases Nat.eq_zero_or_pos me with h0 | h0
      · subst h0
        go_wp2_with fail
        refine Go.Ev.tab_region (P := Tryz.prog) (tab := cfTab Y A c0 { m with kind := kk } Ab cb Ae ce W.heap.size x (W.heap.size + 1) ⟨0, 0, 0, 0, 0, ⟨0, 0, 0, 0, 0⟩⟩ wu.heap.size) (opsT := cfOps) (id := 12) (n := 140) (last := 96) (d := 6) (val := .bool true) (W := w4) (by kernel_rfl) (by kernel_rfl) (by kernel_rfl) (by kernel_rfl) (by rfl) (Below.refl _ _) cf_mono (cf_steps ?h12) (by kernel_rfl) rfl ?hQ
        case h12 =>
          exact { t0 := by rw [HYL.out]; rfl, t7 := by rw [HSY.out]; rfl, t4 := rfl, rd := (HRD.out.below H4.out.2.2.2.1).mono H4.out.2.2.2.1.size, hY := by rw [HYL.out]; exact hy50, yS := HYS.out,
                  M := fun w hw => (Below.block hw _ (by have := H4.out.2.2.2.2; omega)).trans H4.out.1, okM := { HOM.out with kind := HKK.out },
                  k1 := (HI1.out.below H4.out.2.2.2.1).mono H4.out.2.2.2.1.size, k2 := (HI2.out.below H4.out.2.2.2.1).mono H4.out.2.2.2.1.size, n1 := by show m.cmd.bins.length ≤ 12; rw [HMB.out]; have := HK.out.1; omega, n2 := by show m.chunk.entries.length ≤ 70; rw [HME.out]; have := HK.out.2.1; omega,
                  t5 := rfl, t9 := rfl, X := fun w hw => (Below.block hw _ (by have := H4.out.2.2.2.2; omega)).trans H4.out.2.1, E := fun w hw => (Below.block hw _ (by have := H4.out.2.2.2.2; omega)).trans H4.out.2.2.1, okX := HOX.out, okE := { ver := ⟨by decide, by decide⟩, key := by decide, start := ⟨by decide, by decide⟩, end_ := ⟨by decide, by decide⟩, side := by decide, acc := { n := ⟨by decide, by decide⟩, hi := ⟨by decide, by decide⟩, lo := by decide, min := ⟨by decide, by decide⟩, max := ⟨by decide, by decide⟩ } },
                  works := fun w hw => HWK.out w (H4.out.2.2.2.1.trans (Below.mono hw H4.out.2.2.2.1.size)) }
        case hQ =>
          intro a7 w7 hd7 hs7 h74 ho7 hS7
          obtain ⟨tm, df⟩ := a7
          dsimp only at hd7 hs7 h74 ho7
          obtain ⟨v, e7, hv⟩ := frame_let 140 0 140 (t := tm) (t0 := tm) hs7 hs7 (by decide) (fun i hi => rfl)
          have v6 := hv 6 (by omega) (by omega)
          rw [h74] at v6
          have v6 : v 6 = .bool true := by simpa using v6.symm
          have e7 : tm = ((List.range' 0 140).map v).toArray := by
            have h9 : tm.toList.drop (0 + 140) = [] := List.drop_of_length_le (by simp [hs7])
            rw [h9] at e7
            simpa using e7
          clear hv ho7 hs7 h74
          simp only [List.range', List.map, Nat.reduceAdd] at e7
          rw [v6] at e7
          subst e7 hd7
          have hS7' : Below (w4).heap.size (w4) w7 := hS7
          have H7 : Hid (Below W.heap.size W w7) := Lib.hid (H4.out.2.2.2.1.trans (hS7'.mono H4.out.2.2.2.1.size))
          clear hS7 hS7'
          go_wp2_with fail
          go_ret
          exact ⟨by simp [List.range', v6], H7.out⟩
      · have h1 : (0 : Int) < (me : Int) := by omega
        have h2 : (me : Int) > 0 := h1
        rcases HI2.out with h9 | ⟨ad, rfl, hga, hcl⟩
        · have h8 := HME.out
          rw [h9] at h8
          simp at h8
          omega
        have hl0 : 0 < m.chunk.entries.length := by rw [HME.out]; exact h0
        obtain ⟨z, hz0⟩ : ∃ z, m.chunk.entries[0]? = some z := ⟨_, List.getElem?_eq_getElem hl0⟩
        have hat := hcl 0 z hz0
        have HOZ : Hid z.ok := Lib.hid (HOM.out.chunk.entries z (List.mem_of_getElem? hz0))
        have hsp : ad.spot = none := by
          have hv := hat.ver
          have e0 : ad.add (0 * 10) = ad := rfl
          rw [e0] at hv
          unfold World.cell? at hv
          cases hq : ad.spot with
          | none => rfl
          | some q => rw [hq] at hv; split at hv <;> simp at hv
        obtain ⟨gb, go, gs⟩ := ad
        dsimp only at hsp hga
        subst hsp
        have hat4 : EntAt w4 ⟨gb, go, none⟩ z := EntAt.below (p := ⟨gb, go, none⟩) hat H4.out.2.2.2.1 hga
        have hrg : w4.rangeAt gb go [.int .i64 z.ver, .int .u32 (z.key : Nat), .int .i64 z.start, .int .i64 z.end_, .int .u8 (z.side : Nat), .int .i64 z.acc.n, .int .i64 z.acc.hi, .int .u64 (z.acc.lo : Nat), .int .i64 z.acc.min, .int .i64 z.acc.max] := by
          intro j v hj
          rcases j with _ | _ | _ | _ | _ | _ | _ | _ | _ | _ | j
          all_goals simp only [List.getElem?_cons_zero, List.getElem?_cons_succ, List.getElem?_nil, Option.some.injEq, reduceCtorEq] at hj
          all_goals subst hj
          · exact hat4.ver
          · exact hat4.key
          · exact hat4.start
          · exact hat4.end_
          · exact hat4.side
          · exact hat4.acc.n
          · exact hat4.acc.hi
          · exact hat4.acc.lo
          · exact hat4.acc.min
          · exact hat4.acc.max
        have he4 := H4.out.2.2.1
        obtain ⟨w5, hw5⟩ : ∃ w5, w4.setRow wu.heap.size #[.int .i64 z.ver, .int .u32 (z.key : Nat), .int .i64 z.start, .int .i64 z.end_, .int .u8 (z.side : Nat), .int .i64 z.acc.n, .int .i64 z.acc.hi, .int .u64 (z.acc.lo : Nat), .int .i64 z.acc.min, .int .i64 z.acc.max] = w5 := ⟨_, rfl⟩
        have m5 : MBox w5 W.heap.size m Ab cb (some ⟨gb, go, none⟩) ce kk := by unfold MBox; rw [← hw5, setRow_other _ _ _ _ (by have := H4.out.2.2.2.2; omega)]; exact H4.out.1
        have x5 : XBox w5 (W.heap.size + 1) x := by unfold XBox; rw [← hw5, setRow_other _ _ _ _ (by have := H4.out.2.2.2.2; omega)]; exact H4.out.2.1
        have e5 : EBox w5 wu.heap.size z := by unfold EBox; rw [← hw5]; exact setRow_heap w4 _ _ _ 45 (0, 0) he4
        have b5 : Below W.heap.size W w5 := by rw [← hw5]; exact below_setRow H4.out.2.2.2.1 (by have := H4.out.2.2.2.2; omega) _
        have s5 : w5.heap.size = wu.heap.size + 1 := by rw [← hw5]; simp [World.setRow]; exact H4.out.2.2.2.2.1
        have H5 := Lib.hid (And.intro m5 (And.intro x5 (And.intro e5 (And.intro b5 (And.intro s5 H4.out.2.2.2.2.2)))))
        clear m5 x5 e5 b5 s5 hat hat4 hcl hz0 hga hl0
        unfold EBox at he4
        go_wp2_with (first
          | (refine wpList_load_mid rfl 45 _ rfl gb go rfl _ _ hrg Tryz.underlying45 rfl (by kernel_rfl) ?_)
          | (refine wpList_store_row rfl 45 _ _ rfl wu.heap.size _ rfl rfl 45 _ he4 (by kernel_rfl) rfl (by kernel_rfl) ?_))
        try rw [hw5]
        refine Go.Ev.tab_region (P := Tryz.prog) (tab := cfTab Y A c0 { m with kind := kk } Ab cb (some ⟨gb, go, none⟩) ce W.heap.size x (W.heap.size + 1) z wu.heap.size) (opsT := cfOps) (id := 12) (n := 140) (last := 96) (d := 6) (val := .bool true) (W := w5) (by kernel_rfl) (by kernel_rfl) (by kernel_rfl) (by kernel_rfl) (by rfl) (Below.refl _ _) cf_mono (cf_steps ?h12) (by kernel_rfl) rfl ?hQ
        case h12 =>
          exact { t0 := by rw [HYL.out]; rfl, t7 := by rw [HSY.out]; rfl, t4 := rfl, rd := (HRD.out.below H5.out.2.2.2.1).mono H5.out.2.2.2.1.size, hY := by rw [HYL.out]; exact hy50, yS := HYS.out,
                  M := fun w hw => (Below.block hw _ (by have := H5.out.2.2.2.2; omega)).trans H5.out.1, okM := { HOM.out with kind := HKK.out },
                  k1 := (HI1.out.below H5.out.2.2.2.1).mono H5.out.2.2.2.1.size, k2 := (HI2.out.below H5.out.2.2.2.1).mono H5.out.2.2.2.1.size, n1 := by show m.cmd.bins.length ≤ 12; rw [HMB.out]; have := HK.out.1; omega, n2 := by show m.chunk.entries.length ≤ 70; rw [HME.out]; have := HK.out.2.1; omega,
                  t5 := rfl, t9 := rfl, X := fun w hw => (Below.block hw _ (by have := H5.out.2.2.2.2; omega)).trans H5.out.2.1, E := fun w hw => (Below.block hw _ (by have := H5.out.2.2.2.2; omega)).trans H5.out.2.2.1, okX := HOX.out, okE := HOZ.out,
                  works := fun w hw => HWK.out w (H5.out.2.2.2.1.trans (Below.mono hw H5.out.2.2.2.1.size)) }
        case hQ =>
          intro a7 w7 hd7 hs7 h74 ho7 hS7
          obtain ⟨tm, df⟩ := a7
          dsimp only at hd7 hs7 h74 ho7
          obtain ⟨v, e7, hv⟩ := frame_let 140 0 140 (t := tm) (t0 := tm) hs7 hs7 (by decide) (fun i hi => rfl)
          have v6 := hv 6 (by omega) (by omega)
          rw [h74] at v6
          have v6 : v 6 = .bool true := by simpa using v6.symm
          have e7 : tm = ((List.range' 0 140).map v).toArray := by
            have h9 : tm.toList.drop (0 + 140) = [] := List.drop_of_length_le (by simp [hs7])
            rw [h9] at e7
            simpa using e7
          clear hv ho7 hs7 h74
          simp only [List.range', List.map, Nat.reduceAdd] at e7
          rw [v6] at e7
          subst e7 hd7
          have hS7' : Below w5.heap.size (w5) w7 := hS7
          have H7 : Hid (Below W.heap.size W w7) := Lib.hid (H5.out.2.2.2.1.trans (hS7'.mono H5.out.2.2.2.1.size))
          clear hS7 hS7'
          go_wp2_with fail
          go_ret
          exact ⟨by simp [List.range', v6], H7.out⟩
end Go.Proofs.YtpfeaekankkpiaaGreatDoor
