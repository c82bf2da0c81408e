/-
  The codec's things, laid by a writer: records, operators, aggregates, items, entries.
-/
import Derived.Test.YtpfeaekankkpiaaGreatDoorEvKc
namespace Go.Proofs.YtpfeaekankkpiaaGreatDoor
open Go Go.RowKit Go.Lib

structure w64 (n : Int) : Prop where
  lo : -9223372036854775808 ≤ n
  hi : n < 9223372036854775808
theorem ahead_key (a : Addr) (w : World) : (nilAhead 330 102 (.pointer (some a)) "anabranch/codec.key").run Tryz.prog w = .ok (some false) w := by kernel_rfl
theorem meth_key (a : Addr) (w : World) : (Go.method 330 102 (.pointer (some a)) "anabranch/codec.key").run Tryz.prog w = .ok (84, .pointer (some a)) w := by kernel_rfl
theorem ahead_integer (a : Addr) (w : World) : (nilAhead 330 102 (.pointer (some a)) "anabranch/codec.integer").run Tryz.prog w = .ok (some false) w := by kernel_rfl
theorem meth_integer (a : Addr) (w : World) : (Go.method 330 102 (.pointer (some a)) "anabranch/codec.integer").run Tryz.prog w = .ok (83, .pointer (some a)) w := by kernel_rfl
theorem ahead_octet (a : Addr) (w : World) : (nilAhead 330 102 (.pointer (some a)) "anabranch/codec.octet").run Tryz.prog w = .ok (some false) w := by kernel_rfl
theorem meth_octet (a : Addr) (w : World) : (Go.method 330 102 (.pointer (some a)) "anabranch/codec.octet").run Tryz.prog w = .ok (87, .pointer (some a)) w := by kernel_rfl
theorem ahead_truth (a : Addr) (w : World) : (nilAhead 330 102 (.pointer (some a)) "anabranch/codec.truth").run Tryz.prog w = .ok (some false) w := by kernel_rfl
theorem meth_truth (a : Addr) (w : World) : (Go.method 330 102 (.pointer (some a)) "anabranch/codec.truth").run Tryz.prog w = .ok (88, .pointer (some a)) w := by kernel_rfl
theorem ahead_whole (a : Addr) (w : World) : (nilAhead 330 102 (.pointer (some a)) "anabranch/codec.whole").run Tryz.prog w = .ok (some false) w := by kernel_rfl
theorem meth_whole (a : Addr) (w : World) : (Go.method 330 102 (.pointer (some a)) "anabranch/codec.whole").run Tryz.prog w = .ok (89, .pointer (some a)) w := by kernel_rfl
theorem ahead_number (a : Addr) (w : World) : (nilAhead 330 102 (.pointer (some a)) "anabranch/codec.number").run Tryz.prog w = .ok (some false) w := by kernel_rfl
theorem meth_number (a : Addr) (w : World) : (Go.method 330 102 (.pointer (some a)) "anabranch/codec.number").run Tryz.prog w = .ok (86, .pointer (some a)) w := by kernel_rfl
theorem ahead_kind (a : Addr) (w : World) : (nilAhead 330 102 (.pointer (some a)) "anabranch/codec.kind").run Tryz.prog w = .ok (some false) w := by kernel_rfl
theorem meth_kind (a : Addr) (w : World) : (Go.method 330 102 (.pointer (some a)) "anabranch/codec.kind").run Tryz.prog w = .ok (85, .pointer (some a)) w := by kernel_rfl
theorem ahead_count (a : Addr) (w : World) : (nilAhead 330 102 (.pointer (some a)) "anabranch/codec.count").run Tryz.prog w = .ok (some false) w := by kernel_rfl
theorem meth_count (a : Addr) (w : World) : (Go.method 330 102 (.pointer (some a)) "anabranch/codec.count").run Tryz.prog w = .ok (82, .pointer (some a)) w := by kernel_rfl

structure RecD where
  key : Nat
  time : Int
  val : Int
  side : Nat
  err : Bool
  late : Bool
structure RecD.ok (x : RecD) : Prop where
  key : x.key < 4294967296
  time : w64 x.time
  val : w64 x.val
  side : x.side < 256
structure RecAt (W : World) (p : Addr) (x : RecD) : Prop where
  key : W.cell? p = some (.int .u32 x.key)
  time : W.cell? ⟨p.block, p.off + 1, none⟩ = some (.int .i64 x.time)
  val : W.cell? ⟨p.block, p.off + 2, none⟩ = some (.int .i64 x.val)
  side : W.cell? ⟨p.block, p.off + 3, none⟩ = some (.int .u8 x.side)
  err : W.cell? ⟨p.block, p.off + 4, none⟩ = some (.bool x.err)
  late : W.cell? ⟨p.block, p.off + 5, none⟩ = some (.bool x.late)
theorem RecAt.below {B : Nat} {W W' : World} {p : Addr} {x : RecD} (h : RecAt W p x) (hb : Below B W W') (hq : p.block < B) : RecAt W' p x :=
  ⟨(hb.cell (p := p) hq).trans h.key, (hb.cell (p := ⟨p.block, p.off + 1, none⟩) hq).trans h.time, (hb.cell (p := ⟨p.block, p.off + 2, none⟩) hq).trans h.val, (hb.cell (p := ⟨p.block, p.off + 3, none⟩) hq).trans h.side, (hb.cell (p := ⟨p.block, p.off + 4, none⟩) hq).trans h.err, (hb.cell (p := ⟨p.block, p.off + 5, none⟩) hq).trans h.late⟩
def RecD.by_ (x : RecD) : List Nat := enc x.key ++ enc (zz x.time) ++ enc (zz x.val) ++ [x.side] ++ enc (tr x.err) ++ enc (tr x.late)
theorem RecD.len (x : RecD) (ok : x.ok) : x.by_.length ≤ 60 := by
  have HO := Lib.hid ok
  have l0 : (enc x.key).length ≤ 10 := (enc_len (by have := HO.out.key; omega)).2
  have l1 : (enc (zz x.time)).length ≤ 10 := (enc_len (zz_lt HO.out.time.1 HO.out.time.2)).2
  have l2 : (enc (zz x.val)).length ≤ 10 := (enc_len (zz_lt HO.out.val.1 HO.out.val.2)).2
  have l3 : ([x.side]).length ≤ 10 := (by simp)
  have l4 : (enc (tr x.err)).length ≤ 10 := (enc_len (by unfold tr; split <;> omega)).2
  have l5 : (enc (tr x.late)).length ≤ 10 := (enc_len (by unfold tr; split <;> omega)).2
  unfold RecD.by_
  simp only [List.length_append] at *
  omega

set_option maxRecDepth 100000 in
set_option maxHeartbeats 3200000 in
theorem rec_any (B g : Nat) (p : Addr) (L : List Nat) (x : RecD) (W : World) (h : Wtr W B g L) (hx : RecAt W p x) (ok : x.ok) (hq : p.block < B) (hm : L.length + 70 ≤ 140737488355328) :
    Calls Tryz.prog 30 #[.iface 102 (.pointer (some ⟨g, 0, none⟩)), .pointer (some p)] W fun e w' => e = .returned (.tuple #[]) ∧ Wtr w' B g (L ++ x.by_) ∧ Below B W w' := by
  have H0 := Lib.hid h
  have HX := Lib.hid hx
  have HO := Lib.hid ok
  have B0 : Hid (Below B W W) := Lib.hid (Below.refl _ _)
  have HQ := Lib.hid hq
  have l0 : Hid ((enc x.key).length ≤ 10) := Lib.hid (enc_len (by have := HO.out.key; omega)).2
  have l1 : Hid ((enc (zz x.time)).length ≤ 10) := Lib.hid (enc_len (zz_lt HO.out.time.1 HO.out.time.2)).2
  have l2 : Hid ((enc (zz x.val)).length ≤ 10) := Lib.hid (enc_len (zz_lt HO.out.val.1 HO.out.val.2)).2
  have l3 : Hid (([x.side]).length ≤ 10) := Lib.hid (by simp)
  have l4 : Hid ((enc (tr x.err)).length ≤ 10) := Lib.hid (enc_len (by unfold tr; split <;> omega)).2
  have l5 : Hid ((enc (tr x.late)).length ≤ 10) := Lib.hid (enc_len (by unfold tr; split <;> omega)).2
  have Ninteger := fun w => ahead_integer ⟨g, 0, none⟩ w
  have Minteger := fun w => meth_integer ⟨g, 0, none⟩ w
  have Nkey := fun w => ahead_key ⟨g, 0, none⟩ w
  have Mkey := fun w => meth_key ⟨g, 0, none⟩ w
  have Noctet := fun w => ahead_octet ⟨g, 0, none⟩ w
  have Moctet := fun w => meth_octet ⟨g, 0, none⟩ w
  have Ntruth := fun w => ahead_truth ⟨g, 0, none⟩ w
  have Mtruth := fun w => meth_truth ⟨g, 0, none⟩ w
  clear h hx ok
  go_enter Tryz.func30, Tryz.ntmps30
  go_wp2_with fail
  go_region_held3 (fun w' => Below B W w')
    (first | assumption | (exact Below.drew (Below.refl _ _)))
    (first
      | (go_at_call 84
         (with_reducible refine (key_any B g (L) x.key p _ (H0.out.kept (Below.refl _ _).drew) ((HX.out.below B0.out.drew HQ.out).key) HO.out.key (by omega)).mono ?_)
         rintro e w1 ⟨rfl, hw, hb⟩
         have H1 := Lib.hid hw
         have hs1 : Below B W w1 := (Below.refl _ _).drew.trans hb
         have B1 := Lib.hid (B0.out.trans hs1)
         clear hw hb))
  clear hs1
  go_wp2_with fail
  go_region_held3 (fun w' => Below B w1 w')
    (first | assumption | (exact Below.drew (Below.refl _ _)))
    (first
      | (go_at_call 83
         (with_reducible refine (integer_any B g (L ++ enc x.key) x.time ⟨p.block, p.off + 1, none⟩ _ (H1.out.kept (Below.refl _ _).drew) ((HX.out.below B1.out.drew HQ.out).time) HO.out.time.1 HO.out.time.2 (by have := l0.out; simp only [List.length_append]; omega)).mono ?_)
         rintro e w2 ⟨rfl, hw, hb⟩
         have H2 := Lib.hid hw
         have hs2 : Below B w1 w2 := (Below.refl _ _).drew.trans hb
         have B2 := Lib.hid (B1.out.trans hs2)
         clear hw hb))
  clear hs2
  go_wp2_with fail
  go_region_held3 (fun w' => Below B w2 w')
    (first | assumption | (exact Below.drew (Below.refl _ _)))
    (first
      | (go_at_call 83
         (with_reducible refine (integer_any B g (L ++ enc x.key ++ enc (zz x.time)) x.val ⟨p.block, p.off + 2, none⟩ _ (H2.out.kept (Below.refl _ _).drew) ((HX.out.below B2.out.drew HQ.out).val) HO.out.val.1 HO.out.val.2 (by have := l0.out; have := l1.out; simp only [List.length_append]; omega)).mono ?_)
         rintro e w3 ⟨rfl, hw, hb⟩
         have H3 := Lib.hid hw
         have hs3 : Below B w2 w3 := (Below.refl _ _).drew.trans hb
         have B3 := Lib.hid (B2.out.trans hs3)
         clear hw hb))
  clear hs3
  go_wp2_with fail
  go_region_held3 (fun w' => Below B w3 w')
    (first | assumption | (exact Below.drew (Below.refl _ _)))
    (first
      | (go_at_call 87
         (with_reducible refine (octet_any B g (L ++ enc x.key ++ enc (zz x.time) ++ enc (zz x.val)) x.side ⟨p.block, p.off + 3, none⟩ _ (H3.out.kept (Below.refl _ _).drew) ((HX.out.below B3.out.drew HQ.out).side) HQ.out (by have := l0.out; have := l1.out; have := l2.out; simp only [List.length_append]; omega)).mono ?_)
         rintro e w4 ⟨rfl, hw, hb⟩
         have H4 := Lib.hid hw
         have hs4 : Below B w3 w4 := (Below.refl _ _).drew.trans hb
         have B4 := Lib.hid (B3.out.trans hs4)
         clear hw hb))
  clear hs4
  go_wp2_with fail
  go_region_held3 (fun w' => Below B w4 w')
    (first | assumption | (exact Below.drew (Below.refl _ _)))
    (first
      | (go_at_call 88
         (with_reducible refine (truth_any B g (L ++ enc x.key ++ enc (zz x.time) ++ enc (zz x.val) ++ [x.side]) x.err ⟨p.block, p.off + 4, none⟩ _ (H4.out.kept (Below.refl _ _).drew) ((HX.out.below B4.out.drew HQ.out).err)  (by have := l0.out; have := l1.out; have := l2.out; have := l3.out; simp only [List.length_append]; omega)).mono ?_)
         rintro e w5 ⟨rfl, hw, hb⟩
         have H5 := Lib.hid hw
         have hs5 : Below B w4 w5 := (Below.refl _ _).drew.trans hb
         have B5 := Lib.hid (B4.out.trans hs5)
         clear hw hb))
  clear hs5
  go_wp2_with fail
  go_region_held3 (fun w' => Below B w5 w')
    (first | assumption | (exact Below.drew (Below.refl _ _)))
    (first
      | (go_at_call 88
         (with_reducible refine (truth_any B g (L ++ enc x.key ++ enc (zz x.time) ++ enc (zz x.val) ++ [x.side] ++ enc (tr x.err)) x.late ⟨p.block, p.off + 5, none⟩ _ (H5.out.kept (Below.refl _ _).drew) ((HX.out.below B5.out.drew HQ.out).late)  (by have := l0.out; have := l1.out; have := l2.out; have := l3.out; have := l4.out; simp only [List.length_append]; omega)).mono ?_)
         rintro e w6 ⟨rfl, hw, hb⟩
         have H6 := Lib.hid hw
         have hs6 : Below B w5 w6 := (Below.refl _ _).drew.trans hb
         have B6 := Lib.hid (B5.out.trans hs6)
         clear hw hb))
  clear hs6
  go_end0
  exact ⟨rfl, by have hh := H6.out; unfold RecD.by_; simpa only [List.append_assoc] using hh, B6.out⟩

structure OpnD where
  kind : Int
  a : Int
  b : Int
  agg : Int
structure OpnD.ok (x : OpnD) : Prop where
  kind : w64 x.kind
  a : w64 x.a
  b : w64 x.b
  agg : w64 x.agg
structure OpnAt (W : World) (p : Addr) (x : OpnD) : Prop where
  kind : W.cell? p = some (.int .i64 x.kind)
  a : W.cell? ⟨p.block, p.off + 1, none⟩ = some (.int .i64 x.a)
  b : W.cell? ⟨p.block, p.off + 2, none⟩ = some (.int .i64 x.b)
  agg : W.cell? ⟨p.block, p.off + 3, none⟩ = some (.int .i64 x.agg)
theorem OpnAt.below {B : Nat} {W W' : World} {p : Addr} {x : OpnD} (h : OpnAt W p x) (hb : Below B W W') (hq : p.block < B) : OpnAt W' p x :=
  ⟨(hb.cell (p := p) hq).trans h.kind, (hb.cell (p := ⟨p.block, p.off + 1, none⟩) hq).trans h.a, (hb.cell (p := ⟨p.block, p.off + 2, none⟩) hq).trans h.b, (hb.cell (p := ⟨p.block, p.off + 3, none⟩) hq).trans h.agg⟩
def OpnD.by_ (x : OpnD) : List Nat := enc (zz x.kind) ++ enc (zz x.a) ++ enc (zz x.b) ++ enc (zz x.agg)
theorem OpnD.len (x : OpnD) (ok : x.ok) : x.by_.length ≤ 40 := by
  have HO := Lib.hid ok
  have l0 : (enc (zz x.kind)).length ≤ 10 := (enc_len (zz_lt HO.out.kind.1 HO.out.kind.2)).2
  have l1 : (enc (zz x.a)).length ≤ 10 := (enc_len (zz_lt HO.out.a.1 HO.out.a.2)).2
  have l2 : (enc (zz x.b)).length ≤ 10 := (enc_len (zz_lt HO.out.b.1 HO.out.b.2)).2
  have l3 : (enc (zz x.agg)).length ≤ 10 := (enc_len (zz_lt HO.out.agg.1 HO.out.agg.2)).2
  unfold OpnD.by_
  simp only [List.length_append] at *
  omega

set_option maxRecDepth 100000 in
set_option maxHeartbeats 3200000 in
theorem opn_any (B g : Nat) (p : Addr) (L : List Nat) (x : OpnD) (W : World) (h : Wtr W B g L) (hx : OpnAt W p x) (ok : x.ok) (hq : p.block < B) (hm : L.length + 50 ≤ 140737488355328) :
    Calls Tryz.prog 35 #[.iface 102 (.pointer (some ⟨g, 0, none⟩)), .pointer (some p)] W fun e w' => e = .returned (.tuple #[]) ∧ Wtr w' B g (L ++ x.by_) ∧ Below B W w' := by
  have H0 := Lib.hid h
  have HX := Lib.hid hx
  have HO := Lib.hid ok
  have B0 : Hid (Below B W W) := Lib.hid (Below.refl _ _)
  have HQ := Lib.hid hq
  have l0 : Hid ((enc (zz x.kind)).length ≤ 10) := Lib.hid (enc_len (zz_lt HO.out.kind.1 HO.out.kind.2)).2
  have l1 : Hid ((enc (zz x.a)).length ≤ 10) := Lib.hid (enc_len (zz_lt HO.out.a.1 HO.out.a.2)).2
  have l2 : Hid ((enc (zz x.b)).length ≤ 10) := Lib.hid (enc_len (zz_lt HO.out.b.1 HO.out.b.2)).2
  have l3 : Hid ((enc (zz x.agg)).length ≤ 10) := Lib.hid (enc_len (zz_lt HO.out.agg.1 HO.out.agg.2)).2
  have Ninteger := fun w => ahead_integer ⟨g, 0, none⟩ w
  have Minteger := fun w => meth_integer ⟨g, 0, none⟩ w
  have Nwhole := fun w => ahead_whole ⟨g, 0, none⟩ w
  have Mwhole := fun w => meth_whole ⟨g, 0, none⟩ w
  clear h hx ok
  go_enter Tryz.func35, Tryz.ntmps35
  go_wp2_with fail
  go_region_held3 (fun w' => Below B W w')
    (first | assumption | (exact Below.drew (Below.refl _ _)))
    (first
      | (go_at_call 89
         (with_reducible refine (whole_any B g (L) x.kind p _ (H0.out.kept (Below.refl _ _).drew) ((HX.out.below B0.out.drew HQ.out).kind) HO.out.kind.1 HO.out.kind.2 (by omega)).mono ?_)
         rintro e w1 ⟨rfl, hw, hb⟩
         have H1 := Lib.hid hw
         have hs1 : Below B W w1 := (Below.refl _ _).drew.trans hb
         have B1 := Lib.hid (B0.out.trans hs1)
         clear hw hb))
  clear hs1
  go_wp2_with fail
  go_region_held3 (fun w' => Below B w1 w')
    (first | assumption | (exact Below.drew (Below.refl _ _)))
    (first
      | (go_at_call 83
         (with_reducible refine (integer_any B g (L ++ enc (zz x.kind)) x.a ⟨p.block, p.off + 1, none⟩ _ (H1.out.kept (Below.refl _ _).drew) ((HX.out.below B1.out.drew HQ.out).a) HO.out.a.1 HO.out.a.2 (by have := l0.out; simp only [List.length_append]; omega)).mono ?_)
         rintro e w2 ⟨rfl, hw, hb⟩
         have H2 := Lib.hid hw
         have hs2 : Below B w1 w2 := (Below.refl _ _).drew.trans hb
         have B2 := Lib.hid (B1.out.trans hs2)
         clear hw hb))
  clear hs2
  go_wp2_with fail
  go_region_held3 (fun w' => Below B w2 w')
    (first | assumption | (exact Below.drew (Below.refl _ _)))
    (first
      | (go_at_call 83
         (with_reducible refine (integer_any B g (L ++ enc (zz x.kind) ++ enc (zz x.a)) x.b ⟨p.block, p.off + 2, none⟩ _ (H2.out.kept (Below.refl _ _).drew) ((HX.out.below B2.out.drew HQ.out).b) HO.out.b.1 HO.out.b.2 (by have := l0.out; have := l1.out; simp only [List.length_append]; omega)).mono ?_)
         rintro e w3 ⟨rfl, hw, hb⟩
         have H3 := Lib.hid hw
         have hs3 : Below B w2 w3 := (Below.refl _ _).drew.trans hb
         have B3 := Lib.hid (B2.out.trans hs3)
         clear hw hb))
  clear hs3
  go_wp2_with fail
  go_region_held3 (fun w' => Below B w3 w')
    (first | assumption | (exact Below.drew (Below.refl _ _)))
    (first
      | (go_at_call 89
         (with_reducible refine (whole_any B g (L ++ enc (zz x.kind) ++ enc (zz x.a) ++ enc (zz x.b)) x.agg ⟨p.block, p.off + 3, none⟩ _ (H3.out.kept (Below.refl _ _).drew) ((HX.out.below B3.out.drew HQ.out).agg) HO.out.agg.1 HO.out.agg.2 (by have := l0.out; have := l1.out; have := l2.out; simp only [List.length_append]; omega)).mono ?_)
         rintro e w4 ⟨rfl, hw, hb⟩
         have H4 := Lib.hid hw
         have hs4 : Below B w3 w4 := (Below.refl _ _).drew.trans hb
         have B4 := Lib.hid (B3.out.trans hs4)
         clear hw hb))
  clear hs4
  go_end0
  exact ⟨rfl, by have hh := H4.out; unfold OpnD.by_; simpa only [List.append_assoc] using hh, B4.out⟩

structure AccD where
  n : Int
  hi : Int
  lo : Nat
  min : Int
  max : Int
structure AccD.ok (x : AccD) : Prop where
  n : w64 x.n
  hi : w64 x.hi
  lo : x.lo < 18446744073709551616
  min : w64 x.min
  max : w64 x.max
structure AccAt (W : World) (p : Addr) (x : AccD) : Prop where
  n : W.cell? p = some (.int .i64 x.n)
  hi : W.cell? ⟨p.block, p.off + 1, none⟩ = some (.int .i64 x.hi)
  lo : W.cell? ⟨p.block, p.off + 2, none⟩ = some (.int .u64 x.lo)
  min : W.cell? ⟨p.block, p.off + 3, none⟩ = some (.int .i64 x.min)
  max : W.cell? ⟨p.block, p.off + 4, none⟩ = some (.int .i64 x.max)
theorem AccAt.below {B : Nat} {W W' : World} {p : Addr} {x : AccD} (h : AccAt W p x) (hb : Below B W W') (hq : p.block < B) : AccAt W' p x :=
  ⟨(hb.cell (p := p) hq).trans h.n, (hb.cell (p := ⟨p.block, p.off + 1, none⟩) hq).trans h.hi, (hb.cell (p := ⟨p.block, p.off + 2, none⟩) hq).trans h.lo, (hb.cell (p := ⟨p.block, p.off + 3, none⟩) hq).trans h.min, (hb.cell (p := ⟨p.block, p.off + 4, none⟩) hq).trans h.max⟩
def AccD.by_ (x : AccD) : List Nat := enc (zz x.n) ++ enc (zz x.hi) ++ enc x.lo ++ enc (zz x.min) ++ enc (zz x.max)
theorem AccD.len (x : AccD) (ok : x.ok) : x.by_.length ≤ 50 := by
  have HO := Lib.hid ok
  have l0 : (enc (zz x.n)).length ≤ 10 := (enc_len (zz_lt HO.out.n.1 HO.out.n.2)).2
  have l1 : (enc (zz x.hi)).length ≤ 10 := (enc_len (zz_lt HO.out.hi.1 HO.out.hi.2)).2
  have l2 : (enc x.lo).length ≤ 10 := (enc_len HO.out.lo).2
  have l3 : (enc (zz x.min)).length ≤ 10 := (enc_len (zz_lt HO.out.min.1 HO.out.min.2)).2
  have l4 : (enc (zz x.max)).length ≤ 10 := (enc_len (zz_lt HO.out.max.1 HO.out.max.2)).2
  unfold AccD.by_
  simp only [List.length_append] at *
  omega

set_option maxRecDepth 100000 in
set_option maxHeartbeats 3200000 in
theorem acc_any (B g : Nat) (p : Addr) (L : List Nat) (x : AccD) (W : World) (h : Wtr W B g L) (hx : AccAt W p x) (ok : x.ok) (hq : p.block < B) (hm : L.length + 60 ≤ 140737488355328) :
    Calls Tryz.prog 39 #[.iface 102 (.pointer (some ⟨g, 0, none⟩)), .pointer (some p)] W fun e w' => e = .returned (.tuple #[]) ∧ Wtr w' B g (L ++ x.by_) ∧ Below B W w' := by
  have H0 := Lib.hid h
  have HX := Lib.hid hx
  have HO := Lib.hid ok
  have B0 : Hid (Below B W W) := Lib.hid (Below.refl _ _)
  have HQ := Lib.hid hq
  have l0 : Hid ((enc (zz x.n)).length ≤ 10) := Lib.hid (enc_len (zz_lt HO.out.n.1 HO.out.n.2)).2
  have l1 : Hid ((enc (zz x.hi)).length ≤ 10) := Lib.hid (enc_len (zz_lt HO.out.hi.1 HO.out.hi.2)).2
  have l2 : Hid ((enc x.lo).length ≤ 10) := Lib.hid (enc_len HO.out.lo).2
  have l3 : Hid ((enc (zz x.min)).length ≤ 10) := Lib.hid (enc_len (zz_lt HO.out.min.1 HO.out.min.2)).2
  have l4 : Hid ((enc (zz x.max)).length ≤ 10) := Lib.hid (enc_len (zz_lt HO.out.max.1 HO.out.max.2)).2
  have Ninteger := fun w => ahead_integer ⟨g, 0, none⟩ w
  have Minteger := fun w => meth_integer ⟨g, 0, none⟩ w
  have Nnumber := fun w => ahead_number ⟨g, 0, none⟩ w
  have Mnumber := fun w => meth_number ⟨g, 0, none⟩ w
  clear h hx ok
  go_enter Tryz.func39, Tryz.ntmps39
  go_wp2_with fail
  go_region_held3 (fun w' => Below B W w')
    (first | assumption | (exact Below.drew (Below.refl _ _)))
    (first
      | (go_at_call 83
         (with_reducible refine (integer_any B g (L) x.n p _ (H0.out.kept (Below.refl _ _).drew) ((HX.out.below B0.out.drew HQ.out).n) HO.out.n.1 HO.out.n.2 (by omega)).mono ?_)
         rintro e w1 ⟨rfl, hw, hb⟩
         have H1 := Lib.hid hw
         have hs1 : Below B W w1 := (Below.refl _ _).drew.trans hb
         have B1 := Lib.hid (B0.out.trans hs1)
         clear hw hb))
  clear hs1
  go_wp2_with fail
  go_region_held3 (fun w' => Below B w1 w')
    (first | assumption | (exact Below.drew (Below.refl _ _)))
    (first
      | (go_at_call 83
         (with_reducible refine (integer_any B g (L ++ enc (zz x.n)) x.hi ⟨p.block, p.off + 1, none⟩ _ (H1.out.kept (Below.refl _ _).drew) ((HX.out.below B1.out.drew HQ.out).hi) HO.out.hi.1 HO.out.hi.2 (by have := l0.out; simp only [List.length_append]; omega)).mono ?_)
         rintro e w2 ⟨rfl, hw, hb⟩
         have H2 := Lib.hid hw
         have hs2 : Below B w1 w2 := (Below.refl _ _).drew.trans hb
         have B2 := Lib.hid (B1.out.trans hs2)
         clear hw hb))
  clear hs2
  go_wp2_with fail
  go_region_held3 (fun w' => Below B w2 w')
    (first | assumption | (exact Below.drew (Below.refl _ _)))
    (first
      | (go_at_call 86
         (with_reducible refine (number_any B g (L ++ enc (zz x.n) ++ enc (zz x.hi)) x.lo ⟨p.block, p.off + 2, none⟩ _ (H2.out.kept (Below.refl _ _).drew) ((HX.out.below B2.out.drew HQ.out).lo) HO.out.lo (by have := l0.out; have := l1.out; simp only [List.length_append]; omega)).mono ?_)
         rintro e w3 ⟨rfl, hw, hb⟩
         have H3 := Lib.hid hw
         have hs3 : Below B w2 w3 := (Below.refl _ _).drew.trans hb
         have B3 := Lib.hid (B2.out.trans hs3)
         clear hw hb))
  clear hs3
  go_wp2_with fail
  go_region_held3 (fun w' => Below B w3 w')
    (first | assumption | (exact Below.drew (Below.refl _ _)))
    (first
      | (go_at_call 83
         (with_reducible refine (integer_any B g (L ++ enc (zz x.n) ++ enc (zz x.hi) ++ enc x.lo) x.min ⟨p.block, p.off + 3, none⟩ _ (H3.out.kept (Below.refl _ _).drew) ((HX.out.below B3.out.drew HQ.out).min) HO.out.min.1 HO.out.min.2 (by have := l0.out; have := l1.out; have := l2.out; simp only [List.length_append]; omega)).mono ?_)
         rintro e w4 ⟨rfl, hw, hb⟩
         have H4 := Lib.hid hw
         have hs4 : Below B w3 w4 := (Below.refl _ _).drew.trans hb
         have B4 := Lib.hid (B3.out.trans hs4)
         clear hw hb))
  clear hs4
  go_wp2_with fail
  go_region_held3 (fun w' => Below B w4 w')
    (first | assumption | (exact Below.drew (Below.refl _ _)))
    (first
      | (go_at_call 83
         (with_reducible refine (integer_any B g (L ++ enc (zz x.n) ++ enc (zz x.hi) ++ enc x.lo ++ enc (zz x.min)) x.max ⟨p.block, p.off + 4, none⟩ _ (H4.out.kept (Below.refl _ _).drew) ((HX.out.below B4.out.drew HQ.out).max) HO.out.max.1 HO.out.max.2 (by have := l0.out; have := l1.out; have := l2.out; have := l3.out; simp only [List.length_append]; omega)).mono ?_)
         rintro e w5 ⟨rfl, hw, hb⟩
         have H5 := Lib.hid hw
         have hs5 : Below B w4 w5 := (Below.refl _ _).drew.trans hb
         have B5 := Lib.hid (B4.out.trans hs5)
         clear hw hb))
  clear hs5
  go_end0
  exact ⟨rfl, by have hh := H5.out; unfold AccD.by_; simpa only [List.append_assoc] using hh, B5.out⟩

structure ItemD where
  isMark : Bool
  time : Int
  rc : RecD
structure ItemD.ok (x : ItemD) : Prop where
  time : w64 x.time
  rc : x.rc.ok
structure ItemAt (W : World) (p : Addr) (x : ItemD) : Prop where
  isMark : W.cell? p = some (.bool x.isMark)
  time : W.cell? ⟨p.block, p.off + 1, none⟩ = some (.int .i64 x.time)
  rc : RecAt W (⟨p.block, p.off + 2, none⟩) x.rc
theorem ItemAt.below {B : Nat} {W W' : World} {p : Addr} {x : ItemD} (h : ItemAt W p x) (hb : Below B W W') (hq : p.block < B) : ItemAt W' p x :=
  ⟨(hb.cell (p := p) hq).trans h.isMark, (hb.cell (p := ⟨p.block, p.off + 1, none⟩) hq).trans h.time, h.rc.below hb hq⟩
def ItemD.by_ (x : ItemD) : List Nat := enc (tr x.isMark) ++ enc (zz x.time) ++ x.rc.by_
theorem ItemD.len (x : ItemD) (ok : x.ok) : x.by_.length ≤ 80 := by
  have HO := Lib.hid ok
  have l0 : (enc (tr x.isMark)).length ≤ 10 := (enc_len (by unfold tr; split <;> omega)).2
  have l1 : (enc (zz x.time)).length ≤ 10 := (enc_len (zz_lt HO.out.time.1 HO.out.time.2)).2
  have l2 : (x.rc.by_).length ≤ 60 := x.rc.len HO.out.rc
  unfold ItemD.by_
  simp only [List.length_append] at *
  omega

set_option maxRecDepth 100000 in
set_option maxHeartbeats 3200000 in
theorem item_any (B g : Nat) (p : Addr) (L : List Nat) (x : ItemD) (W : World) (h : Wtr W B g L) (hx : ItemAt W p x) (ok : x.ok) (hq : p.block < B) (hm : L.length + 90 ≤ 140737488355328) :
    Calls Tryz.prog 27 #[.iface 102 (.pointer (some ⟨g, 0, none⟩)), .pointer (some p)] W fun e w' => e = .returned (.tuple #[]) ∧ Wtr w' B g (L ++ x.by_) ∧ Below B W w' := by
  have H0 := Lib.hid h
  have HX := Lib.hid hx
  have HO := Lib.hid ok
  have B0 : Hid (Below B W W) := Lib.hid (Below.refl _ _)
  have HQ := Lib.hid hq
  have l0 : Hid ((enc (tr x.isMark)).length ≤ 10) := Lib.hid (enc_len (by unfold tr; split <;> omega)).2
  have l1 : Hid ((enc (zz x.time)).length ≤ 10) := Lib.hid (enc_len (zz_lt HO.out.time.1 HO.out.time.2)).2
  have l2 : Hid ((x.rc.by_).length ≤ 60) := Lib.hid (x.rc.len HO.out.rc)
  have Ninteger := fun w => ahead_integer ⟨g, 0, none⟩ w
  have Minteger := fun w => meth_integer ⟨g, 0, none⟩ w
  have Ntruth := fun w => ahead_truth ⟨g, 0, none⟩ w
  have Mtruth := fun w => meth_truth ⟨g, 0, none⟩ w
  clear h hx ok
  go_enter Tryz.func27, Tryz.ntmps27
  go_wp2_with fail
  go_region_held3 (fun w' => Below B W w')
    (first | assumption | (exact Below.drew (Below.refl _ _)))
    (first
      | (go_at_call 88
         (with_reducible refine (truth_any B g (L) x.isMark p _ (H0.out.kept (Below.refl _ _).drew) ((HX.out.below B0.out.drew HQ.out).isMark)  (by omega)).mono ?_)
         rintro e w1 ⟨rfl, hw, hb⟩
         have H1 := Lib.hid hw
         have hs1 : Below B W w1 := (Below.refl _ _).drew.trans hb
         have B1 := Lib.hid (B0.out.trans hs1)
         clear hw hb))
  clear hs1
  go_wp2_with fail
  go_region_held3 (fun w' => Below B w1 w')
    (first | assumption | (exact Below.drew (Below.refl _ _)))
    (first
      | (go_at_call 83
         (with_reducible refine (integer_any B g (L ++ enc (tr x.isMark)) x.time ⟨p.block, p.off + 1, none⟩ _ (H1.out.kept (Below.refl _ _).drew) ((HX.out.below B1.out.drew HQ.out).time) HO.out.time.1 HO.out.time.2 (by have := l0.out; simp only [List.length_append]; omega)).mono ?_)
         rintro e w2 ⟨rfl, hw, hb⟩
         have H2 := Lib.hid hw
         have hs2 : Below B w1 w2 := (Below.refl _ _).drew.trans hb
         have B2 := Lib.hid (B1.out.trans hs2)
         clear hw hb))
  clear hs2
  go_wp2_with (go_at_call 30
               (with_reducible refine (rec_any B g ⟨p.block, p.off + 2, none⟩ (L ++ enc (tr x.isMark) ++ enc (zz x.time)) x.rc _ H2.out (HX.out.below B2.out HQ.out).rc HO.out.rc HQ.out (by have := l0.out; have := l1.out; simp only [List.length_append]; omega)).mono ?_)
               rintro e w3 ⟨rfl, hw, hb⟩
               have H3 := Lib.hid hw
               have B3 := Lib.hid (B2.out.trans hb)
               clear hw hb)
  go_end0
  exact ⟨rfl, by have hh := H3.out; unfold ItemD.by_; simpa only [List.append_assoc] using hh, B3.out⟩

structure EntD where
  ver : Int
  key : Nat
  start : Int
  end_ : Int
  side : Nat
  acc : AccD
structure EntD.ok (x : EntD) : Prop where
  ver : w64 x.ver
  key : x.key < 4294967296
  start : w64 x.start
  end_ : w64 x.end_
  side : x.side < 256
  acc : x.acc.ok
structure EntAt (W : World) (p : Addr) (x : EntD) : Prop where
  ver : W.cell? p = some (.int .i64 x.ver)
  key : W.cell? ⟨p.block, p.off + 1, none⟩ = some (.int .u32 x.key)
  start : W.cell? ⟨p.block, p.off + 2, none⟩ = some (.int .i64 x.start)
  end_ : W.cell? ⟨p.block, p.off + 3, none⟩ = some (.int .i64 x.end_)
  side : W.cell? ⟨p.block, p.off + 4, none⟩ = some (.int .u8 x.side)
  acc : AccAt W (⟨p.block, p.off + 5, none⟩) x.acc
theorem EntAt.below {B : Nat} {W W' : World} {p : Addr} {x : EntD} (h : EntAt W p x) (hb : Below B W W') (hq : p.block < B) : EntAt W' p x :=
  ⟨(hb.cell (p := p) hq).trans h.ver, (hb.cell (p := ⟨p.block, p.off + 1, none⟩) hq).trans h.key, (hb.cell (p := ⟨p.block, p.off + 2, none⟩) hq).trans h.start, (hb.cell (p := ⟨p.block, p.off + 3, none⟩) hq).trans h.end_, (hb.cell (p := ⟨p.block, p.off + 4, none⟩) hq).trans h.side, h.acc.below hb hq⟩
def EntD.by_ (x : EntD) : List Nat := enc (zz x.ver) ++ enc x.key ++ enc (zz x.start) ++ enc (zz x.end_) ++ [x.side] ++ x.acc.by_
theorem EntD.len (x : EntD) (ok : x.ok) : x.by_.length ≤ 100 := by
  have HO := Lib.hid ok
  have l0 : (enc (zz x.ver)).length ≤ 10 := (enc_len (zz_lt HO.out.ver.1 HO.out.ver.2)).2
  have l1 : (enc x.key).length ≤ 10 := (enc_len (by have := HO.out.key; omega)).2
  have l2 : (enc (zz x.start)).length ≤ 10 := (enc_len (zz_lt HO.out.start.1 HO.out.start.2)).2
  have l3 : (enc (zz x.end_)).length ≤ 10 := (enc_len (zz_lt HO.out.end_.1 HO.out.end_.2)).2
  have l4 : ([x.side]).length ≤ 10 := (by simp)
  have l5 : (x.acc.by_).length ≤ 50 := x.acc.len HO.out.acc
  unfold EntD.by_
  simp only [List.length_append] at *
  omega

set_option maxRecDepth 100000 in
set_option maxHeartbeats 3200000 in
theorem ent_any (B g : Nat) (p : Addr) (L : List Nat) (x : EntD) (W : World) (h : Wtr W B g L) (hx : EntAt W p x) (ok : x.ok) (hq : p.block < B) (hm : L.length + 110 ≤ 140737488355328) :
    Calls Tryz.prog 37 #[.iface 102 (.pointer (some ⟨g, 0, none⟩)), .pointer (some p)] W fun e w' => e = .returned (.tuple #[]) ∧ Wtr w' B g (L ++ x.by_) ∧ Below B W w' := by
  have H0 := Lib.hid h
  have HX := Lib.hid hx
  have HO := Lib.hid ok
  have B0 : Hid (Below B W W) := Lib.hid (Below.refl _ _)
  have HQ := Lib.hid hq
  have l0 : Hid ((enc (zz x.ver)).length ≤ 10) := Lib.hid (enc_len (zz_lt HO.out.ver.1 HO.out.ver.2)).2
  have l1 : Hid ((enc x.key).length ≤ 10) := Lib.hid (enc_len (by have := HO.out.key; omega)).2
  have l2 : Hid ((enc (zz x.start)).length ≤ 10) := Lib.hid (enc_len (zz_lt HO.out.start.1 HO.out.start.2)).2
  have l3 : Hid ((enc (zz x.end_)).length ≤ 10) := Lib.hid (enc_len (zz_lt HO.out.end_.1 HO.out.end_.2)).2
  have l4 : Hid (([x.side]).length ≤ 10) := Lib.hid (by simp)
  have l5 : Hid ((x.acc.by_).length ≤ 50) := Lib.hid (x.acc.len HO.out.acc)
  have Ninteger := fun w => ahead_integer ⟨g, 0, none⟩ w
  have Minteger := fun w => meth_integer ⟨g, 0, none⟩ w
  have Nkey := fun w => ahead_key ⟨g, 0, none⟩ w
  have Mkey := fun w => meth_key ⟨g, 0, none⟩ w
  have Noctet := fun w => ahead_octet ⟨g, 0, none⟩ w
  have Moctet := fun w => meth_octet ⟨g, 0, none⟩ w
  have Nwhole := fun w => ahead_whole ⟨g, 0, none⟩ w
  have Mwhole := fun w => meth_whole ⟨g, 0, none⟩ w
  clear h hx ok
  go_enter Tryz.func37, Tryz.ntmps37
  go_wp2_with fail
  go_region_held3 (fun w' => Below B W w')
    (first | assumption | (exact Below.drew (Below.refl _ _)))
    (first
      | (go_at_call 89
         (with_reducible refine (whole_any B g (L) x.ver p _ (H0.out.kept (Below.refl _ _).drew) ((HX.out.below B0.out.drew HQ.out).ver) HO.out.ver.1 HO.out.ver.2 (by omega)).mono ?_)
         rintro e w1 ⟨rfl, hw, hb⟩
         have H1 := Lib.hid hw
         have hs1 : Below B W w1 := (Below.refl _ _).drew.trans hb
         have B1 := Lib.hid (B0.out.trans hs1)
         clear hw hb))
  clear hs1
  go_wp2_with fail
  go_region_held3 (fun w' => Below B w1 w')
    (first | assumption | (exact Below.drew (Below.refl _ _)))
    (first
      | (go_at_call 84
         (with_reducible refine (key_any B g (L ++ enc (zz x.ver)) x.key ⟨p.block, p.off + 1, none⟩ _ (H1.out.kept (Below.refl _ _).drew) ((HX.out.below B1.out.drew HQ.out).key) HO.out.key (by have := l0.out; simp only [List.length_append]; omega)).mono ?_)
         rintro e w2 ⟨rfl, hw, hb⟩
         have H2 := Lib.hid hw
         have hs2 : Below B w1 w2 := (Below.refl _ _).drew.trans hb
         have B2 := Lib.hid (B1.out.trans hs2)
         clear hw hb))
  clear hs2
  go_wp2_with fail
  go_region_held3 (fun w' => Below B w2 w')
    (first | assumption | (exact Below.drew (Below.refl _ _)))
    (first
      | (go_at_call 83
         (with_reducible refine (integer_any B g (L ++ enc (zz x.ver) ++ enc x.key) x.start ⟨p.block, p.off + 2, none⟩ _ (H2.out.kept (Below.refl _ _).drew) ((HX.out.below B2.out.drew HQ.out).start) HO.out.start.1 HO.out.start.2 (by have := l0.out; have := l1.out; simp only [List.length_append]; omega)).mono ?_)
         rintro e w3 ⟨rfl, hw, hb⟩
         have H3 := Lib.hid hw
         have hs3 : Below B w2 w3 := (Below.refl _ _).drew.trans hb
         have B3 := Lib.hid (B2.out.trans hs3)
         clear hw hb))
  clear hs3
  go_wp2_with fail
  go_region_held3 (fun w' => Below B w3 w')
    (first | assumption | (exact Below.drew (Below.refl _ _)))
    (first
      | (go_at_call 83
         (with_reducible refine (integer_any B g (L ++ enc (zz x.ver) ++ enc x.key ++ enc (zz x.start)) x.end_ ⟨p.block, p.off + 3, none⟩ _ (H3.out.kept (Below.refl _ _).drew) ((HX.out.below B3.out.drew HQ.out).end_) HO.out.end_.1 HO.out.end_.2 (by have := l0.out; have := l1.out; have := l2.out; simp only [List.length_append]; omega)).mono ?_)
         rintro e w4 ⟨rfl, hw, hb⟩
         have H4 := Lib.hid hw
         have hs4 : Below B w3 w4 := (Below.refl _ _).drew.trans hb
         have B4 := Lib.hid (B3.out.trans hs4)
         clear hw hb))
  clear hs4
  go_wp2_with fail
  go_region_held3 (fun w' => Below B w4 w')
    (first | assumption | (exact Below.drew (Below.refl _ _)))
    (first
      | (go_at_call 87
         (with_reducible refine (octet_any B g (L ++ enc (zz x.ver) ++ enc x.key ++ enc (zz x.start) ++ enc (zz x.end_)) x.side ⟨p.block, p.off + 4, none⟩ _ (H4.out.kept (Below.refl _ _).drew) ((HX.out.below B4.out.drew HQ.out).side) HQ.out (by have := l0.out; have := l1.out; have := l2.out; have := l3.out; simp only [List.length_append]; omega)).mono ?_)
         rintro e w5 ⟨rfl, hw, hb⟩
         have H5 := Lib.hid hw
         have hs5 : Below B w4 w5 := (Below.refl _ _).drew.trans hb
         have B5 := Lib.hid (B4.out.trans hs5)
         clear hw hb))
  clear hs5
  go_wp2_with (go_at_call 39
               (with_reducible refine (acc_any B g ⟨p.block, p.off + 5, none⟩ (L ++ enc (zz x.ver) ++ enc x.key ++ enc (zz x.start) ++ enc (zz x.end_) ++ [x.side]) x.acc _ H5.out (HX.out.below B5.out HQ.out).acc HO.out.acc HQ.out (by have := l0.out; have := l1.out; have := l2.out; have := l3.out; have := l4.out; simp only [List.length_append]; omega)).mono ?_)
               rintro e w6 ⟨rfl, hw, hb⟩
               have H6 := Lib.hid hw
               have B6 := Lib.hid (B5.out.trans hb)
               clear hw hb)
  go_end0
  exact ⟨rfl, by have hh := H6.out; unfold EntD.by_; simpa only [List.append_assoc] using hh, B6.out⟩

end Go.Proofs.YtpfeaekankkpiaaGreatDoor
