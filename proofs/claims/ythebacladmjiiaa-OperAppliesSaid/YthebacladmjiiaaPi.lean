/-
  The walk of OperApplies.
-/
import Derived.Test.YthebacladmjiiaaPh
namespace Go.Proofs.Ythebacladmjiiaa
open Go Go.RowKit Go.Lib

theorem apply_bound (ops : List OpD) (r : RecD) (h : ops.length ≤ 12) : (applyM ops r).length ≤ 600000 := by
  have h1 := applyM_len ops r ops.length (Nat.le_refl _)
  rw [List.take_length] at h1
  have h2 : (3 : Nat) ^ ops.length ≤ 3 ^ 12 := Nat.pow_le_pow_right (by omega) h
  have h3 : (3 : Nat) ^ 12 = 531441 := by decide
  omega
theorem apply_as (ops : List OpD) (A : Option Addr) (cap : Nat) (r : RecD) (w : World) (wh : List RecD) (hwh : applyM ops r = wh) (hin : Opers w w.heap.size A ops) (hlen : ops.length ≤ 12) :
    Calls Try.prog 15 #[.slice A ops.length cap, r.v] w (Gives w wh) := by
  subst hwh; exact apply_any ops A cap r w hin hlen
theorem rapply_as (ops : List OpD) (A : Option Addr) (cap : Nat) (r : RecD) (w : World) (wh : List RecD) (hwh : applyM ops r = wh) (hin : Opers w w.heap.size A ops) (hlen : ops.length ≤ 12) (hk : 0 ≤ r.key ∧ r.key ≤ 4294967295) :
    Calls Try.prog 16 #[.slice A ops.length cap, r.v] w (Gives w wh) := by
  subst hwh; exact rapply_any ops A cap r w hin hlen hk
theorem apply_one (o : OpD) (n : Nat) (r : RecD) (w : World) (wh : List RecD) (hwh : applyM [o] r = wh) (hin : Opers w w.heap.size (some ⟨n, 0, none⟩) [o]) :
    Calls Try.prog 15 #[.slice (some ⟨n, 0, none⟩) 1 1, r.v] w (Gives w wh) := apply_as [o] _ 1 r w wh hwh hin (by simp)
theorem rapply_one (o : OpD) (n : Nat) (r : RecD) (w : World) (wh : List RecD) (hwh : applyM [o] r = wh) (hin : Opers w w.heap.size (some ⟨n, 0, none⟩) [o]) (hk : 0 ≤ r.key ∧ r.key ≤ 4294967295) :
    Calls Try.prog 16 #[.slice (some ⟨n, 0, none⟩) 1 1, r.v] w (Gives w wh) := rapply_as [o] _ 1 r w wh hwh hin (by simp) hk
theorem opers_new (W : World) (o : OpD) (n : Nat) (hn : W.heap.size = n) : Opers (W.alloc (.cells o.cells.toArray 23)) (W.alloc (.cells o.cells.toArray 23)).heap.size (some ⟨n, 0, none⟩) [o] := by
  subst hn; exact opers_one W o 23
theorem opers_under (W : World) (o : OpD) (n : Nat) (ob : Obj) (hn : W.heap.size = n) : Opers ((W.alloc (.cells o.cells.toArray 23)).alloc ob) ((W.alloc (.cells o.cells.toArray 23)).alloc ob).heap.size (some ⟨n, 0, none⟩) [o] :=
  ((opers_new W o n hn).below ((Below.refl _ _).alloc (Nat.le_refl _) _)).mono (by simp)

theorem bel0 (w : World) (ob : Obj) : Below w.heap.size w (w.alloc ob) := (Below.refl _ _).alloc (Nat.le_refl _) _
theorem bel1 (w : World) (ob : Obj) : Below w.heap.size w (w.alloc ob).drew := (bel0 w ob).drew
theorem bel2 (w : World) (ob ob2 : Obj) : Below w.heap.size w ((w.alloc ob).alloc ob2).drew := ((bel0 w ob).alloc (by simp) _).drew
theorem opers_drew {W : World} {A : Option Addr} {l : List OpD} (h : Opers W W.heap.size A l) : Opers W.drew W.drew.heap.size A l := h.below ((Below.refl _ _).drew)

set_option maxRecDepth 100000 in
set_option maxHeartbeats 3200000 in
theorem applies_any (l : List DrD) (A : Option Addr) (cap : Nat) (o : OpD) (r : RecD) (w : World) (hd : Drafts w w.heap.size A l) (hlen : l.length ≤ maxLen) (hk : 0 ≤ r.key ∧ r.key ≤ 4294967295) :
    Calls Try.prog 4 #[.slice A l.length cap, o.val, r.v] w fun e w' => e = .returned (.bool true) ∧ Below w.heap.size w w' := by
  have HD := Lib.hid hd
  have HL := Lib.hid hlen
  have HK := Lib.hid hk
  clear hd hlen hk
  have HB : Hid (∀ w', Below (w.heap.size + 1 + 1) ((w.alloc (.cells o.cells.toArray 23)).alloc (.cells r.cells.toArray 36)) w' → w'.cell? ⟨w.heap.size, 0, none⟩ = some (.int .i64 o.kind) ∧ w'.cell? ⟨w.heap.size, 1, none⟩ = some (.int .i64 o.a) ∧ w'.cell? ⟨w.heap.size, 2, none⟩ = some (.int .i64 o.b) ∧ w'.cell? ⟨w.heap.size, 3, none⟩ = some (.int .i64 o.agg) ∧ w'.cell? ⟨w.heap.size + 1, 0, none⟩ = some (.int .u32 r.key) ∧ w'.cell? ⟨w.heap.size + 1, 1, none⟩ = some (.int .i64 r.time) ∧ w'.cell? ⟨w.heap.size + 1, 2, none⟩ = some (.int .i64 r.val) ∧ w'.cell? ⟨w.heap.size + 1, 3, none⟩ = some (.int .u8 r.side) ∧ w'.cell? ⟨w.heap.size + 1, 4, none⟩ = some (.bool r.err) ∧ w'.cell? ⟨w.heap.size + 1, 5, none⟩ = some (.bool r.late)) := Lib.hid (fun w' h => by
    have q1 : w'.heap[w.heap.size]? = some (.cells o.cells.toArray 23 (0, 0)) := by
      rw [h.block _ (by omega), Below.heap_alloc _ _ _ (by simp)]
      exact World.alloc_heap_new w _
    have q2 : w'.heap[w.heap.size + 1]? = some (.cells r.cells.toArray 36 (0, 0)) := by
      rw [h.block _ (by omega)]
      have := World.alloc_heap_new (w.alloc (.cells o.cells.toArray 23)) (.cells r.cells.toArray 36)
      simpa using this
    refine ⟨?_, ?_, ?_, ?_, ?_, ?_, ?_, ?_, ?_, ?_⟩ <;> (simp only [World.cell?, q1, q2]; rfl))
  have BW : Hid (Below w.heap.size w ((w.alloc (.cells o.cells.toArray 23)).alloc (.cells r.cells.toArray 36))) := Lib.hid (((Below.refl _ _).alloc (Nat.le_refl _) _).alloc (by simp) _)
  have HD1 : Hid (Drafts ((w.alloc (.cells #[.int .i64 o.kind, .int .i64 o.a, .int .i64 o.b, .int .i64 o.agg] 23)).alloc (.cells #[.int .u32 r.key, .int .i64 r.time, .int .i64 r.val, .int .u8 r.side, .bool r.err, .bool r.late] 36)) w.heap.size A l) := Lib.hid (HD.out.below BW.out)
  have HS1 : Hid (w.heap.size ≤ ((w.alloc (.cells #[.int .i64 o.kind, .int .i64 o.a, .int .i64 o.b, .int .i64 o.agg] 23)).alloc (.cells #[.int .u32 r.key, .int .i64 r.time, .int .i64 r.val, .int .u8 r.side, .bool r.err, .bool r.late] 36)).heap.size) := Lib.hid BW.out.size
  go_enter Try.func4, Try.ntmps4
  go_wp2_with (first
    | (go_at_call 14
       (with_reducible refine (ops_at l A cap w.heap.size _ HD1.out HS1.out HL.out).mono ?_)
       rintro e w1 ⟨A1, c1, la, rfl, hla, hoa, hb1⟩
       have X1 : Hid (Below (w.heap.size + 1 + 1) ((w.alloc (.cells o.cells.toArray 23)).alloc (.cells r.cells.toArray 36)) w1) := Lib.hid (hb1.mono (by simp))
       have HLA := Lib.hid hla
       have OA := Lib.hid hoa
       clear hb1 hla hoa))
  have Z1 : Hid (w.heap.size + 1 + 1 ≤ w1.heap.size) := Lib.hid (by have := X1.out.size; simpa using this)
  obtain ⟨wh, hwh⟩ : ∃ wh, applyM la r = wh := ⟨_, rfl⟩
  have HWL : Hid (wh.length ≤ 600000) := Lib.hid (by rw [← hwh]; exact apply_bound la r (by have := HLA.out; omega))
  have HWH := Lib.hid hwh
  obtain ⟨w1h, hw1h⟩ : ∃ w1h, applyM [o] r = w1h := ⟨_, rfl⟩
  have HWL1 : Hid (w1h.length ≤ 600000) := Lib.hid (by rw [← hw1h]; exact apply_bound [o] r (by simp))
  have HWH1 := Lib.hid hw1h
  clear hwh hw1h
  have OAD : Hid (Opers w1.drew w1.drew.heap.size A1 la) := Lib.hid (OA.out.below ((Below.refl _ _).drew))
  have HX1 : Hid (∀ w', Below w1.heap.size w1 w' → w'.cell? ⟨w.heap.size + 1, 0, none⟩ = some (.int .u32 r.key) ∧ w'.cell? ⟨w.heap.size + 1, 1, none⟩ = some (.int .i64 r.time) ∧ w'.cell? ⟨w.heap.size + 1, 2, none⟩ = some (.int .i64 r.val) ∧ w'.cell? ⟨w.heap.size + 1, 3, none⟩ = some (.int .u8 r.side) ∧ w'.cell? ⟨w.heap.size + 1, 4, none⟩ = some (.bool r.err) ∧ w'.cell? ⟨w.heap.size + 1, 5, none⟩ = some (.bool r.late)) := Lib.hid (fun w' h => (HB.out w' (X1.out.trans (h.mono Z1.out))).2.2.2.2)
  go_region_held3 (fun w' => w'.cell? ⟨w.heap.size + 1, 0, none⟩ = some (.int .u32 r.key) ∧ w'.cell? ⟨w.heap.size + 1, 1, none⟩ = some (.int .i64 r.time) ∧ w'.cell? ⟨w.heap.size + 1, 2, none⟩ = some (.int .i64 r.val) ∧ w'.cell? ⟨w.heap.size + 1, 3, none⟩ = some (.int .u8 r.side) ∧ w'.cell? ⟨w.heap.size + 1, 4, none⟩ = some (.bool r.err) ∧ w'.cell? ⟨w.heap.size + 1, 5, none⟩ = some (.bool r.late))
    (first | assumption | (exact HX1.out _ (Below.refl _ _)) | (exact HX1.out _ ((Below.refl _ _).drew)) | (exact HX1.out _ hs2) | (exact HX1.out _ hs3))
    (first
      | (go_at_call 15
         (with_reducible refine (apply_as la A1 c1 r _ wh HWH.out OAD.out (by have := HLA.out; omega)).mono ?_)
         rintro e w2 ⟨A2, c2, rfl, hr2, hb2⟩
         have hs2 : Below w1.heap.size w1 w2 := ((Below.refl _ _).drew).trans hb2
         have R2 := Lib.hid hr2
         clear hb2 hr2)
      | (go_at_call 16
         (with_reducible refine (rapply_as la A1 c1 r _ wh HWH.out ((OA.out.below hs2).mono hs2.size) (by have := HLA.out; omega) HK.out).mono ?_)
         rintro e w3 ⟨A3, c3, rfl, hr3, hb3⟩
         have hs3 : Below w1.heap.size w1 w3 := hs2.trans (hb3.mono hs2.size)
         have R3 := Lib.hid hr3
         have R23 : Hid (Recs w3 w3.heap.size (.slice A2 wh.length c2) wh) := Lib.hid ((R2.out.below hb3).mono hb3.size)
         clear hb3 hr3))
  have X3 : Hid (Below (w.heap.size + 1 + 1) ((w.alloc (.cells o.cells.toArray 23)).alloc (.cells r.cells.toArray 36)) w3) := Lib.hid (X1.out.trans (hs3.mono Z1.out))
  have Z3 : Hid (w.heap.size + 1 + 1 ≤ w3.heap.size) := Lib.hid (by have := X3.out.size; simpa using this)
  have HX3 : Hid (∀ w', Below w3.heap.size w3 w' → w'.cell? ⟨w.heap.size, 0, none⟩ = some (.int .i64 o.kind) ∧ w'.cell? ⟨w.heap.size, 1, none⟩ = some (.int .i64 o.a) ∧ w'.cell? ⟨w.heap.size, 2, none⟩ = some (.int .i64 o.b) ∧ w'.cell? ⟨w.heap.size, 3, none⟩ = some (.int .i64 o.agg) ∧ w'.cell? ⟨w.heap.size + 1, 0, none⟩ = some (.int .u32 r.key) ∧ w'.cell? ⟨w.heap.size + 1, 1, none⟩ = some (.int .i64 r.time) ∧ w'.cell? ⟨w.heap.size + 1, 2, none⟩ = some (.int .i64 r.val) ∧ w'.cell? ⟨w.heap.size + 1, 3, none⟩ = some (.int .u8 r.side) ∧ w'.cell? ⟨w.heap.size + 1, 4, none⟩ = some (.bool r.err) ∧ w'.cell? ⟨w.heap.size + 1, 5, none⟩ = some (.bool r.late)) := Lib.hid (fun w' h => HB.out w' (X3.out.trans (h.mono Z3.out)))
  clear hs2 hs3
  try go_wp2_with fail
  go_region_held3 (fun w' => w'.cell? ⟨w.heap.size, 0, none⟩ = some (.int .i64 o.kind) ∧ w'.cell? ⟨w.heap.size, 1, none⟩ = some (.int .i64 o.a) ∧ w'.cell? ⟨w.heap.size, 2, none⟩ = some (.int .i64 o.b) ∧ w'.cell? ⟨w.heap.size, 3, none⟩ = some (.int .i64 o.agg) ∧ w'.cell? ⟨w.heap.size + 1, 0, none⟩ = some (.int .u32 r.key) ∧ w'.cell? ⟨w.heap.size + 1, 1, none⟩ = some (.int .i64 r.time) ∧ w'.cell? ⟨w.heap.size + 1, 2, none⟩ = some (.int .i64 r.val) ∧ w'.cell? ⟨w.heap.size + 1, 3, none⟩ = some (.int .u8 r.side) ∧ w'.cell? ⟨w.heap.size + 1, 4, none⟩ = some (.bool r.err) ∧ w'.cell? ⟨w.heap.size + 1, 5, none⟩ = some (.bool r.late))
    (first | assumption | (exact HX3.out _ (bel1 _ _)) | (exact HX3.out _ (bel2 _ _ _)) | (exact HX3.out _ (Below.refl _ _)) | (exact HX3.out _ ((Below.refl _ _).drew)) | (exact HX3.out _ ((Below.refl _ _).drew.alloc (Nat.le_refl _) _)) | (exact HX3.out _ (((Below.refl _ _).drew.alloc (Nat.le_refl _) _).alloc (by simp) _)) | (exact HX3.out _ hs6) | (exact HX3.out _ hs5) | (exact HX3.out _ (hs5.alloc (by have := hs5.size; simpa using this) _)))
    (first
      | (go_at_call 15
         (with_reducible refine (apply_one o _ r _ w1h HWH1.out ?_).mono ?_)
         · first
             | (refine opers_drew (opers_new _ o _ ?_); first | rfl | (simp; done))
             | (refine opers_drew (opers_under _ o _ _ ?_); first | rfl | (simp; done))
             | (refine opers_new _ o _ ?_; first | rfl | (simp; done))
             | (refine opers_under _ o _ _ ?_; first | rfl | (simp; done))
         rintro e w5 ⟨A5, c5, rfl, hr5, hb5⟩
         have hs5 : Below w3.heap.size w3 w5 := by
           first
             | exact (bel1 _ _).trans (hb5.mono (bel1 _ _).size)
             | exact (bel2 _ _ _).trans (hb5.mono (bel2 _ _ _).size)
             | exact ((Below.refl _ _).drew.alloc (Nat.le_refl _) _).trans (hb5.mono (by first | (simp; done) | (simp; omega)))
             | exact (((Below.refl _ _).drew.alloc (Nat.le_refl _) _).alloc (by simp) _).trans (hb5.mono (by first | (simp; done) | (simp; omega)))
         have R5 := Lib.hid hr5
         clear hr5)
      | (go_at_call 16
         (with_reducible refine (rapply_one o _ r _ w1h HWH1.out ?_ HK.out).mono ?_)
         · first
             | (refine opers_new _ o _ ?_; first | rfl | (simp; done))
             | (refine ((opers_drew (opers_new _ o _ ?_)).below hb5).mono hb5.size; first | rfl | (simp; done))
             | (refine ((opers_drew (opers_under _ o _ _ ?_)).below hb5).mono hb5.size; first | rfl | (simp; done))
             | (refine ((opers_new _ o _ ?_).below hb5).mono hb5.size; first | rfl | (simp; done))
             | (refine ((opers_under _ o _ _ ?_).below hb5).mono hb5.size; first | rfl | (simp; done))
         rintro e w6 ⟨A6, c6, rfl, hr6, hb6⟩
         have hs56 : Below w5.heap.size w5 w6 := by
           first
             | exact hb6
             | exact (bel0 _ _).trans (hb6.mono (bel0 _ _).size)
         have hs6 : Below w3.heap.size w3 w6 := hs5.trans (hs56.mono hs5.size)
         have R6 := Lib.hid hr6
         clear hr6 hb6))
  all_goals
    have X6 : Hid (Below w3.heap.size w3 w6) := Lib.hid hs6
    have P2 : Hid (Recs w6 w6.heap.size (.slice A2 wh.length c2) wh) := Lib.hid ((R23.out.below hs6).mono hs6.size)
    have P3 : Hid (Recs w6 w6.heap.size (.slice A3 wh.length c3) wh) := Lib.hid ((R3.out.below hs6).mono hs6.size)
    have P5 : Hid (Recs w6 w6.heap.size (.slice A5 w1h.length c5) w1h) := Lib.hid ((R5.out.below hs56).mono hs56.size)
    clear hs6 hs56 hs5 hb5
    go_wp2_with (first
      | (go_at_call 17
         (with_reducible refine (same_list wh A2 A3 c2 c3 w6 P2.out P3.out HWL.out).mono ?_)
         rintro e w7 ⟨rfl, hb7⟩
         have X7 : Hid (Below w6.heap.size w6 w7) := Lib.hid hb7
         clear hb7)
      | (go_at_call 17
         (with_reducible refine (same_list w1h A5 A6 c5 c6 _ ((P5.out.below X7.out).mono X7.out.size) ((R6.out.below X7.out).mono X7.out.size) HWL1.out).mono ?_)
         rintro e w8 ⟨rfl, hb8⟩
         have X8 : Hid (Below w6.heap.size w6 w8) := Lib.hid (X7.out.trans (hb8.mono X7.out.size))
         clear hb8)
      | (go_at_call 13
         (with_reducible refine (works _).mono ?_)
         rintro e w9 ⟨rfl, hb9⟩
         have X9 : Hid (Below w6.heap.size w6 w9) := Lib.hid (X8.out.trans (hb9.mono X8.out.size))
         clear hb9))
    go_ret
    exact ⟨rfl, BW.out.trans ((X3.out.trans ((X6.out.trans (X9.out.mono X6.out.size)).mono Z3.out)).mono (by omega))⟩
end Go.Proofs.Ythebacladmjiiaa
