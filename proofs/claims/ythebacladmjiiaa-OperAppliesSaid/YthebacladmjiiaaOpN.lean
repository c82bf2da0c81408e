/-
  The walk of OperChecks.
-/
import Derived.Test.YthebacladmjiiaaOpM
namespace Go.Proofs.Ythebacladmjiiaa
open Go Go.RowKit Go.Lib

theorem two_0 (x y : OpD) (w : World) : (Instr.index 27 (.agg #[.int .i64 x.kind, .int .i64 x.a, .int .i64 x.b, .int .i64 x.agg, .int .i64 y.kind, .int .i64 y.a, .int .i64 y.b, .int .i64 y.agg]) (.int .i64 0)).run Try.prog w = .ok x.val w := by kernel_rfl
theorem two_1 (x y : OpD) (w : World) : (Instr.index 27 (.agg #[.int .i64 x.kind, .int .i64 x.a, .int .i64 x.b, .int .i64 x.agg, .int .i64 y.kind, .int .i64 y.a, .int .i64 y.b, .int .i64 y.agg]) (.int .i64 1)).run Try.prog w = .ok y.val w := by kernel_rfl

set_option maxRecDepth 100000 in
set_option maxHeartbeats 3200000 in
theorem checks_any (o : OpD) (d : DrD) (ok : d.ok) (w : World) : Calls Try.prog 3 #[o.val, d.val] w fun e w' => e = .returned (.bool true) ∧ Below w.heap.size w w' := by
  have HX1 : Hid (∀ w', Below (w.heap.size + 1 + 1) ((w.alloc (.cells #[.int .i64 o.kind, .int .i64 o.a, .int .i64 o.b, .int .i64 o.agg] 23)).alloc (.cells #[.int .u8 d.kind, .int .i64 d.a, .int .i64 d.b, .int .u8 d.agg, .bool d.odd] 25)) w' → w'.cell? ⟨w.heap.size, 0, none⟩ = some (.int .i64 o.kind) ∧ w'.cell? ⟨w.heap.size, 1, none⟩ = some (.int .i64 o.a) ∧ w'.cell? ⟨w.heap.size, 2, none⟩ = some (.int .i64 o.b) ∧ w'.cell? ⟨w.heap.size, 3, none⟩ = some (.int .i64 o.agg) ∧ w'.cell? ⟨w.heap.size + 1, 0, none⟩ = some (.int .u8 d.kind) ∧ w'.cell? ⟨w.heap.size + 1, 1, none⟩ = some (.int .i64 d.a) ∧ w'.cell? ⟨w.heap.size + 1, 2, none⟩ = some (.int .i64 d.b) ∧ w'.cell? ⟨w.heap.size + 1, 3, none⟩ = some (.int .u8 d.agg) ∧ w'.cell? ⟨w.heap.size + 1, 4, none⟩ = some (.bool d.odd) ∧ Below (w.heap.size + 1 + 1) ((w.alloc (.cells #[.int .i64 o.kind, .int .i64 o.a, .int .i64 o.b, .int .i64 o.agg] 23)).alloc (.cells #[.int .u8 d.kind, .int .i64 d.a, .int .i64 d.b, .int .u8 d.agg, .bool d.odd] 25)) w') := Lib.hid (fun w' h => by
    have q := (boxed_op o w ((w.alloc (.cells #[.int .i64 o.kind, .int .i64 o.a, .int .i64 o.b, .int .i64 o.agg] 23)).alloc (.cells #[.int .u8 d.kind, .int .i64 d.a, .int .i64 d.b, .int .u8 d.agg, .bool d.odd] 25)) (Below.alloc (Below.refl _ _) (by simp) _)).same (W' := w') (h.block _ (by omega))
    have hd : w'.heap[w.heap.size + 1]? = some (.cells #[.int .u8 d.kind, .int .i64 d.a, .int .i64 d.b, .int .u8 d.agg, .bool d.odd] 25) := (h.block _ (by omega)).trans (heap_alloc2_new _ _ _)
    refine ⟨q.c0, q.c1, q.c2, q.c3, ?_, ?_, ?_, ?_, ?_, h⟩ <;> (simp only [World.cell?, hd]; rfl))
  have HOK := Lib.hid ok
  clear ok
  unfold OpD.val DrD.val
  go_enter Try.func3, Try.ntmps3
  go_wp2_with fail
  go_region_held3 (fun w' => w'.cell? ⟨w.heap.size, 0, none⟩ = some (.int .i64 o.kind) ∧ w'.cell? ⟨w.heap.size, 1, none⟩ = some (.int .i64 o.a) ∧ w'.cell? ⟨w.heap.size, 2, none⟩ = some (.int .i64 o.b) ∧ w'.cell? ⟨w.heap.size, 3, none⟩ = some (.int .i64 o.agg) ∧ w'.cell? ⟨w.heap.size + 1, 0, none⟩ = some (.int .u8 d.kind) ∧ w'.cell? ⟨w.heap.size + 1, 1, none⟩ = some (.int .i64 d.a) ∧ w'.cell? ⟨w.heap.size + 1, 2, none⟩ = some (.int .i64 d.b) ∧ w'.cell? ⟨w.heap.size + 1, 3, none⟩ = some (.int .u8 d.agg) ∧ w'.cell? ⟨w.heap.size + 1, 4, none⟩ = some (.bool d.odd) ∧ Below (w.heap.size + 1 + 1) ((w.alloc (.cells #[.int .i64 o.kind, .int .i64 o.a, .int .i64 o.b, .int .i64 o.agg] 23)).alloc (.cells #[.int .u8 d.kind, .int .i64 d.a, .int .i64 d.b, .int .u8 d.agg, .bool d.odd] 25)) w')
    (first | assumption | (exact HX1.out _ ((Below.refl _ _).drew)) | (exact HX1.out _ hs1))
    (first
      | (go_at_call 8
         (with_reducible refine (drafted_any d HOK.out _).mono ?_)
         rintro e w1 ⟨o2, rfl, hb1⟩
         have hs1 : Below (w.heap.size + 1 + 1) ((w.alloc (.cells #[.int .i64 o.kind, .int .i64 o.a, .int .i64 o.b, .int .i64 o.agg] 23)).alloc (.cells #[.int .u8 d.kind, .int .i64 d.a, .int .i64 d.b, .int .u8 d.agg, .bool d.odd] 25)) w1 := (Below.refl _ _).drew.trans (hb1.mono (by simp))
         clear hb1))
  have BB : Hid (Below w.heap.size w w1) := Lib.hid (Below.trans (((Below.refl _ _).alloc (Nat.le_refl _) _).alloc (by simp) _) (hs1.mono (by omega)))
  have I0 := fun w => two_0 o o2 w
  have I1 := fun w => two_1 o o2 w
  go_wp2_with fail
  go_loopw [11] (fun i wr => ∃ j : Nat, i = .int .i64 j ∧ j ≤ 2 ∧ Below w.heap.size w wr) (fun i _ => 2 - (intOf i).toNat)
  case atStart => exact ⟨0, rfl, by omega, BB.out⟩
  case round =>
    obtain ⟨j, rfl, hj, hbr⟩ := hrel
    have BR := Lib.hid hbr
    clear hbr hs1
    obtain rfl | rfl | rfl : j = 0 ∨ j = 1 ∨ j = 2 := by omega
    ·
      have HX : Hid (∀ w', Below (wr.heap.size + 1) (wr.alloc (.cells #[.int .i64 o.kind, .int .i64 o.a, .int .i64 o.b, .int .i64 o.agg] 23)) w' → w'.cell? ⟨wr.heap.size, 0, none⟩ = some (.int .i64 o.kind) ∧ w'.cell? ⟨wr.heap.size, 1, none⟩ = some (.int .i64 o.a) ∧ w'.cell? ⟨wr.heap.size, 2, none⟩ = some (.int .i64 o.b) ∧ w'.cell? ⟨wr.heap.size, 3, none⟩ = some (.int .i64 o.agg) ∧ Below (wr.heap.size + 1) (wr.alloc (.cells #[.int .i64 o.kind, .int .i64 o.a, .int .i64 o.b, .int .i64 o.agg] 23)) w') := Lib.hid (fun w' h => by
        have q := boxed_op o wr w' h
        exact ⟨q.c0, q.c1, q.c2, q.c3, h⟩)
      obtain ⟨c, hc⟩ : ∃ c, codeM o = c := ⟨_, rfl⟩
      obtain ⟨cl, hcl⟩ : ∃ cl, (kindRow o.kind).1 = cl := ⟨_, rfl⟩
      have HC := Lib.hid hc
      have HL := Lib.hid hcl
      clear hc hcl
      go_wp2_with fail
      go_region_held3 (fun w' => w'.cell? ⟨wr.heap.size, 0, none⟩ = some (.int .i64 o.kind) ∧ w'.cell? ⟨wr.heap.size, 1, none⟩ = some (.int .i64 o.a) ∧ w'.cell? ⟨wr.heap.size, 2, none⟩ = some (.int .i64 o.b) ∧ w'.cell? ⟨wr.heap.size, 3, none⟩ = some (.int .i64 o.agg) ∧ Below (wr.heap.size + 1) (wr.alloc (.cells #[.int .i64 o.kind, .int .i64 o.a, .int .i64 o.b, .int .i64 o.agg] 23)) w')
        (first | assumption | (exact HX.out _ ((Below.refl _ _).drew)) | (exact HX.out _ hs4) | (exact HX.out _ hs3) | (exact HX.out _ hs2) | (exact HX.out _ hs1))
        (first
          | (go_at_call 9
             (with_reducible refine (check_any o _).mono ?_)
             rw [HC.out]
             rintro e w1 ⟨rfl, hb1⟩
             have hs1 : Below (wr.heap.size + 1) (wr.alloc (.cells #[.int .i64 o.kind, .int .i64 o.a, .int .i64 o.b, .int .i64 o.agg] 23)) w1 := ((Below.refl _ _).drew).trans (hb1.mono (by simp))
             clear hb1)
          | (go_at_call 10
             (with_reducible refine (rcheck_any o _).mono ?_)
             rw [HC.out]
             rintro e w2 ⟨rfl, hb2⟩
             have hs2 : Below (wr.heap.size + 1) (wr.alloc (.cells #[.int .i64 o.kind, .int .i64 o.a, .int .i64 o.b, .int .i64 o.agg] 23)) w2 := hs1.trans (hb2.mono (by have := hs1.size; simp at this; omega))
             clear hb2)
          | (go_at_call 11
             (with_reducible refine (class_any o _).mono ?_)
             rw [HL.out]
             rintro e w3 ⟨rfl, hb3⟩
             have hs3 : Below (wr.heap.size + 1) (wr.alloc (.cells #[.int .i64 o.kind, .int .i64 o.a, .int .i64 o.b, .int .i64 o.agg] 23)) w3 := hs2.trans (hb3.mono (by have := hs2.size; simp at this; omega))
             clear hb3)
          | (go_at_call 12
             (with_reducible refine (rclass_op o _).mono ?_)
             rw [HL.out]
             rintro e w4 ⟨rfl, hb4⟩
             have hs4 : Below (wr.heap.size + 1) (wr.alloc (.cells #[.int .i64 o.kind, .int .i64 o.a, .int .i64 o.b, .int .i64 o.agg] 23)) w4 := hs3.trans (hb4.mono (by have := hs3.size; simp at this; omega))
             clear hb4))
      have BF : Hid (Below w.heap.size w w4) := Lib.hid (BR.out.trans (Below.trans ((Below.refl _ _).alloc BR.out.size _) (hs4.mono (by have := BR.out.size; omega))))
      go_wp2_with fail
      go_roundw
      case rel => exact ⟨1, by go_num, by omega, BF.out⟩
      case measure => simp [intOf]
    ·
      have HX : Hid (∀ w', Below (wr.heap.size + 1) (wr.alloc (.cells #[.int .i64 o2.kind, .int .i64 o2.a, .int .i64 o2.b, .int .i64 o2.agg] 23)) w' → w'.cell? ⟨wr.heap.size, 0, none⟩ = some (.int .i64 o2.kind) ∧ w'.cell? ⟨wr.heap.size, 1, none⟩ = some (.int .i64 o2.a) ∧ w'.cell? ⟨wr.heap.size, 2, none⟩ = some (.int .i64 o2.b) ∧ w'.cell? ⟨wr.heap.size, 3, none⟩ = some (.int .i64 o2.agg) ∧ Below (wr.heap.size + 1) (wr.alloc (.cells #[.int .i64 o2.kind, .int .i64 o2.a, .int .i64 o2.b, .int .i64 o2.agg] 23)) w') := Lib.hid (fun w' h => by
        have q := boxed_op o2 wr w' h
        exact ⟨q.c0, q.c1, q.c2, q.c3, h⟩)
      obtain ⟨c, hc⟩ : ∃ c, codeM o2 = c := ⟨_, rfl⟩
      obtain ⟨cl, hcl⟩ : ∃ cl, (kindRow o2.kind).1 = cl := ⟨_, rfl⟩
      have HC := Lib.hid hc
      have HL := Lib.hid hcl
      clear hc hcl
      go_wp2_with fail
      go_region_held3 (fun w' => w'.cell? ⟨wr.heap.size, 0, none⟩ = some (.int .i64 o2.kind) ∧ w'.cell? ⟨wr.heap.size, 1, none⟩ = some (.int .i64 o2.a) ∧ w'.cell? ⟨wr.heap.size, 2, none⟩ = some (.int .i64 o2.b) ∧ w'.cell? ⟨wr.heap.size, 3, none⟩ = some (.int .i64 o2.agg) ∧ Below (wr.heap.size + 1) (wr.alloc (.cells #[.int .i64 o2.kind, .int .i64 o2.a, .int .i64 o2.b, .int .i64 o2.agg] 23)) w')
        (first | assumption | (exact HX.out _ ((Below.refl _ _).drew)) | (exact HX.out _ hs4) | (exact HX.out _ hs3) | (exact HX.out _ hs2) | (exact HX.out _ hs1))
        (first
          | (go_at_call 9
             (with_reducible refine (check_any o2 _).mono ?_)
             rw [HC.out]
             rintro e w1 ⟨rfl, hb1⟩
             have hs1 : Below (wr.heap.size + 1) (wr.alloc (.cells #[.int .i64 o2.kind, .int .i64 o2.a, .int .i64 o2.b, .int .i64 o2.agg] 23)) w1 := ((Below.refl _ _).drew).trans (hb1.mono (by simp))
             clear hb1)
          | (go_at_call 10
             (with_reducible refine (rcheck_any o2 _).mono ?_)
             rw [HC.out]
             rintro e w2 ⟨rfl, hb2⟩
             have hs2 : Below (wr.heap.size + 1) (wr.alloc (.cells #[.int .i64 o2.kind, .int .i64 o2.a, .int .i64 o2.b, .int .i64 o2.agg] 23)) w2 := hs1.trans (hb2.mono (by have := hs1.size; simp at this; omega))
             clear hb2)
          | (go_at_call 11
             (with_reducible refine (class_any o2 _).mono ?_)
             rw [HL.out]
             rintro e w3 ⟨rfl, hb3⟩
             have hs3 : Below (wr.heap.size + 1) (wr.alloc (.cells #[.int .i64 o2.kind, .int .i64 o2.a, .int .i64 o2.b, .int .i64 o2.agg] 23)) w3 := hs2.trans (hb3.mono (by have := hs2.size; simp at this; omega))
             clear hb3)
          | (go_at_call 12
             (with_reducible refine (rclass_op o2 _).mono ?_)
             rw [HL.out]
             rintro e w4 ⟨rfl, hb4⟩
             have hs4 : Below (wr.heap.size + 1) (wr.alloc (.cells #[.int .i64 o2.kind, .int .i64 o2.a, .int .i64 o2.b, .int .i64 o2.agg] 23)) w4 := hs3.trans (hb4.mono (by have := hs3.size; simp at this; omega))
             clear hb4))
      have BF : Hid (Below w.heap.size w w4) := Lib.hid (BR.out.trans (Below.trans ((Below.refl _ _).alloc BR.out.size _) (hs4.mono (by have := BR.out.size; omega))))
      go_wp2_with fail
      go_roundw
      case rel => exact ⟨2, by go_num, by omega, BF.out⟩
      case measure => simp [intOf]
    · go_wp2_with (go_at_call 13
                   (with_reducible refine (works _).mono ?_)
                   rintro e w9 ⟨rfl, hb9⟩)
      go_ret
      exact ⟨rfl, BR.out.trans (hb9.mono BR.out.size)⟩
end Go.Proofs.Ythebacladmjiiaa
