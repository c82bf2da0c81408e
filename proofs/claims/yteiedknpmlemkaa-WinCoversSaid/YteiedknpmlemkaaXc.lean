/-
  The document's windows of an operator at a time.
-/
import Derived.Test.YteiedknpmlemkaaXb
namespace Go.Proofs.Yteiedknpmlemkaa
open Go Go.RowKit Go.Lib Go.Shelf

theorem below_drewN {n : Nat} {W W' : World} (h : Below n W W') (k : Nat) : Below n W (W'.drewN k) := ⟨h.os, h.tape, h.output, h.size, h.block⟩
theorem slide_ba {a b : Int} {q : Nat} (hb : 1 ≤ b) (hq : a = q * b) (ha : 1 ≤ a) : b ≤ a := by
  have h1 : 1 ≤ q := by
    rcases Nat.eq_zero_or_pos q with h | h
    · subst h
      simp at hq
      omega
    · exact h
  have h2 : (1 : Int) * b ≤ q * b := Int.mul_le_mul_of_nonneg_right (by omega) (by omega)
  omega
theorem lies_box (w : World) (x : Win) (t : TypeId) : Lies (w.alloc (.cells (wcells x).toArray t)) (some ⟨w.heap.size, 0, none⟩) 1 (wcells x) := .inr ⟨_, rfl, news_new w x t⟩
theorem row_one (w w' : World) (x : Win) (base : Nat) (hb : base ≤ w.heap.size) (h : w' = w.alloc (.cells (wcells x).toArray 34)) : w'.ownsRow base 34 2 (.slice (some ⟨w.heap.size, 0, none⟩) 1 1) 1 (cellsL [x]) := by
  subst h
  exact ⟨by simp [cellsL, wcells], .inr ⟨_, 1, _, rfl, hb, World.alloc_heap_new _ _, Nat.le_refl _, by simp [maxLen], by simp [wcells], by simp [cellsL, wcells]⟩⟩

set_option maxRecDepth 100000 in
set_option maxHeartbeats 1600000 in
theorem rof_bad (o : OpD) (t : Int) (ok : allowsM o = false) (w : World) : Calls Try.prog 11 #[o.val, .int .i64 t] w fun e w' => Row w [] e w' := by
  have HM := Lib.hid ok
  obtain ⟨W0, hW0⟩ : ∃ W0, w.alloc (.cells #[.int .i64 o.kind, .int .i64 o.a, .int .i64 o.b, .int .i64 o.agg] 23) = W0 := ⟨_, rfl⟩
  have s0 : W0.heap.size = w.heap.size + 1 := by rw [← hW0]; simp
  have B0 : Below w.heap.size w W0 := by rw [← hW0]; exact (Below.refl _ _).alloc (Nat.le_refl _) _
  have O0 : OpAt W0 w.heap.size o := by rw [← hW0]; exact opAt_new w o 23
  have HB := Lib.hid B0
  obtain ⟨b0, b1, b2, b3⟩ := O0
  clear ok B0
  unfold OpD.val
  go_enter Try.func11, Try.ntmps11
  go_wp2_with (go_at_call 26
               (with_reducible refine (may_any o _).mono ?_)
               rw [HM.out]
               rintro e w1 ⟨rfl, hw1⟩
               have HB1 : Hid (Below W0.heap.size W0 w1) := Lib.hid (by rw [hw1]; exact ((Below.refl _ _).alloc (Nat.le_refl _) _).alloc (by simp) _)
               clear hw1)
  go_ret
  exact Row.nil _ _ (HB.out.trans (HB1.out.mono (by omega)))

set_option maxRecDepth 100000 in
set_option maxHeartbeats 1600000 in
theorem rof_other (o : OpD) (t : Int) (ok : allowsM o = true) (hk : (kindRow o.kind).1 ≠ 1) (w : World) : Calls Try.prog 11 #[o.val, .int .i64 t] w fun e w' => Row w [] e w' := by
  have HM := Lib.hid ok
  obtain ⟨c, hc⟩ : ∃ c, (kindRow o.kind).1 = c := ⟨_, rfl⟩
  rw [hc] at hk
  have HK : Hid ((kindRow o.kind).1 = c) := Lib.hid (hc)
  obtain ⟨W0, hW0⟩ : ∃ W0, w.alloc (.cells #[.int .i64 o.kind, .int .i64 o.a, .int .i64 o.b, .int .i64 o.agg] 23) = W0 := ⟨_, rfl⟩
  have s0 : W0.heap.size = w.heap.size + 1 := by rw [← hW0]; simp
  have B0 : Below w.heap.size w W0 := by rw [← hW0]; exact (Below.refl _ _).alloc (Nat.le_refl _) _
  have O0 : OpAt W0 w.heap.size o := by rw [← hW0]; exact opAt_new w o 23
  have HO := Lib.hid O0
  have HB := Lib.hid B0
  obtain ⟨b0, b1, b2, b3⟩ := O0
  clear ok B0 hc
  unfold OpD.val
  go_enter Try.func11, Try.ntmps11
  go_wp2_with (first
    | (go_at_call 26
       (with_reducible refine (may_any o _).mono ?_)
       rw [HM.out]
       rintro e w1 ⟨rfl, hw1⟩
       have hb1 : Below W0.heap.size W0 w1 := by rw [hw1]; exact ((Below.refl _ _).alloc (Nat.le_refl _) _).alloc (by simp) _
       obtain ⟨c0, c1, c2, c3⟩ := HO.out.same (W' := w1) (hb1.block _ (by omega))
       have HB1 := Lib.hid hb1
       clear hb1 hw1)
    | (go_at_call 27
       (with_reducible refine (rclass_any o.kind o.a o.b o.agg _).mono ?_)
       rw [HK.out]
       rintro e w2 ⟨rfl, hw2⟩
       have HB2 : Hid (Below W0.heap.size W0 w2) := Lib.hid (by rw [hw2]; exact HB1.out.alloc HB1.out.size _)
       clear hw2))
  go_ret
  exact Row.nil _ _ (HB.out.trans (HB2.out.mono (by omega)))

set_option maxRecDepth 100000 in
set_option maxHeartbeats 1600000 in
theorem rof_early (o : OpD) (t : Int) (ok : allowsM o = true) (hk : (kindRow o.kind).1 = 1) (hT : t < -1152921504606846976) (w : World) : Calls Try.prog 11 #[o.val, .int .i64 t] w fun e w' => Row w [] e w' := by
  have HM := Lib.hid ok
  obtain ⟨c, hc⟩ : ∃ c, (kindRow o.kind).1 = c := ⟨_, rfl⟩
  rw [hc] at hk
  have HK : Hid ((kindRow o.kind).1 = 1) := Lib.hid (hc.trans hk)
  obtain ⟨W0, hW0⟩ : ∃ W0, w.alloc (.cells #[.int .i64 o.kind, .int .i64 o.a, .int .i64 o.b, .int .i64 o.agg] 23) = W0 := ⟨_, rfl⟩
  have s0 : W0.heap.size = w.heap.size + 1 := by rw [← hW0]; simp
  have B0 : Below w.heap.size w W0 := by rw [← hW0]; exact (Below.refl _ _).alloc (Nat.le_refl _) _
  have O0 : OpAt W0 w.heap.size o := by rw [← hW0]; exact opAt_new w o 23
  have HO := Lib.hid O0
  have HB := Lib.hid B0
  obtain ⟨b0, b1, b2, b3⟩ := O0
  clear ok B0 hc
  unfold OpD.val
  go_enter Try.func11, Try.ntmps11
  go_wp2_with (first
    | (go_at_call 26
       (with_reducible refine (may_any o _).mono ?_)
       rw [HM.out]
       rintro e w1 ⟨rfl, hw1⟩
       have hb1 : Below W0.heap.size W0 w1 := by rw [hw1]; exact ((Below.refl _ _).alloc (Nat.le_refl _) _).alloc (by simp) _
       obtain ⟨c0, c1, c2, c3⟩ := HO.out.same (W' := w1) (hb1.block _ (by omega))
       have HB1 := Lib.hid hb1
       clear hb1 hw1)
    | (go_at_call 27
       (with_reducible refine (rclass_any o.kind o.a o.b o.agg _).mono ?_)
       rw [HK.out]
       rintro e w2 ⟨rfl, hw2⟩
       have HB2 : Hid (Below W0.heap.size W0 w2) := Lib.hid (by rw [hw2]; exact HB1.out.alloc HB1.out.size _)
       clear hw2))
  go_ret
  exact Row.nil _ _ (HB.out.trans (HB2.out.mono (by omega)))

set_option maxRecDepth 100000 in
set_option maxHeartbeats 1600000 in
theorem rof_after (o : OpD) (t : Int) (ok : allowsM o = true) (hk : (kindRow o.kind).1 = 1) (hT0 : ¬ t < -1152921504606846976) (hT : 1152921504606846976 < t) (w : World) : Calls Try.prog 11 #[o.val, .int .i64 t] w fun e w' => Row w [] e w' := by
  have HM := Lib.hid ok
  obtain ⟨c, hc⟩ : ∃ c, (kindRow o.kind).1 = c := ⟨_, rfl⟩
  rw [hc] at hk
  have HK : Hid ((kindRow o.kind).1 = 1) := Lib.hid (hc.trans hk)
  obtain ⟨W0, hW0⟩ : ∃ W0, w.alloc (.cells #[.int .i64 o.kind, .int .i64 o.a, .int .i64 o.b, .int .i64 o.agg] 23) = W0 := ⟨_, rfl⟩
  have s0 : W0.heap.size = w.heap.size + 1 := by rw [← hW0]; simp
  have B0 : Below w.heap.size w W0 := by rw [← hW0]; exact (Below.refl _ _).alloc (Nat.le_refl _) _
  have O0 : OpAt W0 w.heap.size o := by rw [← hW0]; exact opAt_new w o 23
  have HO := Lib.hid O0
  have HB := Lib.hid B0
  obtain ⟨b0, b1, b2, b3⟩ := O0
  clear ok B0 hc
  unfold OpD.val
  go_enter Try.func11, Try.ntmps11
  go_wp2_with (first
    | (go_at_call 26
       (with_reducible refine (may_any o _).mono ?_)
       rw [HM.out]
       rintro e w1 ⟨rfl, hw1⟩
       have hb1 : Below W0.heap.size W0 w1 := by rw [hw1]; exact ((Below.refl _ _).alloc (Nat.le_refl _) _).alloc (by simp) _
       obtain ⟨c0, c1, c2, c3⟩ := HO.out.same (W' := w1) (hb1.block _ (by omega))
       have HB1 := Lib.hid hb1
       clear hb1 hw1)
    | (go_at_call 27
       (with_reducible refine (rclass_any o.kind o.a o.b o.agg _).mono ?_)
       rw [HK.out]
       rintro e w2 ⟨rfl, hw2⟩
       have HB2 : Hid (Below W0.heap.size W0 w2) := Lib.hid (by rw [hw2]; exact HB1.out.alloc HB1.out.size _)
       clear hw2))
  go_ret
  exact Row.nil _ _ (HB.out.trans (HB2.out.mono (by omega)))

set_option maxRecDepth 100000 in
set_option maxHeartbeats 3200000 in
theorem rof_6 (a b agg t : Int) (ok : allowsM ⟨6, a, b, agg⟩ = true) (ha : 1 ≤ a ∧ a ≤ 1073741824) (hT : isT t) (w : World) : Calls Try.prog 11 #[.agg #[.int .i64 6, .int .i64 a, .int .i64 b, .int .i64 agg], .int .i64 t] w fun e w' => Row w ([(t, t + a)]) e w' := by
  have HM : Hid (allowsM ⟨6, a, b, agg⟩ = true) := Lib.hid ok
  have HK : Hid ((kindRow 6).1 = 1) := Lib.hid (by simp [kindRow])
  have HT := Lib.hid hT
  unfold isT at hT
  obtain ⟨hT1, hT2⟩ := hT
  have hT3 : ¬ t < -1152921504606846976 := by omega
  have hT4 : ¬ 1152921504606846976 < t := by omega
  obtain ⟨W0, hW0⟩ : ∃ W0, w.alloc (.cells #[.int .i64 6, .int .i64 a, .int .i64 b, .int .i64 agg] 23) = W0 := ⟨_, rfl⟩
  have s0 : W0.heap.size = w.heap.size + 1 := by rw [← hW0]; simp
  have B0 : Below w.heap.size w W0 := by rw [← hW0]; exact (Below.refl _ _).alloc (Nat.le_refl _) _
  have O0 : OpAt W0 w.heap.size ⟨6, a, b, agg⟩ := by rw [← hW0]; exact opAt_new w ⟨6, a, b, agg⟩ 23
  have HO := Lib.hid O0
  have HB := Lib.hid B0
  obtain ⟨b0, b1, b2, b3⟩ := O0
  dsimp only at b0 b1 b2 b3
  clear ok B0
  go_enter Try.func11, Try.ntmps11
  go_wp2_with (first
    | (go_at_call 26
       (with_reducible refine (may_any ⟨6, a, b, agg⟩ _).mono ?_)
       rw [HM.out]
       rintro e w1 ⟨rfl, hw1⟩
       have hb1 : Below W0.heap.size W0 w1 := by rw [hw1]; exact ((Below.refl _ _).alloc (Nat.le_refl _) _).alloc (by simp) _
       obtain ⟨c0, c1, c2, c3⟩ := HO.out.same (W' := w1) (hb1.block _ (by omega))
       dsimp only at c0 c1 c2 c3
       have HB1 := Lib.hid hb1
       clear hb1 hw1)
    | (go_at_call 27
       (with_reducible refine (rclass_any 6 a b agg _).mono ?_)
       rw [HK.out]
       rintro e w2 ⟨rfl, hw2⟩
       have hb2 : Below W0.heap.size W0 w2 := by rw [hw2]; exact HB1.out.alloc HB1.out.size _
       obtain ⟨e0, e1, e2, e3⟩ := HO.out.same (W' := w2) (hb2.block _ (by omega))
       dsimp only at e0 e1 e2 e3
       have HB2 := Lib.hid hb2
       clear hb2 hw2))
  go_ret
  have hb := HB2.out.size
  exact ⟨_, rfl, row_one w2 _ (t, t + a) w.heap.size (by omega) rfl, fun e => by simp at e, HB.out.trans ((HB2.out.mono (by omega)).alloc (by omega) _)⟩

set_option maxRecDepth 100000 in
set_option maxHeartbeats 3200000 in
theorem rof_4 (a b agg t : Int) (ok : allowsM ⟨4, a, b, agg⟩ = true) (ha : 1 ≤ a ∧ a ≤ 1073741824) (hT : isT t) (w : World) : Calls Try.prog 11 #[.agg #[.int .i64 4, .int .i64 a, .int .i64 b, .int .i64 agg], .int .i64 t] w fun e w' => Row w (slideM 1 t a a) e w' := by
  have HM : Hid (allowsM ⟨4, a, b, agg⟩ = true) := Lib.hid ok
  have HK : Hid ((kindRow 4).1 = 1) := Lib.hid (by simp [kindRow])
  have HT := Lib.hid hT
  unfold isT at hT
  obtain ⟨hT1, hT2⟩ := hT
  have hT3 : ¬ t < -1152921504606846976 := by omega
  have hT4 : ¬ 1152921504606846976 < t := by omega
  obtain ⟨W0, hW0⟩ : ∃ W0, w.alloc (.cells #[.int .i64 4, .int .i64 a, .int .i64 b, .int .i64 agg] 23) = W0 := ⟨_, rfl⟩
  have s0 : W0.heap.size = w.heap.size + 1 := by rw [← hW0]; simp
  have B0 : Below w.heap.size w W0 := by rw [← hW0]; exact (Below.refl _ _).alloc (Nat.le_refl _) _
  have O0 : OpAt W0 w.heap.size ⟨4, a, b, agg⟩ := by rw [← hW0]; exact opAt_new w ⟨4, a, b, agg⟩ 23
  have HO := Lib.hid O0
  have HB := Lib.hid B0
  obtain ⟨b0, b1, b2, b3⟩ := O0
  dsimp only at b0 b1 b2 b3
  clear ok B0
  obtain ⟨i0, hi, hz0, hz1, hz2⟩ := info_parts info34
  have HI := Lib.hid hi
  have HZ0 := Lib.hid hz0
  have HZ1 := Lib.hid hz1
  have HZ2 := Lib.hid hz2
  have hba : 1 ≤ a ∧ a ≤ a := ⟨ha.1, Int.le_refl _⟩
  have hs := flo_small HT.out (n := a) ⟨hba.1, by omega⟩
  have HF := fun w => Lib.hid (rfloor_any t a ⟨hba.1, by omega⟩ HT.out w)
  have hlo := flo_le t a hba.1
  have hhi := lt_flo t a hba.1
  obtain ⟨f, hf⟩ : ∃ f, flo t a = f := ⟨_, rfl⟩
  rw [hf] at hs HF hlo hhi
  have HFL := Lib.hid hf
  have HQ : Hid (a = ((1 : Nat) : Int) * a) := Lib.hid (by simp)
  clear hi hz0 hz1 hz2 hf
  go_enter Try.func11, Try.ntmps11
  go_wp2_with (first
    | (go_at_call 26
       (with_reducible refine (may_any ⟨4, a, b, agg⟩ _).mono ?_)
       rw [HM.out]
       rintro e w1 ⟨rfl, hw1⟩
       have hb1 : Below W0.heap.size W0 w1 := by rw [hw1]; exact ((Below.refl _ _).alloc (Nat.le_refl _) _).alloc (by simp) _
       obtain ⟨c0, c1, c2, c3⟩ := HO.out.same (W' := w1) (hb1.block _ (by omega))
       dsimp only at c0 c1 c2 c3
       have HB1 := Lib.hid hb1
       clear hb1 hw1)
    | (go_at_call 27
       (with_reducible refine (rclass_any 4 a b agg _).mono ?_)
       rw [HK.out]
       rintro e w2 ⟨rfl, hw2⟩
       have hb2 : Below W0.heap.size W0 w2 := by rw [hw2]; exact HB1.out.alloc HB1.out.size _
       obtain ⟨e0, e1, e2, e3⟩ := HO.out.same (W' := w2) (hb2.block _ (by omega))
       dsimp only at e0 e1 e2 e3
       have HB2 := Lib.hid hb2
       clear hb2 hw2))
  rename World => wx
  have hwx := HB2.out.size
  have W2 : IntKind.i64.wrap (f - a) = f - a := IntWalk.i64_in _ (by omega)
  have W3 : IntKind.i64.wrap (f) = f := IntWalk.i64_in _ (by omega)
  have HX : Hid (∀ w', Below wx.heap.size wx w' → w'.cell? ⟨w.heap.size, 0, none⟩ = some (.int .i64 4) ∧ w'.cell? ⟨w.heap.size, 1, none⟩ = some (.int .i64 a) ∧ w'.cell? ⟨w.heap.size, 2, none⟩ = some (.int .i64 b) ∧ w'.cell? ⟨w.heap.size, 3, none⟩ = some (.int .i64 agg) ∧ Below wx.heap.size wx w') := Lib.hid (fun w' h => by
    obtain ⟨q0, q1, q2, q3⟩ := HO.out.same (W' := w') ((h.block _ (by omega)).trans (HB2.out.block _ (by omega)))
    exact ⟨q0, q1, q2, q3, h⟩)
  go_region_held3 (fun w' => w'.cell? ⟨w.heap.size, 0, none⟩ = some (.int .i64 4) ∧ w'.cell? ⟨w.heap.size, 1, none⟩ = some (.int .i64 a) ∧ w'.cell? ⟨w.heap.size, 2, none⟩ = some (.int .i64 b) ∧ w'.cell? ⟨w.heap.size, 3, none⟩ = some (.int .i64 agg) ∧ Below wx.heap.size wx w')
    (first | assumption | (exact HX.out _ ((Below.refl _ _).drew)) | (exact HX.out _ hs1))
    (first
      | (go_at_call 28
         (with_reducible refine (HF _).out.mono ?_)
         rintro e w5 ⟨rfl, hw5⟩
         have hs1 : Below wx.heap.size wx w5 := by rw [hw5]; exact (Below.refl _ _).drew
         clear hw5))
  go_wp2
  go_loopw [6, 7] (fun u i wr => ∃ k : Nat, k ≤ 1 ∧ i = .int .i64 (f + k * a) ∧ wr.ownsRow wx.heap.size 34 2 u k (cellsL (slideM k t a a)) ∧ (k = 0 → u = .slice none 0 0) ∧ Below wx.heap.size wx wr)
    (fun _ i _ => (f - intOf i + 1).toNat)
  case atStart => exact ⟨0, Nat.zero_le _, by (try simp only [W3]); simp, World.ownsRow_nil _ _ _ _, fun _ => rfl, hs1⟩
  case round =>
    obtain ⟨k, hk, rfl, hrow, hnil, hbx⟩ := hrel
    obtain ⟨m, hm⟩ : ∃ m : Int, k * a = m := ⟨_, rfl⟩
    have hm1 : 0 ≤ m := by rw [← hm]; exact Int.mul_nonneg (by omega) (by omega)
    have hm2 : m ≤ a := by
      have q1 : (k : Int) * a ≤ ((1 : Nat) : Int) * a := Int.mul_le_mul_of_nonneg_right (by omega) (by omega)
      have q2 := HQ.out
      rw [hm] at q1
      omega
    have HN := Lib.hid hnil
    have hsz := hbx.size
    clear hnil
    by_cases hlt : k < 1
    · have hm3 : m + a ≤ a := by
        have q1 : ((k : Int) + 1) * a ≤ ((1 : Nat) : Int) * a := Int.mul_le_mul_of_nonneg_right (by omega) (by omega)
        have q2 := HQ.out
        rw [Int.add_mul, hm] at q1
        omega
      obtain ⟨d0, d1, d2, d3⟩ := HO.out.same (W' := wr) ((hbx.block w.heap.size (by have := HB2.out.size; omega)).trans (HB2.out.block _ (by omega)))
      dsimp only at d0 d1 d2 d3
      have HAt : Hid (slideAt t a a k = (f + m, f + m + a)) := Lib.hid (by unfold slideAt; rw [HFL.out, hm]; simp)
      have HSuc : Hid (cellsL (slideM k t a a) ++ wcells (f + m, f + m + a) = cellsL (slideM (k + 1) t a a)) := Lib.hid (by rw [slideM_succ, cellsL_snoc, HAt.out])
      rw [hm]
      have HM2 := Lib.hid hm
      have HR := Lib.hid hrow
      have HBX := Lib.hid hbx
      clear hm hrow hbx
      go_wp2_with (at_builtin
                   refine wpList_append_src _ rfl _ _ 32 rfl wx.heap.size 34 i0 _ 2 16 Try.underlying32 HI.out HZ0.out HZ1.out HZ2.out rfl (by decide) _ k _ rfl (HR.out.alloc _) _ 1 1 (wcells (f + m, f + m + a)) rfl rfl (lies_box wr _ 34) (oneCells _) (k + 1) rfl _ HSuc.out (by unfold maxLen; omega) (by omega) (by simp; omega) ?_
                   intro A' cap' w6 hrow6 hgrow6
                   have HB6 : Hid (Below wx.heap.size wx w6) := Lib.hid ((HBX.out.alloc (by omega) _).grown hgrow6 (by simp; omega) (fun g e => by have := (own_lt HR.out e).1; omega))
                   have HR6 := Lib.hid hrow6
                   clear hrow6 hgrow6)
      go_roundw
      case rel =>
        refine ⟨k + 1, by omega, ?_, HR6.out, fun e => by omega, HB6.out⟩
        have e : ((k + 1 : Nat) : Int) * a = m + a := by rw [Int.natCast_add, Int.add_mul, HM2.out]; simp
        rw [e]
        congr 1
        omega
      case measure => simp [intOf]; omega
    · obtain rfl : k = 1 := by omega
      have hm4 : m = a := by rw [← hm]; exact HQ.out.symm
      rw [hm, hm4]
      have HR := Lib.hid hrow
      have HBX := Lib.hid hbx
      clear hm hm4 hrow hbx
      go_wp2
      go_ret
      exact Row.from (w1 := wx) ⟨_, rfl, by rw [slideM_len]; exact HR.out, fun e => HN.out (by have h := congrArg List.length e; rw [slideM_len] at h; exact h), HBX.out⟩ (HB.out.trans (HB2.out.mono (by omega)))

set_option maxRecDepth 100000 in
set_option maxHeartbeats 3200000 in
theorem rof_5 (a b agg t : Int) (q : Nat) (hb : 1 ≤ b) (hq : a = q * b) (hq4 : q ≤ 4) (ok : allowsM ⟨5, a, b, agg⟩ = true) (ha : 1 ≤ a ∧ a ≤ 1073741824) (hT : isT t) (w : World) : Calls Try.prog 11 #[.agg #[.int .i64 5, .int .i64 a, .int .i64 b, .int .i64 agg], .int .i64 t] w fun e w' => Row w (slideM q t a b) e w' := by
  have HM : Hid (allowsM ⟨5, a, b, agg⟩ = true) := Lib.hid ok
  have HK : Hid ((kindRow 5).1 = 1) := Lib.hid (by simp [kindRow])
  have HT := Lib.hid hT
  unfold isT at hT
  obtain ⟨hT1, hT2⟩ := hT
  have hT3 : ¬ t < -1152921504606846976 := by omega
  have hT4 : ¬ 1152921504606846976 < t := by omega
  obtain ⟨W0, hW0⟩ : ∃ W0, w.alloc (.cells #[.int .i64 5, .int .i64 a, .int .i64 b, .int .i64 agg] 23) = W0 := ⟨_, rfl⟩
  have s0 : W0.heap.size = w.heap.size + 1 := by rw [← hW0]; simp
  have B0 : Below w.heap.size w W0 := by rw [← hW0]; exact (Below.refl _ _).alloc (Nat.le_refl _) _
  have O0 : OpAt W0 w.heap.size ⟨5, a, b, agg⟩ := by rw [← hW0]; exact opAt_new w ⟨5, a, b, agg⟩ 23
  have HO := Lib.hid O0
  have HB := Lib.hid B0
  obtain ⟨b0, b1, b2, b3⟩ := O0
  dsimp only at b0 b1 b2 b3
  clear ok B0
  obtain ⟨i0, hi, hz0, hz1, hz2⟩ := info_parts info34
  have HI := Lib.hid hi
  have HZ0 := Lib.hid hz0
  have HZ1 := Lib.hid hz1
  have HZ2 := Lib.hid hz2
  have hba : 1 ≤ b ∧ b ≤ a := ⟨hb, slide_ba hb hq ha.1⟩
  have hs := flo_small HT.out (n := b) ⟨hba.1, by omega⟩
  have HF := fun w => Lib.hid (rfloor_any t b ⟨hba.1, by omega⟩ HT.out w)
  have hlo := flo_le t b hba.1
  have hhi := lt_flo t b hba.1
  obtain ⟨f, hf⟩ : ∃ f, flo t b = f := ⟨_, rfl⟩
  rw [hf] at hs HF hlo hhi
  have HFL := Lib.hid hf
  have HQ : Hid (a = ((q : Nat) : Int) * b) := Lib.hid hq
  clear hi hz0 hz1 hz2 hf hq
  go_enter Try.func11, Try.ntmps11
  go_wp2_with (first
    | (go_at_call 26
       (with_reducible refine (may_any ⟨5, a, b, agg⟩ _).mono ?_)
       rw [HM.out]
       rintro e w1 ⟨rfl, hw1⟩
       have hb1 : Below W0.heap.size W0 w1 := by rw [hw1]; exact ((Below.refl _ _).alloc (Nat.le_refl _) _).alloc (by simp) _
       obtain ⟨c0, c1, c2, c3⟩ := HO.out.same (W' := w1) (hb1.block _ (by omega))
       dsimp only at c0 c1 c2 c3
       have HB1 := Lib.hid hb1
       clear hb1 hw1)
    | (go_at_call 27
       (with_reducible refine (rclass_any 5 a b agg _).mono ?_)
       rw [HK.out]
       rintro e w2 ⟨rfl, hw2⟩
       have hb2 : Below W0.heap.size W0 w2 := by rw [hw2]; exact HB1.out.alloc HB1.out.size _
       obtain ⟨e0, e1, e2, e3⟩ := HO.out.same (W' := w2) (hb2.block _ (by omega))
       dsimp only at e0 e1 e2 e3
       have HB2 := Lib.hid hb2
       clear hb2 hw2))
  rename World => wx
  have hwx := HB2.out.size
  have W2 : IntKind.i64.wrap (f - a) = f - a := IntWalk.i64_in _ (by omega)
  have W3 : IntKind.i64.wrap (f - a + b) = f - a + b := IntWalk.i64_in _ (by omega)
  have HX : Hid (∀ w', Below wx.heap.size wx w' → w'.cell? ⟨w.heap.size, 0, none⟩ = some (.int .i64 5) ∧ w'.cell? ⟨w.heap.size, 1, none⟩ = some (.int .i64 a) ∧ w'.cell? ⟨w.heap.size, 2, none⟩ = some (.int .i64 b) ∧ w'.cell? ⟨w.heap.size, 3, none⟩ = some (.int .i64 agg) ∧ Below wx.heap.size wx w') := Lib.hid (fun w' h => by
    obtain ⟨q0, q1, q2, q3⟩ := HO.out.same (W' := w') ((h.block _ (by omega)).trans (HB2.out.block _ (by omega)))
    exact ⟨q0, q1, q2, q3, h⟩)
  go_region_held3 (fun w' => w'.cell? ⟨w.heap.size, 0, none⟩ = some (.int .i64 5) ∧ w'.cell? ⟨w.heap.size, 1, none⟩ = some (.int .i64 a) ∧ w'.cell? ⟨w.heap.size, 2, none⟩ = some (.int .i64 b) ∧ w'.cell? ⟨w.heap.size, 3, none⟩ = some (.int .i64 agg) ∧ Below wx.heap.size wx w')
    (first | assumption | (exact HX.out _ ((Below.refl _ _).drew)) | (exact HX.out _ hs1))
    (first
      | (go_at_call 28
         (with_reducible refine (HF _).out.mono ?_)
         rintro e w5 ⟨rfl, hw5⟩
         have hs1 : Below wx.heap.size wx w5 := by rw [hw5]; exact (Below.refl _ _).drew
         clear hw5))
  go_wp2
  go_loopw [6, 7] (fun u i wr => ∃ k : Nat, k ≤ q ∧ i = .int .i64 (f - a + b + k * b) ∧ wr.ownsRow wx.heap.size 34 2 u k (cellsL (slideM k t a b)) ∧ (k = 0 → u = .slice none 0 0) ∧ Below wx.heap.size wx wr)
    (fun _ i _ => (f - intOf i + 1).toNat)
  case atStart => exact ⟨0, Nat.zero_le _, by (try simp only [W2, W3]); simp, World.ownsRow_nil _ _ _ _, fun _ => rfl, hs1⟩
  case round =>
    obtain ⟨k, hk, rfl, hrow, hnil, hbx⟩ := hrel
    obtain ⟨m, hm⟩ : ∃ m : Int, k * b = m := ⟨_, rfl⟩
    have hm1 : 0 ≤ m := by rw [← hm]; exact Int.mul_nonneg (by omega) (by omega)
    have hm2 : m ≤ a := by
      have q1 : (k : Int) * b ≤ ((q : Nat) : Int) * b := Int.mul_le_mul_of_nonneg_right (by omega) (by omega)
      have q2 := HQ.out
      rw [hm] at q1
      omega
    have HN := Lib.hid hnil
    have hsz := hbx.size
    clear hnil
    by_cases hlt : k < q
    · have hm3 : m + b ≤ a := by
        have q1 : ((k : Int) + 1) * b ≤ ((q : Nat) : Int) * b := Int.mul_le_mul_of_nonneg_right (by omega) (by omega)
        have q2 := HQ.out
        rw [Int.add_mul, hm] at q1
        omega
      obtain ⟨d0, d1, d2, d3⟩ := HO.out.same (W' := wr) ((hbx.block w.heap.size (by have := HB2.out.size; omega)).trans (HB2.out.block _ (by omega)))
      dsimp only at d0 d1 d2 d3
      have HAt : Hid (slideAt t a b k = (f - a + b + m, f - a + b + m + a)) := Lib.hid (by unfold slideAt; rw [HFL.out, hm])
      have HSuc : Hid (cellsL (slideM k t a b) ++ wcells (f - a + b + m, f - a + b + m + a) = cellsL (slideM (k + 1) t a b)) := Lib.hid (by rw [slideM_succ, cellsL_snoc, HAt.out])
      rw [hm]
      have HM2 := Lib.hid hm
      have HR := Lib.hid hrow
      have HBX := Lib.hid hbx
      clear hm hrow hbx
      go_wp2_with (at_builtin
                   refine wpList_append_src _ rfl _ _ 32 rfl wx.heap.size 34 i0 _ 2 16 Try.underlying32 HI.out HZ0.out HZ1.out HZ2.out rfl (by decide) _ k _ rfl (HR.out.alloc _) _ 1 1 (wcells (f - a + b + m, f - a + b + m + a)) rfl rfl (lies_box wr _ 34) (oneCells _) (k + 1) rfl _ HSuc.out (by unfold maxLen; omega) (by omega) (by simp; omega) ?_
                   intro A' cap' w6 hrow6 hgrow6
                   have HB6 : Hid (Below wx.heap.size wx w6) := Lib.hid ((HBX.out.alloc (by omega) _).grown hgrow6 (by simp; omega) (fun g e => by have := (own_lt HR.out e).1; omega))
                   have HR6 := Lib.hid hrow6
                   clear hrow6 hgrow6)
      go_roundw
      case rel =>
        refine ⟨k + 1, by omega, ?_, HR6.out, fun e => by omega, HB6.out⟩
        have e : ((k + 1 : Nat) : Int) * b = m + b := by rw [Int.natCast_add, Int.add_mul, HM2.out]; simp
        rw [e]
        congr 1
        omega
      case measure => simp [intOf]; omega
    · obtain rfl : k = q := by omega
      have hm4 : m = a := by rw [← hm]; exact HQ.out.symm
      rw [hm, hm4]
      have HR := Lib.hid hrow
      have HBX := Lib.hid hbx
      clear hm hm4 hrow hbx
      go_wp2
      go_ret
      exact Row.from (w1 := wx) ⟨_, rfl, by rw [slideM_len]; exact HR.out, fun e => HN.out (by have h := congrArg List.length e; rw [slideM_len] at h; exact h), HBX.out⟩ (HB.out.trans (HB2.out.mono (by omega)))

theorem rof_any (o : OpD) (t : Int) (w : World) : Calls Try.prog 11 #[o.val, .int .i64 t] w fun e w' => Row w (ofM o t) e w' := by
  cases ok : allowsM o with
  | false =>
    have h : ofM o t = [] := by unfold ofM; rw [if_neg (by simp [ok])]
    rw [h]; exact rof_bad o t ok w
  | true =>
    by_cases hk : (kindRow o.kind).1 = 1
    · by_cases hT : isT t
      · have hm : ofM o t = (if o.kind = 6 then [(t, t + o.a)] else if o.kind = 5 then slideM (o.a.tdiv o.b).toNat t o.a o.b else [(flo t o.a, flo t o.a + o.a)]) := by
          unfold ofM; rw [if_pos ⟨ok, hk, hT⟩]
        have hf : fitsM (kindRow o.kind).2.2.1 o.a o.b = true := by
          unfold allowsM at ok
          simp only [Bool.and_eq_true] at ok
          exact ok.2
        rw [hm]
        obtain ⟨k, a, b, g⟩ := o
        dsimp only at hk hf ⊢
        have hk' : k = 4 ∨ k = 5 ∨ k = 6 := by
          unfold kindRow at hk
          repeat' split at hk
          all_goals first | omega | (exfalso; revert hk; decide)
        rcases hk' with rfl | rfl | rfl
        · have hf' := fits63 (a := a) (b := b) (by simpa [kindRow] using hf)
          rw [if_neg (by decide), if_neg (by decide)]
          have e : [(flo t a, flo t a + a)] = slideM 1 t a a := by simp [slideM, slideAt]
          rw [e]
          exact rof_4 a b g t ok hf'.1 hT w
        · have hf' := fits64 (a := a) (b := b) (by simpa [kindRow] using hf)
          have hq := slide_q hf'
          rw [if_neg (by decide), if_pos rfl]
          exact rof_5 a b g t _ hf'.2.1 hq.1 hq.2 ok hf'.1 hT w
        · have hf' := fits63 (a := a) (b := b) (by simpa [kindRow] using hf)
          rw [if_pos rfl]
          exact rof_6 a b g t ok hf'.1 hT w
      · have h : ofM o t = [] := by unfold ofM; rw [if_neg (fun h => hT h.2.2)]
        rw [h]
        unfold isT at hT
        by_cases hq : t < -1152921504606846976
        · exact rof_early o t ok hk hq w
        · exact rof_after o t ok hk hq (by omega) w
    · have h : ofM o t = [] := by unfold ofM; rw [if_neg (fun h => hk h.2.1)]
      rw [h]; exact rof_other o t ok hk w
end Go.Proofs.Yteiedknpmlemkaa
