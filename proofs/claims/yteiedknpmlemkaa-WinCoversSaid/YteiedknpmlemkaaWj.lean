/-
  The program's windows of an operator at a time.
-/
import Derived.Test.YteiedknpmlemkaaWi
import Derived.Handy
namespace Go.Proofs.Yteiedknpmlemkaa
open Go Go.RowKit Go.Lib Go.Shelf

def ofM (o : OpD) (t : Int) : List Win :=
  if allowsM o = true ∧ (kindRow o.kind).1 = 1 ∧ isT t then
    (if o.kind = 6 then [(t, t + o.a)] else if o.kind = 5 then slideM (o.a.tdiv o.b).toNat t o.a o.b else [(flo t o.a, flo t o.a + o.a)])
  else []

theorem enter37 : ∀ args w, (callFunc 37 args).run Try.prog w = .ok (.enter 37 args) w := enters_of Try.func37 (by kernel_rfl) rfl
theorem enter39 : ∀ args w, (callFunc 39 args).run Try.prog w = .ok (.enter 39 args) w := enters_of Try.func39 (by kernel_rfl) rfl
theorem enter40 : ∀ args w, (callFunc 40 args).run Try.prog w = .ok (.enter 40 args) w := enters_of Try.func40 (by kernel_rfl) rfl

theorem Row.from {w w1 : World} {l : List Win} {e : Ending} {w' : World} (h : Row w1 l e w') (hb : Below w.heap.size w w1) : Row w l e w' := by
  obtain ⟨v, rfl, h1, h2, h3⟩ := h
  have hs := hb.size
  refine ⟨v, rfl, ⟨h1.1, ?_⟩, h2, hb.trans (h3.mono hs)⟩
  rcases h1.2 with h | ⟨g, c, cur, e1, e2, e3⟩
  · exact .inl h
  · exact .inr ⟨g, c, cur, e1, by omega, e3⟩
theorem Row.nil (w w' : World) (hb : Below w.heap.size w w') : Row w [] (.returned (.slice none 0 0)) w' := ⟨_, rfl, World.ownsRow_nil _ _ _ _, fun _ => rfl, hb⟩

set_option maxRecDepth 100000 in
set_option maxHeartbeats 1600000 in
theorem of_4 (a b agg t : Int) (ok : allowsM ⟨4, a, b, agg⟩ = true) (ha : 1 ≤ a ∧ a ≤ 1073741824) (hT : isT t) (w : World) : Calls Try.prog 10 #[.agg #[.int .i64 4, .int .i64 a, .int .i64 b, .int .i64 agg], .int .i64 t] w fun e w' => Row w ([(flo t a, flo t a + a)]) e w' := by
  have HC : Hid (codeM ⟨4, a, b, agg⟩ = 0) := Lib.hid (by unfold codeM; rw [if_pos ok])
  have HK : Hid ((kindRow (OpD.mk 4 a b agg).kind).1 = 1) := Lib.hid (by simp [kindRow])
  have HD : Hid ((decide (-1152921504606846976 ≤ t) && decide (t ≤ 1152921504606846976)) = true) := Lib.hid (by simpa using hT)
  have HT := Lib.hid hT
  obtain ⟨W0, hW0⟩ : ∃ W0, w.alloc (.cells #[.int .i64 4, .int .i64 a, .int .i64 b, .int .i64 agg] 23) = W0 := ⟨_, rfl⟩
  have s0 : W0.heap.size = w.heap.size + 1 := by rw [← hW0]; simp
  have B0 : Below w.heap.size w W0 := by rw [← hW0]; exact (Below.refl _ _).alloc (Nat.le_refl _) _
  have O0 : OpAt W0 w.heap.size ⟨4, a, b, agg⟩ := by rw [← hW0]; exact opAt_new w ⟨4, a, b, agg⟩ 23
  have HO := Lib.hid O0
  have HB := Lib.hid B0
  have HL : Hid ([(flo t a, flo t a + a)] = [(flo t a, flo t a + a)]) := Lib.hid rfl
  obtain ⟨b0, b1, b2, b3⟩ := O0
  dsimp only at b0 b1 b2 b3
  clear ok hT B0
  go_enter Try.func10, Try.ntmps10
  go_wp2_with (first
    | (go_at_call 21
       (with_reducible refine (check_any ⟨4, a, b, agg⟩ _).mono ?_)
       rw [HC.out]
       rintro e w1 ⟨rfl, hb1⟩
       obtain ⟨c0, c1, c2, c3⟩ := HO.out.same (W' := w1) (hb1.block _ (by omega))
       dsimp only at c0 c1 c2 c3
       have HB1 := Lib.hid hb1
       clear hb1)
    | (go_at_call 22
       (with_reducible refine (class_any ⟨4, a, b, agg⟩ _).mono ?_)
       rw [show (kindRow (OpD.mk 4 a b agg).kind).1 = 1 from HK.out]
       rintro e w2 ⟨rfl, hb2⟩
       obtain ⟨e0, e1, e2, e3⟩ := HO.out.same (W' := w2) ((hb2.block _ (by have := HB1.out.size; omega)).trans (HB1.out.block _ (by omega)))
       dsimp only at e0 e1 e2 e3
       have HB2 := Lib.hid (HB1.out.trans (hb2.mono HB1.out.size))
       clear hb2)
    | (go_at_call 23
       (with_reducible refine (time_any t _).mono ?_)
       rw [HD.out]
       rintro e w3 ⟨rfl, rfl⟩))
  rename World => wx
  go_region_with (first
    | (go_at_call 25
       (with_reducible refine (kinds_any ⟨4, a, b, agg⟩ t _).mono ?_)
       rintro e w5 ⟨rfl, hb5, hmap, hct, hop, hsz⟩
       have hl : (Instr.lookup 55 (.map (some (wx.heap.size + 1 + 1))) (.int .i64 4) false).run Try.prog w5 = .ok (.func (.func 37) #[] #[.pointer (some ⟨wx.heap.size + 1, 0, none⟩), .pointer (some ⟨wx.heap.size, 0, none⟩)]) w5 := look4 _ _ _ hmap
       have hbx : W0.heap.size ≤ wx.heap.size := HB2.out.size
       obtain ⟨d0, d1, d2, d3⟩ := HO.out.same (W' := w5) ((hb5.block _ (by first | omega | (simp; omega))).trans (HB2.out.block _ (by omega)))
       dsimp only at d0 d1 d2 d3
       have HG : Hid (Gives 37 #[.pointer (some ⟨wx.heap.size + 1, 0, none⟩), .pointer (some ⟨wx.heap.size, 0, none⟩)] ([(flo t a, flo t a + a)]) 1 w5) := Lib.hid (tumble_gives _ _ ⟨4, a, b, agg⟩ t w5 (by first | omega | (simp at hsz ⊢; omega)) (by first | omega | (simp at hsz ⊢; omega)) hct hop HT.out ha)
       have HB5 := Lib.hid hb5
       clear hb5 hmap hct hop)
    | (go_at_call 24
       (with_reducible refine (collect_any 37 _ _ _ _ HG.out (by omega) enter37).mono ?_)
       rintro e w6 ⟨v, rfl, hrow, hnil, hb6⟩))
  all_goals
    go_wp2
    go_ret
    have q := (Below.refl wx.heap.size wx).drew.trans HB5.out
    exact Row.from ⟨v, rfl, hrow, hnil, hb6⟩ (HB.out.trans ((HB2.out.trans (q.mono HB2.out.size)).mono (by omega)))

set_option maxRecDepth 100000 in
set_option maxHeartbeats 1600000 in
theorem of_5 (a b agg t : Int) (q : Nat) (hb : 1 ≤ b) (hq : a = q * b) (hq4 : q ≤ 4) (ok : allowsM ⟨5, a, b, agg⟩ = true) (ha : 1 ≤ a ∧ a ≤ 1073741824) (hT : isT t) (w : World) : Calls Try.prog 10 #[.agg #[.int .i64 5, .int .i64 a, .int .i64 b, .int .i64 agg], .int .i64 t] w fun e w' => Row w (slideM q t a b) e w' := by
  have HC : Hid (codeM ⟨5, a, b, agg⟩ = 0) := Lib.hid (by unfold codeM; rw [if_pos ok])
  have HK : Hid ((kindRow (OpD.mk 5 a b agg).kind).1 = 1) := Lib.hid (by simp [kindRow])
  have HD : Hid ((decide (-1152921504606846976 ≤ t) && decide (t ≤ 1152921504606846976)) = true) := Lib.hid (by simpa using hT)
  have HT := Lib.hid hT
  obtain ⟨W0, hW0⟩ : ∃ W0, w.alloc (.cells #[.int .i64 5, .int .i64 a, .int .i64 b, .int .i64 agg] 23) = W0 := ⟨_, rfl⟩
  have s0 : W0.heap.size = w.heap.size + 1 := by rw [← hW0]; simp
  have B0 : Below w.heap.size w W0 := by rw [← hW0]; exact (Below.refl _ _).alloc (Nat.le_refl _) _
  have O0 : OpAt W0 w.heap.size ⟨5, a, b, agg⟩ := by rw [← hW0]; exact opAt_new w ⟨5, a, b, agg⟩ 23
  have HO := Lib.hid O0
  have HB := Lib.hid B0
  have HL : Hid (slideM q t a b = slideM q t a b) := Lib.hid rfl
  obtain ⟨b0, b1, b2, b3⟩ := O0
  dsimp only at b0 b1 b2 b3
  have HQ := Lib.hid hq
  clear hq
  clear ok hT B0
  go_enter Try.func10, Try.ntmps10
  go_wp2_with (first
    | (go_at_call 21
       (with_reducible refine (check_any ⟨5, a, b, agg⟩ _).mono ?_)
       rw [HC.out]
       rintro e w1 ⟨rfl, hb1⟩
       obtain ⟨c0, c1, c2, c3⟩ := HO.out.same (W' := w1) (hb1.block _ (by omega))
       dsimp only at c0 c1 c2 c3
       have HB1 := Lib.hid hb1
       clear hb1)
    | (go_at_call 22
       (with_reducible refine (class_any ⟨5, a, b, agg⟩ _).mono ?_)
       rw [show (kindRow (OpD.mk 5 a b agg).kind).1 = 1 from HK.out]
       rintro e w2 ⟨rfl, hb2⟩
       obtain ⟨e0, e1, e2, e3⟩ := HO.out.same (W' := w2) ((hb2.block _ (by have := HB1.out.size; omega)).trans (HB1.out.block _ (by omega)))
       dsimp only at e0 e1 e2 e3
       have HB2 := Lib.hid (HB1.out.trans (hb2.mono HB1.out.size))
       clear hb2)
    | (go_at_call 23
       (with_reducible refine (time_any t _).mono ?_)
       rw [HD.out]
       rintro e w3 ⟨rfl, rfl⟩))
  rename World => wx
  go_region_with (first
    | (go_at_call 25
       (with_reducible refine (kinds_any ⟨5, a, b, agg⟩ t _).mono ?_)
       rintro e w5 ⟨rfl, hb5, hmap, hct, hop, hsz⟩
       have hl : (Instr.lookup 55 (.map (some (wx.heap.size + 1 + 1))) (.int .i64 5) false).run Try.prog w5 = .ok (.func (.func 39) #[] #[.pointer (some ⟨wx.heap.size + 1, 0, none⟩), .pointer (some ⟨wx.heap.size, 0, none⟩)]) w5 := look5 _ _ _ hmap
       have hbx : W0.heap.size ≤ wx.heap.size := HB2.out.size
       obtain ⟨d0, d1, d2, d3⟩ := HO.out.same (W' := w5) ((hb5.block _ (by first | omega | (simp; omega))).trans (HB2.out.block _ (by omega)))
       dsimp only at d0 d1 d2 d3
       have HG : Hid (Gives 39 #[.pointer (some ⟨wx.heap.size + 1, 0, none⟩), .pointer (some ⟨wx.heap.size, 0, none⟩)] (slideM q t a b) q w5) := Lib.hid (slide_gives _ _ ⟨5, a, b, agg⟩ t q w5 (by first | omega | (simp at hsz ⊢; omega)) (by first | omega | (simp at hsz ⊢; omega)) hct hop HT.out ha hb HQ.out hq4)
       have HB5 := Lib.hid hb5
       clear hb5 hmap hct hop)
    | (go_at_call 24
       (with_reducible refine (collect_any 39 _ _ _ _ HG.out (by omega) enter39).mono ?_)
       rintro e w6 ⟨v, rfl, hrow, hnil, hb6⟩))
  all_goals
    go_wp2
    go_ret
    have q := (Below.refl wx.heap.size wx).drew.trans HB5.out
    exact Row.from ⟨v, rfl, hrow, hnil, hb6⟩ (HB.out.trans ((HB2.out.trans (q.mono HB2.out.size)).mono (by omega)))

set_option maxRecDepth 100000 in
set_option maxHeartbeats 1600000 in
theorem of_6 (a b agg t : Int) (ok : allowsM ⟨6, a, b, agg⟩ = true) (ha : 1 ≤ a ∧ a ≤ 1073741824) (hT : isT t) (w : World) : Calls Try.prog 10 #[.agg #[.int .i64 6, .int .i64 a, .int .i64 b, .int .i64 agg], .int .i64 t] w fun e w' => Row w ([(t, t + a)]) e w' := by
  have HC : Hid (codeM ⟨6, a, b, agg⟩ = 0) := Lib.hid (by unfold codeM; rw [if_pos ok])
  have HK : Hid ((kindRow (OpD.mk 6 a b agg).kind).1 = 1) := Lib.hid (by simp [kindRow])
  have HD : Hid ((decide (-1152921504606846976 ≤ t) && decide (t ≤ 1152921504606846976)) = true) := Lib.hid (by simpa using hT)
  have HT := Lib.hid hT
  obtain ⟨W0, hW0⟩ : ∃ W0, w.alloc (.cells #[.int .i64 6, .int .i64 a, .int .i64 b, .int .i64 agg] 23) = W0 := ⟨_, rfl⟩
  have s0 : W0.heap.size = w.heap.size + 1 := by rw [← hW0]; simp
  have B0 : Below w.heap.size w W0 := by rw [← hW0]; exact (Below.refl _ _).alloc (Nat.le_refl _) _
  have O0 : OpAt W0 w.heap.size ⟨6, a, b, agg⟩ := by rw [← hW0]; exact opAt_new w ⟨6, a, b, agg⟩ 23
  have HO := Lib.hid O0
  have HB := Lib.hid B0
  have HL : Hid ([(t, t + a)] = [(t, t + a)]) := Lib.hid rfl
  obtain ⟨b0, b1, b2, b3⟩ := O0
  dsimp only at b0 b1 b2 b3
  clear ok hT B0
  go_enter Try.func10, Try.ntmps10
  go_wp2_with (first
    | (go_at_call 21
       (with_reducible refine (check_any ⟨6, a, b, agg⟩ _).mono ?_)
       rw [HC.out]
       rintro e w1 ⟨rfl, hb1⟩
       obtain ⟨c0, c1, c2, c3⟩ := HO.out.same (W' := w1) (hb1.block _ (by omega))
       dsimp only at c0 c1 c2 c3
       have HB1 := Lib.hid hb1
       clear hb1)
    | (go_at_call 22
       (with_reducible refine (class_any ⟨6, a, b, agg⟩ _).mono ?_)
       rw [show (kindRow (OpD.mk 6 a b agg).kind).1 = 1 from HK.out]
       rintro e w2 ⟨rfl, hb2⟩
       obtain ⟨e0, e1, e2, e3⟩ := HO.out.same (W' := w2) ((hb2.block _ (by have := HB1.out.size; omega)).trans (HB1.out.block _ (by omega)))
       dsimp only at e0 e1 e2 e3
       have HB2 := Lib.hid (HB1.out.trans (hb2.mono HB1.out.size))
       clear hb2)
    | (go_at_call 23
       (with_reducible refine (time_any t _).mono ?_)
       rw [HD.out]
       rintro e w3 ⟨rfl, rfl⟩))
  rename World => wx
  go_region_with (first
    | (go_at_call 25
       (with_reducible refine (kinds_any ⟨6, a, b, agg⟩ t _).mono ?_)
       rintro e w5 ⟨rfl, hb5, hmap, hct, hop, hsz⟩
       have hl : (Instr.lookup 55 (.map (some (wx.heap.size + 1 + 1))) (.int .i64 6) false).run Try.prog w5 = .ok (.func (.func 40) #[] #[.pointer (some ⟨wx.heap.size + 1, 0, none⟩), .pointer (some ⟨wx.heap.size, 0, none⟩)]) w5 := look6 _ _ _ hmap
       have hbx : W0.heap.size ≤ wx.heap.size := HB2.out.size
       obtain ⟨d0, d1, d2, d3⟩ := HO.out.same (W' := w5) ((hb5.block _ (by first | omega | (simp; omega))).trans (HB2.out.block _ (by omega)))
       dsimp only at d0 d1 d2 d3
       have HG : Hid (Gives 40 #[.pointer (some ⟨wx.heap.size + 1, 0, none⟩), .pointer (some ⟨wx.heap.size, 0, none⟩)] ([(t, t + a)]) 1 w5) := Lib.hid (session_gives _ _ ⟨6, a, b, agg⟩ t w5 (by first | omega | (simp at hsz ⊢; omega)) (by first | omega | (simp at hsz ⊢; omega)) hct hop HT.out ha)
       have HB5 := Lib.hid hb5
       clear hb5 hmap hct hop)
    | (go_at_call 24
       (with_reducible refine (collect_any 40 _ _ _ _ HG.out (by omega) enter40).mono ?_)
       rintro e w6 ⟨v, rfl, hrow, hnil, hb6⟩))
  all_goals
    go_wp2
    go_ret
    have q := (Below.refl wx.heap.size wx).drew.trans HB5.out
    exact Row.from ⟨v, rfl, hrow, hnil, hb6⟩ (HB.out.trans ((HB2.out.trans (q.mono HB2.out.size)).mono (by omega)))

set_option maxRecDepth 100000 in
set_option maxHeartbeats 1600000 in
/-- The operator is not valid. -/
theorem of_bad (o : OpD) (t : Int) (ok : allowsM o = false) (w : World) : Calls Try.prog 10 #[o.val, .int .i64 t] w fun e w' => Row w [] e w' := by
  have HC : Hid (codeM o = 13) := Lib.hid (by unfold codeM; rw [if_neg (by simp [ok])])
  obtain ⟨W0, hW0⟩ : ∃ W0, w.alloc (.cells #[.int .i64 o.kind, .int .i64 o.a, .int .i64 o.b, .int .i64 o.agg] 23) = W0 := ⟨_, rfl⟩
  have s0 : W0.heap.size = w.heap.size + 1 := by rw [← hW0]; simp
  have B0 : Below w.heap.size w W0 := by rw [← hW0]; exact (Below.refl _ _).alloc (Nat.le_refl _) _
  have O0 : OpAt W0 w.heap.size o := by rw [← hW0]; exact opAt_new w o 23
  have HB := Lib.hid B0
  obtain ⟨b0, b1, b2, b3⟩ := O0
  clear ok B0
  unfold OpD.val
  go_enter Try.func10, Try.ntmps10
  go_wp2_with (go_at_call 21
               (with_reducible refine (check_any o _).mono ?_)
               rw [HC.out]
               rintro e w1 ⟨rfl, hb1⟩
               have HB1 := Lib.hid hb1
               clear hb1)
  go_ret
  exact Row.nil _ _ (HB.out.trans (HB1.out.mono (by omega)))

set_option maxRecDepth 100000 in
set_option maxHeartbeats 1600000 in
/-- The operator is of another class. -/
theorem of_other (o : OpD) (t : Int) (ok : allowsM o = true) (hk : (kindRow o.kind).1 ≠ 1) (w : World) : Calls Try.prog 10 #[o.val, .int .i64 t] w fun e w' => Row w [] e w' := by
  have HC : Hid (codeM o = 0) := Lib.hid (by unfold codeM; rw [if_pos ok])
  obtain ⟨c, hc⟩ : ∃ c, (kindRow o.kind).1 = c := ⟨_, rfl⟩
  have HK := Lib.hid hc
  rw [hc] at hk
  obtain ⟨W0, hW0⟩ : ∃ W0, w.alloc (.cells #[.int .i64 o.kind, .int .i64 o.a, .int .i64 o.b, .int .i64 o.agg] 23) = W0 := ⟨_, rfl⟩
  have s0 : W0.heap.size = w.heap.size + 1 := by rw [← hW0]; simp
  have B0 : Below w.heap.size w W0 := by rw [← hW0]; exact (Below.refl _ _).alloc (Nat.le_refl _) _
  have O0 : OpAt W0 w.heap.size o := by rw [← hW0]; exact opAt_new w o 23
  have HO := Lib.hid O0
  have HB := Lib.hid B0
  obtain ⟨b0, b1, b2, b3⟩ := O0
  clear ok B0 hc
  unfold OpD.val
  go_enter Try.func10, Try.ntmps10
  go_wp2_with (first
    | (go_at_call 21
       (with_reducible refine (check_any o _).mono ?_)
       rw [HC.out]
       rintro e w1 ⟨rfl, hb1⟩
       obtain ⟨c0, c1, c2, c3⟩ := HO.out.same (W' := w1) (hb1.block _ (by omega))
       have HB1 := Lib.hid hb1
       clear hb1)
    | (go_at_call 22
       (with_reducible refine (class_any o _).mono ?_)
       rw [HK.out]
       rintro e w2 ⟨rfl, hb2⟩
       have HB2 := Lib.hid (HB1.out.trans (hb2.mono HB1.out.size))
       clear hb2))
  go_ret
  exact Row.nil _ _ (HB.out.trans (HB2.out.mono (by omega)))

set_option maxRecDepth 100000 in
set_option maxHeartbeats 1600000 in
/-- What is asked of is out of all times. -/
theorem of_late (o : OpD) (t : Int) (ok : allowsM o = true) (hk : (kindRow o.kind).1 = 1) (hT : ¬ isT t) (w : World) : Calls Try.prog 10 #[o.val, .int .i64 t] w fun e w' => Row w [] e w' := by
  have HC : Hid (codeM o = 0) := Lib.hid (by unfold codeM; rw [if_pos ok])
  have HK := Lib.hid hk
  have HD : Hid ((decide (-1152921504606846976 ≤ t) && decide (t ≤ 1152921504606846976)) = false) := Lib.hid (by
    unfold isT at hT
    by_cases h1 : -1152921504606846976 ≤ t
    · have h2 : ¬ t ≤ 1152921504606846976 := fun h => hT ⟨h1, h⟩
      simp [h2]
    · simp [h1])
  obtain ⟨W0, hW0⟩ : ∃ W0, w.alloc (.cells #[.int .i64 o.kind, .int .i64 o.a, .int .i64 o.b, .int .i64 o.agg] 23) = W0 := ⟨_, rfl⟩
  have s0 : W0.heap.size = w.heap.size + 1 := by rw [← hW0]; simp
  have B0 : Below w.heap.size w W0 := by rw [← hW0]; exact (Below.refl _ _).alloc (Nat.le_refl _) _
  have O0 : OpAt W0 w.heap.size o := by rw [← hW0]; exact opAt_new w o 23
  have HO := Lib.hid O0
  have HB := Lib.hid B0
  obtain ⟨b0, b1, b2, b3⟩ := O0
  clear ok B0 hk hT
  unfold OpD.val
  go_enter Try.func10, Try.ntmps10
  go_wp2_with (first
    | (go_at_call 21
       (with_reducible refine (check_any o _).mono ?_)
       rw [HC.out]
       rintro e w1 ⟨rfl, hb1⟩
       obtain ⟨c0, c1, c2, c3⟩ := HO.out.same (W' := w1) (hb1.block _ (by omega))
       have HB1 := Lib.hid hb1
       clear hb1)
    | (go_at_call 22
       (with_reducible refine (class_any o _).mono ?_)
       rw [HK.out]
       rintro e w2 ⟨rfl, hb2⟩
       have HB2 := Lib.hid (HB1.out.trans (hb2.mono HB1.out.size))
       clear hb2)
    | (go_at_call 23
       (with_reducible refine (time_any t _).mono ?_)
       rw [HD.out]
       rintro e w3 ⟨rfl, rfl⟩))
  go_ret
  exact Row.nil _ _ (HB.out.trans (HB2.out.mono (by omega)))

theorem fits63 {a b : Int} (h : fitsM 63 a b = true) : (1 ≤ a ∧ a ≤ 1073741824) ∧ b = 0 := by simpa [fitsM] using h
theorem fits64 {a b : Int} (h : fitsM 64 a b = true) : (1 ≤ a ∧ a ≤ 1073741824) ∧ 1 ≤ b ∧ a.tmod b = 0 ∧ a.tdiv b ≤ 4 := by simpa [fitsM] using h
/-- A Slide's size is a multiple of its step. -/
theorem slide_q {a b : Int} (h : (1 ≤ a ∧ a ≤ 1073741824) ∧ 1 ≤ b ∧ a.tmod b = 0 ∧ a.tdiv b ≤ 4) : a = ((a.tdiv b).toNat : Int) * b ∧ (a.tdiv b).toNat ≤ 4 := by
  have h0 : 0 ≤ a.tdiv b := by
    rw [Int.tdiv_eq_ediv_of_nonneg (by omega)]
    exact Int.ediv_nonneg (by omega) (by omega)
  have h1 := Int.mul_tdiv_add_tmod a b
  rw [h.2.2.1, Int.add_zero, Int.mul_comm] at h1
  refine ⟨?_, by omega⟩
  rw [Int.toNat_of_nonneg h0]; exact h1.symm

theorem of_any (o : OpD) (t : Int) (w : World) : Calls Try.prog 10 #[o.val, .int .i64 t] w fun e w' => Row w (ofM o t) e w' := by
  cases ok : allowsM o with
  | false =>
    have h : ofM o t = [] := by unfold ofM; rw [if_neg (by simp [ok])]
    rw [h]; exact of_bad o t ok w
  | true =>
    by_cases hk : (kindRow o.kind).1 = 1
    · by_cases hT : isT t
      · have hm : ofM o t = (if o.kind = 6 then [(t, t + o.a)] else if o.kind = 5 then slideM (o.a.tdiv o.b).toNat t o.a o.b else [(flo t o.a, flo t o.a + o.a)]) := by
          unfold ofM; rw [if_pos ⟨ok, hk, hT⟩]
        have hf : fitsM (kindRow o.kind).2.2.1 o.a o.b = true := by
          unfold allowsM at ok
          simp only [Bool.and_eq_true] at ok
          exact ok.2
        rw [hm]
        obtain ⟨k, a, b, g⟩ := o
        dsimp only at hk hf ⊢
        have hk' : k = 4 ∨ k = 5 ∨ k = 6 := by
          unfold kindRow at hk
          repeat' split at hk
          all_goals first | omega | (exfalso; revert hk; decide)
        rcases hk' with rfl | rfl | rfl
        · have hf' := fits63 (a := a) (b := b) (by simpa [kindRow] using hf)
          rw [if_neg (by decide), if_neg (by decide)]
          exact of_4 a b g t ok hf'.1 hT w
        · have hf' := fits64 (a := a) (b := b) (by simpa [kindRow] using hf)
          have hq := slide_q hf'
          rw [if_neg (by decide), if_pos rfl]
          exact of_5 a b g t _ hf'.2.1 hq.1 hq.2 ok hf'.1 hT w
        · have hf' := fits63 (a := a) (b := b) (by simpa [kindRow] using hf)
          rw [if_pos rfl]
          exact of_6 a b g t ok hf'.1 hT w
      · have h : ofM o t = [] := by unfold ofM; rw [if_neg (fun h => hT h.2.2)]
        rw [h]; exact of_late o t ok hk hT w
    · have h : ofM o t = [] := by unfold ofM; rw [if_neg (fun h => hk h.2.1)]
      rw [h]; exact of_other o t ok hk w
end Go.Proofs.Yteiedknpmlemkaa
