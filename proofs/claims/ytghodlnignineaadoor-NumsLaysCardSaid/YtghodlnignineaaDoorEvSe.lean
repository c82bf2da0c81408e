/-
  Promise P1.1, P1.4's law NumsShort: its walk where both numbers are the same.
-/
import Derived.Test.YtghodlnignineaaDoorEvS
namespace Go.Proofs.YtghodlnignineaaDoor
open Go Go.RowKit Go.Lib Go.Ev

set_option maxRecDepth 100000 in
set_option maxHeartbeats 1000000 in
theorem short_walk_eq (a : Nat) (S U V : ByteArray) (w : World) (W : Calls Tryd.prog 24 #[] w (WK w)) (KS : ∀ w, Calls Tryd.prog 25 #[.slice none 0 0, .int .u64 a] w (PS S w))
    (KU : ∀ w, Calls Tryd.prog 27 #[.slice none 0 0, .int .i64 (wrap64 a)] w (PS U w))
    (KV1 : wrap64 a < 0 → ∀ w, Calls Tryd.prog 25 #[.slice none 0 0, .int .u64 (IntKind.u64.wrap (2 * IntKind.u64.wrap (wrap64 (-wrap64 (wrap64 a + 1)))))] w (PS V w))
    (KV2 : 0 ≤ wrap64 a → ∀ w, Calls Tryd.prog 25 #[.slice none 0 0, .int .u64 (IntKind.u64.wrap (2 * IntKind.u64.wrap (wrap64 a)))] w (PS V w)) (huv : ((U.size : Int) == (V.size : Int)) = true)
    (s1 : 1 ≤ (S.size : Int)) (s2 : (S.size : Int) ≤ 10) :
    Calls Tryd.prog 6 #[.int .u64 a, .int .u64 a] w (WK w) := by
  have HW := Lib.hid W; clear W
  have HS := Lib.hid KS; clear KS
  have HU := Lib.hid KU; clear KU
  have HV1 := Lib.hid KV1; clear KV1
  have HV2 := Lib.hid KV2; clear KV2
  go_enter Tryd.func6, Tryd.ntmps6
  go_wp2_with (go_at_call 24
               (with_reducible refine HW.out.mono ?_)
               rintro e w1 ⟨rfl, hb1⟩)
  go_cut [5, 6] (fun s t wx => s = .string S ∧ t = .string S ∧ Below w.heap.size w wx)
  case first =>
    go_region_with (first
      | (go_at_call 25
         have _hno := hbw2
         (with_reducible refine (HS.out _).mono ?_)
         rintro e w3 ⟨g3, c3, rfl, ht3, hb3⟩
         have hc3 := ht3.conv (c := c3)
         have hc23 := (HS2.out.below hb3).conv (c := c2)
         have hbw3 : Below w.heap.size w w3 := hbw2.trans (hb3.mono hbw2.size)
         clear ht3)
      | (go_at_call 25
         (with_reducible refine (HS.out _).mono ?_)
         rintro e w2 ⟨g2, c2, rfl, hs2, hb2⟩
         have hc2 := hs2.conv (c := c2)
         have HS2 := Lib.hid hs2
         have hbw2 : Below w.heap.size w w2 := hb1.drew.trans (hb2.mono hb1.size)
         clear hs2))
    all_goals
      go_wp2_with fail
      go_meet
      exact ⟨rfl, rfl, hbw3⟩
  case rest =>
    obtain ⟨rfl, rfl, hbw⟩ := hcut
    all_goals
      go_wp2_with (first
        | (go_at_call 27
           (with_reducible refine (HU.out _).mono ?_)
           rintro e w4 ⟨g4, c4, rfl, hu4, hb4⟩
           have hbw4 : Below w.heap.size w w4 := hbw.trans (hb4.mono hbw.size)
           clear hu4 hb4)
        | (go_at_call 25
           (with_reducible refine ((HV1.out (by assumption)) _).mono ?_)
           rintro e w5 ⟨g5, c5, rfl, hu5, hb5⟩
           have hbw5 : Below w.heap.size w w5 := hbw4.trans (hb5.mono hbw4.size)
           clear hu5 hb5)
        | (go_at_call 25
           (with_reducible refine ((HV2.out (by assumption)) _).mono ?_)
           rintro e w5 ⟨g5, c5, rfl, hu5, hb5⟩
           have hbw5 : Below w.heap.size w w5 := hbw4.trans (hb5.mono hbw4.size)
           clear hu5 hb5))
    all_goals
      go_ret
      exact ⟨rfl, hbw5⟩

theorem enc_len_eq {m n : Nat} (h : m / 128 = n / 128) : (enc m).length = (enc n).length := by
  unfold enc
  rw [h]; simp
theorem wrap_u64_nat {n : Int} (m : Nat) (h : n = m) (hm : m < 18446744073709551616) : IntKind.u64.wrap n = (m : Int) := by
  rw [IntKind.wrap_u64]; omega
theorem wrap64_eq (n : Int) : wrap64 n = (n + 9223372036854775808) % 18446744073709551616 - 9223372036854775808 := by unfold wrap64; rfl

/-- The number of the absolute value, as the law has it. -/
def mm (n : Int) : Nat := if 0 ≤ n then n.toNat else (-(n + 1)).toNat
theorem mm_lt {n : Int} (h1 : -9223372036854775808 ≤ n) (h2 : n < 9223372036854775808) : 2 * mm n < 18446744073709551616 := by
  unfold mm; split <;> omega
theorem mm_neg {n : Int} (h1 : -9223372036854775808 ≤ n) (h : n < 0) : IntKind.u64.wrap (2 * IntKind.u64.wrap (wrap64 (-wrap64 (n + 1)))) = ((2 * mm n : Nat) : Int) := by
  have e1 : wrap64 (n + 1) = n + 1 := by rw [wrap64_eq]; omega
  have e2 : wrap64 (-(n + 1)) = ((mm n : Nat) : Int) := by rw [wrap64_eq]; unfold mm; rw [if_neg (by omega)]; omega
  have hm : mm n < 9223372036854775808 := by unfold mm; rw [if_neg (by omega)]; omega
  rw [e1, e2, wrap_u64_nat (mm n) rfl (by omega), wrap_u64_nat (2 * mm n) (by omega) (by omega)]
theorem mm_pos {n : Int} (h2 : n < 9223372036854775808) (h : 0 ≤ n) : IntKind.u64.wrap (2 * IntKind.u64.wrap n) = ((2 * mm n : Nat) : Int) := by
  have hm : n = ((mm n : Nat) : Int) := by unfold mm; rw [if_pos h]; omega
  have hl : mm n < 9223372036854775808 := by omega
  rw [wrap_u64_nat (mm n) hm (by omega), wrap_u64_nat (2 * mm n) (by omega) (by omega)]
theorem mm_size (n : Int) : (sb (enc (zz n))).size = (sb (enc (2 * mm n))).size := by
  rw [sb_size, sb_size]
  apply enc_len_eq
  unfold zz mm
  split <;> omega

/-- How many bytes: as many as of twice the number. -/
theorem short_any (a b : Nat) (w : World) (W : Calls Tryd.prog 24 #[] w (WK w)) (ha : a < 18446744073709551616) (hb : b < 18446744073709551616) :
    Calls Tryd.prog 6 #[.int .u64 a, .int .u64 b] w (WK w) := by
  have e := wrap64_eq a
  have r1 : -9223372036854775808 ≤ wrap64 a := by omega
  have r2 : wrap64 a < 9223372036854775808 := by omega
  clear e
  have KU : ∀ w, Calls Tryd.prog 27 #[.slice none 0 0, .int .i64 (wrap64 a)] w (PS (sb (enc (zz (wrap64 a)))) w) := fun w => PI_nil r1 r2 w
  have KV1 : wrap64 a < 0 → ∀ w, Calls Tryd.prog 25 #[.slice none 0 0, .int .u64 (IntKind.u64.wrap (2 * IntKind.u64.wrap (wrap64 (-wrap64 (wrap64 a + 1)))))] w (PS (sb (enc (2 * mm (wrap64 a)))) w) := fun h w => by
    rw [mm_neg r1 h]; exact P_nil (mm_lt r1 r2) w
  have KV2 : 0 ≤ wrap64 a → ∀ w, Calls Tryd.prog 25 #[.slice none 0 0, .int .u64 (IntKind.u64.wrap (2 * IntKind.u64.wrap (wrap64 a)))] w (PS (sb (enc (2 * mm (wrap64 a)))) w) := fun h w => by
    rw [mm_pos r2 h]; exact P_nil (mm_lt r1 r2) w
  have huv : (((sb (enc (zz (wrap64 a)))).size : Int) == ((sb (enc (2 * mm (wrap64 a)))).size : Int)) = true := by rw [mm_size]; simp
  have hs := enc_len ha
  have ht := enc_len hb
  rw [← sb_size] at hs ht
  by_cases hab : a = b
  · subst hab
    exact short_walk_eq a _ _ _ w W (P_nil ha) KU KV1 KV2 huv (by omega) (by omega)
  · refine short_walk a b _ (sb (enc b)) _ _ w W (P_nil ha) (P_nil hb) KU KV1 KV2 huv (by omega) (by omega) (by omega) (by omega) (by simp; omega) ?_ ?_
    · rcases Nat.lt_or_ge a b with h | h
      · exact (enc_text h).1
      · have := (enc_text (show b < a by omega)).1
        rw [beq_eq_false_iff_ne] at this ⊢
        exact fun e => this e.symm
    · rcases Nat.lt_or_ge a b with h | h
      · rcases (enc_text h).2 with h1 | ⟨h1, h2⟩
        · exact .inr (.inl ⟨h, h1⟩)
        · exact .inr (.inr ⟨h, by rw [h1]; simp, by omega, h2⟩)
      · exact .inl (by omega)
end Go.Proofs.YtghodlnignineaaDoor
