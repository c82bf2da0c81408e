/-
  Numbers' bytes, as the reference has them: the walks of anabranchref01.Int, Truth, Text.
-/
import Derived.Test.YtpfeaekankkpiaaGreatDoorEvU
namespace Go.Proofs.YtpfeaekankkpiaaGreatDoor
open Go Go.RowKit Go.Lib Go.Ev

theorem wrap_u64_nat {n : Int} (m : Nat) (h : n = m) (hm : m < 18446744073709551616) : IntKind.u64.wrap n = (m : Int) := by
  rw [IntKind.wrap_u64]; omega
theorem wrap64_eq (n : Int) : wrap64 n = (n + 9223372036854775808) % 18446744073709551616 - 9223372036854775808 := by unfold wrap64; rfl

/-- The number of the absolute value, as the law has it. -/
def mm (n : Int) : Nat := if 0 ≤ n then n.toNat else (-(n + 1)).toNat
theorem mm_lt {n : Int} (h1 : -9223372036854775808 ≤ n) (h2 : n < 9223372036854775808) : 2 * mm n < 18446744073709551616 := by
  unfold mm; split <;> omega
theorem mm_neg {n : Int} (h1 : -9223372036854775808 ≤ n) (h : n < 0) : IntKind.u64.wrap (2 * IntKind.u64.wrap (wrap64 (-wrap64 (n + 1)))) = ((2 * mm n : Nat) : Int) := by
  have e1 : wrap64 (n + 1) = n + 1 := by rw [wrap64_eq]; omega
  have e2 : wrap64 (-(n + 1)) = ((mm n : Nat) : Int) := by rw [wrap64_eq]; unfold mm; rw [if_neg (by omega)]; omega
  have hm : mm n < 9223372036854775808 := by unfold mm; rw [if_neg (by omega)]; omega
  rw [e1, e2, wrap_u64_nat (mm n) rfl (by omega), wrap_u64_nat (2 * mm n) (by omega) (by omega)]
theorem mm_pos {n : Int} (h2 : n < 9223372036854775808) (h : 0 ≤ n) : IntKind.u64.wrap (2 * IntKind.u64.wrap n) = ((2 * mm n : Nat) : Int) := by
  have hm : n = ((mm n : Nat) : Int) := by unfold mm; rw [if_pos h]; omega
  have hl : mm n < 9223372036854775808 := by omega
  rw [wrap_u64_nat (mm n) hm (by omega), wrap_u64_nat (2 * mm n) (by omega) (by omega)]
theorem zz_odd {n : Int} (h1 : -9223372036854775808 ≤ n) (h : n < 0) : IntKind.u64.wrap (IntKind.u64.wrap (2 * IntKind.u64.wrap (wrap64 (-wrap64 (n + 1)))) + 1) = ((zz n : Nat) : Int) := by
  rw [mm_neg h1 h, wrap_u64_nat (zz n) ?_ (zz_lt h1 (by omega))]
  unfold mm zz
  rw [if_neg (by omega), if_neg (by omega)]
  omega
theorem zz_even {n : Int} (h2 : n < 9223372036854775808) (h : 0 ≤ n) : IntKind.u64.wrap (2 * IntKind.u64.wrap n) = ((zz n : Nat) : Int) := by
  rw [mm_pos h2 h]
  unfold mm zz
  rw [if_pos h, if_pos h]

set_option maxRecDepth 100000 in
set_option maxHeartbeats 800000 in
theorem Int_any (n : Int) (l1 : -9223372036854775808 ≤ n) (l2 : n < 9223372036854775808) (w : World) : Calls Tryz.prog 25 #[.int .i64 n] w (SB (sb (enc (zz n))) w) := by
  have K := Lib.hid (Num_any (zz n) (zz_lt l1 l2) w)
  by_cases h : 0 ≤ n
  · have HZ := Lib.hid (zz_even l2 h)
    clear l1 l2
    go_enter Tryz.func25, Tryz.ntmps25
    go_wp2_with (go_at_call 31
                 rw [HZ.out]
                 (with_reducible refine K.out.mono ?_)
                 rintro e w1 ⟨rfl, hb⟩)
    go_ret
    exact ⟨rfl, hb⟩
  · have hn : n < 0 := by omega
    have HZ := Lib.hid (zz_odd l1 hn)
    clear l1 l2 h
    go_enter Tryz.func25, Tryz.ntmps25
    go_wp2_with (go_at_call 31
                 rw [HZ.out]
                 (with_reducible refine K.out.mono ?_)
                 rintro e w1 ⟨rfl, hb⟩)
    go_ret
    exact ⟨rfl, hb⟩

theorem Truth_any (b : Bool) (w : World) : Calls Tryz.prog 28 #[.bool b] w (SB (sb (enc (if b then 1 else 0))) w) := by
  cases b
  all_goals
    go_enter Tryz.func28, Tryz.ntmps28
    go_wp2
    go_ret
    exact ⟨rfl, Below.refl _ _⟩
end Go.Proofs.YtpfeaekankkpiaaGreatDoor
