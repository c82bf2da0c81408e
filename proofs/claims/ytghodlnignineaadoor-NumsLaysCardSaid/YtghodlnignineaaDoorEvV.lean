/-
  Numbers' bytes, as the reference has them: the walks of anabranchref01.Int, Truth, Text.
-/
import Derived.Test.YtghodlnignineaaDoorEvU
import Derived.Test.YtghodlnignineaaDoorEvSe
namespace Go.Proofs.YtghodlnignineaaDoor
open Go Go.RowKit Go.Lib Go.Ev

theorem zz_odd {n : Int} (h1 : -9223372036854775808 ≤ n) (h : n < 0) : IntKind.u64.wrap (IntKind.u64.wrap (2 * IntKind.u64.wrap (wrap64 (-wrap64 (n + 1)))) + 1) = ((zz n : Nat) : Int) := by
  rw [mm_neg h1 h, wrap_u64_nat (zz n) ?_ (zz_lt h1 (by omega))]
  unfold mm zz
  rw [if_neg (by omega), if_neg (by omega)]
  omega
theorem zz_even {n : Int} (h2 : n < 9223372036854775808) (h : 0 ≤ n) : IntKind.u64.wrap (2 * IntKind.u64.wrap n) = ((zz n : Nat) : Int) := by
  rw [mm_pos h2 h]
  unfold mm zz
  rw [if_pos h, if_pos h]

set_option maxRecDepth 100000 in
set_option maxHeartbeats 800000 in
theorem Int_any (n : Int) (l1 : -9223372036854775808 ≤ n) (l2 : n < 9223372036854775808) (w : World) : Calls Tryd.prog 28 #[.int .i64 n] w (SB (sb (enc (zz n))) w) := by
  have K := Lib.hid (Num_any (zz n) (zz_lt l1 l2) w)
  by_cases h : 0 ≤ n
  · have HZ := Lib.hid (zz_even l2 h)
    clear l1 l2
    go_enter Tryd.func28, Tryd.ntmps28
    go_wp2_with (go_at_call 26
                 rw [HZ.out]
                 (with_reducible refine K.out.mono ?_)
                 rintro e w1 ⟨rfl, hb⟩)
    go_ret
    exact ⟨rfl, hb⟩
  · have hn : n < 0 := by omega
    have HZ := Lib.hid (zz_odd l1 hn)
    clear l1 l2 h
    go_enter Tryd.func28, Tryd.ntmps28
    go_wp2_with (go_at_call 26
                 rw [HZ.out]
                 (with_reducible refine K.out.mono ?_)
                 rintro e w1 ⟨rfl, hb⟩)
    go_ret
    exact ⟨rfl, hb⟩

theorem Truth_any (b : Bool) (w : World) : Calls Tryd.prog 30 #[.bool b] w (SB (sb (enc (if b then 1 else 0))) w) := by
  cases b
  all_goals
    go_enter Tryd.func30, Tryd.ntmps30
    go_wp2
    go_ret
    exact ⟨rfl, Below.refl _ _⟩

set_option maxRecDepth 100000 in
set_option maxHeartbeats 800000 in
theorem Text_any (s : ByteArray) (hs : s.size ≤ 1000) (w : World) : Calls Tryd.prog 32 #[.string s] w (SB (sb (enc s.size) ++ s) w) := by
  have K := Lib.hid (Num_any s.size (by omega) w)
  have HW : Hid (IntKind.u64.wrap (s.size : Int) = ((s.size : Nat) : Int)) := Lib.hid (by rw [IntKind.wrap_u64]; omega)
  have hl : (sb (enc s.size)).size ≤ 10 := by rw [sb_size]; exact (enc_len (by omega)).2
  go_enter Tryd.func32, Tryd.ntmps32
  go_wp2_with (go_at_call 26
               (try rw [HW.out])
               (with_reducible refine K.out.mono ?_)
               rintro e w1 ⟨rfl, hb⟩)
  go_ret
  exact ⟨rfl, hb⟩
end Go.Proofs.YtghodlnignineaaDoor
