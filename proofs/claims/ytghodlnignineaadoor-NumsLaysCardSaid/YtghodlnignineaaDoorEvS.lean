/-
  Promise P1.1, P1.4's law NumsShort: its walk.
-/
import Derived.Test.YtghodlnignineaaDoorEvZ
import Derived.Deep.RegionWith
import Derived.Laws.Cover1
import Derived.Deep.DeepCutAuto
namespace Go.Proofs.YtghodlnignineaaDoor
open Go Go.RowKit Go.Lib Go.Ev

def WK (w : World) (e : Ending) (w' : World) : Prop := e = .returned (.bool true) ∧ Below w.heap.size w w'

set_option maxRecDepth 100000 in
set_option maxHeartbeats 1000000 in
theorem short_walk (a b : Nat) (S T U V : ByteArray) (w : World) (W : Calls Tryd.prog 24 #[] w (WK w)) (KS : ∀ w, Calls Tryd.prog 25 #[.slice none 0 0, .int .u64 a] w (PS S w)) (KT : ∀ w, Calls Tryd.prog 25 #[.slice none 0 0, .int .u64 b] w (PS T w))
    (KU : ∀ w, Calls Tryd.prog 27 #[.slice none 0 0, .int .i64 (wrap64 a)] w (PS U w))
    (KV1 : wrap64 a < 0 → ∀ w, Calls Tryd.prog 25 #[.slice none 0 0, .int .u64 (IntKind.u64.wrap (2 * IntKind.u64.wrap (wrap64 (-wrap64 (wrap64 a + 1)))))] w (PS V w))
    (KV2 : 0 ≤ wrap64 a → ∀ w, Calls Tryd.prog 25 #[.slice none 0 0, .int .u64 (IntKind.u64.wrap (2 * IntKind.u64.wrap (wrap64 a)))] w (PS V w)) (huv : ((U.size : Int) == (V.size : Int)) = true)
    (s1 : 1 ≤ (S.size : Int)) (s2 : (S.size : Int) ≤ 10) (t1 : 1 ≤ (T.size : Int)) (t2 : (T.size : Int) ≤ 10) (hab : ((a : Int) == (b : Int)) = false) (hst : (S.toList == T.toList) = false)
    (hc : b < a ∨ (a < b ∧ S.size < T.size) ∨ (a < b ∧ ((S.size : Int) == (T.size : Int)) = true ∧ S.size ≤ T.size ∧ Op.bytesLess S.toList T.toList = true)) :
    Calls Tryd.prog 6 #[.int .u64 a, .int .u64 b] w (WK w) := by
  have HW := Lib.hid W; clear W
  have HS := Lib.hid KS; clear KS
  have HT := Lib.hid KT; clear KT
  have HU := Lib.hid KU; clear KU
  have HV1 := Lib.hid KV1; clear KV1
  have HV2 := Lib.hid KV2; clear KV2
  go_enter Tryd.func6, Tryd.ntmps6
  go_wp2_with (go_at_call 24
               (with_reducible refine HW.out.mono ?_)
               rintro e w1 ⟨rfl, hb1⟩)
  go_cut [5, 6] (fun s t wx => s = .string S ∧ t = .string T ∧ Below w.heap.size w wx)
  case first =>
    clear hc hab hst
    go_region_with (first
      | (go_at_call 25
         (with_reducible refine (HS.out _).mono ?_)
         rintro e w2 ⟨g2, c2, rfl, hs2, hb2⟩
         have hc2 := hs2.conv (c := c2)
         have HS2 := Lib.hid hs2
         have hbw2 : Below w.heap.size w w2 := hb1.drew.trans (hb2.mono hb1.size)
         clear hs2)
      | (go_at_call 25
         (with_reducible refine (HT.out _).mono ?_)
         rintro e w3 ⟨g3, c3, rfl, ht3, hb3⟩
         have hc3 := ht3.conv (c := c3)
         have hc23 := (HS2.out.below hb3).conv (c := c2)
         have hbw3 : Below w.heap.size w w3 := hbw2.trans (hb3.mono hbw2.size)
         clear ht3))
    all_goals
      go_wp2_with fail
      go_meet
      exact ⟨rfl, rfl, hbw3⟩
  case rest =>
    obtain ⟨rfl, rfl, hbw⟩ := hcut
    rcases hc with hlt | ⟨hlt, hsz⟩ | ⟨hlt, hsz, hle, hbl⟩
    all_goals
      go_wp2_with (first
        | (go_at_call 27
           (with_reducible refine (HU.out _).mono ?_)
           rintro e w4 ⟨g4, c4, rfl, hu4, hb4⟩
           have hbw4 : Below w.heap.size w w4 := hbw.trans (hb4.mono hbw.size)
           clear hu4 hb4)
        | (go_at_call 25
           (with_reducible refine ((HV1.out (by assumption)) _).mono ?_)
           rintro e w5 ⟨g5, c5, rfl, hu5, hb5⟩
           have hbw5 : Below w.heap.size w w5 := hbw4.trans (hb5.mono hbw4.size)
           clear hu5 hb5)
        | (go_at_call 25
           (with_reducible refine ((HV2.out (by assumption)) _).mono ?_)
           rintro e w5 ⟨g5, c5, rfl, hu5, hb5⟩
           have hbw5 : Below w.heap.size w w5 := hbw4.trans (hb5.mono hbw4.size)
           clear hu5 hb5))
    all_goals
      go_ret
      exact ⟨rfl, hbw5⟩
end Go.Proofs.YtghodlnignineaaDoor
