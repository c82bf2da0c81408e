/-
  Frames: what is read of any bytes at a place, by definition; the walk of the document's Next.
-/
import Derived.Test.YtoknpadkkokbgaaShelf
import Derived.Test.YtoknpadkkokbgaaRows
import Derived.WalkKit
import Derived.ProofKit
import Derived.Below
import Derived.RowKit
import Derived.RowKitTokens
import Derived.Deep.Draws
import Derived.Deep.QuietTactic
import Derived.BigQuiet
import Derived.LoopTactic
import Derived.Deep.DeepCutAuto
import Derived.IntWalk
import Derived.Lib.Hide
namespace Go.Proofs.Ytoknpadkkokbgaa
open Go Go.RowKit Go.Lib

theorem below_drewN (B : Nat) (w : World) (n : Nat) : Below B w (w.drewN n) := by
  induction n with
  | zero => exact Below.refl _ _
  | succ n ih => exact ih.drew
/-- A byte of a text. -/
def bt (s : ByteArray) (i : Nat) : Nat := (s.data.toList.getD i 0).toNat
theorem bt_lt (s : ByteArray) (i : Nat) : bt s i < 256 := UInt8.toNat_lt _
theorem bt_get (s : ByteArray) (i : Nat) (h : i < s.size) : s[i].toNat = bt s i := by
  have : i < s.data.toList.length := by simpa using h
  unfold bt
  rw [List.getD_eq_getElem?_getD, List.getElem?_eq_getElem this]
  rfl
def len3 (s : ByteArray) (k : Nat) : Nat := bt s (k + 1) * 65536 + bt s (k + 2) * 256 + bt s (k + 3)
/-- What is wrong with the frame at a place (none: 0), P2.2. -/
def wrong (s : ByteArray) (a : Int) : Nat :=
  if a < 0 ∨ (s.size : Int) < a then 2
  else if a = s.size then 9
  else if bt s a.toNat ≠ 165 then 5
  else if s.size < a.toNat + 4 then 20
  else if 1048576 < len3 s a.toNat then 5
  else if s.size < a.toNat + len3 s a.toNat + 5 then 20
  else if bt s (a.toNat + 4 + len3 s a.toNat) ≠ 90 then 5
  else 0
def cutOf (s : ByteArray) (i n : Nat) : ByteArray := s.extract i (i + n)
def bodyOf (s : ByteArray) (a : Int) : ByteArray := if wrong s a = 0 then cutOf s (a.toNat + 4) (len3 s a.toNat) else ⟨#[]⟩
def nextOf (s : ByteArray) (a : Int) : Int := if wrong s a = 0 then a + 5 + len3 s a.toNat else a
def read (s : ByteArray) (a : Int) : Value := .tuple #[.string (bodyOf s a), .int .i64 (nextOf s a), .int .i64 (wrong s a)]

def Told (s : ByteArray) (a : Int) (w : World) (e : Ending) (w' : World) : Prop := e = .returned (read s a) ∧ Below w.heap.size w w'

set_option maxRecDepth 100000 in
set_option maxHeartbeats 800000 in
theorem ref_next_low (s : ByteArray) (a : Int) (w : World) (hs : s.size ≤ 140737488355328) (h : a < 0 ∨ (s.size : Int) < a) : Calls Try.prog 16 #[.string s, .int .i64 a] w (Told s a w) := by
  have e : wrong s a = 2 := by unfold wrong; rw [if_pos h]
  have hr : read s a = .tuple #[.string ⟨#[]⟩, .int .i64 a, .int .i64 2] := by simp [read, bodyOf, nextOf, e]
  have HR := Lib.hid hr
  clear e hr
  rcases h with h | h
  all_goals
    go_enter Try.func16, Try.ntmps16
    go_wp2
    go_ret3
    exact ⟨by rw [HR.out]; rfl, Below.refl _ _⟩


set_option maxRecDepth 100000 in
set_option maxHeartbeats 800000 in
theorem ref_next_end (s : ByteArray) (w : World) (hs : s.size ≤ 140737488355328) : Calls Try.prog 16 #[.string s, .int .i64 (s.size : Int)] w (Told s s.size w) := by
  have e : wrong s s.size = 9 := by unfold wrong; rw [if_neg (by omega), if_pos rfl]
  have hr : read s s.size = .tuple #[.string ⟨#[]⟩, .int .i64 s.size, .int .i64 9] := by simp [read, bodyOf, nextOf, e]
  have HR := Lib.hid hr
  clear e hr
  go_enter Try.func16, Try.ntmps16
  go_wp2
  go_ret3
  exact ⟨by rw [HR.out]; rfl, Below.refl _ _⟩

theorem wrong_in {s : ByteArray} {k : Nat} (h : k < s.size) : wrong s k = if bt s k ≠ 165 then 5 else if s.size < k + 4 then 20 else if 1048576 < len3 s k then 5 else if s.size < k + len3 s k + 5 then 20 else if bt s (k + 4 + len3 s k) ≠ 90 then 5 else 0 := by
  unfold wrong
  rw [if_neg (by omega), if_neg (by omega)]
  rfl
theorem read_bad {s : ByteArray} {k : Nat} {e : Nat} (h : wrong s k = e) (he : e ≠ 0) : read s k = .tuple #[.string ⟨#[]⟩, .int .i64 k, .int .i64 e] := by
  simp [read, bodyOf, nextOf, h, he]
theorem read_good {s : ByteArray} {k : Nat} (h : wrong s k = 0) : read s k = .tuple #[.string (cutOf s (k + 4) (len3 s k)), .int .i64 ((k : Int) + 5 + len3 s k), .int .i64 0] := by
  simp [read, bodyOf, nextOf, h]
theorem len3_lt (s : ByteArray) (k : Nat) : len3 s k < 16777216 := by
  have h1 := bt_lt s (k + 1)
  have h2 := bt_lt s (k + 2)
  have h3 := bt_lt s (k + 3)
  unfold len3
  omega

set_option maxRecDepth 100000 in
set_option maxHeartbeats 1600000 in
theorem ref_next_in (s : ByteArray) (k : Nat) (w : World) (hs : s.size ≤ 140737488355328) (h : k < s.size) : Calls Try.prog 16 #[.string s, .int .i64 k] w (Told s k w) := by
  have t1 : ((k : Int) == (s.size : Int)) = false := by simp; omega
  have hl3 := len3_lt s k
  go_enter Try.func16, Try.ntmps16
  go_upto_region 9 with (fail)
  · go_ret3
    have hx : ((s[k].toNat : Int) != 165) = true := by assumption
    have hx' : bt s k ≠ 165 := by rw [← bt_get s k h]; intro e; rw [e] at hx; simp at hx
    exact ⟨by rw [read_bad (e := 5) (by rw [wrong_in h, if_pos hx']) (by omega)]; rfl, Below.refl _ _⟩
  · go_ret3
    have hx : ((s[k].toNat : Int) != 165) = false := by assumption
    have hx' : ¬ bt s k ≠ 165 := by rw [← bt_get s k h]; intro e; simp at hx; omega
    exact ⟨by rw [read_bad (e := 20) (by rw [wrong_in h, if_neg hx', if_pos (by omega)]) (by omega)]; rfl, Below.refl _ _⟩
  have hx : ((s[k].toNat : Int) != 165) = false := by assumption
  have hx' : ¬ bt s k ≠ 165 := by rw [← bt_get s k h]; intro e; simp at hx; omega
  have hk4 : k + 4 ≤ s.size := by omega
  have HX := Lib.hid hx'
  clear hx' hx
  go_cut [7] (fun v wx => v = .int .i64 (len3 s k : Nat) ∧ ∃ n, wx = w.drewN n)
  case first =>
    have i1 : k + 1 < s.size := by omega
    have i2 : k + 2 < s.size := by omega
    have i3 : k + 3 < s.size := by omega
    have E1 := Lib.hid (bt_get s _ i1)
    have E2 := Lib.hid (bt_get s _ i2)
    have E3 := Lib.hid (bt_get s _ i3)
    have b1 := UInt8.toNat_lt s[k + 1]
    have b2 := UInt8.toNat_lt s[k + 2]
    have b3 := UInt8.toNat_lt s[k + 3]
    have W1 : IntKind.i64.wrap ((k : Int) + 1) = (k : Int) + 1 := IntWalk.i64_in _ (by omega)
    have W2 : IntKind.i64.wrap ((k : Int) + 2) = (k : Int) + 2 := IntWalk.i64_in _ (by omega)
    have W3 : IntKind.i64.wrap ((k : Int) + 3) = (k : Int) + 3 := IntWalk.i64_in _ (by omega)
    have p1 : (0 : Int) ≤ (k : Int) + 1 := by omega
    have p2 : (0 : Int) ≤ (k : Int) + 2 := by omega
    have p3 : (0 : Int) ≤ (k : Int) + 3 := by omega
    have n1 : ((k : Int) + 1).toNat = k + 1 := by omega
    have n2 : ((k : Int) + 2).toNat = k + 2 := by omega
    have n3 : ((k : Int) + 3).toNat = k + 3 := by omega
    have j1 : (k : Int) + 1 < (s.size : Int) := by omega
    have j2 : (k : Int) + 2 < (s.size : Int) := by omega
    have j3 : (k : Int) + 3 < (s.size : Int) := by omega
    go_quiet (fail)
    go_wp2_with fail
    go_meet
    refine ⟨?_, _, rfl⟩
    unfold len3
    rw [← E1.out, ← E2.out, ← E3.out]
    simp
  case rest =>
    clear hl3
    obtain ⟨rfl, n, rfl⟩ := hcut
    have hl3 := len3_lt s k
    by_cases c5 : 1048576 < len3 s k
    · go_wp2
      go_ret3
      exact ⟨by rw [read_bad (e := 5) (by rw [wrong_in h, if_neg HX.out, if_neg (by omega), if_pos c5]) (by omega)]; rfl, below_drewN _ _ _⟩
    by_cases c6 : s.size < k + len3 s k + 5
    · go_wp2
      go_ret3
      exact ⟨by rw [read_bad (e := 20) (by rw [wrong_in h, if_neg HX.out, if_neg (by omega), if_neg c5, if_pos c6]) (by omega)]; rfl, below_drewN _ _ _⟩
    have i4 : k + 4 + len3 s k < s.size := by omega
    have E4 := Lib.hid (bt_get s _ i4)
    by_cases c7 : bt s (k + 4 + len3 s k) ≠ 90
    · have t7 : ((s[k + 4 + len3 s k].toNat : Int) != 90) = true := by rw [E4.out]; simp; omega
      go_wp2
      go_ret3
      exact ⟨by rw [read_bad (e := 5) (by rw [wrong_in h, if_neg HX.out, if_neg (by omega), if_neg c5, if_neg c6, if_pos c7]) (by omega)]; rfl, below_drewN _ _ _⟩
    have t7 : ((s[k + 4 + len3 s k].toNat : Int) != 90) = false := by rw [E4.out]; simp; omega
    have q1 : (0 : Int) ≤ (k : Int) + 4 := by omega
    have q2 : (k : Int) + 4 ≤ (k : Int) + 4 + (len3 s k : Int) := by omega
    have q3 : (k : Int) + 4 + (len3 s k : Int) ≤ (s.size : Int) := by omega
    go_wp2
    go_ret3
    have c7' : ¬ bt s (k + 4 + len3 s k) ≠ 90 := c7
    exact ⟨by rw [read_good (by rw [wrong_in h, if_neg HX.out, if_neg (by omega), if_neg c5, if_neg c6, if_neg c7'])]; exact congrArg (fun z : Int => Ending.returned (.tuple #[.string (s.extract (k + 4) (k + 4 + len3 s k)), .int .i64 z, .int .i64 0])) (by omega), below_drewN _ _ _⟩

theorem ref_next_any (s : ByteArray) (a : Int) (w : World) (hs : s.size ≤ 140737488355328) : Calls Try.prog 16 #[.string s, .int .i64 a] w (Told s a w) := by
  by_cases h : a < 0 ∨ (s.size : Int) < a
  · exact ref_next_low s a w hs h
  · obtain ⟨k, rfl⟩ : ∃ k : Nat, a = k := ⟨a.toNat, by omega⟩
    rcases Nat.lt_or_ge k s.size with hk | hk
    · exact ref_next_in s k w hs hk
    · obtain rfl : k = s.size := by omega
      exact ref_next_end s w hs
end Go.Proofs.Ytoknpadkkokbgaa
