/-
  Frames: the walks of the closures of the program's measured.
-/
import Derived.Test.YtoknpadkkokbgaaFa
import Derived.Laws.EntriesVeiled
namespace Go.Proofs.Ytoknpadkkokbgaa
open Go Go.RowKit Go.Lib

def QB (b : Bool) (w : World) (e : Ending) (w' : World) : Prop := e = .returned (.bool b) ∧ ∃ n, w' = w.drewN n
def QI (k : Int) (w : World) (e : Ending) (w' : World) : Prop := e = .returned (.int .i64 k) ∧ ∃ n, w' = w.drewN n
theorem or_i64_nat (a b : Nat) (ha : a < 9223372036854775808) (hb : b < 9223372036854775808) : bits .or .i64 (a : Int) (b : Int) = ((a ||| b : Nat) : Int) := by
  have hx : a ||| b < 2 ^ 63 := Nat.or_lt_two_pow (by omega) (by omega)
  have h1 : (BitVec.ofInt 64 (a : Int)).toNat = a := by
    rw [BitVec.ofInt_natCast, BitVec.toNat_ofNat]; exact Nat.mod_eq_of_lt (by omega)
  have h2 : (BitVec.ofInt 64 (b : Int)).toNat = b := by
    rw [BitVec.ofInt_natCast, BitVec.toNat_ofNat]; exact Nat.mod_eq_of_lt (by omega)
  show IntKind.i64.wrap ((BitVec.ofInt 64 (a : Int) ||| BitVec.ofInt 64 (b : Int)).toNat : Int) = _
  rw [BitVec.toNat_or, h1, h2]
  exact IntWalk.i64_in _ (by omega)
theorem or_len3 {x y z : Nat} (hx : x < 256) (hy : y < 256) (hz : z < 256) : bits .or .i64 (bits .or .i64 ((x : Int) * 65536) ((y : Int) * 256)) (z : Int) = ((x * 65536 + y * 256 + z : Nat) : Int) := by
  have e1 : bits .or .i64 ((x : Int) * 65536) ((y : Int) * 256) = ((x * 65536 + y * 256 : Nat) : Int) := by
    have h1 := or_i64_nat (x * 65536) (y * 256) (by omega) (by omega)
    rw [nat_join 16 (x * 65536) (y * 256) (by omega) (by omega)] at h1
    rw [← h1]
    simp
  rw [e1, or_i64_nat _ _ (by omega) (by omega), nat_join 8 (x * 65536 + y * 256) z (by omega) (by omega)]

set_option maxRecDepth 100000 in
set_option maxHeartbeats 1600000 in
theorem size_any (bs ba : Nat) (s : ByteArray) (k : Nat) (w : World) (hs : s.size ≤ 140737488355328) (cs : w.cell? ⟨bs, 0, none⟩ = some (.string s)) (ca : w.cell? ⟨ba, 0, none⟩ = some (.int .i64 k)) (hk : k + 4 ≤ s.size) :
    Calls Try.prog 21 #[.pointer (some ⟨bs, 0, none⟩), .pointer (some ⟨ba, 0, none⟩)] w (QI (len3 s k) w) := by
  have i1 : k + 1 < s.size := by omega
  have i2 : k + 2 < s.size := by omega
  have i3 : k + 3 < s.size := by omega
  have E1 := Lib.hid (bt_get s _ i1)
  have E2 := Lib.hid (bt_get s _ i2)
  have E3 := Lib.hid (bt_get s _ i3)
  have b1 := UInt8.toNat_lt s[k + 1]
  have b2 := UInt8.toNat_lt s[k + 2]
  have b3 := UInt8.toNat_lt s[k + 3]
  have W1 : IntKind.i64.wrap ((k : Int) + 1) = (k : Int) + 1 := IntWalk.i64_in _ (by omega)
  have W2 : IntKind.i64.wrap ((k : Int) + 2) = (k : Int) + 2 := IntWalk.i64_in _ (by omega)
  have W3 : IntKind.i64.wrap ((k : Int) + 3) = (k : Int) + 3 := IntWalk.i64_in _ (by omega)
  have p1 : (0 : Int) ≤ (k : Int) + 1 := by omega
  have p2 : (0 : Int) ≤ (k : Int) + 2 := by omega
  have p3 : (0 : Int) ≤ (k : Int) + 3 := by omega
  have n1 : ((k : Int) + 1).toNat = k + 1 := by omega
  have n2 : ((k : Int) + 2).toNat = k + 2 := by omega
  have n3 : ((k : Int) + 3).toNat = k + 3 := by omega
  have j1 : (k : Int) + 1 < (s.size : Int) := by omega
  have j2 : (k : Int) + 2 < (s.size : Int) := by omega
  have j3 : (k : Int) + 3 < (s.size : Int) := by omega
  go_enter Try.func21, Try.ntmps21
  go_wp2
  go_quiet (fail)
  go_wp2_with fail
  go_ret
  refine ⟨?_, _, rfl⟩
  have e := or_len3 b1 b2 b3
  unfold len3
  rw [← E1.out, ← E2.out, ← E3.out, ← e]
  rfl

set_option maxRecDepth 100000 in
set_option maxHeartbeats 800000 in
theorem c22 (bs ba : Nat) (s : ByteArray) (a : Int) (w : World) (cs : w.cell? ⟨bs, 0, none⟩ = some (.string s)) (ca : w.cell? ⟨ba, 0, none⟩ = some (.int .i64 a)) :
    Calls Try.prog 22 #[.pointer (some ⟨ba, 0, none⟩), .pointer (some ⟨bs, 0, none⟩)] w (QB (decide (a < 0 ∨ (s.size : Int) < a)) w) := by
  by_cases h1 : a < 0
  · have e : decide (a < 0 ∨ (s.size : Int) < a) = true := by simp [h1]
    rw [e]
    clear e
    go_enter Try.func22, Try.ntmps22
    go_wp2
    go_ret
    exact ⟨rfl, 0, rfl⟩
  · have e : decide (a < 0 ∨ (s.size : Int) < a) = decide ((s.size : Int) < a) := by simp [h1]
    rw [e]
    clear e
    go_enter Try.func22, Try.ntmps22
    go_wp2
    go_ret
    exact ⟨rfl, 0, rfl⟩
set_option maxRecDepth 100000 in
set_option maxHeartbeats 800000 in
theorem c23 (bl : Nat) (l : Int) (w : World) (cl : w.cell? ⟨bl, 0, none⟩ = some (.int .i64 l)) :
    Calls Try.prog 23 #[.pointer (some ⟨bl, 0, none⟩)] w (QB (l == 0) w) := by
  go_enter Try.func23, Try.ntmps23
  go_wp2
  go_ret
  exact ⟨rfl, 0, rfl⟩
set_option maxRecDepth 100000 in
set_option maxHeartbeats 800000 in
theorem c25 (bl : Nat) (l : Int) (w : World) (cl : w.cell? ⟨bl, 0, none⟩ = some (.int .i64 l)) :
    Calls Try.prog 25 #[.pointer (some ⟨bl, 0, none⟩)] w (QB (decide (l < 4)) w) := by
  go_enter Try.func25, Try.ntmps25
  go_wp2
  go_ret
  exact ⟨rfl, 0, rfl⟩
set_option maxRecDepth 100000 in
set_option maxHeartbeats 800000 in
theorem c24 (bs ba : Nat) (s : ByteArray) (k : Nat) (w : World) (cs : w.cell? ⟨bs, 0, none⟩ = some (.string s)) (ca : w.cell? ⟨ba, 0, none⟩ = some (.int .i64 k)) (h : k < s.size) :
    Calls Try.prog 24 #[.pointer (some ⟨bs, 0, none⟩), .pointer (some ⟨ba, 0, none⟩)] w (QB (decide (bt s k ≠ 165)) w) := by
  have E := Lib.hid (bt_get s k h)
  have hx : ∀ w : World, (Instr.index 9 (.string ⟨#[165]⟩) (.int .i64 0)).run Try.prog w = .ok (.int .u8 165) w := fun _ => by kernel_rfl
  have j1 : (k : Int) < (s.size : Int) := by omega
  go_enter Try.func24, Try.ntmps24
  go_wp2
  go_quiet (fail)
  go_wp2_with fail
  go_ret
  refine ⟨?_, _, rfl⟩
  have e : ((s[k].toNat : Int) != 165) = decide (bt s k ≠ 165) := by
    rw [E.out, Bool.eq_iff_iff]; simp; omega
  rw [← e]
  rfl

set_option maxRecDepth 100000 in
set_option maxHeartbeats 800000 in
theorem c26 (bs ba bz : Nat) (s : ByteArray) (k : Nat) (w : World) (hs : s.size ≤ 140737488355328) (cs : w.cell? ⟨bs, 0, none⟩ = some (.string s)) (ca : w.cell? ⟨ba, 0, none⟩ = some (.int .i64 k))
    (cz : w.cell? ⟨bz, 0, none⟩ = some (.func (.func 21) #[] #[.pointer (some ⟨bs, 0, none⟩), .pointer (some ⟨ba, 0, none⟩)])) (hk : k + 4 ≤ s.size) :
    Calls Try.prog 26 #[.pointer (some ⟨bz, 0, none⟩)] w (QB (decide (1048576 < len3 s k)) w) := by
  have K := Lib.hid (size_any bs ba s k w hs cs ca hk)
  go_enter Try.func26, Try.ntmps26
  go_wp2_with (go_at_call 21; (with_reducible refine K.out.mono ?_); rintro e w1 ⟨rfl, n, rfl⟩)
  go_ret
  refine ⟨?_, _, rfl⟩
  have e : decide ((1048576 : Int) < (len3 s k : Int)) = decide (1048576 < len3 s k) := by rw [decide_eq_decide]; omega
  rw [← e]
  rfl

set_option maxRecDepth 100000 in
set_option maxHeartbeats 800000 in
theorem c27 (bs ba bz bl : Nat) (s : ByteArray) (k : Nat) (l : Int) (w : World) (hs : s.size ≤ 140737488355328) (cs : w.cell? ⟨bs, 0, none⟩ = some (.string s)) (ca : w.cell? ⟨ba, 0, none⟩ = some (.int .i64 k))
    (cz : w.cell? ⟨bz, 0, none⟩ = some (.func (.func 21) #[] #[.pointer (some ⟨bs, 0, none⟩), .pointer (some ⟨ba, 0, none⟩)])) (cl : w.cell? ⟨bl, 0, none⟩ = some (.int .i64 l)) (hk : k + 4 ≤ s.size) :
    Calls Try.prog 27 #[.pointer (some ⟨bl, 0, none⟩), .pointer (some ⟨bz, 0, none⟩)] w (QB (decide (l < 5 + (len3 s k : Int))) w) := by
  have K : ∀ n, Calls Try.prog 21 #[.pointer (some ⟨bs, 0, none⟩), .pointer (some ⟨ba, 0, none⟩)] (w.drewN n) (QI (len3 s k) (w.drewN n)) := fun n => size_any bs ba s k (w.drewN n) hs (by simpa using cs) (by simpa using ca) hk
  have HK := Lib.hid K
  clear K
  have W1 : IntKind.i64.wrap (5 + (len3 s k : Int)) = 5 + (len3 s k : Int) := IntWalk.i64_in _ (by have := len3_lt s k; omega)
  go_enter Try.func27, Try.ntmps27
  go_wp2
  go_quiet ((go_at_call 21; exact (HK.out _).mono (fun e w' h => ⟨h.1, by obtain ⟨m, hm⟩ := h.2; exact ⟨_, hm.trans (World.drewN_drewN _ _ _)⟩⟩)))
  go_wp2_with fail
  go_ret
  exact ⟨rfl, _, rfl⟩

set_option maxRecDepth 100000 in
set_option maxHeartbeats 800000 in
theorem c28 (bs ba bz : Nat) (s : ByteArray) (k : Nat) (w : World) (hs : s.size ≤ 140737488355328) (cs : w.cell? ⟨bs, 0, none⟩ = some (.string s)) (ca : w.cell? ⟨ba, 0, none⟩ = some (.int .i64 k))
    (cz : w.cell? ⟨bz, 0, none⟩ = some (.func (.func 21) #[] #[.pointer (some ⟨bs, 0, none⟩), .pointer (some ⟨ba, 0, none⟩)])) (hk : k + len3 s k + 5 ≤ s.size) :
    Calls Try.prog 28 #[.pointer (some ⟨bs, 0, none⟩), .pointer (some ⟨ba, 0, none⟩), .pointer (some ⟨bz, 0, none⟩)] w (QB (decide (bt s (k + 4 + len3 s k) ≠ 90)) w) := by
  have K : ∀ n, Calls Try.prog 21 #[.pointer (some ⟨bs, 0, none⟩), .pointer (some ⟨ba, 0, none⟩)] (w.drewN n) (QI (len3 s k) (w.drewN n)) := fun n => size_any bs ba s k (w.drewN n) hs (by simpa using cs) (by simpa using ca) (by omega)
  have HK := Lib.hid K
  clear K
  have hl := len3_lt s k
  have E := Lib.hid (bt_get s (k + 4 + len3 s k) (by omega))
  have hx : ∀ w : World, (Instr.index 9 (.string ⟨#[90]⟩) (.int .i64 0)).run Try.prog w = .ok (.int .u8 90) w := fun _ => by kernel_rfl
  have W0 : IntKind.i64.wrap ((k : Int) + 4) = (k : Int) + 4 := IntWalk.i64_in _ (by omega)
  have W1 : IntKind.i64.wrap ((k : Int) + 4 + (len3 s k : Int)) = (k : Int) + 4 + (len3 s k : Int) := IntWalk.i64_in _ (by omega)
  have p1 : (0 : Int) ≤ (k : Int) + 4 + (len3 s k : Int) := by omega
  have n1 : ((k : Int) + 4 + (len3 s k : Int)).toNat = k + 4 + len3 s k := by omega
  have j1 : (k : Int) + 4 + (len3 s k : Int) < (s.size : Int) := by omega
  go_enter Try.func28, Try.ntmps28
  go_wp2
  go_quiet ((go_at_call 21; exact (HK.out _).mono (fun e w' h => ⟨h.1, by obtain ⟨m, hm⟩ := h.2; exact ⟨_, hm.trans (World.drewN_drewN _ _ _)⟩⟩)))
  go_wp2_with fail
  go_ret
  refine ⟨?_, _, rfl⟩
  have e : ((s[k + 4 + len3 s k].toNat : Int) != 90) = decide (bt s (k + 4 + len3 s k) ≠ 90) := by
    rw [E.out, Bool.eq_iff_iff]; simp; omega
  rw [← e]
  rfl
end Go.Proofs.Ytoknpadkkokbgaa
