/-
  Numbers' bytes: the walks of P, PI, PBool, PText.
-/
import Derived.Test.YtpfeaekankkpiaaGreatDoorEvX
import Derived.Deep.Onto
namespace Go.Proofs.YtpfeaekankkpiaaGreatDoor
open Go Go.RowKit Go.Lib Go.Ev

/-- Bytes as cells. -/
def u8s (l : List Nat) : List Value := l.map fun c : Nat => Value.int .u8 (c : Int)
theorem u8s_one (l : List Nat) : ∀ u ∈ u8s l, u.oneCell' = true := by
  intro u hu
  simp only [u8s, List.mem_map] at hu
  obtain ⟨_, _, rfl⟩ := hu
  rfl
def Lays (w : World) (n : Nat) (xs : List Value) (l : List Nat) (e : Ending) (w' : World) : Prop :=
  ∃ v, e = .returned v ∧ w'.ownsRow w.heap.size 5 1 v (n + l.length) (xs ++ u8s l) ∧ Below w.heap.size w w'

theorem of_end_rd {N b : Nat} {B : Nat} {T : TypeId} {w w' : World} {e : Ending} (h : OfEnd N b B T w e w') : ∃ j, e = .returned (.slice (some ⟨b, j, none⟩) (enc N).length (enc N).length) ∧ (enc N).length ≤ 10 ∧ Rd w' w'.heap.size (some ⟨b, j, none⟩) (enc N).length (enc N).length (u8s (enc N)) ∧ Below B w w' := by
  obtain ⟨j, arr, rfl, hj, hb, hz, hd, hw⟩ := h
  have hl : (enc N).length = 10 - j := by
    have := congrArg List.length hd
    simp [hz] at this
    exact this.symm
  refine ⟨j, by rw [hl], by omega, ⟨by simp [u8s], (fun e => by cases e), ?_⟩, hw⟩
  rintro ad e
  cases e
  refine ⟨fun _ => hb.lt, fun i u hu => ?_⟩
  rw [add_lit]
  show w'.cell? ⟨b, j + i, none⟩ = some u
  rw [hb.cell]
  have : (arr.toList.drop j)[i]? = some u := by rw [hd]; exact hu
  rw [List.getElem?_drop] at this
  simpa using this

/-- A new block of ten bytes. -/
theorem of_new (N : Nat) (w : World) (hN : N < 18446744073709551616) :
    Calls Tryz.prog 95 #[.pointer (some ⟨w.heap.size, 0, none⟩), .int .u64 N] (w.alloc (.cells #[.int .u8 0, .int .u8 0, .int .u8 0, .int .u8 0, .int .u8 0, .int .u8 0, .int .u8 0, .int .u8 0, .int .u8 0, .int .u8 0] 186))
      (OfEnd N w.heap.size w.heap.size 186 (w.alloc (.cells #[.int .u8 0, .int .u8 0, .int .u8 0, .int .u8 0, .int .u8 0, .int .u8 0, .int .u8 0, .int .u8 0, .int .u8 0, .int .u8 0] 186))) :=
  of_any N w.heap.size w.heap.size 186 _ _ hN (heap_alloc_new w _) rfl (Nat.le_refl _)

set_option maxRecDepth 100000 in
set_option maxHeartbeats 800000 in
theorem P_any (A : Option Addr) (n c : Nat) (xs : List Value) (N : Nat) (w : World) (h1 : Rd w w.heap.size A n c xs) (o1 : ∀ u ∈ xs, u.oneCell' = true) (hN : N < 18446744073709551616) (hm : n ≤ 140737488355000) :
    Calls Tryz.prog 91 #[.slice A n c, .int .u64 N] w (Lays w n xs (enc N)) := by
  have H1 := Lib.hid h1; clear h1
  have O1 := Lib.hid o1; clear o1
  have HN := Lib.hid hN; clear hN
  go_enter Tryz.func91, Tryz.ntmps91
  go_wp2_with (first
    | (go_at_call 95
       (with_reducible refine (of_new N w HN.out).mono ?_)
       intro e w1 hE
       obtain ⟨j, rfl, hl, hr, hb1⟩ := of_end_rd hE
       have hbw : Below w.heap.size w w1 := ((Below.refl _ _).alloc (Nat.le_refl _) _).trans hb1
       have hA : Rd w1 w1.heap.size A n c xs := (H1.out.below hbw).mono hbw.size
       have HR1 := Lib.hid hr
       have HA := Lib.hid hA
       clear hr hE hb1 hA)
    | (go_at_call 94
       have hsz : n + (enc N).length + (⟨#[]⟩ : ByteArray).size ≤ 140737488355328 := by show n + (enc N).length + 0 ≤ _; omega
       (with_reducible refine (after_any A _ n _ c _ xs _ ⟨#[]⟩ w1 HA.out HR1.out O1.out (u8s_one _) hsz).mono ?_)
       clear hsz
       rintro e w2 ⟨v2, rfl, hown, hb2⟩
       have HO := Lib.hid hown
       have hbw2 : Below w.heap.size w w2 := hbw.trans (hb2.mono hbw.size)
       clear hown hb2))
  go_ret
  exact ⟨v2, rfl, by simpa [strCells, show (⟨#[]⟩ : ByteArray).size = 0 from rfl] using (HO.out.mono hbw.size), hbw2⟩

/-- The number of a whole number. -/
def zz (N : Int) : Nat := if 0 ≤ N then 2 * N.toNat else 2 * (-(N + 1)).toNat + 1
theorem xor_ones (a : Nat) (h : a < 18446744073709551616) : a ^^^ 18446744073709551615 = 18446744073709551615 - a := by
  have h1 : (BitVec.ofNat 64 a ^^^ BitVec.allOnes 64).toNat = a ^^^ 18446744073709551615 := by
    rw [BitVec.toNat_xor, BitVec.toNat_ofNat, BitVec.toNat_allOnes, Nat.mod_eq_of_lt (by omega)]
  rw [← h1, BitVec.xor_allOnes, BitVec.toNat_not, BitVec.toNat_ofNat, Nat.mod_eq_of_lt (by omega)]
theorem zz_lt {N : Int} (h1 : -9223372036854775808 ≤ N) (h2 : N < 9223372036854775808) : zz N < 18446744073709551616 := by
  unfold zz
  split <;> omega
theorem zz_bits {N : Int} (h1 : -9223372036854775808 ≤ N) (h2 : N < 9223372036854775808) :
    bits .xor .u64 (IntKind.u64.wrap (IntKind.u64.wrap N * 2)) (IntKind.u64.wrap (N / 9223372036854775808)) = (zz N : Int) := by
  rw [IntKind.wrap_u64, IntKind.wrap_u64, IntKind.wrap_u64]
  by_cases h : 0 ≤ N
  · have e1 : N % 18446744073709551616 * 2 % 18446744073709551616 = ((2 * N.toNat : Nat) : Int) := by omega
    have e2 : N / 9223372036854775808 % 18446744073709551616 = ((0 : Nat) : Int) := by omega
    rw [e1, e2, bits_xor_u64_nat _ _ (by omega) (by omega), Nat.xor_zero, zz, if_pos h]
  · have e1 : N % 18446744073709551616 * 2 % 18446744073709551616 = (((2 * N + 18446744073709551616).toNat : Nat) : Int) := by omega
    have e2 : N / 9223372036854775808 % 18446744073709551616 = ((18446744073709551615 : Nat) : Int) := by omega
    rw [e1, e2, bits_xor_u64_nat _ _ (by omega) (by omega), xor_ones _ (by omega), zz, if_neg h]
    omega

set_option maxRecDepth 100000 in
set_option maxHeartbeats 800000 in
theorem PI_any (A : Option Addr) (n c : Nat) (xs : List Value) (N : Int) (w : World) (h1 : Rd w w.heap.size A n c xs) (o1 : ∀ u ∈ xs, u.oneCell' = true) (l1 : -9223372036854775808 ≤ N) (l2 : N < 9223372036854775808) (hm : n ≤ 140737488355000) :
    Calls Tryz.prog 92 #[.slice A n c, .int .i64 N] w (Lays w n xs (enc (zz N))) := by
  have K := Lib.hid (P_any A n c xs (zz N) w h1 o1 (zz_lt l1 l2) hm)
  have HZ := Lib.hid (zz_bits l1 l2)
  clear l1 l2 h1 o1
  go_enter Tryz.func92, Tryz.ntmps92
  go_wp2_with (go_at_call 91
               rw [HZ.out]
               (with_reducible refine K.out.mono ?_)
               rintro e w1 ⟨v, rfl, hown, hb⟩
               have HO := Lib.hid hown
               clear hown)
  go_ret
  exact ⟨v, rfl, HO.out, hb⟩

set_option maxRecDepth 100000 in
set_option maxHeartbeats 800000 in
theorem PBool_any (A : Option Addr) (n c : Nat) (xs : List Value) (b : Bool) (w : World) (h1 : Rd w w.heap.size A n c xs) (o1 : ∀ u ∈ xs, u.oneCell' = true) (hm : n ≤ 140737488355000) :
    Calls Tryz.prog 93 #[.slice A n c, .bool b] w (Lays w n xs (enc (if b then 1 else 0))) := by
  have K1 := Lib.hid (P_any A n c xs 1 w h1 o1 (by omega) hm)
  have K0 := Lib.hid (P_any A n c xs 0 w h1 o1 (by omega) hm)
  clear h1 o1
  cases b
  all_goals
    go_enter Tryz.func93, Tryz.ntmps93
    go_wp2_with (go_at_call 91
                 (first | refine K1.out.mono ?_ | refine K0.out.mono ?_)
                 rintro e w1 ⟨v, rfl, hown, hb⟩
                 have HO := Lib.hid hown
                 clear hown)
    go_ret
    exact ⟨v, rfl, HO.out, hb⟩
end Go.Proofs.YtpfeaekankkpiaaGreatDoor
