/-
  Numbers' bytes: the digits of a number, and the walk of (*digits).of.
-/
import Derived.Test.YtpfeaekankkpiaaGreatDoorEvP
import Derived.WalkKit
import Derived.ProofKit
import Derived.Laws.BitsAllLaws
import Derived.Below
import Derived.Laws.OwnMore
import Derived.Deep.Draws
import Derived.Laws.Rows
import Derived.LoopTactic
import Derived.Lib.Hide
namespace Go.Proofs.YtpfeaekankkpiaaGreatDoor
open Go Go.RowKit

/-- The digits of a number ahead of its last one, each with its mark. -/
def hiG : Nat → Nat → List Nat
  | 0, _ => []
  | k + 1, m => if m = 0 then [] else hiG k (m / 128) ++ [m % 128 + 128]
def hi (m : Nat) : List Nat := hiG m m
def enc (n : Nat) : List Nat := hi (n / 128) ++ [n % 128]

theorem hiG_eq : ∀ (k k' m : Nat), m ≤ k → m ≤ k' → hiG k m = hiG k' m := by
  intro k
  induction k with
  | zero => intro k' m h h'
            obtain rfl : m = 0 := by omega
            cases k' <;> simp [hiG]
  | succ k ih => intro k' m h h'
                 cases k' with
                 | zero => obtain rfl : m = 0 := by omega
                           simp [hiG]
                 | succ k' =>
                   unfold hiG
                   split
                   · rfl
                   · rw [ih k' (m / 128) (by omega) (by omega)]
theorem hi_zero : hi 0 = [] := rfl
theorem hi_step {m : Nat} (h : m ≠ 0) : hi m = hi (m / 128) ++ [m % 128 + 128] := by
  unfold hi
  obtain ⟨k, rfl⟩ := Nat.exists_eq_succ_of_ne_zero h
  rw [hiG, if_neg h, hiG_eq k ((k + 1) / 128) _ (by omega) (by omega)]

def Blk (w : World) (g : Nat) (t : TypeId) (cs : Array Value) : Prop := w.heap[g]? = some (.cells cs t (0, 0))
theorem Blk.lt {w : World} {g : Nat} {t : TypeId} {cs : Array Value} (h : Blk w g t cs) : g < w.heap.size := by
  rcases Nat.lt_or_ge g w.heap.size with hlt | hge
  · exact hlt
  · unfold Blk at h; rw [Array.getElem?_eq_none hge] at h; cases h
theorem Blk.cell {w : World} {g : Nat} {t : TypeId} {cs : Array Value} (h : Blk w g t cs) (i : Nat) : w.cell? ⟨g, i, none⟩ = cs[i]? := cell_of_row w g i cs t (0, 0) h
theorem Blk.frozen {w : World} {g : Nat} {t : TypeId} {cs : Array Value} (h : Blk w g t cs) (i : Nat) : w.frozen? ⟨g, i, none⟩ = false := by
  unfold Blk at h
  simp [World.frozen?, h]
theorem Blk.set_ {w : World} {g : Nat} {t : TypeId} {cs : Array Value} (h : Blk w g t cs) (i : Nat) (u : Value) : Blk (w.setCell ⟨g, i, none⟩ u) g t (cs.setIfInBounds i u) := by
  unfold Blk at h ⊢
  simp [World.setCell, Array.getElem?_modify, h]

def OfRel (N b B : Nat) (T : TypeId) (w : World) (n at_ : Value) (wr : World) : Prop :=
  ∃ (m j : Nat) (cs : List Nat) (arr : Array Value), n = .int .u64 m ∧ at_ = .int .i64 j ∧ j ≤ 9 ∧ m < 128 ^ j ∧ hi m ++ cs = enc N ∧ Blk wr b T arr ∧ arr.size = 10 ∧ arr.toList.drop j = cs.map (fun c => .int .u8 (c : Int)) ∧ Below B w wr
def OfEnd (N b B : Nat) (T : TypeId) (w : World) (e : Ending) (wr : World) : Prop :=
  ∃ (j : Nat) (arr : Array Value), e = .returned (.slice (some ⟨b, j, none⟩) (10 - j) (10 - j)) ∧ j ≤ 9 ∧ Blk wr b T arr ∧ arr.size = 10 ∧ arr.toList.drop j = (enc N).map (fun c => .int .u8 (c : Int)) ∧ Below B w wr

theorem and127 (m : Nat) (h : m < 18446744073709551616) : bits .and .u64 (m : Int) 127 = ((m % 128 : Nat) : Int) := by
  have := u64_and_nat m 127 h (by omega)
  rw [nat_mask7] at this
  exact this
theorem or128 (m : Nat) (h : m < 128) : bits .or .u8 (m : Int) 128 = ((m + 128 : Nat) : Int) := by
  have := u8_or_nat m 128 (by omega) (by omega)
  rw [Nat.or_comm, nat_join 7 128 m (by decide) (by omega), Nat.add_comm] at this
  exact this
theorem pow_step {m j : Nat} (h : m < 128 ^ (j + 1)) : m / 128 < 128 ^ j := by
  rw [Nat.pow_succ] at h; omega
theorem OfRel.start {N b B : Nat} {T : TypeId} {w : World} {arr0 : Array Value} (hN : N < 18446744073709551616) (hb : Blk w b T arr0) (hz : arr0.size = 10) (hB : B ≤ b) :
    OfRel N b B T w (.int .u64 ((N : Int) / 128)) (.int .i64 9) (w.setCell ⟨b, 9, none⟩ (.int .u8 (bits .and .u64 (N : Int) 127 % 256))) := by
  refine ⟨N / 128, 9, [N % 128], _, by simp, rfl, by omega, by omega, rfl, hb.set_ 9 _, by simp [hz], ?_, (Below.refl _ _).setCell hB _⟩
  rw [and127 N hN]
  have : ((N % 128 : Nat) : Int) % 256 = ((N % 128 : Nat) : Int) := by omega
  rw [this, Array.toList_setIfInBounds]
  have hl : arr0.toList.length = 10 := by simp [hz]
  generalize arr0.toList = l at hl
  match l, hl with
  | [_, _, _, _, _, _, _, _, _, _], _ => simp
theorem drop_set {l : List Value} {j : Nat} (v : Value) (h : j < l.length) : (l.set j v).drop j = v :: l.drop (j + 1) := by
  rw [List.drop_eq_getElem_cons (by simpa using h)]
  simp [List.drop_set]
theorem OfRel.keep {N b B : Nat} {T : TypeId} {w wr : World} {m j : Nat} {cs : List Nat} {arr : Array Value} (hm0 : m ≠ 0) (hm : m < 18446744073709551616) (h : j + 1 ≤ 9) (hlt : m < 128 ^ (j + 1)) (he : hi m ++ cs = enc N)
    (hb : Blk wr b T arr) (hz : arr.size = 10) (hd : arr.toList.drop (j + 1) = cs.map (fun c => .int .u8 (c : Int))) (hB : B ≤ b) (hw : Below B w wr) :
    OfRel N b B T w (.int .u64 ((m : Int) / 128)) (.int .i64 (j : Int)) (wr.setCell ⟨b, j, none⟩ (.int .u8 (bits .or .u8 (bits .and .u64 (m : Int) 127 % 256) 128))) := by
  refine ⟨m / 128, j, (m % 128 + 128) :: cs, _, by simp, rfl, by omega, pow_step hlt, ?_, hb.set_ j _, by simp [hz], ?_, hw.setCell hB _⟩
  · rw [← he, hi_step hm0]; simp
  · rw [and127 m hm]
    have : ((m % 128 : Nat) : Int) % 256 = ((m % 128 : Nat) : Int) := by omega
    rw [this, or128 _ (by omega), Array.toList_setIfInBounds, drop_set _ (by simp [hz]; omega), hd]
    simp

set_option maxHeartbeats 800000 in
theorem of_any (N b B : Nat) (T : TypeId) (w : World) (arr0 : Array Value) (hN : N < 18446744073709551616) (hb : Blk w b T arr0) (hz : arr0.size = 10) (hB : B ≤ b) :
    Calls Tryz.prog 95 #[.pointer (some ⟨b, 0, none⟩), .int .u64 N] w (OfEnd N b B T w) := by
  have h9 : w.cell? ⟨b, 9, none⟩ = some arr0[9] := by rw [hb.cell]; simp [hz]
  have f9 : w.frozen? ⟨b, 9, none⟩ = false := hb.frozen 9
  have hst := OfRel.start hN hb hz hB
  go_enter Tryz.func95, Tryz.ntmps95
  go_wp2
  clear h9 f9
  go_loopw [1, 5] (fun n i wr => OfRel N b B T w n i wr) (fun n _ _ => (intOf n).toNat)
  case atStart => exact hst
  case round =>
    clear hst
    obtain ⟨m, j, cs, arr, rfl, rfl, hj, hm, he, hbk, hsz, hd, hbw⟩ := hrel
    have HM := Lib.hid hm; clear hm
    have HE := Lib.hid he; clear he
    have HD := Lib.hid hd; clear hd
    have HZ := Lib.hid hsz; clear hsz
    have HN := Lib.hid hN; clear hN
    have HB := Lib.hid hb; clear hb
    have HZ0 := Lib.hid hz; clear hz
    have HK := Lib.hid hbk; clear hbk
    by_cases hm0 : m = 0
    · subst hm0
      have jb : (j : Int) ≤ 10 := by omega
      go_wp2
      go_ret
      exact ⟨j, arr, rfl, hj, HK.out, HZ.out, by rw [HD.out, ← HE.out]; rfl, hbw⟩
    · have hj0 : j ≠ 0 := by rintro rfl; have := HM.out; simp at this; omega
      obtain ⟨j, rfl⟩ := Nat.exists_eq_succ_of_ne_zero hj0
      have t1 : (((m : Nat) : Int) != 0) = true := by simp; omega
      have t2 : (((m : Nat) : Int) == 0) = false := by simp; omega
      have c1 : wr.cell? ⟨b, j, none⟩ = some (arr[j]'(by have := HZ.out; omega)) := by rw [HK.out.cell]; simp
      have f1 : wr.frozen? ⟨b, j, none⟩ = false := HK.out.frozen j
      go_wp2
      go_roundw
      case rel => exact OfRel.keep hm0 (Nat.lt_of_lt_of_le HM.out (Nat.le_trans (Nat.pow_le_pow_right (by omega) hj) (by decide))) hj HM.out HE.out HK.out HZ.out HD.out hB hbw
      case measure => simp [intOf]; omega
end Go.Proofs.YtpfeaekankkpiaaGreatDoor
