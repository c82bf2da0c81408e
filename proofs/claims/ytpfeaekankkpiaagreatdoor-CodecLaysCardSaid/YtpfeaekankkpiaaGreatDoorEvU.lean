/-
  Numbers' bytes, as the reference has them: the walk of anabranchref01.Num.
-/
import Derived.Test.YtpfeaekankkpiaaGreatDoorEvZ
import Derived.Laws.Concat
namespace Go.Proofs.YtpfeaekankkpiaaGreatDoor
open Go Go.RowKit Go.Lib Go.Ev

theorem conv_one (w : World) (x : Int) (m : Nat) (hx : x = (m : Int)) (hm : m < 256) (c : Nat) :
    (convert 22 9 (.slice (some ⟨w.heap.size, 0, none⟩) 1 c)).run Tryz.prog (w.alloc (.cells #[.int .u8 x] 5)) = .ok (.string (sb [m])) (w.alloc (.cells #[.int .u8 x] 5)) := by
  subst hx
  refine StrAt.conv (S := sb [m]) (g := w.heap.size) ⟨by simp, fun j hj => ?_⟩
  have hj0 : j = 0 := by
    have : (sb [m]).data.toList.length = 1 := rfl
    omega
  subst hj0
  rw [(show Blk (w.alloc (.cells #[.int .u8 (m : Int)] 5)) w.heap.size 5 #[.int .u8 (m : Int)] from heap_alloc_new w _).cell]
  show some (Value.int .u8 (m : Int)) = _
  have : ((sb [m]).data.toList[0]'hj).toNat = m := by
    show (UInt8.ofNat m).toNat = m
    exact UInt8.toNat_ofNat_of_lt' (by simpa using hm)
  rw [this]

def SB (S : ByteArray) (w : World) (e : Ending) (w' : World) : Prop := e = .returned (.string S) ∧ Below w.heap.size w w'
theorem sb_append (l m : List Nat) : sb l ++ sb m = sb (l ++ m) := by
  apply ByteArray.ext
  simp [sb]

set_option maxRecDepth 100000 in
set_option maxHeartbeats 800000 in
theorem Num_small (N : Nat) (w : World) (h : N < 128) : Calls Tryz.prog 31 #[.int .u64 N] w (SB (sb (enc N)) w) := by
  have hI : (N : Int) < 128 := by omega
  have hc := conv_one w (N : Int) N rfl (by omega) 1
  have he : enc N = [N] := by
    unfold enc
    rw [show N / 128 = 0 by omega, hi_zero, show N % 128 = N by omega]; rfl
  have HE := Lib.hid he
  clear he
  go_enter Tryz.func31, Tryz.ntmps31
  go_wp2
  go_ret
  exact ⟨by rw [HE.out]; rfl, (Below.refl _ _).alloc (Nat.le_refl _) _⟩

theorem map_same {f : Nat → Nat} : ∀ {l : List Nat}, (∀ x ∈ l, f x = x) → l.map f = l
  | [], _ => rfl
  | a :: l, h => by rw [List.map_cons, h a (by simp), map_same fun x hx => h x (by simp [hx])]
theorem enc_marks {m : Nat} (h : m ≠ 0) : (enc m).map (fun x => x ||| 128) = hi m := by
  rw [hi_step h]
  unfold enc
  rw [List.map_append]
  congr 1
  · apply map_same
    intro x hx
    have hb : ∀ (k m : Nat), m ≤ k → ∀ x ∈ hi m, ∃ y, y < 128 ∧ x = y + 128 := by
      intro k
      induction k with
      | zero => intro m h x hx
                obtain rfl : m = 0 := by omega
                simp [hi_zero] at hx
      | succ k ih =>
        intro m h x hx
        by_cases h0 : m = 0
        · subst h0; simp [hi_zero] at hx
        · rw [hi_step h0, List.mem_append] at hx
          rcases hx with hx | hx
          · exact ih _ (by omega) x hx
          · simp at hx
            exact ⟨m % 128, by omega, hx⟩
    obtain ⟨y, hy, rfl⟩ := hb _ _ (Nat.le_refl _) x hx
    have := nat_join 7 128 y (by decide) (by omega)
    rw [Nat.add_comm y 128, ← this, Nat.or_comm (128 ||| y) 128, ← Nat.or_assoc, Nat.or_self]
  · have := nat_join 7 128 (m % 128) (by decide) (by omega)
    simp [Nat.or_comm _ 128, this, Nat.add_comm]

def numHd (N k : Nat) : ByteArray := sb (((enc (N / 128)).take k).map fun x => x ||| 128)
theorem numHd_succ {N k : Nat} (h : k < (enc (N / 128)).length) : numHd N k ++ sb [(enc (N / 128))[k] ||| 128] = numHd N (k + 1) := by
  unfold numHd
  rw [sb_append, List.take_succ_eq_append_getElem h, List.map_append]
  rfl
theorem numHd_all {N k : Nat} (h : 128 ≤ N) (hk : ¬ k < (enc (N / 128)).length) : numHd N k ++ sb [N % 128] = sb (enc N) := by
  unfold numHd
  rw [sb_append, List.take_of_length_le (by omega), enc_marks (by omega)]
  rfl
/-- What the loop of Num has made of the first k bytes. -/
def NumRel (N : Nat) (w : World) (hd i : Value) (wr : World) : Prop :=
  ∃ k : Nat, k ≤ (enc (N / 128)).length ∧ i = .int .i64 k ∧ hd = .string (numHd N k) ∧ Below w.heap.size w wr

theorem sb_at (l : List Nat) (hl : ∀ x ∈ l, x < 256) (k : Nat) (h : k < l.length) : ((sb l)[k]'(by rw [sb_size]; exact h)).toNat = l[k] := by
  show ((l.map UInt8.ofNat).toArray[k]'(by simpa using h)).toNat = l[k]
  rw [List.getElem_toArray, List.getElem_map]
  exact UInt8.toNat_ofNat_of_lt' (by simpa using hl _ (List.getElem_mem h))

set_option maxRecDepth 100000 in
set_option maxHeartbeats 1600000 in
theorem Num_step (N : Nat) (w : World) (h : 128 ≤ N) (hN : N < 18446744073709551616) (ih : ∀ w, Calls Tryz.prog 31 #[.int .u64 (IntKind.u64.wrap ((N : Int) / 128))] w (SB (sb (enc (N / 128))) w)) :
    Calls Tryz.prog 31 #[.int .u64 N] w (SB (sb (enc N)) w) := by
  have hI : ¬ (N : Int) < 128 := by omega
  have IH := Lib.hid ih; clear ih
  have HN := Lib.hid hN; clear hN
  have hln := (enc_len (n := N / 128) (by have := HN.out; omega)).2
  go_enter Tryz.func31, Tryz.ntmps31
  go_wp2_with (go_at_call 31
               (with_reducible refine (IH.out _).mono ?_)
               rintro e w1 ⟨rfl, hb1⟩)
  go_loopw [4, 5] (fun hd i wr => NumRel N w hd i wr) (fun _ i _ => (enc (N / 128)).length - (intOf i).toNat)
  case atStart => exact ⟨0, by omega, rfl, rfl, hb1⟩
  case round =>
    obtain ⟨k, hk, rfl, rfl, hbw⟩ := hrel
    have hsz : (sb (enc (N / 128))).size = (enc (N / 128)).length := sb_size _
    have hs1 : (numHd N k).size ≤ 10 := by unfold numHd; rw [sb_size]; simp; omega
    by_cases hlt : k < (enc (N / 128)).length
    · have hsm : (enc (N / 128))[k] < 256 := enc_small _ _ (List.getElem_mem hlt)
      have hor : (enc (N / 128))[k] ||| 128 < 256 := Nat.or_lt_two_pow (n := 8) hsm (by decide)
      have hc1 := conv_one wr (bits .or .u8 (((sb (enc (N / 128)))[k]'(by rw [sb_size]; exact hlt)).toNat : Int) 128) ((enc (N / 128))[k] ||| 128) (by rw [sb_at _ (enc_small _) k hlt]; exact u8_or_nat _ 128 hsm (by omega)) hor 1
      have hs2 : (sb [(enc (N / 128))[k] ||| 128]).size ≤ 10 := by rw [sb_size]; simp
      clear hsm hor
      go_wp2
      go_roundw
      case rel => exact ⟨k + 1, by omega, by go_num, by rw [numHd_succ hlt], hbw.alloc hbw.size _⟩
      case measure => simp [intOf]; omega
    · have hc2 := conv_one wr ((N : Int) % 128) (N % 128) (by omega) (by omega) 1
      have hs2 : (sb [N % 128]).size ≤ 10 := by rw [sb_size]; simp
      go_wp2
      go_ret
      exact ⟨congrArg (fun S => Ending.returned (.string S)) (numHd_all h hlt), hbw.alloc hbw.size _⟩

theorem Num_any (N : Nat) (hN : N < 18446744073709551616) (w : World) : Calls Tryz.prog 31 #[.int .u64 N] w (SB (sb (enc N)) w) := by
  induction N using Nat.strongRecOn generalizing w with
  | _ N ih =>
    by_cases h : N < 128
    · exact Num_small N w h
    · refine Num_step N w (by omega) hN fun w => ?_
      have e : IntKind.u64.wrap ((N : Int) / 128) = ((N / 128 : Nat) : Int) := by rw [IntKind.wrap_u64]; omega
      rw [e]
      exact ih (N / 128) (by omega) (by omega) w
end Go.Proofs.YtpfeaekankkpiaaGreatDoor
