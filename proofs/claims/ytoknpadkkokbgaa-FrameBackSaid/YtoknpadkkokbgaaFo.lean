/-
  Frames: what is read of frames that stand one behind the other, also where they are cut; and that what is read is laid again just so.
-/
import Derived.Test.YtoknpadkkokbgaaFl
namespace Go.Proofs.Ytoknpadkkokbgaa
open Go Go.RowKit Go.Lib

def frmL (b : ByteArray) : List UInt8 := 165 :: UInt8.ofNat (b.size / 65536) :: UInt8.ofNat (b.size / 256 % 256) :: UInt8.ofNat (b.size % 256) :: (b.data.toList ++ [90])
theorem frm_list (b : ByteArray) : (frm b).data.toList = frmL b := by
  simp [frm, frmL, hd]
theorem frmL_len (b : ByteArray) : (frmL b).length = b.size + 5 := by
  simp [frmL]
theorem bt_drop (s : ByteArray) (k i : Nat) : bt s (k + i) = ((s.data.toList.drop k).getD i 0).toNat := by
  unfold bt
  rw [List.getD_eq_getElem?_getD, List.getD_eq_getElem?_getD, List.getElem?_drop]
theorem list_size (s : ByteArray) : s.data.toList.length = s.size := by simp
theorem u8_of (n : Nat) (h : n < 256) : (UInt8.ofNat n).toNat = n := by simp; omega

/-- What stands at a place, if a frame's head and as many bytes as it says do. -/
theorem at_head {s : ByteArray} {k n : Nat} {rest : List UInt8} (hn : n ≤ 1048576) (hd' : s.data.toList.drop k = 165 :: UInt8.ofNat (n / 65536) :: UInt8.ofNat (n / 256 % 256) :: UInt8.ofNat (n % 256) :: rest) :
    bt s k = 165 ∧ len3 s k = n ∧ k + 4 ≤ s.size := by
  have h0 := bt_drop s k 0
  have h1 := bt_drop s k 1
  have h2 := bt_drop s k 2
  have h3 := bt_drop s k 3
  rw [hd'] at h0 h1 h2 h3
  have hl := congrArg List.length hd'
  rw [List.length_drop, list_size] at hl
  simp only [List.length_cons] at hl
  refine ⟨h0, ?_, by omega⟩
  unfold len3
  rw [h1, h2, h3]
  show (UInt8.ofNat (n / 65536)).toNat * 65536 + (UInt8.ofNat (n / 256 % 256)).toNat * 256 + (UInt8.ofNat (n % 256)).toNat = n
  rw [u8_of _ (by omega), u8_of _ (by omega), u8_of _ (by omega)]
  omega
theorem at_frame {s : ByteArray} {k : Nat} {b : ByteArray} {post : List UInt8} (hb : b.size ≤ 1048576) (hd' : s.data.toList.drop k = frmL b ++ post) :
    wrong s k = 0 ∧ len3 s k = b.size ∧ bodyOf s k = b := by
  have hd2 : s.data.toList.drop k = 165 :: UInt8.ofNat (b.size / 65536) :: UInt8.ofNat (b.size / 256 % 256) :: UInt8.ofNat (b.size % 256) :: (b.data.toList ++ 90 :: post) := by
    rw [hd']; simp [frmL]
  obtain ⟨h1, h2, h3⟩ := at_head hb hd2
  have hl := congrArg List.length hd'
  rw [List.length_drop, list_size, List.length_append, frmL_len] at hl
  have h90 : bt s (k + 4 + len3 s k) = 90 := by
    rw [h2, Nat.add_assoc, bt_drop, hd2, List.getD_eq_getElem?_getD, Nat.add_comm 4]
    simp only [List.getElem?_cons_succ]
    rw [List.getElem?_append_right (by rw [list_size]; exact Nat.le_refl _), list_size, Nat.sub_self]
    rfl
  have hw : wrong s k = 0 := by
    rw [wrong_in (by omega), if_neg (by omega), if_neg (by omega), if_neg (by omega), if_neg (by omega), if_neg (by omega)]
  refine ⟨hw, h2, ?_⟩
  rw [bodyOf, if_pos hw, Int.toNat_natCast, h2]
  apply ByteArray.ext
  apply Array.ext'
  unfold cutOf
  rw [ByteArray.data_extract, Array.toList_extract]
  simp only [List.extract_eq_take_drop]
  have : s.data.toList.drop (k + 4) = b.data.toList ++ 90 :: post := by
    rw [← List.drop_drop, hd2]
    rfl
  rw [this, Nat.add_sub_cancel_left, List.take_append_of_le_length (by rw [list_size]; exact Nat.le_refl _), List.take_of_length_le (by rw [list_size]; exact Nat.le_refl _)]
/-- A frame that is cut. -/
theorem at_torn {s : ByteArray} {k m : Nat} {b : ByteArray} (hb : b.size ≤ 1048576) (hm : m < b.size + 5) (hk : k ≤ s.size) (hd' : s.data.toList.drop k = (frmL b).take m) : wrong s k = if m = 0 then 9 else 20 := by
  have hl := congrArg List.length hd'
  rw [List.length_drop, list_size, List.length_take, frmL_len] at hl
  by_cases h0 : m = 0
  · rw [if_pos h0]
    unfold wrong
    rw [if_neg (by omega), if_pos (by omega)]
  rw [if_neg h0]
  have h165 : bt s k = 165 := by
    have := bt_drop s k 0
    rw [hd'] at this
    obtain ⟨m, rfl⟩ := Nat.exists_eq_succ_of_ne_zero h0
    exact this
  rw [wrong_in (by omega), if_neg (by omega)]
  by_cases h4 : m < 4
  · rw [if_pos (by omega)]
  rw [if_neg (by omega)]
  obtain ⟨m, rfl⟩ : ∃ j, m = j + 4 := ⟨m - 4, by omega⟩
  have hd2 : s.data.toList.drop k = 165 :: UInt8.ofNat (b.size / 65536) :: UInt8.ofNat (b.size / 256 % 256) :: UInt8.ofNat (b.size % 256) :: (b.data.toList ++ [90]).take m := by
    rw [hd']; simp [frmL]
  obtain ⟨_, h2, _⟩ := at_head hb hd2
  rw [h2, if_neg (by omega), if_pos (by omega)]
theorem four : ∀ (D : List UInt8), 4 ≤ D.length → ∃ x0 x1 x2 x3 rest, D = x0 :: x1 :: x2 :: x3 :: rest
  | x0 :: x1 :: x2 :: x3 :: rest, _ => ⟨x0, x1, x2, x3, rest, rfl⟩
  | [], h => by simp at h
  | [_], h => by simp at h
  | [_, _], h => by simp at h
  | [_, _, _], h => by simp at h
/-- What is read is laid again just so. -/
theorem again {s : ByteArray} {k : Nat} (h : wrong s k = 0) : (s.data.toList.drop k).take (len3 s k + 5) = frmL (bodyOf s k) ∧ (bodyOf s k).size = len3 s k ∧ len3 s k ≤ 1048576 := by
  have hfit := wrong_fits h
  have hk : k < s.size := by omega
  rw [wrong_in hk] at h
  have h165 : bt s k = 165 := by
    rcases Nat.decEq (bt s k) 165 with h' | h'
    · rw [if_pos h'] at h; omega
    · exact h'
  rw [if_neg (by omega), if_neg (by omega)] at h
  have hmax : len3 s k ≤ 1048576 := by
    rcases Nat.lt_or_ge 1048576 (len3 s k) with h' | h'
    · rw [if_pos h'] at h; omega
    · exact h'
  rw [if_neg (by omega), if_neg (by omega)] at h
  have h90 : bt s (k + 4 + len3 s k) = 90 := by
    rcases Nat.decEq (bt s (k + 4 + len3 s k)) 90 with h' | h'
    · rw [if_pos h'] at h; omega
    · exact h'
  clear h
  have hw : wrong s k = 0 := by
    rw [wrong_in hk, if_neg (by omega), if_neg (by omega), if_neg (by omega), if_neg (by omega), if_neg (by omega)]
  obtain ⟨D, hD⟩ : ∃ D, D = s.data.toList.drop k := ⟨_, rfl⟩
  have hlen : D.length = s.size - k := by rw [hD, List.length_drop, list_size]
  have g0 := bt_drop s k 0
  have g1 := bt_drop s k 1
  have g2 := bt_drop s k 2
  have g3 := bt_drop s k 3
  have g4 := bt_drop s k (4 + len3 s k)
  rw [← hD] at g0 g1 g2 g3 g4
  obtain ⟨L, hL⟩ : ∃ L, L = len3 s k := ⟨_, rfl⟩
  rw [← Nat.add_assoc, h90, ← hL] at g4
  rw [Nat.add_zero, h165] at g0
  have hL3 : L = bt s (k + 1) * 65536 + bt s (k + 2) * 256 + bt s (k + 3) := hL
  rw [g1, g2, g3] at hL3
  obtain ⟨x0, x1, x2, x3, rest, rfl⟩ := four D (by omega)
  simp only [List.getD_eq_getElem?_getD, List.getElem?_cons_zero, List.getElem?_cons_succ, Option.getD_some] at g0 hL3
  have b1 := UInt8.toNat_lt x1
  have b2 := UInt8.toNat_lt x2
  have b3 := UInt8.toNat_lt x3
  simp only [List.length_cons] at hlen
  have hr : L < rest.length := by omega
  rw [List.getD_eq_getElem?_getD, Nat.add_comm 4] at g4
  simp only [List.getElem?_cons_succ] at g4
  rw [List.getElem?_eq_getElem hr] at g4
  simp only [Option.getD_some] at g4
  have hdr : s.data.toList.drop (k + 4) = rest := by rw [← List.drop_drop, ← hD]; rfl
  have hbody : (bodyOf s k).data.toList = rest.take L := by
    rw [bodyOf, if_pos hw, Int.toNat_natCast, ← hL]
    unfold cutOf
    rw [ByteArray.data_extract, Array.toList_extract]
    simp only [List.extract_eq_take_drop]
    rw [hdr, Nat.add_sub_cancel_left]
  have hbs : (bodyOf s k).size = L := by
    rw [← list_size, hbody, List.length_take]; omega
  refine ⟨?_, by rw [hbs, hL], by omega⟩
  rw [← hD, ← hL]
  unfold frmL
  rw [hbs, hbody]
  have e0 : x0 = 165 := UInt8.toNat_inj.1 g0.symm
  have e1 : UInt8.ofNat (L / 65536) = x1 := UInt8.toNat_inj.1 (by rw [u8_of _ (by omega)]; omega)
  have e2 : UInt8.ofNat (L / 256 % 256) = x2 := UInt8.toNat_inj.1 (by rw [u8_of _ (by omega)]; omega)
  have e3 : UInt8.ofNat (L % 256) = x3 := UInt8.toNat_inj.1 (by rw [u8_of _ (by omega)]; omega)
  have e4 : rest[L] = 90 := UInt8.toNat_inj.1 g4.symm
  rw [e0, e1, e2, e3]
  show 165 :: x1 :: x2 :: x3 :: rest.take (L + 1) = _
  rw [List.take_succ_eq_append_getElem hr, e4]

def flat : List ByteArray → List UInt8
  | [] => []
  | b :: l => frmL b ++ flat l
theorem flat_append (l m : List ByteArray) : flat (l ++ m) = flat l ++ flat m := by
  induction l with
  | nil => rfl
  | cons b l ih => simp [flat, ih]
/-- So many frames that stand at the beginning are read. -/
theorem st_flat {s : ByteArray} {l : List ByteArray} {post : List UInt8} (hl : ∀ b ∈ l, b.size ≤ 1048576) (hs : s.data.toList = flat l ++ post) : ∀ n, n ≤ l.length → st s n = ((flat (l.take n)).length, l.take n) := by
  intro n
  induction n with
  | zero => intro _; rfl
  | succ n ih =>
    intro h
    have e := ih (by omega)
    have ht : l.take (n + 1) = l.take n ++ [l[n]] := List.take_succ_eq_append_getElem (by omega)
    have hsplit : l = l.take n ++ l[n] :: l.drop (n + 1) := by
      rw [List.getElem_cons_drop, List.take_append_drop]
    have hdrop : s.data.toList.drop (flat (l.take n)).length = frmL l[n] ++ (flat (l.drop (n + 1)) ++ post) := by
      rw [hs]
      have : flat l = flat (l.take n) ++ (frmL l[n] ++ flat (l.drop (n + 1))) := by
        conv => lhs; rw [hsplit, flat_append]
        rfl
      rw [this]
      simp
    obtain ⟨h1, h2, h3⟩ := at_frame (hl _ (List.getElem_mem _)) hdrop
    have hw : wrong s (st s n).1 = 0 := by rw [e]; exact h1
    rw [st_ok hw, e]
    simp only []
    rw [h2, h3, ht, flat_append]
    simp [flat, frmL_len]
    omega
theorem st_again {s : ByteArray} : ∀ n, s.data.toList.take (st s n).1 = flat (st s n).2 := by
  intro n
  induction n with
  | zero => rfl
  | succ n ih =>
    by_cases h : wrong s (st s n).1 = 0
    · obtain ⟨h1, _, _⟩ := again h
      rw [st_ok h]
      simp only []
      rw [flat_append, show (st s n).1 + 5 + len3 s (st s n).1 = (st s n).1 + (len3 s (st s n).1 + 5) by omega, List.take_add, ih, h1]
      simp [flat]
    · rw [show st s (n + 1) = st s n by rw [st, if_neg h]]
      exact ih
theorem st_small {s : ByteArray} : ∀ n, ∀ b ∈ (st s n).2, b.size ≤ 1048576 := by
  intro n
  induction n with
  | zero => intro b hb; simp [st] at hb
  | succ n ih =>
    by_cases h : wrong s (st s n).1 = 0
    · obtain ⟨_, h2, h3⟩ := again h
      rw [st_ok h]
      intro b hb
      rw [List.mem_append] at hb
      rcases hb with hb | hb
      · exact ih b hb
      · simp at hb; subst hb; omega
    · rw [show st s (n + 1) = st s n by rw [st, if_neg h]]
      exact ih
end Go.Proofs.Ytoknpadkkokbgaa
