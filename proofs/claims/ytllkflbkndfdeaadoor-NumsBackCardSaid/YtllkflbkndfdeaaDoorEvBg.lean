/-
  Numbers read back: the bytes of a number are read as it, and those that are read are its own.
-/
import Derived.Test.YtllkflbkndfdeaaDoorEvBf
import Derived.Test.YtllkflbkndfdeaaDoorEvZ
namespace Go.Proofs.YtllkflbkndfdeaaDoor
open Go Go.RowKit Go.Lib

def byts (s : ByteArray) : List Nat := s.data.toList.map UInt8.toNat
theorem byts_len (s : ByteArray) : (byts s).length = s.size := by simp [byts]
theorem bt_byts (s : ByteArray) (k i : Nat) : bt s (k + i) = ((byts s).drop k).getD i 0 := by
  unfold bt byts
  rw [List.getD_eq_getElem?_getD, List.getD_eq_getElem?_getD, List.getElem?_drop, List.getElem?_map]
  cases s.data.toList[k + i]? <;> rfl
/-- What digits come to. -/
def ev (l : List Nat) : Nat := l.foldl (fun a d => a * 128 + d % 128) 0
theorem ev_snoc (l : List Nat) (x : Nat) : ev (l ++ [x]) = ev l * 128 + x % 128 := by simp [ev]
theorem ev_hi : ∀ (n m : Nat), m ≤ n → ev (hi m) = m := by
  intro n
  induction n with
  | zero => intro m h
            obtain rfl : m = 0 := by omega
            rfl
  | succ n ih =>
    intro m h
    by_cases h0 : m = 0
    · subst h0; rfl
    · rw [hi_step h0, ev_snoc, ih _ (by omega)]
      omega
theorem ev_enc (n : Nat) : ev (enc n) = n := by
  unfold enc
  rw [ev_snoc, ev_hi _ _ (Nat.le_refl _)]
  omega
theorem val_ev (s : ByteArray) (k : Nat) (l : List Nat) (rest : List Nat) (h : (byts s).drop k = l ++ rest) : ∀ j, j ≤ l.length → val s k j = ev (l.take j)
  | 0, _ => rfl
  | j + 1, hj => by
    rw [val, val_ev s k l rest h j (by omega), List.take_succ_eq_append_getElem (by omega), ev_snoc, bt_byts, h, List.getD_eq_getElem?_getD, List.getElem?_append_left (by omega), List.getElem?_eq_getElem (by omega)]
    rfl
theorem hi_ge : ∀ (n m : Nat), m ≤ n → ∀ x ∈ hi m, 128 ≤ x := by
  intro n
  induction n with
  | zero => intro m h x hx
            obtain rfl : m = 0 := by omega
            simp [hi_zero] at hx
  | succ n ih =>
    intro m h x hx
    by_cases h0 : m = 0
    · subst h0; simp [hi_zero] at hx
    · rw [hi_step h0, List.mem_append] at hx
      rcases hx with hx | hx
      · exact ih _ (by omega) x hx
      · simp at hx; omega
theorem hi_head : ∀ (n m : Nat), m ≤ n → (hi m)[0]? ≠ some 128 := by
  intro n
  induction n with
  | zero => intro m h
            obtain rfl : m = 0 := by omega
            simp [hi_zero]
  | succ n ih =>
    intro m h
    by_cases h0 : m = 0
    · subst h0; simp [hi_zero]
    · rw [hi_step h0]
      by_cases h1 : m / 128 = 0
      · rw [h1, hi_zero]
        simp
        omega
      · have := ih (m / 128) (by omega)
        rw [List.getElem?_append_left]
        · exact this
        · rw [hi_step h1]; simp
theorem val_mono (s : ByteArray) (k : Nat) : ∀ i j, i ≤ j → val s k i ≤ val s k j := by
  intro i j h
  induction h with
  | refl => exact Nat.le_refl _
  | step _ ih => rw [val]; omega
/-- The bytes of a number are read as it. -/
theorem read_enc {s : ByteArray} {k n : Nat} {rest : List Nat} (hn : n < 18446744073709551616) (h : (byts s).drop k = enc n ++ rest) : bad s k = 0 ∧ num s k = n ∧ nxt s k = k + (enc n).length := by
  have hlen : (enc n).length = (hi (n / 128)).length + 1 := by simp [enc]
  have hsz := congrArg List.length h
  rw [List.length_drop, byts_len, List.length_append] at hsz
  have at_ : ∀ i, i < (enc n).length → bt s (k + i) = (enc n).getD i 0 := by
    intro i hi'
    rw [bt_byts, h, List.getD_eq_getElem?_getD, List.getD_eq_getElem?_getD, List.getElem?_append_left hi']
  have hr : runAt s k = (hi (n / 128)).length := by
    refine run_is (fun j hj => ⟨by omega, ?_⟩) ?_
    · rw [at_ j (by omega)]
      unfold enc
      rw [List.getD_eq_getElem?_getD, List.getElem?_append_left hj, List.getElem?_eq_getElem hj]
      exact hi_ge _ _ (Nat.le_refl _) _ (List.getElem_mem hj)
    · rintro ⟨_, h2⟩
      rw [at_ _ (by omega)] at h2
      unfold enc at h2
      rw [List.getD_eq_getElem?_getD, List.getElem?_append_right (Nat.le_refl _), Nat.sub_self] at h2
      simp at h2
      omega
  have hv : ∀ j, j ≤ (enc n).length → val s k j = ev ((enc n).take j) := val_ev s k _ _ h
  have hvn : val s k (runAt s k + 1) = n := by
    rw [hr, ← hlen, hv _ (Nat.le_refl _), List.take_length, ev_enc]
  have h5 : bt s k ≠ 128 := by
    intro e
    have h0 := at_ 0 (by omega)
    rw [Nat.add_zero, e] at h0
    unfold enc at h0
    by_cases hz : n / 128 = 0
    · rw [hz, hi_zero] at h0
      simp at h0
      omega
    · have hl : 0 < (hi (n / 128)).length := by rw [hi_step hz]; simp
      rw [List.getD_eq_getElem?_getD, List.getElem?_append_left hl] at h0
      have := hi_head _ (n / 128) (Nat.le_refl _)
      rw [List.getElem?_eq_getElem hl] at h0 this
      simp at h0
      exact this (by rw [← h0])
  have hb : bad s k = 0 := by
    unfold bad
    rw [if_neg (by omega), if_neg h5, if_neg]
    intro hl
    obtain ⟨j, hj1, hj2⟩ := (long_iff h5).2 hl
    have h1 := val_mono s k j (runAt s k) hj1
    have h2 : val s k (runAt s k) * 128 ≤ n := by
      rw [← hvn, val]; omega
    omega
  refine ⟨hb, by rw [num, if_pos hb, hvn], by rw [nxt, if_pos hb, hr, hlen]; omega⟩
theorem snoc_ind {P : List Nat → Prop} (h0 : P []) (h1 : ∀ l y, P l → P (l ++ [y])) : ∀ (n : Nat) (l : List Nat), l.length = n → P l
  | 0, l, h => by rw [List.eq_nil_of_length_eq_zero h]; exact h0
  | n + 1, l, h => by
    have hne : l ≠ [] := by intro e; rw [e] at h; simp at h
    rw [← List.dropLast_concat_getLast hne]
    exact h1 _ _ (snoc_ind h0 h1 n _ (by rw [List.length_dropLast]; omega))
theorem ev_pos : ∀ (l : List Nat), (∃ x, l[0]? = some x ∧ x % 128 ≠ 0) → ev l ≠ 0 := by
  intro l
  refine snoc_ind (P := fun l => (∃ x, l[0]? = some x ∧ x % 128 ≠ 0) → ev l ≠ 0) ?_ ?_ _ l rfl
  · rintro ⟨x, h, _⟩; simp at h
  · rintro l y ih ⟨x, h, hx⟩
    rw [ev_snoc]
    by_cases hl : l = []
    · subst hl
      simp at h
      subst h
      simp [ev]
      omega
    · have : ev l ≠ 0 := ih ⟨x, by
        rw [List.getElem?_append_left (List.length_pos_iff.2 hl)] at h
        exact h, hx⟩
      omega
theorem hi_ev : ∀ (l : List Nat), (∀ x ∈ l, 128 ≤ x ∧ x < 256) → l[0]? ≠ some 128 → hi (ev l) = l := by
  intro l
  refine snoc_ind (P := fun l => (∀ x ∈ l, 128 ≤ x ∧ x < 256) → l[0]? ≠ some 128 → hi (ev l) = l) ?_ ?_ _ l rfl
  · intro _ _; rfl
  · intro l y ih h1 h2
    have hy := h1 y (by simp)
    have hne : ev (l ++ [y]) ≠ 0 := by
      apply ev_pos
      by_cases hl : l = []
      · subst hl
        refine ⟨y, rfl, ?_⟩
        have : y ≠ 128 := fun e => h2 (by rw [e]; rfl)
        omega
      · have hp := List.length_pos_iff.2 hl
        refine ⟨l[0], by rw [List.getElem?_append_left hp, List.getElem?_eq_getElem hp], ?_⟩
        have := h1 l[0] (by simp)
        have : l[0] ≠ 128 := fun e => h2 (by rw [List.getElem?_append_left hp, List.getElem?_eq_getElem hp, e])
        omega
    rw [hi_step hne, ev_snoc]
    have e1 : (ev l * 128 + y % 128) / 128 = ev l := by omega
    have e2 : (ev l * 128 + y % 128) % 128 + 128 = y := by omega
    rw [e1, e2]
    by_cases hl : l = []
    · subst hl; rfl
    · have hp := List.length_pos_iff.2 hl
      rw [ih (fun x hx => h1 x (by simp [hx])) (by rw [List.getElem?_append_left hp] at h2; exact h2)]
/-- What is read as a number is laid again just so. -/
theorem enc_read {s : ByteArray} {k : Nat} (h : bad s k = 0) : ((byts s).drop k).take (runAt s k + 1) = enc (num s k) ∧ nxt s k = k + (runAt s k + 1) ∧ k + (runAt s k + 1) ≤ s.size := by
  have hnum : num s k = val s k (runAt s k + 1) := by rw [num, if_pos h]
  have hnxt : nxt s k = k + (runAt s k + 1) := by rw [nxt, if_pos h]; omega
  unfold bad at h
  split at h
  · omega
  rename_i hlt
  split at h
  · omega
  rename_i h5
  clear h
  obtain ⟨m, hm⟩ : ∃ m, m = runAt s k := ⟨_, rfl⟩
  have hle : k + (m + 1) ≤ s.size := by omega
  refine ⟨?_, hnxt, by omega⟩
  obtain ⟨l, hl⟩ : ∃ l, l = ((byts s).drop k).take (m + 1) := ⟨_, rfl⟩
  have hll : l.length = m + 1 := by rw [hl, List.length_take, List.length_drop, byts_len]; omega
  have hsplit : (byts s).drop k = l ++ ((byts s).drop k).drop (m + 1) := by rw [hl, List.take_append_drop]
  have at_ : ∀ i (hi' : i < l.length), l[i] = bt s (k + i) := by
    intro i hi'
    rw [bt_byts, hsplit, List.getD_eq_getElem?_getD, List.getElem?_append_left hi', List.getElem?_eq_getElem hi']
    rfl
  have hv : val s k (m + 1) = ev l := by
    rw [val_ev s k l _ hsplit (m + 1) (by omega), List.take_of_length_le (by omega)]
  rw [hnum, ← hm, hv, ← hl]
  have hlast : l = l.take m ++ [l[m]'(by omega)] := by
    rw [← List.take_succ_eq_append_getElem (by omega), List.take_of_length_le (by omega)]
  have hx : l[m]'(by omega) < 128 := by
    rw [at_ m (by omega)]
    have := run_end s k
    rw [← hm] at this
    omega
  have hall : ∀ x ∈ l.take m, 128 ≤ x ∧ x < 256 := by
    intro x hx
    obtain ⟨i, hi1, rfl⟩ := List.getElem_of_mem hx
    rw [List.length_take] at hi1
    rw [List.getElem_take, at_ i (by omega)]
    exact ⟨(inRun (s := s) (k := k) (j := i) (by omega)).2, bt_lt _ _⟩
  have hh : (l.take m)[0]? ≠ some 128 := by
    intro e
    rw [List.getElem?_take] at e
    split at e
    · rw [List.getElem?_eq_getElem (by omega)] at e
      simp at e
      rw [at_ 0 (by omega)] at e
      exact h5 e
    · cases e
  have hev : ev l = ev (l.take m) * 128 + l[m]'(by omega) := by
    conv => lhs; rw [hlast, ev_snoc]
    rw [Nat.mod_eq_of_lt hx]
  conv => lhs; rw [hlast]
  unfold enc
  rw [hev, show (ev (l.take m) * 128 + l[m]'(by omega)) / 128 = ev (l.take m) by omega, hi_ev _ hall hh, show (ev (l.take m) * 128 + l[m]'(by omega)) % 128 = l[m]'(by omega) by omega]
end Go.Proofs.YtllkflbkndfdeaaDoor
