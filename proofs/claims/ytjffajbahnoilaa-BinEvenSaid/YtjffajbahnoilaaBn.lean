/-
  BinEven as mathematics: of 64 keys one behind the other each bin has from five to eleven.
-/
import Derived.KernelRfl
namespace Go.Proofs.Ytjffajbahnoilaa

/-- How often f tells i, of the first j. -/
def cnt (f : Nat → Nat) : Nat → Nat → Nat
  | 0, _ => 0
  | j + 1, i => cnt f j i + if f j = i then 1 else 0
theorem cnt_le (f : Nat → Nat) : ∀ j i, cnt f j i ≤ j
  | 0, _ => Nat.le_refl _
  | j + 1, i => by
    have := cnt_le f j i
    unfold cnt
    split <;> omega
theorem cnt_congr {f g : Nat → Nat} {i i' : Nat} : ∀ j, (∀ k, k < j → (f k = i ↔ g k = i')) → cnt f j i = cnt g j i'
  | 0, _ => rfl
  | j + 1, h => by
    unfold cnt
    rw [cnt_congr j (fun k hk => h k (by omega))]
    have := h j (by omega)
    by_cases hf : f j = i
    · rw [if_pos hf, if_pos (this.1 hf)]
    · rw [if_neg hf, if_neg (fun e => hf (this.2 e))]

/-- The bin of the k-th key behind a key. -/
def bn (key k : Nat) : Nat := 2654435761 * ((key + k) % 4294967296) % 4294967296 / 536870912
/-- How far the k-th key's product lies behind the first one's. -/
def pk (k : Nat) : Nat := 2654435761 * k % 4294967296

theorem bn_eq (key k : Nat) : bn key k = ((2654435761 * key % 4294967296) / 536870912 + ((2654435761 * key % 4294967296) % 536870912 + pk k) / 536870912) % 8 := by
  unfold bn pk
  have e : 2654435761 * ((key + k) % 4294967296) % 4294967296 = (2654435761 * key % 4294967296 + 2654435761 * k % 4294967296) % 4294967296 := by
    rw [Nat.mul_mod, Nat.mod_mod, ← Nat.mul_mod, Nat.mul_add, Nat.add_mod]
  rw [e]
  generalize 2654435761 * key % 4294967296 = X
  generalize 2654435761 * k % 4294967296 = Y
  omega
theorem bn_lt (key k : Nat) : bn key k < 8 := by rw [bn_eq]; omega

/-- Where nothing changes: from, to. -/
def ivs : List (Nat × Nat) := [(0, 1667469), (1667470, 3334939), (3334940, 5002409), (5002410, 29918798), (29918799, 31586268), (31586269, 33253738), (33253739, 34921208), (34921209, 59837597), (59837598, 61505067), (61505068, 63172537), (63172538, 64840007), (64840008, 89756396), (89756397, 91423866), (91423867, 93091336), (93091337, 94758806), (94758807, 119675195), (119675196, 121342665), (121342666, 123010135), (123010136, 124677605), (124677606, 149593994), (149593995, 151261464), (151261465, 152928934), (152928935, 154596404), (154596405, 179512793), (179512794, 181180263), (181180264, 182847733), (182847734, 184515203), (184515204, 209431592), (209431593, 211099062), (211099063, 212766532), (212766533, 214434002), (214434003, 239350391), (239350392, 241017861), (241017862, 242685331), (242685332, 244352801), (244352802, 269269190), (269269191, 270936660), (270936661, 272604130), (272604131, 274271600), (274271601, 299187989), (299187990, 300855459), (300855460, 302522929), (302522930, 329106788), (329106789, 330774258), (330774259, 332441728), (332441729, 359025587), (359025588, 360693057), (360693058, 362360527), (362360528, 388944386), (388944387, 390611856), (390611857, 392279326), (392279327, 418863185), (418863186, 420530655), (420530656, 422198125), (422198126, 448781984), (448781985, 450449454), (450449455, 452116924), (452116925, 478700783), (478700784, 480368253), (480368254, 482035723), (482035724, 508619582), (508619583, 510287052), (510287053, 511954522), (511954523, 536870911)]

def steady (lo hi : Nat) : Nat → Bool
  | 0 => true
  | k + 1 => Nat.beq ((lo + pk k) / 536870912) ((hi + pk k) / 536870912) && steady lo hi k
def tally (lo b : Nat) : Nat → Nat
  | 0 => 0
  | k + 1 => tally lo b k + bif Nat.beq ((lo + pk k) / 536870912 % 8) b then 1 else 0
def fine (lo : Nat) : Nat → Bool
  | 0 => true
  | b + 1 => Nat.ble 5 (tally lo b 64) && Nat.ble (tally lo b 64) 11 && fine lo b
def chain : Nat → List (Nat × Nat) → Bool
  | a, [] => Nat.beq a 536870912
  | a, (lo, hi) :: r => Nat.beq lo a && chain (hi + 1) r
def allFine : List (Nat × Nat) → Bool
  | [] => true
  | (lo, hi) :: r => steady lo hi 64 && fine lo 8 && allFine r

set_option maxRecDepth 100000 in
theorem chain_t : chain 0 ivs = true := by kernel_rfl
set_option maxRecDepth 100000 in
theorem fine_t : allFine ivs = true := by kernel_rfl

theorem chain_in : ∀ (l : List (Nat × Nat)) (a r : Nat), chain a l = true → a ≤ r → r < 536870912 → ∃ lo hi, (lo, hi) ∈ l ∧ lo ≤ r ∧ r ≤ hi
  | [], a, r, h, h1, h2 => by
    simp only [chain, Nat.beq_eq] at h
    omega
  | (lo, hi) :: l, a, r, h, h1, h2 => by
    simp only [chain, Bool.and_eq_true, Nat.beq_eq] at h
    by_cases hr : r ≤ hi
    · exact ⟨lo, hi, List.mem_cons_self .., by omega, hr⟩
    · obtain ⟨lo', hi', h3, h4, h5⟩ := chain_in l (hi + 1) r h.2 (by omega) h2
      exact ⟨lo', hi', List.mem_cons_of_mem _ h3, h4, h5⟩
theorem allFine_of : ∀ (l : List (Nat × Nat)) (lo hi : Nat), allFine l = true → (lo, hi) ∈ l → steady lo hi 64 = true ∧ fine lo 8 = true
  | [], lo, hi, h, hm => by cases hm
  | (a, b) :: l, lo, hi, h, hm => by
    simp only [allFine, Bool.and_eq_true] at h
    rcases List.mem_cons.1 hm with e | hm
    · obtain ⟨rfl, rfl⟩ := Prod.mk.inj e
      exact h.1
    · exact allFine_of l lo hi h.2 hm
theorem steady_of (lo hi : Nat) : ∀ n k, steady lo hi n = true → k < n → (lo + pk k) / 536870912 = (hi + pk k) / 536870912
  | 0, k, h, hk => by omega
  | n + 1, k, h, hk => by
    simp only [steady, Bool.and_eq_true, Nat.beq_eq] at h
    by_cases e : k = n
    · rw [e]; exact h.1
    · exact steady_of lo hi n k h.2 (by omega)
theorem tally_eq (lo b : Nat) : ∀ n, tally lo b n = cnt (fun k => (lo + pk k) / 536870912 % 8) n b
  | 0 => rfl
  | n + 1 => by
    unfold tally cnt
    rw [tally_eq lo b n]
    by_cases h : (lo + pk n) / 536870912 % 8 = b
    · rw [if_pos h, h]; simp
    · rw [if_neg h]
      have : Nat.beq ((lo + pk n) / 536870912 % 8) b = false := by
        cases hb : Nat.beq ((lo + pk n) / 536870912 % 8) b
        · rfl
        · exact absurd (Nat.eq_of_beq_eq_true hb) h
      rw [this]; rfl
theorem fine_of (lo : Nat) : ∀ n b, fine lo n = true → b < n → 5 ≤ tally lo b 64 ∧ tally lo b 64 ≤ 11
  | 0, b, h, hb => by omega
  | n + 1, b, h, hb => by
    simp only [fine, Bool.and_eq_true, Nat.ble_eq] at h
    by_cases e : b = n
    · rw [e]; exact h.1
    · exact fine_of lo n b h.2 (by omega)

/-- Each bin has from five to eleven. -/
theorem bn_even (key b : Nat) (hb : b < 8) : 5 ≤ cnt (bn key) 64 b ∧ cnt (bn key) 64 b ≤ 11 := by
  obtain ⟨q, hq⟩ : ∃ q, 2654435761 * key % 4294967296 / 536870912 = q := ⟨_, rfl⟩
  obtain ⟨r, hr⟩ : ∃ r, 2654435761 * key % 4294967296 % 536870912 = r := ⟨_, rfl⟩
  have hq8 : q < 8 := by omega
  have hrl : r < 536870912 := by omega
  obtain ⟨lo, hi, hm, h1, h2⟩ := chain_in ivs 0 r chain_t (Nat.zero_le _) hrl
  obtain ⟨hs, hf⟩ := allFine_of ivs lo hi fine_t hm
  have e : cnt (bn key) 64 b = cnt (fun k => (lo + pk k) / 536870912 % 8) 64 ((b + 8 - q) % 8) := by
    refine cnt_congr 64 fun k hk => ?_
    rw [bn_eq, hq, hr]
    have h3 := steady_of lo hi 64 k hs hk
    have h4 : (lo + pk k) / 536870912 ≤ (r + pk k) / 536870912 := Nat.div_le_div_right (by omega)
    have h5 : (r + pk k) / 536870912 ≤ (hi + pk k) / 536870912 := Nat.div_le_div_right (by omega)
    have h6 : (r + pk k) / 536870912 = (lo + pk k) / 536870912 := by omega
    rw [h6]
    show (q + (lo + pk k) / 536870912) % 8 = b ↔ (lo + pk k) / 536870912 % 8 = (b + 8 - q) % 8
    generalize (lo + pk k) / 536870912 = z
    omega
  rw [e, ← tally_eq]
  exact fine_of lo 8 _ hf (Nat.mod_lt _ (by omega))

/-- Who has so many: the k-th worker of w, from 1 on. -/
def own1 (w k : Nat) : Nat := 1 + k % w
def evenI (w n i : Nat) : Nat → Bool
  | 0 => true
  | k + 1 => (Nat.blt k 1 || Nat.blt w k || Nat.ble (cnt (own1 w) n i) (cnt (own1 w) n k + 1)) && evenI w n i k
def evenN (w n : Nat) : Nat → Bool
  | 0 => true
  | i + 1 => (Nat.blt i 1 || Nat.blt w i || evenI w n i 4) && evenN w n i
def evenW (w : Nat) : Nat → Bool
  | 0 => true
  | n + 1 => evenN w n 4 && evenW w n
set_option maxRecDepth 100000 in
theorem even_t : evenW 1 30 && evenW 2 30 && evenW 3 30 = true := by kernel_rfl
theorem evenI_of (w n i : Nat) : ∀ m k, evenI w n i m = true → k < m → 1 ≤ k → k ≤ w → cnt (own1 w) n i ≤ cnt (own1 w) n k + 1
  | 0, k, h, hk, _, _ => by omega
  | m + 1, k, h, hk, h1, h2 => by
    simp only [evenI, Bool.and_eq_true, Bool.or_eq_true, Nat.ble_eq, Nat.blt_eq] at h
    by_cases e : k = m
    · subst e; omega
    · exact evenI_of w n i m k h.2 (by omega) h1 h2
theorem evenN_of (w n : Nat) : ∀ m i k, evenN w n m = true → i < m → 1 ≤ i → i ≤ w → k < 4 → 1 ≤ k → k ≤ w → cnt (own1 w) n i ≤ cnt (own1 w) n k + 1
  | 0, i, k, h, hi, _, _, _, _, _ => by omega
  | m + 1, i, k, h, hi, h1, h2, h3, h4, h5 => by
    simp only [evenN, Bool.and_eq_true, Bool.or_eq_true, Nat.blt_eq] at h
    by_cases e : i = m
    · subst e
      refine evenI_of w n i 4 k ?_ h3 h4 h5
      rcases h.1 with h | h
      · omega
      · exact h
    · exact evenN_of w n m i k h.2 (by omega) h1 h2 h3 h4 h5
theorem evenW_of (w : Nat) : ∀ m n i k, evenW w m = true → n < m → 1 ≤ i → i ≤ w → i < 4 → k < 4 → 1 ≤ k → k ≤ w → cnt (own1 w) n i ≤ cnt (own1 w) n k + 1
  | 0, n, i, k, h, hn, _, _, _, _, _, _ => by omega
  | m + 1, n, i, k, h, hn, h1, h2, h6, h3, h4, h5 => by
    simp only [evenW, Bool.and_eq_true] at h
    by_cases e : n = m
    · subst e
      exact evenN_of w n 4 i k h.1 h6 h1 h2 h3 h4 h5
    · exact evenW_of w m n i k h.2 (by omega) h1 h2 h6 h3 h4 h5
theorem own_even (w n i k : Nat) (hw : 1 ≤ w ∧ w ≤ 3) (hn : n < 30) (hi : 1 ≤ i ∧ i ≤ w) (hk : 1 ≤ k ∧ k ≤ w) : cnt (own1 w) n i ≤ cnt (own1 w) n k + 1 := by
  have h := even_t
  simp only [Bool.and_eq_true] at h
  have : w = 1 ∨ w = 2 ∨ w = 3 := by omega
  rcases this with rfl | rfl | rfl
  · exact evenW_of 1 30 n i k h.1.1 hn hi.1 hi.2 (by omega) (by omega) hk.1 hk.2
  · exact evenW_of 2 30 n i k h.1.2 hn hi.1 hi.2 (by omega) (by omega) hk.1 hk.2
  · exact evenW_of 3 30 n i k h.2 hn hi.1 hi.2 (by omega) (by omega) hk.1 hk.2
end Go.Proofs.Ytjffajbahnoilaa
