/-
  Numbers' bytes: their order; P of a nil slice as a text.
-/
import Derived.Test.YtpfeaekankkpiaaGreatDoorEvY
import Derived.Laws.IdiomStrings
namespace Go.Proofs.YtpfeaekankkpiaaGreatDoor
open Go Go.RowKit Go.Lib Go.Ev

theorem hi_len : ∀ (k m : Nat), m < 128 ^ k → (hi m).length ≤ k := by
  intro k
  induction k with
  | zero => intro m h
            obtain rfl : m = 0 := by simpa using h
            simp [hi_zero]
  | succ k ih =>
    intro m h
    by_cases h0 : m = 0
    · subst h0; simp [hi_zero]
    · rw [hi_step h0]
      have := ih (m / 128) (pow_step h)
      simp; omega
theorem enc_len {n : Nat} (h : n < 18446744073709551616) : 1 ≤ (enc n).length ∧ (enc n).length ≤ 10 := by
  have := hi_len 9 (n / 128) (by have : (128 : Nat) ^ 9 = 9223372036854775808 := by decide
                                 omega)
  unfold enc
  simp; omega
theorem hi_small : ∀ (k m : Nat), m ≤ k → ∀ x ∈ hi m, x < 256 := by
  intro k
  induction k with
  | zero => intro m h x hx
            obtain rfl : m = 0 := by omega
            simp [hi_zero] at hx
  | succ k ih =>
    intro m h x hx
    by_cases h0 : m = 0
    · subst h0; simp [hi_zero] at hx
    · rw [hi_step h0, List.mem_append] at hx
      rcases hx with hx | hx
      · exact ih _ (by omega) x hx
      · simp at hx; omega
theorem enc_small (n : Nat) : ∀ x ∈ enc n, x < 256 := by
  intro x hx
  unfold enc at hx
  rw [List.mem_append] at hx
  rcases hx with hx | hx
  · exact hi_small _ _ (Nat.le_refl _) x hx
  · simp at hx; omega

def lx : List Nat → List Nat → Bool
  | _, [] => false
  | [], _ :: _ => true
  | a :: x, b :: y => decide (a < b) || (a == b && lx x y)
theorem lx_irr : ∀ l, lx l l = false
  | [] => rfl
  | a :: l => by simp [lx, lx_irr l]
theorem lx_app : ∀ (x y u v : List Nat), x.length = y.length → lx x y = true → lx (x ++ u) (y ++ v) = true
  | [], [], _, _, _, h => by simp [lx] at h
  | [], _ :: _, _, _, hl, _ => by simp at hl
  | _ :: _, [], _, _, hl, _ => by simp at hl
  | a :: x, b :: y, u, v, hl, h => by
    simp only [lx, List.cons_append, Bool.or_eq_true, Bool.and_eq_true, decide_eq_true_eq, beq_iff_eq] at h ⊢
    rcases h with h | ⟨h1, h2⟩
    · exact .inl h
    · exact .inr ⟨h1, lx_app x y u v (by simpa using hl) h2⟩
theorem lx_last (x : List Nat) {r s : Nat} (h : r < s) : lx (x ++ [r]) (x ++ [s]) = true := by
  induction x with
  | nil => simp [lx, h]
  | cons a x ih => simp [lx, ih]
theorem hi_lt : ∀ (k m m' : Nat), m' ≤ k → m < m' → (hi m).length < (hi m').length ∨ ((hi m).length = (hi m').length ∧ lx (hi m) (hi m') = true) := by
  intro k
  induction k with
  | zero => intro m m' h h'; omega
  | succ k ih =>
    intro m m' h h'
    rw [hi_step (show m' ≠ 0 by omega)]
    by_cases h0 : m = 0
    · subst h0; left; simp [hi_zero]
    · rw [hi_step h0]
      rcases Nat.lt_or_ge (m / 128) (m' / 128) with hq | hq
      · rcases ih (m / 128) (m' / 128) (by omega) hq with h1 | ⟨h1, h2⟩
        · left; simpa using h1
        · right; exact ⟨by simp [h1], lx_app _ _ _ _ h1 h2⟩
      · have e : m / 128 = m' / 128 := by omega
        rw [e]
        right; exact ⟨by simp, lx_last _ (by omega)⟩
theorem enc_lt {n n' : Nat} (h : n < n') : (enc n).length < (enc n').length ∨ ((enc n).length = (enc n').length ∧ lx (enc n) (enc n') = true) := by
  unfold enc
  rcases Nat.lt_or_ge (n / 128) (n' / 128) with hq | hq
  · rcases hi_lt _ (n / 128) (n' / 128) (Nat.le_refl _) hq with h1 | ⟨h1, h2⟩
    · left; simpa using h1
    · right; exact ⟨by simp [h1], lx_app _ _ _ _ h1 h2⟩
  · have e : n / 128 = n' / 128 := by omega
    rw [e]
    right; exact ⟨by simp, lx_last _ (by omega)⟩

/-- The text of some bytes. -/
def sb (l : List Nat) : ByteArray := ⟨(l.map UInt8.ofNat).toArray⟩
theorem sb_size (l : List Nat) : (sb l).size = l.length := by
  show (l.map UInt8.ofNat).toArray.size = _
  simp
theorem sb_toList (l : List Nat) : (sb l).toList = l.map UInt8.ofNat := by
  rw [ByteArray.toList_eq]
  simp [sb]
theorem less_lx : ∀ (x y : List Nat), (∀ a ∈ x, a < 256) → (∀ a ∈ y, a < 256) → Op.bytesLess (x.map UInt8.ofNat) (y.map UInt8.ofNat) = lx x y
  | [], [], _, _ => rfl
  | [], _ :: _, _, _ => rfl
  | _ :: _, [], _, _ => rfl
  | a :: x, b :: y, hx, hy => by
    have ha : a < 256 := hx a (by simp)
    have hb : b < 256 := hy b (by simp)
    have ih := less_lx x y (fun c hc => hx c (by simp [hc])) (fun c hc => hy c (by simp [hc]))
    simp only [List.map_cons, Op.bytesLess, lx, ih]
    have e1 : decide (UInt8.ofNat a < UInt8.ofNat b) = decide (a < b) := by
      rw [decide_eq_decide, UInt8.lt_iff_toNat_lt, UInt8.toNat_ofNat_of_lt' (by simpa using ha), UInt8.toNat_ofNat_of_lt' (by simpa using hb)]
    have e2 : (UInt8.ofNat a == UInt8.ofNat b) = (a == b) := by
      rw [Bool.eq_iff_iff, beq_iff_eq, beq_iff_eq, ← UInt8.toNat_inj, UInt8.toNat_ofNat_of_lt' (by simpa using ha), UInt8.toNat_ofNat_of_lt' (by simpa using hb)]
    rw [e1, e2]

theorem enc_text {a b : Nat} (h : a < b) : ((sb (enc a)).toList == (sb (enc b)).toList) = false ∧ ((sb (enc a)).size < (sb (enc b)).size ∨ ((sb (enc a)).size = (sb (enc b)).size ∧ Op.bytesLess (sb (enc a)).toList (sb (enc b)).toList = true)) := by
  rw [sb_size, sb_size, sb_toList, sb_toList, less_lx _ _ (enc_small a) (enc_small b)]
  refine ⟨?_, enc_lt h⟩
  rw [beq_eq_false_iff_ne]
  intro e
  rcases enc_lt h with h1 | ⟨_, h1⟩
  · have := congrArg List.length e
    simp at this; omega
  · rw [← less_lx _ _ (enc_small a) (enc_small b), e, less_lx _ _ (enc_small b) (enc_small b), lx_irr] at h1
    simp at h1

/-- At block g the text's bytes lie. -/
def StrAt (w : World) (g : Nat) (S : ByteArray) : Prop := g < w.heap.size ∧ ∀ j (hj : j < S.data.toList.length), w.cell? ⟨g, j, none⟩ = some (.int .u8 (S.data.toList[j].toNat : Int))
theorem StrAt.below {w w' : World} {g : Nat} {S : ByteArray} (h : StrAt w g S) (hb : Below w.heap.size w w') : StrAt w' g S :=
  ⟨Nat.lt_of_lt_of_le h.1 hb.size, fun j hj => (hb.cell (p := ⟨g, j, none⟩) h.1).trans (h.2 j hj)⟩
theorem StrAt.conv {w : World} {g c : Nat} {S : ByteArray} (h : StrAt w g S) : (convert 22 9 (.slice (some ⟨g, 0, none⟩) S.size c)).run Tryz.prog w = .ok (.string S) w := by
  have := run_convert_bytes_back (P := Tryz.prog) w 22 9 5 ⟨g, 0, none⟩ c S.data.toList Tryz.underlying22 Tryz.underlying5 Tryz.underlying9 (fun j hj => by rw [add_lit, Nat.zero_add]; exact h.2 j hj)
  rw [Array.length_toList] at this
  exact this
def PS (S : ByteArray) (w : World) (e : Ending) (w' : World) : Prop := ∃ g c, e = .returned (.slice (some ⟨g, 0, none⟩) S.size c) ∧ StrAt w' g S ∧ Below w.heap.size w w'
theorem lays_ps {w w' : World} {l : List Nat} {e : Ending} (h : Lays w 0 [] l e w') (hl : 1 ≤ l.length) (hs : ∀ x ∈ l, x < 256) : PS (sb l) w e w' := by
  obtain ⟨v, rfl, ho, hb⟩ := h
  simp only [Nat.zero_add, List.nil_append] at ho
  obtain ⟨g, c, rfl, _, hlt⟩ := ho.form (by omega)
  refine ⟨g, c, by rw [sb_size], ⟨hlt, fun j hj => ?_⟩, hb⟩
  have hc := ho.cells (g := g) rfl
  have hj' : j < l.length := by simpa [sb] using hj
  have := hc j (.int .u8 (l[j] : Int)) (by simp [u8s, List.getElem?_eq_getElem hj'])
  rw [add_lit, Nat.zero_add] at this
  rw [this]
  have e : ((sb l).data.toList[j]).toNat = l[j] := by
    simp only [sb, List.getElem_map]
    exact UInt8.toNat_ofNat_of_lt' (by simpa using hs _ (List.getElem_mem hj'))
  rw [e]
theorem rd_nil (w : World) : Rd w w.heap.size none 0 0 [] := ⟨rfl, fun _ => ⟨rfl, rfl⟩, fun _ e => by cases e⟩
theorem P_nil {N : Nat} (h : N < 18446744073709551616) (w : World) : Calls Tryz.prog 91 #[.slice none 0 0, .int .u64 N] w (PS (sb (enc N)) w) :=
  (P_any none 0 0 [] N w (rd_nil w) (fun _ h => by cases h) h (by omega)).mono fun _ _ hl => lays_ps hl (enc_len h).1 (enc_small N)
theorem PI_nil {N : Int} (h1 : -9223372036854775808 ≤ N) (h2 : N < 9223372036854775808) (w : World) : Calls Tryz.prog 92 #[.slice none 0 0, .int .i64 N] w (PS (sb (enc (zz N))) w) :=
  (PI_any none 0 0 [] N w (rd_nil w) (fun _ h => by cases h) h1 h2 (by omega)).mono fun _ _ hl => lays_ps hl (enc_len (zz_lt h1 h2)).1 (enc_small _)
end Go.Proofs.YtpfeaekankkpiaaGreatDoor
