/-
  The evaluator's store and its values: what the trie gives back, what it is for a value to stand for another one.
-/
import Derived.Test.YtpfeaekankkpiaaGreatDoorEv
import Derived.Below
namespace Go.Ev
open Go Go.RowKit

section trie
variable {α : Type}
theorem Tr.get_nil (i : Nat) : (Tr.nil : Tr α).get i = none := rfl
theorem Tr.get_node (o : Option α) (l r : Tr α) (i : Nat) :
    (Tr.node o l r).get i = if i = 0 then o else if i % 2 = 1 then l.get (i / 2) else r.get ((i - 1) / 2) := by
  show Bool.rec (motive := fun _ => Option α) (Bool.rec (motive := fun _ => Option α) (r.get (Nat.div (Nat.pred i) 2)) (l.get (Nat.div i 2)) (Nat.beq (Nat.mod i 2) 1)) o (Nat.beq i 0) = _
  have e0 : Nat.beq i 0 = decide (i = 0) := by rw [Bool.eq_iff_iff]; simp
  have e1 : Nat.beq (Nat.mod i 2) 1 = decide (i % 2 = 1) := by rw [Bool.eq_iff_iff]; simp [show Nat.mod i 2 = i % 2 from rfl]
  rw [e0, e1]
  by_cases h0 : i = 0
  · simp [h0]
  · by_cases h1 : i % 2 = 1
    · simp [h0, h1]; rfl
    · simp [h0, h1]; rfl
theorem Tr.one_zero (a : Option α) (i : Nat) : Tr.one a 0 i = .nil := rfl
theorem Tr.one_succ (a : Option α) (f i : Nat) :
    Tr.one a (f + 1) i = if i = 0 then .node a .nil .nil else if i % 2 = 1 then .node none (Tr.one a f (i / 2)) .nil else .node none .nil (Tr.one a f ((i - 1) / 2)) := by
  show Bool.rec (motive := fun _ => Tr α) (Bool.rec (motive := fun _ => Tr α) (.node none .nil (Tr.one a f (Nat.div (Nat.pred i) 2))) (.node none (Tr.one a f (Nat.div i 2)) .nil) (Nat.beq (Nat.mod i 2) 1)) (.node a .nil .nil) (Nat.beq i 0) = _
  have e0 : Nat.beq i 0 = decide (i = 0) := by rw [Bool.eq_iff_iff]; simp
  have e1 : Nat.beq (Nat.mod i 2) 1 = decide (i % 2 = 1) := by rw [Bool.eq_iff_iff]; simp [show Nat.mod i 2 = i % 2 from rfl]
  rw [e0, e1]
  by_cases h0 : i = 0
  · simp [h0]
  · by_cases h1 : i % 2 = 1
    · simp [h0, h1]; rfl
    · simp [h0, h1]; rfl
theorem Tr.put_nil (f i : Nat) (a : Option α) : (Tr.nil : Tr α).put f i a = Tr.one a f i := rfl
theorem Tr.put_node (f i : Nat) (a o : Option α) (l r : Tr α) :
    (Tr.node o l r).put f i a = if i = 0 then .node a l r else if i % 2 = 1 then .node o (l.put f (i / 2) a) r else .node o l (r.put f ((i - 1) / 2) a) := by
  show Bool.rec (motive := fun _ => Tr α) (Bool.rec (motive := fun _ => Tr α) (.node o l (r.put f (Nat.div (Nat.pred i) 2) a)) (.node o (l.put f (Nat.div i 2) a) r) (Nat.beq (Nat.mod i 2) 1)) (.node a l r) (Nat.beq i 0) = _
  have e0 : Nat.beq i 0 = decide (i = 0) := by rw [Bool.eq_iff_iff]; simp
  have e1 : Nat.beq (Nat.mod i 2) 1 = decide (i % 2 = 1) := by rw [Bool.eq_iff_iff]; simp [show Nat.mod i 2 = i % 2 from rfl]
  rw [e0, e1]
  by_cases h0 : i = 0
  · simp [h0]
  · by_cases h1 : i % 2 = 1
    · simp [h0, h1]; rfl
    · simp [h0, h1]; rfl
theorem Tr.get_one (a : Option α) : ∀ (f i : Nat), i + 1 < 2 ^ f → ∀ j, (Tr.one a f i).get j = if j = i then a else none := by
  intro f
  induction f with
  | zero => intro i hi; simp at hi
  | succ f ih =>
    intro i hi j
    rw [Nat.pow_succ] at hi
    rw [Tr.one_succ]
    by_cases h0 : i = 0
    · simp only [h0, if_true, Tr.get_node, Tr.get_nil]; split <;> simp
    · by_cases h1 : i % 2 = 1
      · simp only [h0, h1, if_true, if_false, Tr.get_node, Tr.get_nil]
        rw [ih (i / 2) (by omega)]
        by_cases j0 : j = 0
        · simp [j0]; omega
        · by_cases j1 : j % 2 = 1
          · simp only [j0, j1, if_true, if_false]
            by_cases e : j = i
            · subst e; simp
            · rw [if_neg (by omega), if_neg e]
          · simp only [j0, j1, if_false]; rw [if_neg (by intro e; subst e; exact j1 h1)]
      · simp only [h0, h1, if_false, Tr.get_node, Tr.get_nil]
        rw [ih ((i - 1) / 2) (by omega)]
        by_cases j0 : j = 0
        · simp [j0]; omega
        · by_cases j1 : j % 2 = 1
          · simp only [j0, j1, if_true, if_false]; rw [if_neg (by intro e; subst e; exact h1 j1)]
          · simp only [j0, j1, if_false]
            by_cases e : j = i
            · subst e; simp
            · rw [if_neg (by omega), if_neg e]
theorem Tr.get_put (f : Nat) (a : Option α) : ∀ (t : Tr α) (i : Nat), i + 1 < 2 ^ f → ∀ j, (t.put f i a).get j = if j = i then a else t.get j := by
  intro t
  induction t with
  | nil => intro i hi j; rw [Tr.put_nil, Tr.get_one a f i hi j]; rfl
  | node o l r ihl ihr =>
    intro i hi j
    rw [Tr.put_node]
    by_cases h0 : i = 0
    · simp only [h0, if_true, Tr.get_node]; split <;> simp_all
    · by_cases h1 : i % 2 = 1
      · simp only [h0, h1, if_true, if_false, Tr.get_node]
        rw [ihl (i / 2) (by omega)]
        by_cases j0 : j = 0
        · simp [j0]; omega
        · by_cases j1 : j % 2 = 1
          · simp only [j0, j1, if_true, if_false]
            by_cases e : j = i
            · subst e; simp
            · rw [if_neg (by omega), if_neg e]
          · simp only [j0, j1, if_false]; rw [if_neg (by intro e; subst e; exact j1 h1)]
      · simp only [h0, h1, if_false, Tr.get_node]
        rw [ihr ((i - 1) / 2) (by omega)]
        by_cases j0 : j = 0
        · simp [j0]; omega
        · by_cases j1 : j % 2 = 1
          · simp only [j0, j1, if_true, if_false]; rw [if_neg (by intro e; subst e; exact h1 j1)]
          · simp only [j0, j1, if_false]
            by_cases e : j = i
            · subst e; simp
            · rw [if_neg (by omega), if_neg e]
theorem Tr.get_put24 (t : Tr α) (i : Nat) (a : Option α) (h : i < 1000000) (j : Nat) : (t.put 24 i a).get j = if j = i then a else t.get j :=
  Tr.get_put 24 a t i (by omega) j
end trie

/-! ### Values -/
/-- Where the abstract heap's block lies, and the capacity of its row. -/
def blk (μ : List (Nat × Nat)) (id : Nat) : Option Nat := match μ[id]? with | some p => some p.1 | none => none
def cpo (μ : List (Nat × Nat)) (id : Nat) : Option Nat := match μ[id]? with | some p => some p.2 | none => none

theorem blk_mono {μ μ' : List (Nat × Nat)} (h : μ <+: μ') {id b : Nat} (hb : blk μ id = some b) : blk μ' id = some b := by
  obtain ⟨t, rfl⟩ := h
  unfold blk at *
  cases hm : μ[id]? with
  | none => rw [hm] at hb; simp at hb
  | some p =>
    rw [hm] at hb
    rw [List.getElem?_append_left (List.getElem?_eq_some_iff.1 hm).1, hm]
    exact hb
theorem cpo_mono {μ μ' : List (Nat × Nat)} (h : μ <+: μ') {id b : Nat} (hb : cpo μ id = some b) : cpo μ' id = some b := by
  obtain ⟨t, rfl⟩ := h
  unfold cpo at *
  cases hm : μ[id]? with
  | none => rw [hm] at hb; simp at hb
  | some p =>
    rw [hm] at hb
    rw [List.getElem?_append_left (List.getElem?_eq_some_iff.1 hm).1, hm]
    exact hb
theorem blk_lt {μ : List (Nat × Nat)} {id b : Nat} (hb : blk μ id = some b) : id < μ.length := by
  unfold blk at hb
  cases hm : μ[id]? with
  | none => rw [hm] at hb; simp at hb
  | some p => exact (List.getElem?_eq_some_iff.1 hm).1

mutual
/-- The abstract value stands for the value, where the abstract heap's blocks lie as the list says. -/
def VR (μ : List (Nat × Nat)) : AV → Value → Prop
  | .bool b, v => v = .bool b
  | .int k n, v => v = .int k n
  | .str s, v => v = .string ⟨s.toArray⟩
  | .ptr id off, v => ∃ b, blk μ id = some b ∧ v = .pointer (some ⟨b, off, none⟩)
  | .slice id off len cap ex, v => ∃ b c, blk μ id = some b ∧ v = .slice (some ⟨b, off, none⟩) len c ∧ cap ≤ c ∧ (ex = true → c = cap) ∧ (ex = false → cpo μ id = some c)
  | .map id, v => ∃ b, blk μ id = some b ∧ v = .map (some b)
  | .func fn f c, v => ∃ f' c', v = .func fn f' c' ∧ VRs μ f f'.toList ∧ VRs μ c c'.toList
  | .iface t a, v => ∃ u, v = .iface t u ∧ VR μ a u
  | .agg cs, v => ∃ u, v = .agg u ∧ VRs μ cs u.toList
  | .tuple cs, v => ∃ u, v = .tuple u ∧ VRs μ cs u.toList
  | .raw u, v => v = u
def VRs (μ : List (Nat × Nat)) : List AV → List Value → Prop
  | [], vs => vs = []
  | a :: l, vs => ∃ v rest, vs = v :: rest ∧ VR μ a v ∧ VRs μ l rest
end

theorem VRs_nil {μ : List (Nat × Nat)} {vs : List Value} : VRs μ [] vs ↔ vs = [] := by unfold VRs; exact Iff.rfl
theorem VRs_cons {μ : List (Nat × Nat)} {a : AV} {l : List AV} {vs : List Value} : VRs μ (a :: l) vs ↔ ∃ v rest, vs = v :: rest ∧ VR μ a v ∧ VRs μ l rest := by
  conv => lhs; unfold VRs

mutual
theorem VR_mono {μ μ' : List (Nat × Nat)} (h : μ <+: μ') : ∀ (a : AV) (v : Value), VR μ a v → VR μ' a v
  | .bool _, _ => by unfold VR; exact id
  | .int _ _, _ => by unfold VR; exact id
  | .str _, _ => by unfold VR; exact id
  | .ptr _ _, _ => by
    unfold VR; rintro ⟨b, hb, rfl⟩
    exact ⟨b, blk_mono h hb, rfl⟩
  | .slice _ _ _ _ _, _ => by
    unfold VR; rintro ⟨b, c, hb, rfl, h1, h2, h3⟩
    exact ⟨b, c, blk_mono h hb, rfl, h1, h2, fun e => cpo_mono h (h3 e)⟩
  | .map _, _ => by
    unfold VR; rintro ⟨b, hb, rfl⟩
    exact ⟨b, blk_mono h hb, rfl⟩
  | .func _ f c, _ => by
    unfold VR; rintro ⟨f', c', rfl, h1, h2⟩
    exact ⟨f', c', rfl, VRs_mono h f _ h1, VRs_mono h c _ h2⟩
  | .iface _ a, _ => by
    unfold VR; rintro ⟨u, rfl, h1⟩
    exact ⟨u, rfl, VR_mono h a _ h1⟩
  | .agg cs, _ => by
    unfold VR; rintro ⟨u, rfl, h1⟩
    exact ⟨u, rfl, VRs_mono h cs _ h1⟩
  | .tuple cs, _ => by
    unfold VR; rintro ⟨u, rfl, h1⟩
    exact ⟨u, rfl, VRs_mono h cs _ h1⟩
  | .raw _, _ => by unfold VR; exact id
theorem VRs_mono {μ μ' : List (Nat × Nat)} (h : μ <+: μ') : ∀ (l : List AV) (vs : List Value), VRs μ l vs → VRs μ' l vs
  | [], _ => by unfold VRs; exact id
  | a :: l, _ => by
    unfold VRs; rintro ⟨v, rest, rfl, h1, h2⟩
    exact ⟨v, rest, rfl, VR_mono h a _ h1, VRs_mono h l _ h2⟩
end

section lists
variable {μ : List (Nat × Nat)}
theorem VRs_length : ∀ {l : List AV} {vs : List Value}, VRs μ l vs → vs.length = l.length
  | [], _, h => by rw [VRs_nil] at h; simp [h]
  | a :: l, vs, h => by
    rw [VRs_cons] at h
    obtain ⟨v, rest, rfl, _, h2⟩ := h
    simp [VRs_length h2]
theorem VRs_append : ∀ {l m : List AV} {vs ws : List Value}, VRs μ l vs → VRs μ m ws → VRs μ (l ++ m) (vs ++ ws)
  | [], _, _, _, h, k => by rw [VRs_nil] at h; subst h; exact k
  | a :: l, m, vs, ws, h, k => by
    rw [VRs_cons] at h
    obtain ⟨v, rest, rfl, h1, h2⟩ := h
    rw [List.cons_append, VRs_cons]
    exact ⟨v, rest ++ ws, rfl, h1, VRs_append h2 k⟩
theorem VRs_drop : ∀ {l : List AV} {vs : List Value} (n : Nat), VRs μ l vs → VRs μ (l.drop n) (vs.drop n)
  | [], _, n, h => by rw [VRs_nil] at h; subst h; simp [VRs_nil]
  | a :: l, vs, 0, h => by simpa using h
  | a :: l, vs, n + 1, h => by
    rw [VRs_cons] at h
    obtain ⟨v, rest, rfl, _, h2⟩ := h
    simpa using VRs_drop n h2
theorem VRs_take : ∀ {l : List AV} {vs : List Value} (n : Nat), VRs μ l vs → VRs μ (l.take n) (vs.take n)
  | [], _, n, h => by rw [VRs_nil] at h; subst h; simp [VRs_nil]
  | a :: l, vs, 0, h => by simp [VRs_nil]
  | a :: l, vs, n + 1, h => by
    rw [VRs_cons] at h
    obtain ⟨v, rest, rfl, h1, h2⟩ := h
    simp only [List.take_succ_cons]
    rw [VRs_cons]
    exact ⟨v, rest.take n, rfl, h1, VRs_take n h2⟩
theorem VRs_get : ∀ {l : List AV} {vs : List Value} {i : Nat} {a : AV}, VRs μ l vs → l[i]? = some a → ∃ v, vs[i]? = some v ∧ VR μ a v
  | [], _, _, _, _, ha => by simp at ha
  | b :: l, vs, 0, a, h, ha => by
    rw [VRs_cons] at h
    obtain ⟨v, rest, rfl, h1, _⟩ := h
    simp at ha; subst ha
    exact ⟨v, rfl, h1⟩
  | b :: l, vs, i + 1, a, h, ha => by
    rw [VRs_cons] at h
    obtain ⟨v, rest, rfl, _, h2⟩ := h
    simpa using VRs_get h2 (by simpa using ha)
theorem takeN_eq : ∀ {n : Nat} {l r : List AV}, takeN n l = some r → r = l.take n ∧ n ≤ l.length
  | 0, l, r, h => by simp [takeN] at h; simp [h]
  | n + 1, [], r, h => by simp [takeN] at h
  | n + 1, v :: l, r, h => by
    simp only [takeN] at h
    split at h
    · rename_i s hs
      simp at h; subst h
      obtain ⟨h1, h2⟩ := takeN_eq hs
      exact ⟨by simp [h1], by simpa using h2⟩
    · simp at h
theorem VRs_takeN {n : Nat} {l r : List AV} {vs : List Value} (h : VRs μ l vs) (hr : takeN n l = some r) : VRs μ r (vs.take n) ∧ n ≤ vs.length := by
  obtain ⟨rfl, hn⟩ := takeN_eq hr
  exact ⟨VRs_take n h, by rw [VRs_length h]; exact hn⟩
end lists

/-! ### From a value, and back -/
theorem VR_ofScalar (μ : List (Nat × Nat)) (v : Value) : VR μ (ofScalar v) v := by
  cases v <;> simp [ofScalar, VR]
theorem VRs_ofScalar (μ : List (Nat × Nat)) : ∀ (l : List Value), VRs μ (l.map ofScalar) l
  | [] => by simp [VRs_nil]
  | v :: l => by
    rw [List.map_cons, VRs_cons]
    exact ⟨v, l, rfl, VR_ofScalar μ v, VRs_ofScalar μ l⟩
theorem VR_ofVal (μ : List (Nat × Nat)) (v : Value) : VR μ (ofVal v) v := by
  cases v with
  | agg cs => simp only [ofVal]; unfold VR; exact ⟨cs, rfl, VRs_ofScalar μ _⟩
  | tuple cs => simp only [ofVal]; unfold VR; exact ⟨cs, rfl, VRs_ofScalar μ _⟩
  | iface t v =>
    cases v with
    | agg cs => simp only [ofVal]; unfold VR; exact ⟨_, rfl, by unfold VR; exact ⟨cs, rfl, VRs_ofScalar μ _⟩⟩
    | _ => simp only [ofVal]; unfold VR; exact ⟨_, rfl, VR_ofScalar μ _⟩
  | _ => simp [ofVal, VR]

theorem VR_sc {μ : List (Nat × Nat)} {a : AV} {v w : Value} (h : a.sc = some v) (hw : VR μ a w) : w = v := by
  cases a <;> simp [AV.sc] at h <;> subst h <;> simpa [VR] using hw
theorem VRs_scs {μ : List (Nat × Nat)} : ∀ {l : List AV} {vs ws : List Value}, scs l = some vs → VRs μ l ws → ws = vs
  | [], vs, ws, h, hw => by simp [scs] at h; subst h; simpa [VRs_nil] using hw
  | a :: l, vs, ws, h, hw => by
    rw [VRs_cons] at hw
    obtain ⟨w, rest, rfl, h1, h2⟩ := hw
    simp only [scs] at h
    split at h
    · rename_i v hv
      split at h
      · rename_i us hu
        simp at h; subst h
        rw [VR_sc hv h1, VRs_scs hu h2]
      · simp at h
    · simp at h
theorem VR_val {μ : List (Nat × Nat)} {a : AV} {v w : Value} (h : a.val = some v) (hw : VR μ a w) : w = v := by
  cases a with
  | agg cs =>
    simp only [AV.val] at h
    split at h
    · rename_i vs hs
      simp at h; subst h
      unfold VR at hw
      obtain ⟨u, rfl, hu⟩ := hw
      have := VRs_scs hs hu
      rw [← this]
    · simp at h
  | iface t a =>
    unfold VR at hw
    obtain ⟨u, rfl, hu⟩ := hw
    cases a with
    | agg cs =>
      simp only [AV.val] at h
      split at h
      · rename_i vs hs
        simp at h; subst h
        unfold VR at hu
        obtain ⟨u, rfl, hu⟩ := hu
        have := VRs_scs hs hu
        rw [← this]
      · simp at h
    | _ =>
      simp only [AV.val] at h
      split at h
      · rename_i v hv
        simp at h; subst h
        rw [VR_sc hv hu]
      · simp at h
  | _ => simp only [AV.val] at h; exact VR_sc h hw

theorem pureRun_ok {α : Type} {P : Program} : ∀ {s : Sem α} {r : α ⊕ Value}, pureRun P s = some r → ∀ w, s.run P w = (match r with | .inl a => .ok a w | .inr v => .halt (.panic v) w)
  | .pure a, r, h, w => by simp [pureRun] at h; subst h; rfl
  | .program k, r, h, w => by simp only [pureRun] at h; simp only [Sem.run]; exact pureRun_ok h w
  | .mark m k, r, h, w => by simp only [pureRun] at h; simp only [Sem.run]; exact pureRun_ok h w
  | .halt (.panic v), r, h, w => by simp [pureRun] at h; subst h; rfl
  | .halt .blocked, r, h, w => by simp [pureRun] at h
  | .halt .waiting, r, h, w => by simp [pureRun] at h
  | .halt .goexit, r, h, w => by simp [pureRun] at h
  | .halt (.exit _), r, h, w => by simp [pureRun] at h
  | .halt (.fatal _), r, h, w => by simp [pureRun] at h
  | .halt (.throw _), r, h, w => by simp [pureRun] at h
  | .halt (.unsupported _), r, h, w => by simp [pureRun] at h
  | .halt (.stuck _), r, h, w => by simp [pureRun] at h
  | .load _ _ _, r, h, w => by simp [pureRun] at h
  | .store _ _ _ _, r, h, w => by simp [pureRun] at h
  | .new _ _, r, h, w => by simp [pureRun] at h
  | .shape _ _, r, h, w => by simp [pureRun] at h
  | .freeze _ _ _, r, h, w => by simp [pureRun] at h
  | .frozen _ _, r, h, w => by simp [pureRun] at h
  | .getObj _ _, r, h, w => by simp [pureRun] at h
  | .setObj _ _ _, r, h, w => by simp [pureRun] at h
  | .choose _ _, r, h, w => by simp [pureRun] at h
  | .sys _ _, r, h, w => by simp [pureRun] at h
end Go.Ev
