/-
  The document's merging, as mathematics: two that meet are replaced, and in the end all are put in order; rows that are written in place.
-/
import Derived.Test.YteiedknpmlemkaaXi
namespace Go.Proofs.Yteiedknpmlemkaa
open Go Go.RowKit Go.Lib Go.Shelf

/-- What merging keeps. -/
structure Merged (l own : List Win) : Prop where
  wins : ∀ x ∈ own, x.1 < x.2
  cells : ∀ t, inC own t ↔ inC l t
  inner : ∀ t, inI own t ↔ inI l t
theorem Merged.start (l : List Win) : Merged (l.filter isW) (l.filter isW) :=
  ⟨fun x hx => by simpa [isW] using (List.mem_filter.1 hx).2, fun _ => Iff.rfl, fun _ => Iff.rfl⟩

theorem inC_perm {l l' : List Win} (h : l.Perm l') (t : Int) : inC l t ↔ inC l' t := by unfold inC; simp only [h.mem_iff]
theorem inI_perm {l l' : List Win} (h : l.Perm l') (t : Int) : inI l t ↔ inI l' t := by unfold inI; simp only [h.mem_iff]

theorem erase_perm : ∀ {l : List Win} {k : Nat} {b : Win}, l[k]? = some b → l.Perm (b :: l.eraseIdx k)
  | [], k, b, h => by simp at h
  | y :: r, 0, b, h => by
    obtain rfl : y = b := by simpa using h
    exact List.Perm.refl _
  | y :: r, k + 1, b, h => ((erase_perm (l := r) (k := k) (by simpa using h)).cons y).trans (List.Perm.swap b y _)

/-- Two that meet, in place of the first their join. -/
theorem Merged.step {l own : List Win} {i k : Nat} {a b : Win} (h : Merged l own) (hi : own[i]? = some a) (hk : own[k]? = some b) (hik : i < k) (hm : meetM a b = true) :
    Merged l ((own.set i (joinM a b)).eraseIdx k) ∧ ((own.set i (joinM a b)).eraseIdx k).length + 1 = own.length := by
  obtain ⟨hkl, _⟩ := List.getElem?_eq_some_iff.1 hk
  have e1 : (own.eraseIdx k)[i]? = some a := by rw [List.getElem?_eraseIdx, if_pos hik]; exact hi
  have p1 : own.Perm (b :: a :: (own.eraseIdx k).eraseIdx i) := (erase_perm hk).trans ((erase_perm e1).cons b)
  have e2 : (own.set i (joinM a b))[k]? = some b := by rw [List.getElem?_set_ne (by omega)]; exact hk
  have e3 : ((own.set i (joinM a b)).eraseIdx k)[i]? = some (joinM a b) := by
    rw [List.getElem?_eraseIdx, if_pos hik, List.getElem?_set_self (by omega)]
  have e4 : ((own.set i (joinM a b)).eraseIdx k).eraseIdx i = (own.eraseIdx k).eraseIdx i := by
    refine List.ext_getElem? fun j => ?_
    simp only [List.getElem?_eraseIdx]
    by_cases h1 : j < i
    · rw [if_pos h1, if_pos h1, if_pos (by omega), if_pos (by omega), List.getElem?_set_ne (by omega)]
    · rw [if_neg h1, if_neg h1]
      by_cases h2 : j + 1 < k
      · rw [if_pos h2, if_pos h2, List.getElem?_set_ne (by omega)]
      · rw [if_neg h2, if_neg h2, List.getElem?_set_ne (by omega)]
  have p2 := erase_perm e3
  rw [e4] at p2
  obtain ⟨m1, m2⟩ := (meet_iff _ _).1 hm
  have ha : a.1 < a.2 := h.wins a (List.mem_of_getElem? hi)
  have hb : b.1 < b.2 := h.wins b (List.mem_of_getElem? hk)
  have j1 : (joinM a b).1 = min a.1 b.1 := rfl
  have j2 : (joinM a b).2 = max a.2 b.2 := rfl
  refine ⟨⟨fun x hx => ?_, fun t => ?_, fun t => ?_⟩, ?_⟩
  · rcases List.mem_cons.1 (p2.mem_iff.1 hx) with rfl | hx
    · rw [j1, j2]; omega
    · exact h.wins x (p1.mem_iff.2 (by simp [hx]))
  · rw [← h.cells, inC_perm p2, inC_perm p1, inC_cons, inC_cons, inC_cons, j1, j2, ← or_assoc]
    refine or_congr ?_ Iff.rfl
    omega
  · rw [← h.inner, inI_perm p2, inI_perm p1, inI_cons, inI_cons, inI_cons, j1, j2, ← or_assoc]
    refine or_congr ?_ Iff.rfl
    omega
  · rw [List.length_eraseIdx, List.length_set, if_pos hkl]; omega

theorem ins_perm (x : Win) : ∀ l : List Win, (ins x l).Perm (x :: l)
  | [] => List.Perm.refl _
  | y :: r => by
    unfold ins
    split
    · exact List.Perm.refl _
    · exact ((ins_perm x r).cons y).trans (List.Perm.swap x y r)
theorem ins_split (x : Win) : ∀ (l : List Win) (j : Nat), j ≤ l.length → (∀ p y, p < j → l[p]? = some y → y.1 < x.1) → (∀ y, l[j]? = some y → ¬ y.1 < x.1) → ins x l = l.take j ++ x :: l.drop j
  | [], j, hj, _, _ => by
    obtain rfl : j = 0 := by simpa using hj
    rfl
  | y :: r, 0, _, _, h => by
    have := h y rfl
    unfold ins
    rw [if_pos (by omega)]
    rfl
  | y :: r, j + 1, hj, h1, h2 => by
    have := h1 0 y (by omega) rfl
    unfold ins
    rw [if_neg (by omega), ins_split x r j (by simpa using hj) (fun p z hp hz => h1 (p + 1) z (by omega) (by simpa using hz)) (fun z hz => h2 z (by simpa using hz))]
    rfl
/-- The windows of a list, put in one by one. -/
def sorted (l : List Win) : List Win := l.foldl (fun acc x => ins x acc) []
theorem sorted_snoc (l : List Win) (x : Win) : sorted (l ++ [x]) = ins x (sorted l) := by simp [sorted]
theorem sorted_perm' : ∀ (l acc : List Win), (l.foldl (fun acc x => ins x acc) acc).Perm (l ++ acc)
  | [], acc => List.Perm.refl _
  | x :: r, acc => by
    refine (sorted_perm' r (ins x acc)).trans ?_
    refine (List.Perm.append_left r (ins_perm x acc)).trans ?_
    exact List.perm_middle
theorem sorted_perm (l : List Win) : (sorted l).Perm l := by have := sorted_perm' l []; simpa [sorted] using this
theorem sorted_rises' : ∀ (l acc : List Win), Rises acc → Rises (l.foldl (fun acc x => ins x acc) acc)
  | [], acc, h => h
  | x :: r, acc, h => sorted_rises' r (ins x acc) (ins_rises x acc h)
theorem sorted_rises (l : List Win) : Rises (sorted l) := sorted_rises' l [] List.Pairwise.nil

theorem meet_symm (a b : Win) : meetM a b = meetM b a := by simp [meetM, Bool.and_comm]
theorem pairwise_of (l : List Win) (h : NoPair l l.length) : l.Pairwise (fun a b => meetM a b = false) := by
  rw [List.pairwise_iff_getElem]
  intro i j hi hj hij
  exact h i j _ _ hi hij (List.getElem?_eq_getElem hi) (List.getElem?_eq_getElem hj)
/-- What the document's merging comes to. -/
theorem merged_end {l own : List Win} (h : Merged (l.filter isW) own) (hn : NoPair own own.length) : sorted own = gatherM l := by
  have hp := sorted_perm own
  have g := gat_gather l
  refine apart_unique _ _ ?_ g.apart (fun t => ?_) (fun t => ?_)
  · refine ⟨?_, fun x hx => h.wins x (hp.mem_iff.1 hx)⟩
    have q1 : (sorted own).Pairwise (fun a b => meetM a b = false) := (hp.symm.pairwise_iff (fun {a b} (e : meetM a b = false) => by rw [meet_symm]; exact e)).1 (pairwise_of own hn)
    have q2 := sorted_rises own
    rw [List.pairwise_iff_getElem] at q1 ⊢
    unfold Rises at q2
    rw [List.pairwise_iff_getElem] at q2
    intro i j hi hj hij
    have a1 := q1 i j hi hj hij
    have a2 := q2 i j hi hj hij
    have b1 := h.wins _ (hp.mem_iff.1 (List.getElem_mem hj))
    have b2 : ¬ ((sorted own)[i].1 < (sorted own)[j].2 ∧ (sorted own)[j].1 < (sorted own)[i].2) := fun q => by rw [(meet_iff _ _).2 q] at a1; cases a1
    omega
  · rw [inC_perm hp, h.cells, g.cells]
  · rw [inI_perm hp, h.inner, g.inner]

/-- A row of windows that may be written in place. -/
def Rw (base : Nat) (W : World) (v : Value) (l : List Win) : Prop :=
  ∃ A cap, v = .slice A l.length cap ∧ (l = [] ∨ ∃ g cur, A = some ⟨g, 0, none⟩ ∧ base ≤ g ∧ W.heap[g]? = some (.cells cur 34 (0, 0)) ∧ l.length ≤ cap ∧ cap ≤ maxLen ∧ cap * 2 ≤ cur.size ∧ cur.toList.take (l.length * 2) = cellsL l)
theorem rw_of_row {W : World} {base : Nat} {v : Value} {l : List Win} (h : W.ownsRow base 34 2 v l.length (cellsL l)) : Rw base W v l := by
  obtain ⟨_, ⟨rfl, hn⟩ | ⟨g, cap, cur, rfl, hb, hc, h1, h2, h3, h4⟩⟩ := h
  · exact ⟨none, 0, by rw [hn], .inl (List.length_eq_zero_iff.1 hn)⟩
  · exact ⟨_, cap, rfl, .inr ⟨g, cur, rfl, hb, hc, h1, h2, by omega, h4⟩⟩
theorem Rw.wins {W : World} {base : Nat} {v : Value} {l : List Win} (h : Rw base W v l) : Wins W W.heap.size v l := by
  obtain ⟨A, cap, rfl, h0 | ⟨g, cur, rfl, hb, hc, h1, h2, h3, h4⟩⟩ := h
  · exact ⟨A, cap, rfl, .inl h0⟩
  · refine ⟨_, cap, rfl, .inr ⟨g, rfl, (Array.getElem?_eq_some_iff.1 hc).1, fun j x hx => ?_⟩⟩
    obtain ⟨a, b⟩ := cellsL_at l j x hx
    have hj := (List.getElem?_eq_some_iff.1 hx).1
    have at_ : ∀ i u, (cellsL l)[i]? = some u → W.cell? ⟨g, i, none⟩ = some u := by
      intro i u hi
      rw [← h4, List.getElem?_take] at hi
      have h6 : i < l.length * 2 := Classical.byContradiction fun q => by rw [if_neg q] at hi; cases hi
      rw [if_pos h6] at hi
      simp only [World.cell?, hc]
      simpa using hi
    exact ⟨at_ _ _ a, at_ _ _ b⟩
theorem Rw.below {W W' : World} {base : Nat} {v : Value} {l : List Win} (h : Rw base W v l) (hb : Below W.heap.size W W') : Rw base W' v l := by
  obtain ⟨A, cap, rfl, h0 | ⟨g, cur, rfl, hb', hc, h1⟩⟩ := h
  · exact ⟨A, cap, rfl, .inl h0⟩
  · exact ⟨_, cap, rfl, .inr ⟨g, cur, rfl, hb', (hb.block g (Array.getElem?_eq_some_iff.1 hc).1).trans hc, h1⟩⟩
theorem cellsL_set : ∀ (l : List Win) (i : Nat) (x : Win), i < l.length → cellsL (l.set i x) = ((cellsL l).set (i * 2) (.int .i64 x.1)).set (i * 2 + 1) (.int .i64 x.2)
  | [], i, x, h => by simp at h
  | y :: l, 0, x, _ => by rw [List.set_cons_zero, cellsL_cons, cellsL_cons]; rfl
  | y :: l, i + 1, x, h => by
    rw [List.set_cons_succ, cellsL_cons, cellsL_cons, cellsL_set l i x (by simpa using h), show (i + 1) * 2 = i * 2 + 1 + 1 by omega]
    rfl
theorem Rw.set {W : World} {base g n cap i : Nat} {l : List Win} (h : Rw base W (.slice (some ⟨g, 0, none⟩) n cap) l) (hi : i < l.length) (x : Win) :
    Rw base ((W.setCell ⟨g, i * 2, none⟩ (.int .i64 x.1)).setCell ⟨g, i * 2 + 1, none⟩ (.int .i64 x.2)) (.slice (some ⟨g, 0, none⟩) n cap) (l.set i x) := by
  obtain ⟨A, cap', e, h0 | ⟨g', cur, rfl, hb, hc, h1, h2, h3, h4⟩⟩ := h
  · rw [h0] at hi; simp at hi
  · simp only [Value.slice.injEq, Option.some.injEq, Addr.mk.injEq, and_true, true_and] at e
    obtain ⟨rfl, rfl, rfl⟩ := e
    refine ⟨_, cap, by rw [List.length_set], .inr ⟨g, _, rfl, hb, set_heap (set_heap hc _ _) _ _, by rw [List.length_set]; exact h1, h2, by simpa using h3, ?_⟩⟩
    rw [List.length_set, cellsL_set l i x hi, ← h4]
    simp only [Array.toList_setIfInBounds]
    rw [List.take_set, List.take_set]
theorem Rw.erase_last {W : World} {base g n cap : Nat} {l : List Win} (h : Rw base W (.slice (some ⟨g, 0, none⟩) n cap) l) (k : Nat) (hk : k + 1 = l.length) : Rw base W (.slice (some ⟨g, 0, none⟩) k k) (l.eraseIdx k) := by
  obtain ⟨A, cap', e, h0 | ⟨g', cur, rfl, hb, hc, h1, h2, h3, h4⟩⟩ := h
  · rw [h0] at hk; simp at hk
  · simp only [Value.slice.injEq, Option.some.injEq, Addr.mk.injEq, and_true, true_and] at e
    obtain ⟨rfl, rfl, rfl⟩ := e
    have hl : (l.eraseIdx k).length = k := by rw [List.length_eraseIdx, if_pos (by omega)]; omega
    have he : l.eraseIdx k = l.take k := by
      rw [List.eraseIdx_eq_take_drop_succ, List.drop_of_length_le (by omega), List.append_nil]
    refine ⟨_, k, by rw [hl], .inr ⟨g, cur, rfl, hb, hc, by omega, by omega, by omega, ?_⟩⟩
    have hc2 : cellsL l = cellsL (l.take k) ++ cellsL (l.drop k) := by
      unfold cellsL
      rw [← List.flatMap_append, List.take_append_drop]
    have ht : (l.take k).length = k := by rw [List.length_take]; omega
    rw [he, ht]
    have : cur.toList.take (k * 2) = (cellsL l).take (k * 2) := by rw [← h4, List.take_take, Nat.min_eq_left (by omega)]
    rw [this, hc2, List.take_append_of_le_length (by rw [cellsL_len, ht]; exact Nat.le_refl _), List.take_of_length_le (by rw [cellsL_len, ht]; exact Nat.le_refl _)]
end Go.Proofs.Yteiedknpmlemkaa
