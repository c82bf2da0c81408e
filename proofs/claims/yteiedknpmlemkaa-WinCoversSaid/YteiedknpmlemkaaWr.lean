/-
  Gathered windows, as mathematics: they stand apart, have the same times, and are the only ones that do.
-/
import Derived.Test.YteiedknpmlemkaaWp
namespace Go.Proofs.Yteiedknpmlemkaa
open Go Go.RowKit Go.Lib Go.Shelf

/-- A time is in one of these; a time is inside one of these. -/
def inC (l : List Win) (t : Int) : Prop := ∃ x ∈ l, x.1 ≤ t ∧ t < x.2
def inI (l : List Win) (t : Int) : Prop := ∃ x ∈ l, x.1 < t ∧ t < x.2
/-- They rise, and none meets another one. -/
def Apart (l : List Win) : Prop := l.Pairwise (fun x y => x.2 ≤ y.1) ∧ ∀ x ∈ l, x.1 < x.2

theorem inC_cons (x : Win) (l : List Win) (t : Int) : inC (x :: l) t ↔ (x.1 ≤ t ∧ t < x.2) ∨ inC l t := by simp [inC]
theorem inI_cons (x : Win) (l : List Win) (t : Int) : inI (x :: l) t ↔ (x.1 < t ∧ t < x.2) ∨ inI l t := by simp [inI]

theorem meet_iff (a b : Win) : meetM a b = true ↔ a.1 < b.2 ∧ b.1 < a.2 := by simp [meetM]

structure UniFacts (now : Win) (l : List Win) : Prop where
  apart : Apart (uni now l)
  from_ : ∀ y ∈ uni now l, now.1 ≤ y.1
  cells : ∀ t, inC (uni now l) t ↔ inC (now :: l) t
  inner : ∀ t, inI (uni now l) t ↔ inI (now :: l) t
  ends : ∀ y ∈ uni now l, (∃ x ∈ now :: l, x.1 = y.1) ∧ (∃ x ∈ now :: l, x.2 = y.2)

theorem ne_zero {now : Win} (h : now.1 < now.2) : now ≠ (0, 0) := fun e => by subst e; simp at h
theorem uni_facts : ∀ (l : List Win) (now : Win), now.1 < now.2 → (∀ x ∈ l, x.1 < x.2 ∧ now.1 ≤ x.1) → Rises l → UniFacts now l
  | [], now, h, _, _ => by
    have e := uni_last (ne_zero h)
    refine ⟨?_, ?_, ?_, ?_, ?_⟩ <;> rw [e]
    · exact ⟨List.pairwise_singleton _ _, by simpa using h⟩
    · simp
    · intro t; rfl
    · intro t; rfl
    · intro y hy
      exact ⟨⟨y, hy, rfl⟩, ⟨y, hy, rfl⟩⟩
  | x :: r, now, h, hx, hr => by
    obtain ⟨hr1, hr2⟩ := List.pairwise_cons.1 hr
    obtain ⟨x1, x2⟩ := hx x (by simp)
    cases hm : meetM now x with
    | true =>
      have hm' := (meet_iff _ _).1 hm
      have e := uni_join r (ne_zero h) hm
      have j1 : (joinM now x).1 = now.1 := by simp only [joinM]; omega
      have j2 : (joinM now x).2 = max now.2 x.2 := rfl
      have F := uni_facts r (joinM now x) (by rw [j1, j2]; omega) (fun y hy => ⟨(hx y (by simp [hy])).1, by rw [j1]; exact (hx y (by simp [hy])).2⟩) hr2
      refine ⟨?_, ?_, ?_, ?_, ?_⟩ <;> rw [e]
      · exact F.apart
      · intro y hy; have := F.from_ y hy; rw [j1] at this; exact this
      · intro t
        rw [F.cells, inC_cons, inC_cons, inC_cons, j1, j2, ← or_assoc]
        refine or_congr ?_ Iff.rfl
        omega
      · intro t
        rw [F.inner, inI_cons, inI_cons, inI_cons, j1, j2, ← or_assoc]
        refine or_congr ?_ Iff.rfl
        omega
      · intro y hy
        obtain ⟨⟨a, ha, ea⟩, ⟨b, hb, eb⟩⟩ := F.ends y hy
        refine ⟨?_, ?_⟩
        · rcases List.mem_cons.1 ha with rfl | ha
          · exact ⟨now, by simp, by rw [← ea, j1]⟩
          · exact ⟨a, by simp [ha], ea⟩
        · rcases List.mem_cons.1 hb with rfl | hb
          · rw [j2] at eb
            by_cases q : now.2 ≤ x.2
            · exact ⟨x, by simp, by omega⟩
            · exact ⟨now, by simp, by omega⟩
          · exact ⟨b, by simp [hb], eb⟩
    | false =>
      have hm' : now.2 ≤ x.1 := by
        have : ¬ (now.1 < x.2 ∧ x.1 < now.2) := fun q => by rw [(meet_iff _ _).2 q] at hm; cases hm
        omega
      have e := uni_next r (ne_zero h) hm
      have F := uni_facts r x x1 (fun y hy => ⟨(hx y (by simp [hy])).1, hr1 y hy⟩) hr2
      refine ⟨?_, ?_, ?_, ?_, ?_⟩ <;> rw [e]
      · refine ⟨List.pairwise_cons.2 ⟨fun y hy => ?_, F.apart.1⟩, fun y hy => ?_⟩
        · have := F.from_ y hy; omega
        · rcases List.mem_cons.1 hy with rfl | hy
          · exact h
          · exact F.apart.2 y hy
      · intro y hy
        rcases List.mem_cons.1 hy with rfl | hy
        · omega
        · have := F.from_ y hy; omega
      · intro t
        rw [inC_cons, F.cells, inC_cons now]
      · intro t
        rw [inI_cons, F.inner, inI_cons now]
      · intro y hy
        rcases List.mem_cons.1 hy with rfl | hy
        · exact ⟨⟨_, by simp, rfl⟩, ⟨_, by simp, rfl⟩⟩
        · obtain ⟨⟨a, ha, ea⟩, ⟨b, hb, eb⟩⟩ := F.ends y hy
          exact ⟨⟨a, by simp [List.mem_cons.1 ha], ea⟩, ⟨b, by simp [List.mem_cons.1 hb], eb⟩⟩

/-- What is told of gathered windows. -/
structure GatFacts (l : List Win) (R : List Win) : Prop where
  apart : Apart R
  cells : ∀ t, inC R t ↔ inC l t
  inner : ∀ t, inI R t ↔ inI l t
  ends : ∀ y ∈ R, (∃ x ∈ l, x.1 = y.1) ∧ (∃ x ∈ l, x.2 = y.2)
theorem gat_uni (l : List Win) (hw : ∀ x ∈ l, x.1 < x.2) (hr : Rises l) : GatFacts l (uni (0, 0) l) := by
  cases l with
  | nil =>
    rw [uni_none]
    exact ⟨⟨List.Pairwise.nil, by simp⟩, fun t => Iff.rfl, fun t => Iff.rfl, by simp⟩
  | cons x r =>
    obtain ⟨hr1, hr2⟩ := List.pairwise_cons.1 hr
    rw [uni_first]
    have F := uni_facts r x (hw x (by simp)) (fun y hy => ⟨hw y (by simp [hy]), hr1 y hy⟩) hr2
    exact ⟨F.apart, F.cells, F.inner, F.ends⟩

theorem apart_tail {a : Win} {R : List Win} (h : Apart (a :: R)) : Apart R ∧ (∀ y ∈ R, a.2 ≤ y.1) ∧ a.1 < a.2 :=
  ⟨⟨(List.pairwise_cons.1 h.1).2, fun y hy => h.2 y (by simp [hy])⟩, (List.pairwise_cons.1 h.1).1, h.2 a (by simp)⟩
theorem apart_unique : ∀ (R R' : List Win), Apart R → Apart R' → (∀ t, inC R t ↔ inC R' t) → (∀ t, inI R t ↔ inI R' t) → R = R'
  | [], [], _, _, _, _ => rfl
  | [], b :: R', _, h', hc, _ => by
    have q := h'.2 b (by simp)
    obtain ⟨x, hx, _⟩ := (hc b.1).2 ⟨b, by simp, by omega, q⟩
    cases hx
  | a :: R, [], h, _, hc, _ => by
    have q := h.2 a (by simp)
    obtain ⟨x, hx, _⟩ := (hc a.1).1 ⟨a, by simp, by omega, q⟩
    cases hx
  | a :: R, b :: R', h, h', hc, hi => by
    obtain ⟨t1, t2, t3⟩ := apart_tail h
    obtain ⟨s1, s2, s3⟩ := apart_tail h'
    have lowA : ∀ x ∈ a :: R, a.1 ≤ x.1 := fun x hx => by
      rcases List.mem_cons.1 hx with rfl | hx
      · omega
      · have := t2 x hx; omega
    have lowB : ∀ x ∈ b :: R', b.1 ≤ x.1 := fun x hx => by
      rcases List.mem_cons.1 hx with rfl | hx
      · omega
      · have := s2 x hx; omega
    have e1 : a.1 = b.1 := by
      obtain ⟨x, hx, q1, q2⟩ := (hc a.1).1 ⟨a, by simp, by omega, t3⟩
      obtain ⟨y, hy, p1, p2⟩ := (hc b.1).2 ⟨b, by simp, by omega, s3⟩
      have := lowB x hx
      have := lowA y hy
      omega
    have e2 : a.2 = b.2 := by
      rcases Int.lt_trichotomy a.2 b.2 with q | q | q
      · obtain ⟨x, hx, q1, q2⟩ := (hi a.2).2 ⟨b, by simp, by omega, q⟩
        rcases List.mem_cons.1 hx with rfl | hx
        · omega
        · have := t2 x hx; omega
      · exact q
      · obtain ⟨x, hx, q1, q2⟩ := (hi b.2).1 ⟨a, by simp, by omega, q⟩
        rcases List.mem_cons.1 hx with rfl | hx
        · omega
        · have := s2 x hx; omega
    have eab : a = b := Prod.ext e1 e2
    subst eab
    rw [apart_unique R R' t1 s1 (fun t => ?_) (fun t => ?_)]
    · have := hc t
      rw [inC_cons, inC_cons] at this
      constructor
      · intro q
        rcases this.1 (.inr q) with p | p
        · obtain ⟨x, hx, _, _⟩ := q
          have := t2 x hx; omega
        · exact p
      · intro q
        rcases this.2 (.inr q) with p | p
        · obtain ⟨x, hx, _, _⟩ := q
          have := s2 x hx; omega
        · exact p
    · have := hi t
      rw [inI_cons, inI_cons] at this
      constructor
      · intro q
        rcases this.1 (.inr q) with p | p
        · obtain ⟨x, hx, _, _⟩ := q
          have := t2 x hx; omega
        · exact p
      · intro q
        rcases this.2 (.inr q) with p | p
        · obtain ⟨x, hx, _, _⟩ := q
          have := s2 x hx; omega
        · exact p

theorem GatFacts.unique {l l' R R' : List Win} (h : GatFacts l R) (h' : GatFacts l' R') (hm : ∀ x, x ∈ l ↔ x ∈ l') : R = R' :=
  apart_unique R R' h.apart h'.apart (fun t => by rw [h.cells, h'.cells]; simp [inC, hm]) (fun t => by rw [h.inner, h'.inner]; simp [inI, hm])

/-- Windows in the order of their beginnings. -/
def ins (x : Win) : List Win → List Win
  | [] => [x]
  | y :: r => if x.1 ≤ y.1 then x :: y :: r else y :: ins x r
def isort : List Win → List Win
  | [] => []
  | x :: r => ins x (isort r)
theorem mem_ins (x z : Win) : ∀ l : List Win, z ∈ ins x l ↔ z = x ∨ z ∈ l
  | [] => by simp [ins]
  | y :: r => by
    unfold ins
    split
    · simp
    · rw [List.mem_cons, mem_ins x z r, List.mem_cons]
      constructor
      · rintro (h | h | h) <;> simp [h]
      · rintro (h | h | h) <;> simp [h]
theorem ins_rises (x : Win) : ∀ l : List Win, Rises l → Rises (ins x l)
  | [], _ => List.pairwise_singleton _ _
  | y :: r, h => by
    obtain ⟨h1, h2⟩ := List.pairwise_cons.1 h
    unfold ins
    split
    · rename_i q
      refine List.pairwise_cons.2 ⟨fun z hz => ?_, h⟩
      rcases List.mem_cons.1 hz with rfl | hz
      · exact q
      · have := h1 z hz; omega
    · rename_i q
      refine List.pairwise_cons.2 ⟨fun z hz => ?_, ins_rises x r h2⟩
      rcases (mem_ins x z r).1 hz with rfl | hz
      · omega
      · exact h1 z hz
theorem isort_rises : ∀ l : List Win, Rises (isort l)
  | [] => List.Pairwise.nil
  | x :: r => ins_rises x _ (isort_rises r)
theorem mem_isort (z : Win) : ∀ l : List Win, z ∈ isort l ↔ z ∈ l
  | [] => by simp [isort]
  | x :: r => by rw [isort, mem_ins, mem_isort z r, List.mem_cons]

/-- What windows are gathered to. -/
def gatherM (l : List Win) : List Win := uni (0, 0) (isort (l.filter isW))
theorem gat_gather (l : List Win) : GatFacts (l.filter isW) (gatherM l) := by
  have h := gat_uni (isort (l.filter isW)) (fun x hx => by
    have := (mem_isort x _).1 hx
    simpa [isW] using (List.mem_filter.1 this).2) (isort_rises _)
  have hm := fun x => mem_isort x (l.filter isW)
  refine ⟨h.apart, fun t => ?_, fun t => ?_, fun y hy => ?_⟩
  · rw [gatherM, h.cells]; simp only [inC, hm]
  · rw [gatherM, h.inner]; simp only [inI, hm]
  · obtain ⟨⟨a, ha, ea⟩, ⟨b, hb, eb⟩⟩ := h.ends y hy
    exact ⟨⟨a, (hm a).1 ha, ea⟩, ⟨b, (hm b).1 hb, eb⟩⟩
theorem gather_sorted {l l' : List Win} (hp : l'.Perm (l.filter isW)) (hr : Rises l') : uni (0, 0) l' = gatherM l :=
  (gat_uni l' (fun x hx => by simpa [isW] using (List.mem_filter.1 (hp.mem_iff.1 hx)).2) hr).unique (gat_gather l) (fun x => hp.mem_iff)
theorem gather_len (l : List Win) : (gatherM l).length ≤ l.length := by
  unfold gatherM
  have h1 : ∀ (x : Win) (l : List Win), (ins x l).length = l.length + 1 := by
    intro x l
    induction l with
    | nil => rfl
    | cons y r ih => unfold ins; split <;> simp [ih]
  have h2 : ∀ l : List Win, (isort l).length = l.length := by
    intro l
    induction l with
    | nil => rfl
    | cons x r ih => rw [isort, h1, ih]; rfl
  have h3 := List.length_filter_le isW l
  cases hl : isort (l.filter isW) with
  | nil => rw [uni_none]; simp
  | cons x r =>
    rw [uni_first]
    have := uni_len r x
    have h4 := h2 (l.filter isW)
    rw [hl] at h4
    simp at h4
    omega
end Go.Proofs.Yteiedknpmlemkaa
