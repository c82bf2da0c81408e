/-
  WinApart as mathematics.
-/
import Derived.Test.YteiedknpmlemkaaXl
import Derived.Deep.RegionLawGrows
namespace Go.Proofs.Yteiedknpmlemkaa
open Go Go.RowKit Go.Lib Go.Shelf

/-- Does a window have a time? -/
def hasB (t : Int) (x : Win) : Bool := decide (x.1 ≤ t) && decide (t < x.2)

theorem any_inC (l : List Win) (t : Int) : l.any (hasB t) = true ↔ inC l t := by
  simp [inC, hasB, List.any_eq_true]
theorem any_filter (l : List Win) (t : Int) : inC (l.filter isW) t ↔ inC l t := by
  constructor
  · rintro ⟨x, hx, h⟩; exact ⟨x, (List.mem_filter.1 hx).1, h⟩
  · rintro ⟨x, hx, h⟩; exact ⟨x, List.mem_filter.2 ⟨hx, by simp [isW]; omega⟩, h⟩
theorem count_apart (t : Int) : ∀ (R : List Win), Apart R → (R.filter (hasB t)).length = if R.any (hasB t) then 1 else 0
  | [], _ => rfl
  | x :: r, h => by
    obtain ⟨h1, h2, h3⟩ := apart_tail h
    have ih := count_apart t r h1
    by_cases hx : hasB t x = true
    · have hno : r.filter (hasB t) = [] := by
        rw [List.filter_eq_nil_iff]
        intro y hy hh
        have := h2 y hy
        simp [hasB] at hx hh
        omega
      simp [hx, hno]
    · simp only [Bool.not_eq_true] at hx
      simp only [List.filter_cons, hx, Bool.false_eq_true, if_false, List.any_cons, Bool.false_or]
      exact ih
theorem count_gather (M : List Win) (t : Int) : ((gatherM M).filter (hasB t)).length = if M.any (hasB t) then 1 else 0 := by
  have G := gat_gather M
  rw [count_apart t _ G.apart]
  have : (gatherM M).any (hasB t) = M.any (hasB t) := by
    rw [Bool.eq_iff_iff, any_inC, any_inC, G.cells, any_filter]
  rw [this]
theorem gather_turned (M : List Win) : gatherM M.reverse = gatherM M :=
  (gat_gather M.reverse).unique (gat_gather M) (fun x => by simp)
theorem gather_twice (M : List Win) : gatherM (gatherM M) = gatherM M := by
  have G := gat_gather M
  have hf : (gatherM M).filter isW = gatherM M := List.filter_eq_self.2 (fun x hx => by have := G.apart.2 x hx; simp [isW, this])
  have h := gat_gather (gatherM M)
  rw [hf] at h
  exact apart_unique _ _ h.apart G.apart h.cells h.inner

/-- Neighbours of gathered windows. -/
theorem apart_next {R : List Win} (h : Apart R) {i : Nat} {a b : Win} (ha : R[i]? = some a) (hb : R[i + 1]? = some b) : a.2 ≤ b.1 ∧ meetM a b = false := by
  obtain ⟨h1, e1⟩ := List.getElem?_eq_some_iff.1 ha
  obtain ⟨h2, e2⟩ := List.getElem?_eq_some_iff.1 hb
  have := List.pairwise_iff_getElem.1 h.1 i (i + 1) h1 h2 (by omega)
  rw [e1, e2] at this
  exact ⟨this, by simp [meetM]; omega⟩
theorem begins_at {M : List Win} {i : Nat} {y : Win} (h : (gatherM M)[i]? = some y) : (∃ p x : Win, ∃ j k : Nat, M[j]? = some x ∧ x.1 < x.2 ∧ x.1 = y.1 ∧ M[k]? = some p ∧ p.1 < p.2 ∧ p.2 = y.2) ∧ y.1 < y.2 := by
  have G := gat_gather M
  have hm := List.mem_of_getElem? h
  obtain ⟨⟨x, hx, ex⟩, ⟨p, hp, ep⟩⟩ := G.ends y hm
  obtain ⟨hx1, hx2⟩ := List.mem_filter.1 hx
  obtain ⟨hp1, hp2⟩ := List.mem_filter.1 hp
  obtain ⟨j, hj⟩ := List.mem_iff_getElem?.1 hx1
  obtain ⟨k, hk⟩ := List.mem_iff_getElem?.1 hp1
  exact ⟨⟨p, x, j, k, hj, by simpa [isW] using hx2, ex, hk, by simpa [isW] using hp2, ep⟩, G.apart.2 y hm⟩
theorem any_take (l : List Win) (t : Int) (k : Nat) (x : Win) (h : l[k]? = some x) : (l.take (k + 1)).any (hasB t) = ((l.take k).any (hasB t) || hasB t x) := by
  obtain ⟨hk, e⟩ := List.getElem?_eq_some_iff.1 h
  rw [List.take_succ_eq_append_getElem hk, e, List.any_append]; simp
theorem count_take (l : List Win) (t : Int) (k : Nat) (x : Win) (h : l[k]? = some x) : ((l.take (k + 1)).filter (hasB t)).length = ((l.take k).filter (hasB t)).length + (if hasB t x then 1 else 0) := by
  obtain ⟨hk, e⟩ := List.getElem?_eq_some_iff.1 h
  rw [List.take_succ_eq_append_getElem hk, e, List.filter_append, List.length_append]
  by_cases hx : hasB t x = true <;> simp [hx]
theorem drop_turned (l : List Win) (k : Nat) (x : Win) (h : l[k]? = some x) : (l.drop k).reverse = (l.drop (k + 1)).reverse ++ [x] := by
  obtain ⟨hk, e⟩ := List.getElem?_eq_some_iff.1 h
  rw [List.drop_eq_getElem_cons hk, e, List.reverse_cons]
end Go.Proofs.Yteiedknpmlemkaa
