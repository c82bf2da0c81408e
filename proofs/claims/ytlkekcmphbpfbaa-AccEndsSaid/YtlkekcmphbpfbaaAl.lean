/-
  Aggregates of rows, from their end: their number, their least and greatest one.
-/
import Derived.Test.YtlkekcmphbpfbaaAj
namespace Go.Proofs.Ytlkekcmphbpfbaa
open Go Go.RowKit Go.Lib

/-- The aggregate of a row, merged from its end. -/
def ofR (l : List Int) : AccD := l.foldr (fun v a => mergeM (oneM v) a) ⟨0, 0, 0, 0, 0⟩
theorem ofR_ok : ∀ l : List Int, (∀ v ∈ l, I64 v) → (ofR l).ok
  | [], _ => zero_ok
  | v :: l, h => mergeM_ok (oneM_ok (h v (by simp))) (ofR_ok l (fun x hx => h x (by simp [hx])))
theorem ofR_drop (l : List Int) (k : Nat) (hk : k < l.length) : mergeM (oneM l[k]) (ofR (l.drop (k + 1))) = ofR (l.drop k) := by
  rw [List.drop_eq_getElem_cons hk]
  rfl
theorem ofR_ends : ∀ l : List Int, l.length ≤ 1000 → (ofR l).n = l.length ∧ (l ≠ [] → (ofR l).mn ∈ l ∧ (ofR l).mx ∈ l ∧ ∀ v ∈ l, (ofR l).mn ≤ v ∧ v ≤ (ofR l).mx)
  | [], _ => ⟨rfl, fun h => absurd rfl h⟩
  | v :: l, hl => by
    simp only [List.length_cons] at hl
    obtain ⟨h1, h2⟩ := ofR_ends l (by omega)
    show (mergeM (oneM v) (ofR l)).n = _ ∧ _
    change _ ∧ (_ → (mergeM (oneM v) (ofR l)).mn ∈ _ ∧ (mergeM (oneM v) (ofR l)).mx ∈ _ ∧ ∀ x ∈ _, (mergeM (oneM v) (ofR l)).mn ≤ x ∧ x ≤ (mergeM (oneM v) (ofR l)).mx)
    have hne : ¬ (oneM v).n = 0 := by simp [oneM]
    by_cases h0 : l = []
    · subst h0
      have e : mergeM (oneM v) (ofR []) = oneM v := by
        unfold mergeM
        rw [if_neg hne, if_pos (show (ofR []).n = 0 from rfl)]
      rw [e]
      simp [oneM]
    · have hn : ¬ (ofR l).n = 0 := by
        have := List.length_pos_iff.2 h0
        omega
      obtain ⟨h3, h4, h5⟩ := h2 h0
      have e : mergeM (oneM v) (ofR l) = ⟨wrap64 (1 + (ofR l).n), wrap64 (wrap64 ((oneM v).hi + (ofR l).hi) + ((oneM v).lo + (ofR l).lo) / 18446744073709551616), ((oneM v).lo + (ofR l).lo) % 18446744073709551616, min v (ofR l).mn, max v (ofR l).mx⟩ := by
        unfold mergeM
        rw [if_neg hne, if_neg hn]
        rfl
      rw [e]
      refine ⟨?_, fun _ => ⟨?_, ?_, ?_⟩⟩
      · dsimp only
        rw [h1]
        unfold wrap64
        simp only [List.length_cons]
        omega
      · dsimp only
        rw [Int.min_def]
        split
        · simp
        · exact List.mem_cons_of_mem _ h3
      · dsimp only
        rw [Int.max_def]
        split
        · exact List.mem_cons_of_mem _ h4
        · simp
      · intro x hx
        dsimp only
        rcases List.mem_cons.1 hx with rfl | hx
        · omega
        · have := h5 x hx
          omega
end Go.Proofs.Ytlkekcmphbpfbaa
