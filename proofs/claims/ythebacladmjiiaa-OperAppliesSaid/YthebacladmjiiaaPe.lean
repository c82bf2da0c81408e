/-
  Drafts that came in.
-/
import Derived.Test.YthebacladmjiiaaOpY
import Derived.Test.YthebacladmjiiaaPd
namespace Go.Proofs.Ythebacladmjiiaa
open Go Go.ChangeShapes Go.WideShapes Go.ChangeAt Go.RowKit
set_option maxRecDepth 100000 in
theorem open_drs {H : Type} {enc : TypeId × Value → H} {W : World} {v : Value} {d : DataW H} {ps : List MemPlace} {base : Nat} (hv : Value.okWide Try.prog W .any base 33 v) (h : DataW.Trod enc Try.prog W 0 (fun _ => true) true 33 v d ps)
    (hlt : ∀ x ∈ ps, x.block < W.heap.size) : ∃ (A : Option Addr) (cp : Nat) (l : List DrD), v = .slice A l.length cp ∧ l.length ≤ maxLen ∧ Drafts W W.heap.size A l := by
  obtain ⟨a0, len, cap, rfl⟩ := okWide_slice Try.underlying33 hv
  obtain ⟨fuel, hf⟩ := h
  rcases Go.Deep.open_slice Try.underlying33 hf with ⟨hcs, _⟩ | ⟨a, len', cap', m, n, D, Pl, hcs, _, hl, hm, hmm, hx, hi⟩
  · simp [Value.cells] at hcs
    obtain ⟨rfl, rfl, rfl⟩ := hcs
    exact ⟨none, 0, [], rfl, by simp [maxLen], .inl rfl⟩
  · simp [Value.cells] at hcs
    obtain ⟨rfl, rfl, rfl⟩ := hcs
    simp only [if_true] at hmm
    subst hmm
    simp only [Prod.mk.injEq] at hx
    obtain ⟨_, rfl⟩ := hx
    have hall : ∀ i, i < len → ∃ x : DrD, x.ok ∧ W.cell? (a.add (i * 5)) = some (.int .u8 x.kind) ∧ W.cell? (a.add (i * 5 + 1)) = some (.int .i64 x.a) ∧ W.cell? (a.add (i * 5 + 2)) = some (.int .i64 x.b) ∧ W.cell? (a.add (i * 5 + 3)) = some (.int .u8 x.agg) ∧ W.cell? (a.add (i * 5 + 4)) = some (.bool x.odd) := by
      intro i hil
      obtain ⟨cs, hc, ht⟩ := hi i (by omega)
      rw [cells_dr] at hc
      obtain ⟨_, hcl, hat⟩ := World.cells?_some hc
      obtain ⟨o, hk, rfl⟩ := fields_dr ht
      refine ⟨o, hk, ?_, ?_, ?_, ?_, ?_⟩
      · have := hat (i := 0) (by omega)
        simpa [Go.Deep.add_add] using this
      · have := hat (i := 1) (by omega)
        simpa [Go.Deep.add_add] using this
      · have := hat (i := 2) (by omega)
        simpa [Go.Deep.add_add] using this
      · have := hat (i := 3) (by omega)
        simpa [Go.Deep.add_add] using this
      · have := hat (i := 4) (by omega)
        simpa [Go.Deep.add_add] using this
    obtain ⟨l, hll, hp⟩ := list_of len hall
    subst hll
    refine ⟨some a, _, l, rfl, by omega, ?_⟩
    by_cases h0 : l = []
    · exact .inl h0
    · refine .inr ⟨a, rfl, ?_, fun j x hx => hp j x hx⟩
      obtain ⟨b, off, spot⟩ := a
      have hpos : 0 < l.length := List.length_pos_iff.2 h0
      refine hlt (.cell b off) (List.mem_append_left _ (MemPlace.mem_row.2 ⟨0, ?_, by simp⟩))
      rw [cells_dr]
      omega
end Go.Proofs.Ythebacladmjiiaa
