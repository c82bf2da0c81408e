/-
  Frames: texts at lists that are alike; alike.
-/
import Derived.Test.YtoknpadkkokbgaaFf
namespace Go.Proofs.Ytoknpadkkokbgaa
open Go Go.RowKit Go.Lib

/-- A slice value reads as these texts. -/
def Lst (w : World) (v : Value) (l : List ByteArray) : Prop :=
  ∃ A c, v = .slice A l.length c ∧ (l = [] ∨ ∃ ad : Addr, A = some ad ∧ ad.block < w.heap.size ∧ ∀ j x, l[j]? = some x → w.cell? (ad.add j) = some (.string x))
theorem blk_add (a : Addr) (n : Nat) : (a.add n).block = a.block := by unfold Addr.add; split <;> rfl
theorem Lst.below {w w' : World} {v : Value} {l : List ByteArray} (h : Lst w v l) (hb : Below w.heap.size w w') : Lst w' v l := by
  obtain ⟨A, c, rfl, h⟩ := h
  refine ⟨A, c, rfl, h.imp id ?_⟩
  rintro ⟨ad, rfl, hg, hc⟩
  exact ⟨ad, rfl, Nat.lt_of_lt_of_le hg hb.size, fun j x hx => (hb.cell (p := ad.add j) (by rw [blk_add]; exact hg)).trans (hc j x hx)⟩
theorem own_lst {w : World} {B : Nat} {v : Value} {l : List ByteArray} (h : w.ownsRow B 9 1 v l.length (strs l)) : Lst w v l := by
  rcases h.2 with ⟨rfl, h0⟩ | ⟨g, cap, cur, rfl, _, hg, _⟩
  · obtain rfl := List.eq_nil_of_length_eq_zero h0
    exact ⟨none, 0, rfl, .inl rfl⟩
  · refine ⟨_, cap, rfl, .inr ⟨⟨g, 0, none⟩, rfl, ?_, fun j x hx => ?_⟩⟩
    · show g < w.heap.size
      rcases Nat.lt_or_ge g w.heap.size with h1 | h1
      · exact h1
      · rw [Array.getElem?_eq_none h1] at hg; cases hg
    · exact h.cells (g := g) rfl j (.string x) (by simp [strs, hx])
def TX (w : World) (e : Ending) (w' : World) : Prop := e = .returned (.bool true) ∧ ∃ n, w' = w.drewN n

set_option maxRecDepth 100000 in
set_option maxHeartbeats 800000 in
theorem texts_any (l : List ByteArray) (v1 v2 : Value) (w : World) (h1 : Lst w v1 l) (h2 : Lst w v2 l) (hl : l.length ≤ 140737488355328) : Calls Try.prog 13 #[v1, v2] w (TX w) := by
  obtain ⟨A1, c1, rfl, h1⟩ := h1
  obtain ⟨A2, c2, rfl, h2⟩ := h2
  have H1 := Lib.hid h1; clear h1
  have H2 := Lib.hid h2; clear h2
  go_enter Try.func13, Try.ntmps13
  go_wp2
  go_loopw [5] (fun i wr => (∃ k : Nat, k ≤ l.length ∧ i = .int .i64 k) ∧ ∃ n, wr = w.drewN n) (fun i _ => l.length - (Lib.intOf i).toNat)
  case atStart => exact ⟨⟨0, Nat.zero_le _, rfl⟩, 0, rfl⟩
  case round =>
    obtain ⟨⟨k, hk, rfl⟩, n, rfl⟩ := hrel
    by_cases hlt : k < l.length
    · rcases H1.out with h0 | ⟨g1, rfl, hg1, hc1⟩
      · subst h0; simp at hlt
      rcases H2.out with h0 | ⟨g2, rfl, hg2, hc2⟩
      · subst h0; simp at hlt
      have k1 : w.cell? (g1.add k) = some (.string l[k]) := hc1 k _ (List.getElem?_eq_getElem hlt)
      have k2 : w.cell? (g2.add k) = some (.string l[k]) := hc2 k _ (List.getElem?_eq_getElem hlt)
      have hq : (k : Int) < (l.length : Int) := by omega
      clear hc1 hc2 H1 H2
      go_wp2
      go_quiet (fail)
      go_wp2_with fail
      go_roundw
      case rel => exact ⟨⟨k + 1, by omega, by go_num⟩, _, rfl⟩
      case measure => simp [Lib.intOf]; omega
    · go_wp2
      go_ret
      exact ⟨rfl, _, rfl⟩
end Go.Proofs.Ytoknpadkkokbgaa
