/-
  Arguments that came in: numbers, two lists of numbers.
-/
import Derived.Test.YtjffajbahnoilaaBt
import Derived.ChangeVars
import Derived.ProofKit
import Derived.Carry
import Derived.ChangeMaps5
import Derived.Deep.Slices
import Derived.OpenShut
namespace Go.Proofs.Ytjffajbahnoilaa
open Go Go.ChangeShapes Go.WideShapes Go.ChangeAt Go.RowKit

theorem laidOutHere : laidOutB Try.prog = true := by kernel_rfl
/-- Arguments that a call leaves alone read as they did. -/
theorem trodAll_below {H : Type} {enc : TypeId × Value → H} {P : Program} (hl : laidOutB P = true) {W W' : World} (hb : Below W.heap.size W W') :
    ∀ {ts : List TypeId} {vs : List Value} {ds : List (DataW H)} {ps : List MemPlace}, (∀ t ∈ ts, P.readableRec t = true ∧ t < P.types.size) → DataW.TrodAll enc P W 0 (fun _ => true) true ts vs ds ps → (∀ x ∈ ps, x.block < W.heap.size) →
      DataW.TrodAll enc P W' 0 (fun b => decide (b < W.heap.size)) true ts vs ds ps
  | [], [], [], _, _, h, _ => h
  | [], _ :: _, _, _, _, h, _ => h.elim
  | [], [], _ :: _, _, _, h, _ => h.elim
  | _ :: _, [], _, _, _, h, _ => h.elim
  | _ :: _, _ :: _, [], _, _, h, _ => h.elim
  | t :: ts, v :: vs, d :: ds, ps, hr, h, hlt => by
    obtain ⟨p, q, h1, h2, rfl⟩ := h
    exact ⟨p, q, Below.trod hl (hr t (by simp)).1 (hr t (by simp)).2 h1 hb (fun x hx => hlt x (by simp [hx])), trodAll_below hl hb (fun t ht => hr t (by simp [ht])) h2 (fun x hx => hlt x (by simp [hx])), rfl⟩
theorem bd_u8 {n : Int} (h : (Lit.int .u8 n).wf = true) : ∃ m : Nat, n = (m : Int) ∧ m < 256 := by
  have h' : IntKind.u8.min ≤ n ∧ n ≤ IntKind.u8.max := by simpa [Lit.wf] using h
  have e1 : IntKind.u8.min = 0 := by decide
  have e2 : IntKind.u8.max = 255 := by decide
  rw [e1, e2] at h'
  exact ⟨n.toNat, by omega, by omega⟩
theorem bd_u16 {n : Int} (h : (Lit.int .u16 n).wf = true) : ∃ m : Nat, n = (m : Int) ∧ m < 65536 := by
  have h' : IntKind.u16.min ≤ n ∧ n ≤ IntKind.u16.max := by simpa [Lit.wf] using h
  have e1 : IntKind.u16.min = 0 := by decide
  have e2 : IntKind.u16.max = 65535 := by decide
  rw [e1, e2] at h'
  exact ⟨n.toNat, by omega, by omega⟩
theorem bd_u32 {n : Int} (h : (Lit.int .u32 n).wf = true) : ∃ m : Nat, n = (m : Int) ∧ m < 4294967296 := by
  have h' : IntKind.u32.min ≤ n ∧ n ≤ IntKind.u32.max := by simpa [Lit.wf] using h
  have e1 : IntKind.u32.min = 0 := by decide
  have e2 : IntKind.u32.max = 4294967295 := by decide
  rw [e1, e2] at h'
  exact ⟨n.toNat, by omega, by omega⟩
theorem bd_u64 {n : Int} (h : (Lit.int .u64 n).wf = true) : ∃ m : Nat, n = (m : Int) ∧ m < 18446744073709551616 := by
  have h' : IntKind.u64.min ≤ n ∧ n ≤ IntKind.u64.max := by simpa [Lit.wf] using h
  have e1 : IntKind.u64.min = 0 := by decide
  have e2 : IntKind.u64.max = 18446744073709551615 := by decide
  rw [e1, e2] at h'
  exact ⟨n.toNat, by omega, by omega⟩
theorem bd_i16 {n : Int} (h : (Lit.int .i16 n).wf = true) : -32768 ≤ n ∧ n < 32768 := by
  have h' : IntKind.i16.min ≤ n ∧ n ≤ IntKind.i16.max := by simpa [Lit.wf] using h
  have e1 : IntKind.i16.min = -32768 := by decide
  have e2 : IntKind.i16.max = 32767 := by decide
  rw [e1, e2] at h'
  omega
theorem bd_i64 {n : Int} (h : (Lit.int .i64 n).wf = true) : -9223372036854775808 ≤ n ∧ n < 9223372036854775808 := by
  have h' : IntKind.i64.min ≤ n ∧ n ≤ IntKind.i64.max := by simpa [Lit.wf] using h
  have e1 : IntKind.i64.min = -9223372036854775808 := by decide
  have e2 : IntKind.i64.max = 9223372036854775807 := by decide
  rw [e1, e2] at h'
  omega
theorem list_of {α : Type} {P : Nat → α → Prop} : ∀ n, (∀ i, i < n → ∃ x, P i x) → ∃ l : List α, l.length = n ∧ ∀ j x, l[j]? = some x → P j x
  | 0, _ => ⟨[], rfl, fun j x h => by simp at h⟩
  | n + 1, h => by
    obtain ⟨l, hl, hp⟩ := list_of n (fun i hi => h i (by omega))
    obtain ⟨x, hx⟩ := h n (by omega)
    refine ⟨l ++ [x], by simp [hl], fun j y hy => ?_⟩
    rcases Nat.lt_trichotomy j n with h1 | h1 | h1
    · rw [List.getElem?_append_left (by omega)] at hy
      exact hp j y hy
    · subst h1
      rw [List.getElem?_append_right (by omega), hl] at hy
      simp at hy
      subst hy
      exact hx
    · rw [List.getElem?_append_right (by omega), hl] at hy
      rw [List.getElem?_eq_none (by simp; omega)] at hy
      cases hy
theorem own : ownKnob Try.prog.godebug = none := by kernel_rfl
theorem laidOut : laidOutB Try.prog = true := laidOutHere


theorem one_3 : Try.prog.cellsOf 3 = 1 := by kernel_rfl
theorem one_23 : Try.prog.cellsOf 23 = 1 := by kernel_rfl
theorem cells_24 : Try.prog.cellsOf 24 = 2 := by kernel_rfl
theorem arr24 : Try.prog.underlying 24 = some (.array 2 23) := by kernel_rfl
theorem okWide_array {P : Program} {w : World} {r : Reach} {base : Nat} {t e : TypeId} {n : Nat} {v : Value} (ht : P.underlying t = some (.array n e)) (h : Value.okWide P w r base t v) : ∃ cs, v = .agg cs ∧ cs.size = P.cellsOf t := by
  simp only [Value.okWide, ht] at h
  obtain ⟨cs, h1, h2, _⟩ := h
  exact ⟨cs, h1, h2⟩
theorem list2 {cs : List Value} (h : cs.length = 2) : ∃ c0 c1, cs = [c0, c1] := by
  match cs, h with
  | [c0, c1], _ => exact ⟨c0, c1, rfl⟩
theorem open_int {H : Type} {enc : TypeId × Value → H} {W : World} {v : Value} {d : DataW H} {ps : List MemPlace} {base : Nat} (hv : Value.okWide Try.prog W .any base 3 v) (h : DataW.Trod enc Try.prog W 0 (fun _ => true) true 3 v d ps) : ∃ n, v = .int .i64 n ∧ (-9223372036854775808 ≤ n ∧ n < 9223372036854775808) := by
  obtain ⟨fuel, hf⟩ := h
  obtain ⟨z, e, _, hw⟩ := DataW.trod_int Try.underlying3 hf
  obtain ⟨n, rfl, _⟩ := okWide_int Try.underlying3 hv
  simp [Value.cells] at e
  subst e
  exact ⟨_, rfl, bd_i64 hw⟩
theorem open_u32 {H : Type} {enc : TypeId × Value → H} {W : World} {v : Value} {d : DataW H} {ps : List MemPlace} {base : Nat} (hv : Value.okWide Try.prog W .any base 22 v) (h : DataW.Trod enc Try.prog W 0 (fun _ => true) true 22 v d ps) : ∃ n : Nat, v = .int .u32 n ∧ n < 4294967296 := by
  obtain ⟨fuel, hf⟩ := h
  obtain ⟨z, e, _, hw⟩ := DataW.trod_int Try.underlying22 hf
  obtain ⟨n, rfl, _⟩ := okWide_int Try.underlying22 hv
  simp [Value.cells] at e
  subst e
  obtain ⟨m, rfl, h⟩ := bd_u32 hw
  exact ⟨m, rfl, h⟩
theorem open_u8 {H : Type} {enc : TypeId × Value → H} {W : World} {v : Value} {d : DataW H} {ps : List MemPlace} {base : Nat} (hv : Value.okWide Try.prog W .any base 5 v) (h : DataW.Trod enc Try.prog W 0 (fun _ => true) true 5 v d ps) : ∃ n : Nat, v = .int .u8 n ∧ n < 256 := by
  obtain ⟨fuel, hf⟩ := h
  obtain ⟨z, e, _, hw⟩ := DataW.trod_int Try.underlying5 hf
  obtain ⟨n, rfl, _⟩ := okWide_int Try.underlying5 hv
  simp [Value.cells] at e
  subst e
  obtain ⟨m, rfl, h⟩ := bd_u8 hw
  exact ⟨m, rfl, h⟩

set_option maxRecDepth 100000 in
theorem cells_ints {H : Type} {enc : TypeId × Value → H} {W : World} {v : Value} {fuel : Nat} {d : DataW H × List MemPlace} (hf : DataW.trod enc Try.prog W 0 (fun _ => true) true fuel 23 [v] = some d)
    (hlt : ∀ x ∈ d.2, x.block < W.heap.size) : ∃ (A : Option Addr) (cp : Nat) (l : List Int), v = .slice A l.length cp ∧ cp ≤ maxLen ∧ l.length ≤ cp ∧
      Row W W.heap.size A .i64 l ∧ ∀ z ∈ l, -9223372036854775808 ≤ z ∧ z < 9223372036854775808 := by
  rcases open_ints Try.underlying23 Try.underlying3 one_3 hf with ⟨hcs, hx⟩ | ⟨a, len1, cap1, zs, hcs, _, hl, hm, hz, hx, hcell, hwz⟩
  · simp at hcs
    subst hcs
    exact ⟨none, 0, [], rfl, by simp [maxLen], Nat.le_refl _, .inl rfl, by simp⟩
  · simp at hcs
    subst hcs
    subst hx
    simp only [if_true] at hz
    obtain ⟨l, hle⟩ : ∃ l, l = zs.take len1 := ⟨_, rfl⟩
    have hll : l.length = len1 := by rw [hle, List.length_take]; omega
    have hin : ∀ z ∈ l, z ∈ zs := fun z hz => by rw [hle] at hz; exact List.mem_of_mem_take hz
    have hat : ∀ j z, l[j]? = some z → j < zs.length ∧ zs.getD j 0 = z := by
      intro j z hj
      have hjl : j < l.length := by
        rcases Nat.lt_or_ge j l.length with h | h
        · exact h
        · rw [List.getElem?_eq_none h] at hj; cases hj
      rw [hle, List.getElem?_take] at hj
      rw [if_pos (by omega)] at hj
      refine ⟨by omega, ?_⟩
      rw [List.getD_eq_getElem?_getD, hj]
      rfl
    clear hle
    subst hll
    refine ⟨some a, cap1, l, rfl, hm, hl, ?_, fun z hz => bd_i64 (hwz z (hin z hz))⟩
    by_cases h0 : l = []
    · exact .inl h0
    · refine .inr ⟨a, rfl, ?_, fun j z hj => ?_⟩
      · obtain ⟨b, off, spot⟩ := a
        have hpos : 0 < l.length := List.length_pos_iff.2 h0
        exact hlt (.cell b off) (MemPlace.mem_row.2 ⟨0, by omega, by simp⟩)
      · obtain ⟨h1, h2⟩ := hat j z hj
        rw [hcell j h1, h2]


set_option maxRecDepth 100000 in
theorem open_two {H : Type} {enc : TypeId × Value → H} {W : World} {v : Value} {d : DataW H} {ps : List MemPlace} {base : Nat} (hv : Value.okWide Try.prog W .any base 24 v) (h : DataW.Trod enc Try.prog W 0 (fun _ => true) true 24 v d ps)
    (hlt : ∀ x ∈ ps, x.block < W.heap.size) : ∃ (A B : Option Addr) (c1 c2 : Nat) (l m : List Int), v = .agg #[.slice A l.length c1, .slice B m.length c2] ∧ (c1 ≤ maxLen ∧ l.length ≤ c1 ∧ c2 ≤ maxLen ∧ m.length ≤ c2) ∧
      Row W W.heap.size A .i64 l ∧ Row W W.heap.size B .i64 m := by
  obtain ⟨cs, rfl, hsz⟩ := okWide_array arr24 hv
  obtain ⟨fuel, hf⟩ := h
  obtain ⟨ys, n', _, hps, hlen, hyl, hfd⟩ := DataW.trod_array arr24 hf
  rw [cells_24] at hlen
  obtain ⟨c0, c1, hcs⟩ := list2 hlen
  rw [hcs, one_23] at hfd
  have f0 := hfd 0 (by omega)
  have f1 := hfd 1 (by omega)
  simp only [Nat.zero_mul, Nat.one_mul, List.drop_zero, List.take_succ_cons, List.take_zero, List.drop_succ_cons] at f0 f1
  have g0 : ys[0]? = some (ys[0]'(by rw [hyl]; decide)) := List.getElem?_eq_getElem _
  have g1 : ys[1]? = some (ys[1]'(by rw [hyl]; decide)) := List.getElem?_eq_getElem _
  simp only [Prod.mk.injEq] at hps
  have hin : ∀ y ∈ ys, ∀ x ∈ y.2, x.block < W.heap.size := fun y hy x hx => hlt x (by rw [hps.2]; exact List.mem_flatMap.2 ⟨y, hy, hx⟩)
  obtain ⟨A, p1, l, rfl, a1, a2, a3, _⟩ := cells_ints (f0.trans g0) (hin _ (List.getElem_mem _))
  obtain ⟨B, p2, m, rfl, b1, b2, b3, _⟩ := cells_ints (f1.trans g1) (hin _ (List.getElem_mem _))
  refine ⟨A, B, p1, p2, l, m, ?_, ⟨a1, a2, b1, b2⟩, a3, b3⟩
  simp only [Value.cells] at hcs
  congr 1
  exact Array.toList_inj.1 hcs
end Go.Proofs.Ytjffajbahnoilaa
