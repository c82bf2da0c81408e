/-
  Arguments that came in: aggregates, numbers, rows of numbers.
-/
import Derived.Test.YtlkekcmphbpfbaaAc
import Derived.ChangeVars
import Derived.ProofKit
import Derived.Carry
import Derived.ChangeMaps5
import Derived.Deep.Slices
namespace Go.Proofs.Ytlkekcmphbpfbaa
open Go Go.ChangeShapes Go.WideShapes Go.ChangeAt Go.RowKit

theorem laidOutHere : laidOutB Try.prog = true := by kernel_rfl
/-- Arguments that a call leaves alone read as they did. -/
theorem trodAll_below {H : Type} {enc : TypeId × Value → H} {P : Program} (hl : laidOutB P = true) {W W' : World} (hb : Below W.heap.size W W') :
    ∀ {ts : List TypeId} {vs : List Value} {ds : List (DataW H)} {ps : List MemPlace}, (∀ t ∈ ts, P.readableRec t = true ∧ t < P.types.size) → DataW.TrodAll enc P W 0 (fun _ => true) true ts vs ds ps → (∀ x ∈ ps, x.block < W.heap.size) →
      DataW.TrodAll enc P W' 0 (fun b => decide (b < W.heap.size)) true ts vs ds ps
  | [], [], [], _, _, h, _ => h
  | [], _ :: _, _, _, _, h, _ => h.elim
  | [], [], _ :: _, _, _, h, _ => h.elim
  | _ :: _, [], _, _, _, h, _ => h.elim
  | _ :: _, _ :: _, [], _, _, h, _ => h.elim
  | t :: ts, v :: vs, d :: ds, ps, hr, h, hlt => by
    obtain ⟨p, q, h1, h2, rfl⟩ := h
    exact ⟨p, q, Below.trod hl (hr t (by simp)).1 (hr t (by simp)).2 h1 hb (fun x hx => hlt x (by simp [hx])), trodAll_below hl hb (fun t ht => hr t (by simp [ht])) h2 (fun x hx => hlt x (by simp [hx])), rfl⟩
theorem bd_u8 {n : Int} (h : (Lit.int .u8 n).wf = true) : ∃ m : Nat, n = (m : Int) ∧ m < 256 := by
  have h' : IntKind.u8.min ≤ n ∧ n ≤ IntKind.u8.max := by simpa [Lit.wf] using h
  have e1 : IntKind.u8.min = 0 := by decide
  have e2 : IntKind.u8.max = 255 := by decide
  rw [e1, e2] at h'
  exact ⟨n.toNat, by omega, by omega⟩
theorem bd_u16 {n : Int} (h : (Lit.int .u16 n).wf = true) : ∃ m : Nat, n = (m : Int) ∧ m < 65536 := by
  have h' : IntKind.u16.min ≤ n ∧ n ≤ IntKind.u16.max := by simpa [Lit.wf] using h
  have e1 : IntKind.u16.min = 0 := by decide
  have e2 : IntKind.u16.max = 65535 := by decide
  rw [e1, e2] at h'
  exact ⟨n.toNat, by omega, by omega⟩
theorem bd_u32 {n : Int} (h : (Lit.int .u32 n).wf = true) : ∃ m : Nat, n = (m : Int) ∧ m < 4294967296 := by
  have h' : IntKind.u32.min ≤ n ∧ n ≤ IntKind.u32.max := by simpa [Lit.wf] using h
  have e1 : IntKind.u32.min = 0 := by decide
  have e2 : IntKind.u32.max = 4294967295 := by decide
  rw [e1, e2] at h'
  exact ⟨n.toNat, by omega, by omega⟩
theorem bd_u64 {n : Int} (h : (Lit.int .u64 n).wf = true) : ∃ m : Nat, n = (m : Int) ∧ m < 18446744073709551616 := by
  have h' : IntKind.u64.min ≤ n ∧ n ≤ IntKind.u64.max := by simpa [Lit.wf] using h
  have e1 : IntKind.u64.min = 0 := by decide
  have e2 : IntKind.u64.max = 18446744073709551615 := by decide
  rw [e1, e2] at h'
  exact ⟨n.toNat, by omega, by omega⟩
theorem bd_i16 {n : Int} (h : (Lit.int .i16 n).wf = true) : -32768 ≤ n ∧ n < 32768 := by
  have h' : IntKind.i16.min ≤ n ∧ n ≤ IntKind.i16.max := by simpa [Lit.wf] using h
  have e1 : IntKind.i16.min = -32768 := by decide
  have e2 : IntKind.i16.max = 32767 := by decide
  rw [e1, e2] at h'
  omega
theorem bd_i64 {n : Int} (h : (Lit.int .i64 n).wf = true) : -9223372036854775808 ≤ n ∧ n < 9223372036854775808 := by
  have h' : IntKind.i64.min ≤ n ∧ n ≤ IntKind.i64.max := by simpa [Lit.wf] using h
  have e1 : IntKind.i64.min = -9223372036854775808 := by decide
  have e2 : IntKind.i64.max = 9223372036854775807 := by decide
  rw [e1, e2] at h'
  omega
theorem list_of {α : Type} {P : Nat → α → Prop} : ∀ n, (∀ i, i < n → ∃ x, P i x) → ∃ l : List α, l.length = n ∧ ∀ j x, l[j]? = some x → P j x
  | 0, _ => ⟨[], rfl, fun j x h => by simp at h⟩
  | n + 1, h => by
    obtain ⟨l, hl, hp⟩ := list_of n (fun i hi => h i (by omega))
    obtain ⟨x, hx⟩ := h n (by omega)
    refine ⟨l ++ [x], by simp [hl], fun j y hy => ?_⟩
    rcases Nat.lt_trichotomy j n with h1 | h1 | h1
    · rw [List.getElem?_append_left (by omega)] at hy
      exact hp j y hy
    · subst h1
      rw [List.getElem?_append_right (by omega), hl] at hy
      simp at hy
      subst hy
      exact hx
    · rw [List.getElem?_append_right (by omega), hl] at hy
      rw [List.getElem?_eq_none (by simp; omega)] at hy
      cases hy
theorem own : ownKnob Try.prog.godebug = none := by kernel_rfl
theorem laidOut : laidOutB Try.prog = true := laidOutHere

theorem one_all : Try.prog.cellsOf 2 = 1 ∧ Try.prog.cellsOf 3 = 1 ∧ Try.prog.cellsOf 4 = 1 ∧ Try.prog.cellsOf 5 = 1 ∧ Try.prog.cellsOf 22 = 1 := by refine ⟨?_, ?_, ?_, ?_, ?_⟩ <;> kernel_rfl
theorem bdI_u64 {n : Int} (h : (Lit.int .u64 n).wf = true) : 0 ≤ n ∧ n < 18446744073709551616 := by obtain ⟨m, rfl, h⟩ := bd_u64 h; omega
theorem arr_acc {cs : List Value} (h : cs.length = 5) : ∃ c0 c1 c2 c3 c4, cs = [c0, c1, c2, c3, c4] := by
  match cs, h with
  | [c0, c1, c2, c3, c4], _ => exact ⟨c0, c1, c2, c3, c4, rfl⟩
theorem cells_acc : Try.prog.cellsOf 24 = 5 := by kernel_rfl
set_option maxRecDepth 100000 in
theorem fields_acc {H : Type} {enc : TypeId × Value → H} {W : World} {fuel : Nat} {cs : List Value} {x : DataW H × List MemPlace} (hf : DataW.trod enc Try.prog W 0 (fun _ => true) true fuel 24 cs = some x) : ∃ o : AccD, o.ok ∧ cs = [.int .i64 o.n, .int .i64 o.hi, .int .u64 o.lo, .int .i64 o.mn, .int .i64 o.mx] := by
  obtain ⟨ys, n', _, _, hlen, hyl, hfd⟩ := DataW.trod_struct Try.underlying24 hf
  rw [cells_acc] at hlen
  obtain ⟨c0, c1, c2, c3, c4, rfl⟩ := arr_acc hlen
  have f0 : DataW.trod enc Try.prog W 0 (fun _ => true) true n' 2 (([c0, c1, c2, c3, c4].drop 0).take (Try.prog.cellsOf 2)) = ys[0]? := hfd 0 _ rfl
  have f1 : DataW.trod enc Try.prog W 0 (fun _ => true) true n' 2 (([c0, c1, c2, c3, c4].drop 1).take (Try.prog.cellsOf 2)) = ys[1]? := hfd 1 _ rfl
  have f2 : DataW.trod enc Try.prog W 0 (fun _ => true) true n' 22 (([c0, c1, c2, c3, c4].drop 2).take (Try.prog.cellsOf 22)) = ys[2]? := hfd 2 _ rfl
  have f3 : DataW.trod enc Try.prog W 0 (fun _ => true) true n' 2 (([c0, c1, c2, c3, c4].drop 3).take (Try.prog.cellsOf 2)) = ys[3]? := hfd 3 _ rfl
  have f4 : DataW.trod enc Try.prog W 0 (fun _ => true) true n' 2 (([c0, c1, c2, c3, c4].drop 4).take (Try.prog.cellsOf 2)) = ys[4]? := hfd 4 _ rfl
  rw [one_all.1] at f0
  rw [one_all.1] at f1
  rw [one_all.2.2.2.2] at f2
  rw [one_all.1] at f3
  rw [one_all.1] at f4
  simp only [List.drop_zero, List.take_succ_cons, List.take_zero, List.drop_succ_cons] at f0 f1 f2 f3 f4
  have g0 : ys[0]? = some (ys[0]'(by rw [hyl]; decide)) := List.getElem?_eq_getElem _
  have g1 : ys[1]? = some (ys[1]'(by rw [hyl]; decide)) := List.getElem?_eq_getElem _
  have g2 : ys[2]? = some (ys[2]'(by rw [hyl]; decide)) := List.getElem?_eq_getElem _
  have g3 : ys[3]? = some (ys[3]'(by rw [hyl]; decide)) := List.getElem?_eq_getElem _
  have g4 : ys[4]? = some (ys[4]'(by rw [hyl]; decide)) := List.getElem?_eq_getElem _
  obtain ⟨z0, e0, _, w0⟩ := DataW.trod_int Try.underlying2 (f0.trans g0)
  obtain ⟨z1, e1, _, w1⟩ := DataW.trod_int Try.underlying2 (f1.trans g1)
  obtain ⟨z2, e2, _, w2⟩ := DataW.trod_int Try.underlying22 (f2.trans g2)
  obtain ⟨z3, e3, _, w3⟩ := DataW.trod_int Try.underlying2 (f3.trans g3)
  obtain ⟨z4, e4, _, w4⟩ := DataW.trod_int Try.underlying2 (f4.trans g4)
  simp only [List.cons.injEq, and_true] at e0 e1 e2 e3 e4
  subst e0 e1 e2 e3 e4
  exact ⟨⟨z0, z1, z2, z3, z4⟩, ⟨bd_i64 w0, bd_i64 w1, bdI_u64 w2, bd_i64 w3, bd_i64 w4⟩, rfl⟩
theorem bdI_u8 {n : Int} (h : (Lit.int .u8 n).wf = true) : 0 ≤ n ∧ n ≤ 255 := by obtain ⟨m, rfl, h⟩ := bd_u8 h; omega
theorem open_acc {H : Type} {enc : TypeId × Value → H} {W : World} {v : Value} {d : DataW H} {ps : List MemPlace} {base : Nat} (hv : Value.okWide Try.prog W .any base 24 v) (h : DataW.Trod enc Try.prog W 0 (fun _ => true) true 24 v d ps) : ∃ o : AccD, o.ok ∧ v = o.v := by
  obtain ⟨cs, rfl, hsz⟩ := okWide_struct Try.underlying24 hv
  obtain ⟨fuel, hf⟩ := h
  obtain ⟨o, hk, ho⟩ := fields_acc hf
  refine ⟨o, hk, ?_⟩
  simp only [Value.cells] at ho
  congr 1
  exact Array.toList_inj.1 ho
theorem open_i64 {H : Type} {enc : TypeId × Value → H} {W : World} {v : Value} {d : DataW H} {ps : List MemPlace} {base : Nat} (hv : Value.okWide Try.prog W .any base 2 v) (h : DataW.Trod enc Try.prog W 0 (fun _ => true) true 2 v d ps) : ∃ n, v = .int .i64 n ∧ I64 n := by
  obtain ⟨fuel, hf⟩ := h
  obtain ⟨z, e, _, hw⟩ := DataW.trod_int Try.underlying2 hf
  obtain ⟨n, rfl, _⟩ := okWide_int Try.underlying2 hv
  simp [Value.cells] at e
  subst e
  exact ⟨_, rfl, bd_i64 hw⟩
/-- A row of things of one cell each lies behind a slice. -/
def Row (W : World) (B : Nat) (A : Option Addr) (k : IntKind) (l : List Int) : Prop := l = [] ∨ ∃ ad : Addr, A = some ad ∧ ad.block < B ∧ ∀ j z, l[j]? = some z → W.cell? (ad.add j) = some (.int k z)

set_option maxRecDepth 100000 in
theorem open_i64s {H : Type} {enc : TypeId × Value → H} {W : World} {v : Value} {d : DataW H} {ps : List MemPlace} {base : Nat} (hv : Value.okWide Try.prog W .any base 31 v) (h : DataW.Trod enc Try.prog W 0 (fun _ => true) true 31 v d ps)
    (hlt : ∀ x ∈ ps, x.block < W.heap.size) : ∃ (A : Option Addr) (cp : Nat) (l : List Int), v = .slice A l.length cp ∧ cp ≤ maxLen ∧ l.length ≤ cp ∧
      Row W W.heap.size A .i64 l ∧ ∀ z ∈ l, -9223372036854775808 ≤ z ∧ z < 9223372036854775808 := by
  obtain ⟨a0, len, cap, rfl⟩ := okWide_slice Try.underlying31 hv
  obtain ⟨fuel, hf⟩ := h
  rcases open_ints Try.underlying31 Try.underlying2 one_all.1 hf with ⟨hcs, hx⟩ | ⟨a, len', cap', zs, hcs, _, hl, hm, hz, hx, hcell, hwz⟩
  · simp [Value.cells] at hcs
    obtain ⟨rfl, rfl, rfl⟩ := hcs
    exact ⟨none, 0, [], rfl, by simp [maxLen], Nat.le_refl _, .inl rfl, by simp⟩
  · simp [Value.cells] at hcs
    obtain ⟨rfl, rfl, rfl⟩ := hcs
    simp only [Prod.mk.injEq] at hx
    obtain ⟨rfl, rfl⟩ := hx
    simp only [if_true] at hz
    obtain ⟨l, hle⟩ : ∃ l, l = zs.take len := ⟨_, rfl⟩
    have hll : l.length = len := by rw [hle, List.length_take]; omega
    have hin : ∀ z ∈ l, z ∈ zs := fun z hz => by rw [hle] at hz; exact List.mem_of_mem_take hz
    have hat : ∀ j z, l[j]? = some z → j < zs.length ∧ zs.getD j 0 = z := by
      intro j z hj
      have hjl : j < l.length := by
        rcases Nat.lt_or_ge j l.length with h | h
        · exact h
        · rw [List.getElem?_eq_none h] at hj; cases hj
      rw [hle, List.getElem?_take] at hj
      rw [if_pos (by omega)] at hj
      refine ⟨by omega, ?_⟩
      rw [List.getD_eq_getElem?_getD, hj]
      rfl
    clear hle
    subst hll
    refine ⟨some a, cap, l, rfl, hm, hl, ?_, fun z hz => bd_i64 (hwz z (hin z hz))⟩
    by_cases h0 : l = []
    · exact .inl h0
    · refine .inr ⟨a, rfl, ?_, fun j z hj => ?_⟩
      · obtain ⟨b, off, spot⟩ := a
        have hpos : 0 < l.length := List.length_pos_iff.2 h0
        exact hlt (.cell b off) (MemPlace.mem_row.2 ⟨0, by omega, by simp⟩)
      · obtain ⟨h1, h2⟩ := hat j z hj
        rw [hcell j h1, h2]

set_option maxRecDepth 100000 in
theorem open_u8s {H : Type} {enc : TypeId × Value → H} {W : World} {v : Value} {d : DataW H} {ps : List MemPlace} {base : Nat} (hv : Value.okWide Try.prog W .any base 34 v) (h : DataW.Trod enc Try.prog W 0 (fun _ => true) true 34 v d ps)
    (hlt : ∀ x ∈ ps, x.block < W.heap.size) : ∃ (A : Option Addr) (cp : Nat) (l : List Int), v = .slice A l.length cp ∧ cp ≤ maxLen ∧ l.length ≤ cp ∧
      Row W W.heap.size A .u8 l ∧ ∀ z ∈ l, 0 ≤ z ∧ z ≤ 255 := by
  obtain ⟨a0, len, cap, rfl⟩ := okWide_slice Try.underlying34 hv
  obtain ⟨fuel, hf⟩ := h
  rcases open_ints Try.underlying34 Try.underlying5 one_all.2.2.2.1 hf with ⟨hcs, hx⟩ | ⟨a, len', cap', zs, hcs, _, hl, hm, hz, hx, hcell, hwz⟩
  · simp [Value.cells] at hcs
    obtain ⟨rfl, rfl, rfl⟩ := hcs
    exact ⟨none, 0, [], rfl, by simp [maxLen], Nat.le_refl _, .inl rfl, by simp⟩
  · simp [Value.cells] at hcs
    obtain ⟨rfl, rfl, rfl⟩ := hcs
    simp only [Prod.mk.injEq] at hx
    obtain ⟨rfl, rfl⟩ := hx
    simp only [if_true] at hz
    obtain ⟨l, hle⟩ : ∃ l, l = zs.take len := ⟨_, rfl⟩
    have hll : l.length = len := by rw [hle, List.length_take]; omega
    have hin : ∀ z ∈ l, z ∈ zs := fun z hz => by rw [hle] at hz; exact List.mem_of_mem_take hz
    have hat : ∀ j z, l[j]? = some z → j < zs.length ∧ zs.getD j 0 = z := by
      intro j z hj
      have hjl : j < l.length := by
        rcases Nat.lt_or_ge j l.length with h | h
        · exact h
        · rw [List.getElem?_eq_none h] at hj; cases hj
      rw [hle, List.getElem?_take] at hj
      rw [if_pos (by omega)] at hj
      refine ⟨by omega, ?_⟩
      rw [List.getD_eq_getElem?_getD, hj]
      rfl
    clear hle
    subst hll
    refine ⟨some a, cap, l, rfl, hm, hl, ?_, fun z hz => bdI_u8 (hwz z (hin z hz))⟩
    by_cases h0 : l = []
    · exact .inl h0
    · refine .inr ⟨a, rfl, ?_, fun j z hj => ?_⟩
      · obtain ⟨b, off, spot⟩ := a
        have hpos : 0 < l.length := List.length_pos_iff.2 h0
        exact hlt (.cell b off) (MemPlace.mem_row.2 ⟨0, by omega, by simp⟩)
      · obtain ⟨h1, h2⟩ := hat j z hj
        rw [hcell j h1, h2]
end Go.Proofs.Ytlkekcmphbpfbaa
