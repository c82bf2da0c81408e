/-
  Apply: what operators make of a record, one behind the other.
-/
import Derived.Test.YthebacladmjiiaaOpM
namespace Go.Proofs.Ythebacladmjiiaa
open Go Go.RowKit Go.Lib

/-- An operator lies in a block, from a place on. -/
structure OpIn (W : World) (g k : Nat) (o : OpD) : Prop where
  c0 : W.cell? ⟨g, k, none⟩ = some (.int .i64 o.kind)
  c1 : W.cell? ⟨g, k + 1, none⟩ = some (.int .i64 o.a)
  c2 : W.cell? ⟨g, k + 2, none⟩ = some (.int .i64 o.b)
  c3 : W.cell? ⟨g, k + 3, none⟩ = some (.int .i64 o.agg)
theorem OpIn.same {W W' : World} {g k : Nat} {o : OpD} (h : OpIn W g k o) (e : W'.heap[g]? = W.heap[g]?) : OpIn W' g k o :=
  ⟨(cell_heap e).trans h.c0, (cell_heap e).trans h.c1, (cell_heap e).trans h.c2, (cell_heap e).trans h.c3⟩
/-- A slice of operators. -/
def Opers (W : World) (B : Nat) (A : Option Addr) (l : List OpD) : Prop := l = [] ∨ ∃ g, A = some ⟨g, 0, none⟩ ∧ g < B ∧ ∀ j x, l[j]? = some x → OpIn W g (j * 4) x
theorem Opers.below {W W' : World} {B : Nat} {A : Option Addr} {l : List OpD} (h : Opers W B A l) (hb : Below B W W') : Opers W' B A l := by
  rcases h with h | ⟨g, rfl, hg, hc⟩
  · exact .inl h
  · exact .inr ⟨g, rfl, hg, fun j x hx => (hc j x hx).same (hb.block g hg)⟩
theorem Opers.mono {W : World} {B B' : Nat} {A : Option Addr} {l : List OpD} (h : Opers W B A l) (hb : B ≤ B') : Opers W B' A l := by
  rcases h with h | ⟨g, rfl, hg, hc⟩
  · exact .inl h
  · exact .inr ⟨g, rfl, by omega, hc⟩
theorem Recs.mono {W : World} {B B' : Nat} {v : Value} {l : List RecD} (h : Recs W B v l) (hb : B ≤ B') : Recs W B' v l := by
  obtain ⟨A, cap, rfl, h | ⟨g, rfl, hg, hc⟩⟩ := h
  · exact ⟨A, cap, rfl, .inl h⟩
  · exact ⟨_, cap, rfl, .inr ⟨g, rfl, by omega, hc⟩⟩

/-- A slice that owns its records reads as them. -/
theorem own_recs {W : World} {base : Nat} {v : Value} {l : List RecD} (h : W.ownsRow base 36 6 v l.length (cellsL l)) : Recs W W.heap.size v l := by
  rcases h.2 with ⟨rfl, h0⟩ | ⟨g, cap, cur, rfl, hg, hc, hcap, _, hsz, htk⟩
  · have hl : l = [] := List.eq_nil_of_length_eq_zero h0
    subst hl
    exact ⟨none, 0, rfl, .inl rfl⟩
  · refine ⟨_, cap, rfl, .inr ⟨g, rfl, (Array.getElem?_eq_some_iff.1 hc).1, fun j x hx => ?_⟩⟩
    have hj : j < l.length := (List.getElem?_eq_some_iff.1 hx).1
    have cell : ∀ i, i < 6 → W.cell? ⟨g, j * 6 + i, none⟩ = x.cells[i]? := by
      intro i hi
      rw [← cellsL_get i hx hi, ← htk, List.getElem?_take, if_pos (by omega), Ev.cell_of_block hc]
      simp
    exact ⟨cell 0 (by omega), cell 1 (by omega), cell 2 (by omega), cell 3 (by omega), cell 4 (by omega), cell 5 (by omega)⟩

/-- What a list of operators makes of a record. -/
def applyM (ops : List OpD) (r : RecD) : List RecD := ops.foldl (fun l o => throughM o l) [r]
theorem applyM_take {ops : List OpD} {j : Nat} (h : j < ops.length) (r : RecD) : applyM (ops.take (j + 1)) r = throughM ops[j] (applyM (ops.take j) r) := by
  unfold applyM
  rw [List.take_succ_eq_append_getElem h, List.foldl_append]
  rfl
theorem applyM_len (ops : List OpD) (r : RecD) : ∀ j, j ≤ ops.length → (applyM (ops.take j) r).length ≤ 3 ^ j
  | 0, _ => by simp [applyM]
  | j + 1, h => by
    rw [applyM_take (by omega)]
    have := applyM_len ops r j (by omega)
    have := flat_len ops[j] (applyM (ops.take j) r)
    unfold throughM
    rw [Nat.pow_succ]
    omega
theorem pow_le {j : Nat} (h : j ≤ 12) : 3 ^ j ≤ 1000000 := Nat.le_trans (Nat.pow_le_pow_right (by omega) h) (by decide)

theorem recs_one (w : World) (r : RecD) (t : TypeId) : Recs (w.alloc (.cells r.cells.toArray t)) (w.alloc (.cells r.cells.toArray t)).heap.size (.slice (some ⟨w.heap.size, 0, none⟩) 1 1) [r] := by
  refine ⟨_, 1, rfl, .inr ⟨_, rfl, by simp, fun j x hx => ?_⟩⟩
  have h := recAt_new w r t
  cases j with
  | zero =>
    simp at hx; subst hx
    exact ⟨h.c0, h.c1, h.c2, h.c3, h.c4, h.c5⟩
  | succ j => simp at hx

set_option maxRecDepth 100000 in
set_option maxHeartbeats 3200000 in
theorem apply_any (ops : List OpD) (A : Option Addr) (cap : Nat) (r : RecD) (w : World) (hin : Opers w w.heap.size A ops) (hlen : ops.length ≤ 12) :
    Calls Try.prog 15 #[.slice A ops.length cap, r.v] w fun e w' => ∃ A' c', e = .returned (.slice A' (applyM ops r).length c') ∧ Recs w' w'.heap.size (.slice A' (applyM ops r).length c') (applyM ops r) ∧ Below w.heap.size w w' := by
  have HIN := Lib.hid hin
  clear hin
  go_enter Try.func15, Try.ntmps15
  go_wp2_with fail
  have hR0 := recs_one (w.alloc (.cells r.cells.toArray 36)) r 36
  have HR0 := Lib.hid hR0
  clear hR0
  go_loopw [5, 12] (fun v5 i wr => ∃ (j : Nat) (A5 : Option Addr) (c5 : Nat) (l : List RecD), i = .int .i64 j ∧ j ≤ ops.length ∧ v5 = .slice A5 l.length c5 ∧ l = applyM (ops.take j) r ∧ Recs wr wr.heap.size (.slice A5 l.length c5) l ∧ Below w.heap.size w wr) (fun _ i _ => ops.length - (intOf i).toNat)
  case atStart =>
    refine ⟨0, some ⟨w.heap.size + 1, 0, none⟩, 1, [r], rfl, Nat.zero_le _, rfl, rfl, ?_, ((Below.refl _ _).alloc (Nat.le_refl _) _).alloc (by simp) _⟩
    have := HR0.out
    simp only [World.size_alloc] at this ⊢
    exact this
  case round =>
    obtain ⟨j, A5, c5, l, rfl, hj, rfl, hl, hrec, hb⟩ := hrel
    have BR := Lib.hid hb
    have RR := Lib.hid hrec
    clear hb hrec
    by_cases hlt : j < ops.length
    · have hq1 : (j : Int) < (ops.length : Int) := by omega
      have hq0 : (0 : Int) ≤ (j : Int) := by omega
      have W1 : IntKind.i64.wrap ((j : Int) + 1) = (j : Int) + 1 := IntWalk.i64_in _ (by omega)
      rcases HIN.out.below BR.out with h0 | ⟨g, rfl, hgl, hcs⟩
      · rw [h0] at hlt; simp at hlt
      obtain ⟨o, ho⟩ : ∃ o, ops[j] = o := ⟨_, rfl⟩
      obtain ⟨o0, o1, o2, o3⟩ := hcs j o (by rw [List.getElem?_eq_getElem hlt, ho])
      have hll : l.length ≤ 1000000000 := by
        have := applyM_len ops r j hj
        have := pow_le (j := j) (by omega)
        rw [hl]; omega
      have HL := Lib.hid hll
      have HO := Lib.hid ho
      have HE := Lib.hid hl
      clear hll hcs ho hl
      go_wp2_with (go_at_call 23
                   (with_reducible refine (through_any o l A5 c5 _ ((RR.out.below ((Below.refl _ _).alloc (Nat.le_refl _) _)).mono (by simp)) HL.out).mono ?_)
                   rintro e w2 ⟨v2, rfl, hown, hnil, hb2⟩
                   obtain ⟨A6, c6, rfl, hr6⟩ := own_recs hown
                   have R6 := Lib.hid hr6
                   have B6 := Lib.hid hb2
                   clear hown hnil hb2 hr6)
      go_roundw
      case rel =>
        refine ⟨j + 1, A6, c6, throughM o l, by go_num, by omega, rfl, by rw [applyM_take hlt, HO.out, ← HE.out], ⟨A6, c6, rfl, R6.out⟩, ?_⟩
        exact BR.out.trans (Below.trans ((Below.refl _ _).alloc BR.out.size _) (B6.out.mono (by have := BR.out.size; simp; omega)))
      case measure => simp [intOf]; omega
    · obtain rfl : j = ops.length := by omega
      have hq1 : ¬ ((ops.length : Nat) : Int) < (ops.length : Int) := by omega
      rw [List.take_length] at hl
      subst hl
      go_wp2_with fail
      go_ret
      exact ⟨A5, c5, rfl, RR.out, BR.out⟩
end Go.Proofs.Ythebacladmjiiaa
