/-
  A region that draws its order, for predicates in place of values: each operation, whenever it comes up, puts into its slot a value that meets its predicate, in a world that has only grown;
  then, whatever order is drawn, all slots meet theirs in the end. One pass over the operations, no order walked.
-/
import Derived.Test.YtpfeaekankkpiaaGreatDoorEvL
namespace Go.Ev
open Go

section
variable {P : Program} {aops : Array Oper} {Q : Exit → Act → World → Prop} {Φ : Nat → Value → World → Prop} {Gr : World → Prop} {Ext : World → World → Prop} {a0 : Act}

structure Ord (aops : Array Oper) (Φ : Nat → Value → World → Prop) (Gr : World → Prop) (a0 : Act) (listed : Array Bool) (a : Act) (w : World) : Prop where
  size : listed.size = aops.size
  df : a.defers = a0.defers
  tsz : a.tmps.size = a0.tmps.size
  gr : Gr w
  low : ∀ k o e, aops[k]? = some o → listed.getD k false = true → e ∈ o.after.toList → Region.binds .any e = true → listed.getD e.on false = true
  done : ∀ i o d, aops[i]? = some o → o.dst = some d → listed.getD i false = true → ∃ v, a.tmps[d]? = some v ∧ Φ i v w
  base : ∀ t, (∀ i o, aops[i]? = some o → listed.getD i false = true → o.dst ≠ some t) → a.tmps[t]? = a0.tmps[t]?

/-- What operation i may use when it comes up. -/
structure Here (aops : Array Oper) (Φ : Nat → Value → World → Prop) (Gr : World → Prop) (a0 : Act) (i : Nat) (o : Oper) (a : Act) (w : World) : Prop where
  gr : Gr w
  tsz : a.tmps.size = a0.tmps.size
  dep : ∀ e ∈ o.after.toList, Region.binds .any e = true → ∀ oj d, aops[e.on]? = some oj → oj.dst = some d → ∃ v, a.tmps[d]? = some v ∧ Φ e.on v w
  base : ∀ t, (∀ k ok, aops[k]? = some ok → ok.dst = some t → k = i ∨ ∃ e ∈ ok.after.toList, Region.binds .any e = true ∧ e.on = i) → a.tmps[t]? = a0.tmps[t]?

theorem Ord.here {listed : Array Bool} {a : Act} {w : World} {i : Nat} (C : Ord aops Φ Gr a0 listed a w) (hi : i ∈ Region.ready .any aops listed) :
    ∃ o, aops[i]? = some o ∧ listed.getD i true = false ∧ (∀ e ∈ o.after.toList, Region.binds .any e = true → listed.getD e.on false = true) ∧ Here aops Φ Gr a0 i o a w := by
  obtain ⟨h1, o, h2, h3⟩ := ready_spec hi
  refine ⟨o, h2, h1, h3, C.gr, C.tsz, fun e he hb oj d hj hd => C.done e.on oj d hj hd (h3 e he hb), fun t ht => C.base t fun k ok hk hl hd => ?_⟩
  have hf := (getD_false_of_true h1).1
  rcases ht k ok hk hd with rfl | ⟨e, he, hb, rfl⟩
  · rw [hf] at hl; simp at hl
  · have := C.low k ok e hk hl he hb
    rw [hf] at this; simp at this

theorem put_tmps_get (a : Act) (d : Option Nat) (v : Value) (t : Nat) (h : d ≠ some t) : (a.put d v).tmps[t]? = a.tmps[t]? := by
  cases d with
  | none => rfl
  | some d =>
    have : d ≠ t := fun e => h (by rw [e])
    simp [Act.put, this]
theorem put_tmps_at (a : Act) (d : Nat) (v : Value) (h : d < a.tmps.size) : (a.put (some d) v).tmps[d]? = some v := by
  simp [Act.put, h]
theorem put_tmps_size (a : Act) (d : Option Nat) (v : Value) : (a.put d v).tmps.size = a.tmps.size := by
  cases d <;> simp [Act.put]

/-- The law. -/
theorem any_order
    (uniq : ∀ (i j : Nat) (o o' : Oper) (d : Nat), aops[i]? = some o → aops[j]? = some o' → o.dst = some d → o'.dst = some d → i = j)
    (fits : ∀ (i : Nat) (o : Oper) (d : Nat), aops[i]? = some o → o.dst = some d → d < a0.tmps.size)
    (back : ∀ (i : Nat) (o : Oper), aops[i]? = some o → ∀ e ∈ o.after.toList, Region.binds .any e = true → e.on < i)
    (mono : ∀ i v w w', Φ i v w → Ext w w' → Φ i v w')
    (step : ∀ (i : Nat) (o : Oper) (a : Act) (w : World), aops[i]? = some o → Here aops Φ Gr a0 i o a w → wpOp P aops Q i (fun a' w' => ∃ v, a' = a.put o.dst v ∧ Φ i v w' ∧ Gr w' ∧ Ext w w') a w)
    (fin : ∀ a w, a.defers = a0.defers → a.tmps.size = a0.tmps.size → Gr w → (∀ (i : Nat) (o : Oper) (d : Nat), aops[i]? = some o → o.dst = some d → ∃ v, a.tmps[d]? = some v ∧ Φ i v w) →
      (∀ (t : Nat), (∀ (i : Nat) (o : Oper), aops[i]? = some o → o.dst ≠ some t) → a.tmps[t]? = a0.tmps[t]?) → Q .normal a w) :
    ∀ (fuel : Nat) (listed : Array Bool) (a : Act) (w : World), Ord aops Φ Gr a0 listed a w → left listed aops.size ≤ fuel → wpAny P .any aops Q fuel listed a w := by
  have done : ∀ (listed : Array Bool) (a : Act) (w : World), Ord aops Φ Gr a0 listed a w → Region.ready .any aops listed = [] → Q .normal a w := by
    intro listed a w C hr
    have hall : ∀ j, j < aops.size → listed.getD j false = true := by
      intro j hj
      induction j using Nat.strongRecOn with
      | _ j ih =>
        cases hl : listed.getD j false with
        | true => rfl
        | false =>
          exfalso
          have ho : aops[j]? = some aops[j] := Array.getElem?_eq_getElem hj
          have hlt : listed.getD j true = false := by
            have hsz : j < listed.size := by rw [C.size]; exact hj
            simp [Array.getD, hsz] at hl ⊢
            exact hl
          have : j ∈ Region.ready .any aops listed := by
            unfold Region.ready
            rw [List.mem_filter]
            refine ⟨List.mem_range.2 hj, ?_⟩
            rw [hlt, ho]
            simp only [Bool.not_false, Bool.true_and, Option.map_some, Option.getD_some]
            rw [← Array.all_toList, List.all_eq_true]
            intro e he
            cases hb : Region.binds .any e with
            | false => rfl
            | true =>
              have := back j _ ho e he hb
              simp only [Bool.not_true, Bool.false_or]
              exact ih e.on this (by omega)
          rw [hr] at this
          simp at this
    refine fin a w C.df C.tsz C.gr (fun i o d hi hd => C.done i o d hi hd (hall i (Array.getElem?_eq_some_iff.1 hi).1)) (fun t ht => C.base t fun i o hi _ => ht i o hi)
  intro fuel
  induction fuel with
  | zero =>
    intro listed a w C hc
    have hr : Region.ready .any aops listed = [] := by
      rw [List.eq_nil_iff_forall_not_mem]
      intro i hi
      obtain ⟨h1, o, h2, _⟩ := ready_spec hi
      have := left_lt h1 (Array.getElem?_eq_some_iff.1 h2).1
      omega
    exact ⟨hr, done listed a w C hr⟩
  | succ fuel ih =>
    intro listed a w C hc
    refine ⟨done listed a w C, fun i hi => ?_⟩
    obtain ⟨o, h2, h1, h3, hh⟩ := C.here hi
    have hin := (Array.getElem?_eq_some_iff.1 h2).1
    have hlt := left_lt h1 hin
    have hsz : i < listed.size := by rw [C.size]; exact hin
    refine wpOp_mono (fun a' w' C' => ih _ a' w' ?_ (by omega)) (step i o a w h2 hh)
    obtain ⟨v, rfl, hv, hg, hx⟩ := C'
    refine ⟨by simpa using C.size, by rw [put_defers]; exact C.df, by rw [put_tmps_size]; exact C.tsz, hg, ?_, ?_, ?_⟩
    · intro k ok e hk hl he hb
      rw [getD_set hsz] at hl ⊢
      split
      · rfl
      · split at hl
        · rename_i e1
          subst e1
          rw [h2] at hk
          cases hk
          exact h3 e he hb
        · exact C.low k ok e hk hl he hb
    · intro j oj d hj hd hl
      rw [getD_set hsz] at hl
      by_cases e1 : j = i
      · subst e1
        rw [h2] at hj
        cases hj
        have := fits j o d h2 hd
        refine ⟨v, ?_, hv⟩
        rw [hd]
        exact put_tmps_at a d v (by rw [C.tsz]; exact this)
      · rw [if_neg e1] at hl
        obtain ⟨u, hu, hp⟩ := C.done j oj d hj hd hl
        refine ⟨u, ?_, mono _ _ _ _ hp hx⟩
        rw [put_tmps_get _ _ _ _ (fun e2 => e1 (uniq j i oj o d hj h2 hd e2))]
        exact hu
    · intro t ht
      have ho : o.dst ≠ some t := ht i o h2 (by rw [getD_set hsz, if_pos rfl])
      rw [put_tmps_get _ _ _ _ ho]
      exact C.base t fun k ok hk hl => ht k ok hk (by rw [getD_set hsz]; split <;> first | rfl | exact hl)

theorem left_none (n : Nat) : left (Array.replicate n false) n ≤ n := by
  unfold left
  exact Nat.le_trans List.countP_le_length (by simp)

/-- The law at a region of the code. -/
theorem wp_region_order {id : Nat} {w0 : World} (hm : P.follows .mixedOrders = true)
    (uniq : ∀ (i j : Nat) (o o' : Oper) (d : Nat), aops[i]? = some o → aops[j]? = some o' → o.dst = some d → o'.dst = some d → i = j)
    (fits : ∀ (i : Nat) (o : Oper) (d : Nat), aops[i]? = some o → o.dst = some d → d < a0.tmps.size)
    (back : ∀ (i : Nat) (o : Oper), aops[i]? = some o → ∀ e ∈ o.after.toList, Region.binds .any e = true → e.on < i)
    (mono : ∀ i v w w', Φ i v w → Ext w w' → Φ i v w')
    (hg : Gr { w0 with drawn := w0.drawn + 1 })
    (step : ∀ (i : Nat) (o : Oper) (a : Act) (w : World), aops[i]? = some o → Here aops Φ Gr a0 i o a w → wpOp P aops Q i (fun a' w' => ∃ v, a' = a.put o.dst v ∧ Φ i v w' ∧ Gr w' ∧ Ext w w') a w)
    (fin : ∀ a w, a.defers = a0.defers → a.tmps.size = a0.tmps.size → Gr w → (∀ (i : Nat) (o : Oper) (d : Nat), aops[i]? = some o → o.dst = some d → ∃ v, a.tmps[d]? = some v ∧ Φ i v w) →
      (∀ (t : Nat), (∀ (i : Nat) (o : Oper), aops[i]? = some o → o.dst ≠ some t) → a.tmps[t]? = a0.tmps[t]?) → Q .normal a w) :
    (Code.region id aops true).wp P Q a0 w0 := by
  have none : ∀ i, (Array.replicate aops.size false).getD i false = true → False := by
    intro i h
    by_cases hi : i < aops.size <;> simp [Array.getD, hi] at h
  refine wp_region_any hm (any_order uniq fits back mono step fin _ _ _ _ ⟨by simp, rfl, rfl, hg, fun k _ _ _ h _ _ => (none k h).elim, fun i _ _ _ _ h => (none i h).elim, fun _ _ => rfl⟩ (left_none _))
end
end Go.Ev
