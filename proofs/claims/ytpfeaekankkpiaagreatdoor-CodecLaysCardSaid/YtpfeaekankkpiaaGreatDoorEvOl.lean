/-
  A region that draws its order and ends by one operation that waits for all others (a store): the law for predicates, the last operation apart.
-/
import Derived.Test.YtpfeaekankkpiaaGreatDoorEvRt
namespace Go.Ev
open Go

section
variable {P : Program} {aops : Array Oper} {Q : Exit → Act → World → Prop} {Φ : Nat → Value → World → Prop} {Gr : World → Prop} {Ext : World → World → Prop} {a0 : Act}

theorem all_listed (back : ∀ (i : Nat) (o : Oper), aops[i]? = some o → ∀ e ∈ o.after.toList, Region.binds .any e = true → e.on < i) {listed : Array Bool} (hsize : listed.size = aops.size) (hr : Region.ready .any aops listed = []) :
    ∀ j, j < aops.size → listed.getD j false = true := by
  intro j hj
  induction j using Nat.strongRecOn with
  | _ j ih =>
    cases hl : listed.getD j false with
    | true => rfl
    | false =>
      exfalso
      have ho : aops[j]? = some aops[j] := Array.getElem?_eq_getElem hj
      have hlt : listed.getD j true = false := by
        have hsz : j < listed.size := by rw [hsize]; exact hj
        simp [Array.getD, hsz] at hl ⊢
        exact hl
      have : j ∈ Region.ready .any aops listed := by
        unfold Region.ready
        rw [List.mem_filter]
        refine ⟨List.mem_range.2 hj, ?_⟩
        rw [hlt, ho]
        simp only [Bool.not_false, Bool.true_and, Option.map_some, Option.getD_some]
        rw [← Array.all_toList, List.all_eq_true]
        intro e he
        cases hb : Region.binds .any e with
        | false => rfl
        | true =>
          have := back j _ ho e he hb
          simp only [Bool.not_true, Bool.false_or]
          exact ih e.on this (by omega)
      rw [hr] at this
      simp at this

theorem any_over {listed : Array Bool} {a : Act} {w : World} (hl : ∀ j, j < aops.size → listed.getD j true = true) (hq : Q .normal a w) : ∀ fuel, wpAny P .any aops Q fuel listed a w := by
  have hr : Region.ready .any aops listed = [] := by
    rw [List.eq_nil_iff_forall_not_mem]
    intro i hi
    obtain ⟨h1, o, h2, _⟩ := ready_spec hi
    have := hl i (Array.getElem?_eq_some_iff.1 h2).1
    rw [h1] at this
    cases this
  intro fuel
  cases fuel with
  | zero => exact ⟨hr, hq⟩
  | succ fuel => exact ⟨fun _ => hq, fun i hi => by rw [hr] at hi; cases hi⟩

theorem any_order_last {n : Nat} {ol : Oper} (hn : aops[n]? = some ol) (hsize : aops.size = n + 1) (hall : ∀ j, j < n → ∃ e ∈ ol.after.toList, Region.binds .any e = true ∧ e.on = j)
    (uniq : ∀ (i j : Nat) (o o' : Oper) (d : Nat), aops[i]? = some o → aops[j]? = some o' → o.dst = some d → o'.dst = some d → i = j)
    (fits : ∀ (i : Nat) (o : Oper) (d : Nat), aops[i]? = some o → o.dst = some d → d < a0.tmps.size)
    (back : ∀ (i : Nat) (o : Oper), aops[i]? = some o → ∀ e ∈ o.after.toList, Region.binds .any e = true → e.on < i)
    (mono : ∀ i v w w', Φ i v w → Ext w w' → Φ i v w')
    (step : ∀ (i : Nat) (o : Oper) (a : Act) (w : World), i < n → aops[i]? = some o → Here aops Φ Gr a0 i o a w → wpOp P aops Q i (fun a' w' => ∃ v, a' = a.put o.dst v ∧ Φ i v w' ∧ Gr w' ∧ Ext w w') a w)
    (fin : ∀ a w, a.defers = a0.defers → a.tmps.size = a0.tmps.size → Gr w → (∀ (i : Nat) (o : Oper) (d : Nat), i < n → aops[i]? = some o → o.dst = some d → ∃ v, a.tmps[d]? = some v ∧ Φ i v w) →
      (∀ (t : Nat), (∀ (i : Nat) (o : Oper), i < n → aops[i]? = some o → o.dst ≠ some t) → a.tmps[t]? = a0.tmps[t]?) → wpOp P aops Q n (fun a' w' => Q .normal a' w') a w) :
    ∀ (fuel : Nat) (listed : Array Bool) (a : Act) (w : World), Ord aops Φ Gr a0 listed a w → listed.getD n false = false → left listed aops.size ≤ fuel → wpAny P .any aops Q fuel listed a w := by
  intro fuel
  induction fuel with
  | zero =>
    intro listed a w C hnl hc
    have hr : Region.ready .any aops listed = [] := by
      rw [List.eq_nil_iff_forall_not_mem]
      intro i hi
      obtain ⟨h1, o, h2, _⟩ := ready_spec hi
      have := left_lt h1 (Array.getElem?_eq_some_iff.1 h2).1
      omega
    have := all_listed back C.size hr n (by omega)
    rw [hnl] at this
    cases this
  | succ fuel ih =>
    intro listed a w C hnl hc
    refine ⟨fun hr => ?_, fun i hi => ?_⟩
    · have := all_listed back C.size hr n (by omega)
      rw [hnl] at this
      cases this
    obtain ⟨o, h2, h1, h3, hh⟩ := C.here hi
    have hin := (Array.getElem?_eq_some_iff.1 h2).1
    have hlt := left_lt h1 hin
    have hsz : i < listed.size := by rw [C.size]; exact hin
    by_cases hin' : i = n
    · subst hin'
      rw [hn] at h2
      cases h2
      have hl : ∀ j, j < i → listed.getD j false = true := fun j hj => by
        obtain ⟨e, he, hb, rfl⟩ := hall j hj
        exact h3 e he hb
      refine wpOp_mono (fun a' w' hq => any_over (fun j hj => ?_) hq fuel) (fin a w C.df C.tsz C.gr (fun j oj d hj hoj hd => C.done j oj d hoj hd (hl j hj)) (fun t ht => C.base t fun k ok hk hkl => ?_))
      · by_cases e : j = i
        · subst e
          simp [Array.getD, hsz]
        · have := hl j (by omega)
          have hjs : j < listed.size := by rw [C.size]; exact hj
          have h9 : (listed.setIfInBounds i true)[j]? = listed[j]? := Array.getElem?_setIfInBounds_ne (by omega)
          simp only [Array.getD_eq_getD_getElem?] at this ⊢
          rw [h9]
          rw [Array.getElem?_eq_getElem hjs] at this ⊢
          exact this
      · by_cases e : k = i
        · subst e
          rw [hnl] at hkl
          cases hkl
        · have := (Array.getElem?_eq_some_iff.1 hk).1
          exact ht k ok (by omega) hk
    · have hilt : i < n := by omega
      refine wpOp_mono (fun a' w' C' => ih _ a' w' ?_ ?_ (by omega)) (step i o a w hilt h2 hh)
      · obtain ⟨v, rfl, hv, hg, hx⟩ := C'
        refine ⟨by simpa using C.size, by rw [put_defers]; exact C.df, by rw [put_tmps_size]; exact C.tsz, hg, ?_, ?_, ?_⟩
        · intro k ok e hk hl he hb
          rw [getD_set hsz] at hl ⊢
          split
          · rfl
          · split at hl
            · rename_i e1
              subst e1
              rw [h2] at hk
              cases hk
              exact h3 e he hb
            · exact C.low k ok e hk hl he hb
        · intro j oj d hj hd hl
          rw [getD_set hsz] at hl
          by_cases e1 : j = i
          · subst e1
            rw [h2] at hj
            cases hj
            have := fits j o d h2 hd
            refine ⟨v, ?_, hv⟩
            rw [hd]
            exact put_tmps_at a d v (by rw [C.tsz]; exact this)
          · rw [if_neg e1] at hl
            obtain ⟨u, hu, hp⟩ := C.done j oj d hj hd hl
            refine ⟨u, ?_, mono _ _ _ _ hp hx⟩
            rw [put_tmps_get _ _ _ _ (fun e2 => e1 (uniq j i oj o d hj h2 hd e2))]
            exact hu
        · intro t ht
          have ho : o.dst ≠ some t := ht i o h2 (by rw [getD_set hsz, if_pos rfl])
          rw [put_tmps_get _ _ _ _ ho]
          exact C.base t fun k ok hk hl => ht k ok hk (by rw [getD_set hsz]; split <;> first | rfl | exact hl)
      · rw [getD_set hsz, if_neg (by omega)]
        exact hnl

/-- The last operation waits for each other one. -/
def lastAll (ops : Array Oper) (n : Nat) : Bool := match ops[n]? with
  | some o => (List.range n).all fun j => o.after.toList.any fun e => Region.binds .any e && e.on == j
  | none => false

/-- The law at a region of the code, by a table, the last operation apart. -/
theorem tab_last {tab : Nat → Value ⊕ (Value → World → Prop)} {opsT : Array Oper} {ops : Array Oper} {id n n' : Nat} {W w0 : World} (hm : P.follows .mixedOrders = true) (ho : ops = opsT)
    (hdst : dstsOk opsT n = true) (hback : allBack 0 opsT.toList = true) (hs : a0.tmps.size = n) (hg : Since W w0) (hsize : opsT.size = n' + 1) (hlast : lastAll opsT n' = true)
    (mono : ∀ i v w w', Said tab i v w → Then w w' → Said tab i v w')
    (step : ∀ (i : Nat) (o : Oper) (a : Act) (w : World), i < n' → opsT[i]? = some o → Here opsT (Said tab) (Since W) a0 i o a w → wpOp P opsT Q i (fun a' w' => ∃ v, a' = a.put o.dst v ∧ Said tab i v w' ∧ Since W w' ∧ Then w w') a w)
    (fin : ∀ a w, a.defers = a0.defers → a.tmps.size = n → Since W w → (∀ (i : Nat) (o : Oper) (d : Nat), i < n' → opsT[i]? = some o → o.dst = some d → ∃ v, a.tmps[d]? = some v ∧ Said tab i v w) →
      (∀ (t : Nat), (∀ (i : Nat) (o : Oper), i < n' → opsT[i]? = some o → o.dst ≠ some t) → a.tmps[t]? = a0.tmps[t]?) → wpOp P opsT Q n' (fun a' w' => Q .normal a' w') a w) :
    (Code.region id ops true).wp P Q a0 w0 := by
  subst ho
  have hd : ∀ (i : Nat) (o : Oper) (d : Nat), ops[i]? = some o → o.dst = some d → d < n ∧ ∀ j, j < ops.size → j = i ∨ (ops[j]?).bind (fun o => o.dst) ≠ some d := by
    intro i o d hi hd
    have := List.all_eq_true.1 hdst i (List.mem_range.2 (Array.getElem?_eq_some_iff.1 hi).1)
    simp only [hi, hd, Bool.and_eq_true, decide_eq_true_eq] at this
    refine ⟨this.1, fun j hj => ?_⟩
    have := List.all_eq_true.1 this.2 j (List.mem_range.2 hj)
    simp only [Bool.or_eq_true, beq_iff_eq, Bool.not_eq_true', beq_eq_false_iff_ne] at this
    exact this
  obtain ⟨ol, hol⟩ : ∃ ol, ops[n']? = some ol := ⟨ops[n']'(by omega), Array.getElem?_eq_getElem _⟩
  have hall : ∀ j, j < n' → ∃ e ∈ ol.after.toList, Region.binds .any e = true ∧ e.on = j := by
    intro j hj
    unfold lastAll at hlast
    rw [hol] at hlast
    have := List.all_eq_true.1 hlast j (List.mem_range.2 hj)
    obtain ⟨e, he, h1⟩ := List.any_eq_true.1 this
    rw [Bool.and_eq_true] at h1
    exact ⟨e, he, h1.1, beq_iff_eq.1 h1.2⟩
  have none : ∀ i, (Array.replicate ops.size false).getD i false = true → False := by
    intro i h
    by_cases hi : i < ops.size <;> simp [Array.getD, hi] at h
  refine wp_region_any hm (any_order_last (Φ := Said tab) (Gr := Since W) (Ext := Then) hol hsize hall ?_ ?_ ?_ mono step (fun a w e1 e2 e3 e4 e5 => fin a w e1 (by rw [e2, hs]) e3 e4 e5) _ _ _ _
    ⟨by simp, rfl, rfl, hg.drew, fun k _ _ _ h _ _ => (none k h).elim, fun i _ _ _ _ h => (none i h).elim, fun _ _ => rfl⟩ (by
      cases h : (Array.replicate ops.size false).getD n' false with
      | false => rfl
      | true => exact (none n' h).elim) (left_none _))
  · intro i j o o' d hi hj e1 e2
    rcases (hd i o d hi e1).2 j (Array.getElem?_eq_some_iff.1 hj).1 with h1 | h1
    · exact h1.symm
    · exact absurd (by rw [hj]; exact e2) h1
  · intro i o d hi e1
    rw [hs]
    exact (hd i o d hi e1).1
  · intro i o hi e he hb
    have := allBack_spec hback i o (by rw [Array.getElem?_toList]; exact hi) e he hb
    omega
end
end Go.Ev
