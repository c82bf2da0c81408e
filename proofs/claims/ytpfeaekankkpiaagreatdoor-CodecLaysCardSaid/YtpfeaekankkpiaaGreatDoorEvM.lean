/-
  The abstract machine's whole run is a run of the machine: what the evaluator says of a closed call holds in every world that its heap stands for.
-/
import Derived.Test.YtpfeaekankkpiaaGreatDoorEvL
namespace Go.Ev
open Go Go.RowKit
section
variable {P : Program} {B : Nat → Nat} {G : Nat} {orc : Orc} {sub : SubX} {rest : List Frame} {μ : List (Nat × Nat)}

def resV (tmps : Array Value) (r : ResultVar) : Sem Value := match r with
  | .tmp t => pure (tmps.getD t undef)
  | .cell a t => do loadVar t (← asAddr (tmps.getD a undef))
theorem results_eq (fn : Func) (tmps : Array Value) : results fn tmps = (do
    let vs ← fn.results.mapM (resV tmps)
    pure (if h : vs.size = 1 then vs[0] else .tuple vs)) := rfl

theorem resultA_run {h : AH} {tm : Tr AV} {nt : Nat} {tmps : Array Value} {r : ResultVar} {x : AV} {w : World} (hr : resultA P h tm r = some x) (ht : TR μ nt tm tmps) (H : HR B μ h w) :
    ∃ v, (resV tmps r).run P w = .ok v w ∧ VR μ x v := by
  unfold resultA at hr
  split at hr
  · rename_i t
    obtain ⟨v, h1, h2⟩ := ht.2 t x hr
    exact ⟨v, by simp [resV, Array.getD_eq_getD_getElem?, h1], h2⟩
  · rename_i a t
    split at hr
    · rename_i id off ha
      obtain ⟨v, h1, h2⟩ := ht.2 a _ ha
      unfold VR at h2
      obtain ⟨b, hb, rfl⟩ := h2
      obtain ⟨u, g1, g2⟩ := loadA_run (P := P) H hr hb
      refine ⟨u, ?_, g2⟩
      simp [resV, Array.getD_eq_getD_getElem?, h1, asAddr, g1]
    · simp at hr

theorem resultsL_run {h : AH} {tm : Tr AV} {nt : Nat} {tmps : Array Value} {w : World} (ht : TR μ nt tm tmps) (H : HR B μ h w) : ∀ {l : List ResultVar} {as : List AV}, resultsL P h tm l = some as →
    ∃ vs : List Value, (List.mapM (m := Sem) (resV tmps) l).run P w = .ok vs w ∧ VRs μ as vs
  | [], as, hl => by simp [resultsL] at hl; subst hl; exact ⟨[], rfl, by simp [VRs_nil]⟩
  | r :: l, as, hl => by
    simp only [resultsL] at hl
    split at hl
    · rename_i a ha
      split at hl
      · rename_i xs hxs
        simp at hl; subst hl
        obtain ⟨v, h1, h2⟩ := resultA_run ha ht H
        obtain ⟨vs, h3, h4⟩ := resultsL_run ht H hxs
        refine ⟨v :: vs, ?_, by rw [VRs_cons]; exact ⟨v, vs, rfl, h2, h4⟩⟩
        simp only [List.mapM_cons, Sem.run_bind, h1, Result.andThen, h3, Sem.run_pure]
      · simp at hl
    · simp at hl

theorem resultsA_run {h : AH} {f : Nat} {tm : Tr AV} {nt : Nat} {tmps : Array Value} {x : AV} {w : World} (hr : resultsA P h f tm = some x) (ht : TR μ nt tm tmps) (H : HR B μ h w) :
    ∃ fn v, P.funcs[f]? = some fn ∧ (results fn tmps).run P w = .ok v w ∧ VR μ x v := by
  unfold resultsA at hr
  split at hr
  · rename_i fn hf
    have key : ∀ {l : List AV}, resultsL P h tm fn.results.toList = some l → ∃ vs : List Value, (fn.results.mapM (m := Sem) (resV tmps)).run P w = .ok vs.toArray w ∧ VRs μ l vs := by
      intro l hl
      obtain ⟨vs, h1, h2⟩ := resultsL_run ht H hl
      refine ⟨vs, ?_, h2⟩
      rw [Array.mapM_eq_mapM_toList, ← bind_pure_comp, Sem.run_bind, h1]
      rfl
    split at hr
    · rename_i a ha
      simp at hr; subst hr
      obtain ⟨vs, h1, h2⟩ := key ha
      obtain ⟨v, rfl, h3⟩ := one_VRs h2
      refine ⟨fn, v, hf, ?_, h3⟩
      rw [results_eq]
      simp only [Sem.run_bind, h1, Result.andThen]
      rfl
    · rename_i l hne hl
      simp at hr; subst hr
      obtain ⟨vs, h1, h2⟩ := key hl
      have hlen : vs.toArray.size ≠ 1 := by
        have h3 := VRs_length h2
        simp only [List.size_toArray]
        rw [h3]
        intro e
        match l, e with
        | [a], _ => exact hne a rfl
      refine ⟨fn, .tuple vs.toArray, hf, ?_, by unfold VR; exact ⟨_, rfl, by simpa using h2⟩⟩
      rw [results_eq]
      simp only [Sem.run_bind, h1, Result.andThen]
      rw [dif_neg hlen]
      rfl
    · simp at hr
  · simp at hr

theorem stepRun_run (E : Env P G orc) (hsub : CallSound P G (valOf sub)) (hpan : PanSound P G sub) {fn nt : Nat} {tm : Tr AV} {todo : List Item} {defs : List ADef} {kind : CallKind} {acs : List AFr} {h : AH} {s : ASt} {fr : Frame} {cs : List Frame} {w : World}
    (hs : stepRun P G orc sub fn nt tm todo defs kind acs h = some s) (hfr : FR μ ⟨fn, nt, tm, todo, defs, .run, kind⟩ fr) (hcs : FRs μ acs cs) (H : HR B μ h w) (hG : ∀ g, g < G → blk μ g = some g) : To P B G rest μ fr cs w s := by
  have next : ∀ {todo' : List Item}, step P (lone (fr.at ⟨fr.tmps, fr.defers⟩ todo) (cs ++ rest) w) = .next (lone (fr.at ⟨fr.tmps, fr.defers⟩ todo') (cs ++ rest) w) → To P B G rest μ fr cs w ⟨⟨fn, nt, tm, todo', defs, .run, kind⟩, acs, h⟩ := by
    intro todo' hst
    have hfr0 := at_of hfr.mode hfr.round
    have htodo : fr.todo = todo := hfr.todo rfl
    rw [htodo] at hfr0
    rw [← hfr0] at hst
    exact To.one hG hst ⟨hfr.fn, hfr.tm, fun _ => rfl, hfr.defs, rfl, hfr.kind, rfl⟩ hcs H
  unfold stepRun at hs
  split at hs
  · rw [go_some hs]
    have hfr0 := at_of hfr.mode hfr.round
    have htodo : fr.todo = [] := hfr.todo rfl
    rw [htodo] at hfr0
    have hst := step_end (P := P) (b := fr) (a := ⟨fr.tmps, fr.defers⟩) (cs := cs ++ rest) (w := w)
    rw [← hfr0] at hst
    exact To.one hG hst ⟨hfr.fn, hfr.tm, (fun h => by cases h), hfr.defs, rfl, hfr.kind, hfr.round⟩ hcs H
  · exact stepOp_run E hs hfr hcs H hG
  · rw [go_some hs]; exact next step_region_end
  · rename_i c k
    split at hs
    · rename_i ops hd
      have hfr0 := at_of hfr.mode hfr.round
      have htodo : fr.todo = .code c :: k := hfr.todo rfl
      rw [htodo] at hfr0
      unfold drawnOf at hd
      split at hd
      · rename_i id ops'
        simp at hd; subst hd
        have hrun := runX_run (b := fr) (id := id) (k := k) (cs := cs ++ rest) (a := ⟨fr.tmps, fr.defers⟩) (aops := ops') E.mix hsub hpan hfr.tm H hG
        rw [← hfr0] at hrun
        unfold behindX at hs
        split at hs
        · rename_i tm' h' hr
          rw [go_some hs]
          obtain ⟨μ', a', w', q1, q2, q3, q4, q5, q6, q7⟩ := hrun.1 _ hr
          exact ⟨μ', _, cs, w', q1, q2, ⟨hfr.fn, q3, fun _ => rfl, by show DRs μ' defs a'.defers; rw [q4]; exact hfr.defs.mono q1, rfl, hfr.kind, rfl⟩, hcs.mono q1, q5, q6, q7⟩
        · rename_i ch tm' h' hr
          simp only [Option.some.injEq] at hs
          subst hs
          obtain ⟨μ', a', w', es, todo', q1, q2, q0, q3, q4, q5, q6, q7⟩ := hrun.2 _ _ hr
          exact ⟨μ', _, cs, w', q1, q2, ⟨hfr.fn, q3, (fun h => by cases h), by show DRs μ' defs a'.defers; rw [q4]; exact hfr.defs.mono q1, ⟨es, rfl, q0⟩, hfr.kind, rfl⟩, hcs.mono q1, q5, q6, q7⟩
        · simp at hs
      · simp at hd
    · exact stepCode_run hs hfr hcs H hG
  · rw [go_some hs]; exact next step_inBlock
  · rw [go_some hs]; exact next step_inLoop
  · simp at hs

theorem MR_ne_run {m : AMode} {fm : FrameMode} (h : MR μ m fm) (hm : m ≠ .run) : fm ≠ .run := by
  cases m with
  | run => exact absurd rfl hm
  | ret => have : fm = .returning := h; rw [this]; simp
  | pan ch => obtain ⟨es, rfl, _⟩ := h; simp

theorem callDef_run (E : Env P G orc) {fn nt : Nat} {tm : Tr AV} {todo : List Item} {d : ADef} {ds : List ADef} {mode : AMode} {kind : CallKind} {acs : List AFr} {h : AH} {s : ASt} {fr : Frame} {cs : List Frame} {w : World}
    (hs : callDef P ⟨fn, nt, tm, todo, ds, mode, kind⟩ acs h d = some s) (hm : mode ≠ .run) (hfr : FR μ ⟨fn, nt, tm, todo, d :: ds, mode, kind⟩ fr) (hcs : FRs μ acs cs) (H : HR B μ h w) (hG : ∀ g, g < G → blk μ g = some g) : To P B G rest μ fr cs w s := by
  unfold callDef at hs
  split at hs
  · rename_i f cap args
    obtain ⟨fr', hf, rfl⟩ := pushF_some hs
    obtain ⟨e, es, he, ⟨cap', h1, h2, h3⟩, hds⟩ := hfr.defs
    have hv : VRs μ (args ++ cap) (e.args ++ cap').toList := by
      rw [Array.toList_append]
      exact VRs_append h3 h2
    obtain ⟨e1, fnc, c, e2, e3⟩ := enterA_FR hf hv
    have hi : (invoke e.target e.args).run P w = .ok (.enter f (e.args ++ cap')) w := by
      rw [h1]
      have : (invoke (.fn (.func f) cap') e.args).run P w = (callFunc f (e.args ++ cap')).run P w := by simp [invoke]
      rw [this]
      exact callFunc_enter E e2 e3 _ w
    have hst := step_defer (cs := cs ++ rest) (MR_ne_run hfr.mode hm) he h1 hi
    exact To.one hG hst e1 ⟨{ fr with defers := es }, cs, rfl, ⟨hfr.fn, hfr.tm, (fun h => absurd h hm), hds, hfr.mode, hfr.kind, hfr.round⟩, hcs⟩ H
  · simp at hs

theorem finish_FR {fn nt : Nat} {tm : Tr AV} {ops : Array Oper} {i : Nat} {todo : List Nat} {k : List Item} {defs : List ADef} {kind : CallKind} {x : AV} {fr' : AFr} {c : Frame} {v : Value}
    (hf : fin fn nt tm (.inRegion ops todo :: k) defs .run kind ((ops[i]?).bind (·.dst)) x = some fr') (hc : FR μ ⟨fn, nt, tm, .inRegion ops (i :: todo) :: k, defs, .run, kind⟩ c) (hv : VR μ x v) : FR μ fr' (c.finish v) := by
  have htodo : c.todo = .inRegion ops (i :: todo) :: k := hc.todo rfl
  unfold Frame.finish
  rw [htodo]
  dsimp only
  unfold fin at hf
  split at hf
  · rename_i hd
    simp at hf; subst hf
    rw [hd]
    exact ⟨hc.fn, hc.tm, fun _ => rfl, hc.defs, hc.mode, hc.kind, hc.round⟩
  · rename_i d hd
    rw [hd]
    cases hcc : (Nat.blt d nt && Nat.blt d 1000000) with
    | false => rw [hcc] at hf; simp at hf
    | true =>
      rw [hcc] at hf
      simp at hf; subst hf
      simp only [Bool.and_eq_true] at hcc
      have h1 : d < nt := by simpa [Nat.blt_eq] using hcc.1
      have h2 : d < 1000000 := by simpa [Nat.blt_eq] using hcc.2
      exact ⟨hc.fn, hc.tm.put h1 h2 hv, fun _ => rfl, hc.defs, hc.mode, hc.kind, hc.round⟩

theorem settle_run {m : AMode} (h : settleA m = some .run) : m = .run := by
  unfold settleA at h
  split at h
  · simp at h
  · simp at h
  · simpa using h
theorem raised_run {m : AMode} {ch : List (AV × Bool)} (h : raisedA m ch = .run) : False := by
  unfold raisedA at h
  split at h <;> cases h
theorem backTo_run {fn nt : Nat} {tm : Tr AV} {todo : List Item} {kind : CallKind} {ac : AFr} {acs : List AFr} {h : AH} {s : ASt} {fr c : Frame} {cs : List Frame} {w : World}
    (hs : backTo ac acs h kind (resultsA P h fn tm) = some s) (hfr : FR μ ⟨fn, nt, tm, todo, [], .ret, kind⟩ fr) (hc : FR μ ac c) (hcs : FRs μ acs cs) (H : HR B μ h w) (hG : ∀ g, g < G → blk μ g = some g) : To P B G rest μ fr (c :: cs) w s := by
  unfold backTo at hs
  split at hs
  · simp at hs
  · rename_i x hx
    obtain ⟨fnc, v, h1, h2, h3⟩ := resultsA_run hx hfr.tm H
    have hmode : fr.mode = .returning := hfr.mode
    have hdef : fr.defers = [] := hfr.defs
    have hfn : P.funcs[fr.fn]? = some fnc := by rw [hfr.fn]; exact h1
    split at hs
    · have hk : fr.kind = .normal := hfr.kind
      have hst := step_leave_returned (P := P) (fr := fr) (c := c) (cs := cs ++ rest) (w := w) (v := v) ⟨hmode, hdef, hk, fnc, hfn, h2⟩
      split at hs
      · rename_i fn2 nt2 tm2 ops i todo2 k defs2 kind2
        obtain ⟨fr', hf, rfl⟩ := mkSt_some hs
        exact To.one hG hst (finish_FR hf hc h3) hcs H
      · simp at hs
    · have hk : fr.kind = .deferred := hfr.kind
      have hst := step_going_returned (P := P) (fr := fr) (c := c) (cs := cs ++ rest) (w := w) (v := v) hk ⟨hmode, hdef, fnc, hfn, h2⟩
      split at hs
      rename_i fn2 nt2 tm2 todo2 defs2 mode2 kind2
      split at hs
      · rename_i m hm
        simp at hs; subst hs
        exact To.one hG hst ⟨hc.fn, hc.tm, (fun h => hc.todo (settle_run (hm.trans (congrArg some (show m = .run from h))))), hc.defs, settle_MR hc.mode hm, hc.kind, hc.round⟩ hcs H
      · simp at hs
    · simp at hs

theorem astep_run (E : Env P G orc) (hsub : CallSound P G (valOf sub)) (hpan : PanSound P G sub) {s s' : ASt} {fr : Frame} {cs : List Frame} {w : World} (hs : astep P G orc sub s = some s') (hfr : FR μ s.fr fr) (hcs : FRs μ s.cs cs) (H : HR B μ s.h w) (hG : ∀ g, g < G → blk μ g = some g) : To P B G rest μ fr cs w s' := by
  unfold astep at hs
  split at hs
  · exact stepRun_run E hsub hpan hs hfr hcs H hG
  · rename_i fn nt tm todo d ds mode kind acs h hnr
    exact callDef_run E hs (fun e => hnr e) hfr hcs H hG
  · rename_i fn nt tm todo kind c acs h
    obtain ⟨c', cs', rfl, hc, hcs'⟩ := hcs
    exact backTo_run hs hfr hc hcs' H hG
  · rename_i fn1 nt1 tm1 todo1 ch kind1 fn nt tm todo defs mode kind acs h
    split at hs
    · rename_i fnc hx
      simp at hs; subst hs
      obtain ⟨c', cs', rfl, hc, hcs'⟩ := hcs
      obtain ⟨es, hm, hes⟩ := hfr.mode
      have hdef : fr.defers = [] := hfr.defs
      have hfn : ∃ fnc, P.funcs[fr.fn]? = some fnc := by rw [hfr.fn]; exact ⟨fnc, hx⟩
      have hst := step_leave_panicked (P := P) (fr := fr) (c := c') (cs := cs' ++ rest) (w := w) (chain := es) ⟨hm, hdef, hfn⟩
      rw [Frame.raise_mode] at hst
      exact To.one hG hst ⟨hc.fn, hc.tm, (fun h => (raised_run h).elim), hc.defs, raised_MR hc.mode hes, hc.kind, hc.round⟩ hcs' H
    · simp at hs
  · simp at hs

/-- The whole run. -/
def RunSound (P : Program) (G : Nat) (run : ASt → Option ASt) : Prop :=
  ∀ (s s' : ASt), run s = some s' → ended s' = true ∧ ∀ (B : Nat → Nat) (μ : List (Nat × Nat)) (fr : Frame) (cs rest : List Frame) (w : World), FR μ s.fr fr → FRs μ s.cs cs → HR B μ s.h w → (∀ g, g < G → blk μ g = some g) → To P B G rest μ fr cs w s'

theorem ended_spec {s : ASt} (h : ended s = true) : s.cs = [] ∧ s.fr.defs = [] := by
  unfold ended at h
  split at h
  · exact ⟨rfl, rfl⟩
  · exact ⟨rfl, rfl⟩
  · cases h

theorem callBy_sound (E : Env P G orc) {run : ASt → Option ASt} (hrun : RunSound P G run) : CallSound P G (valOf (callBy P run)) ∧ PanSound P G (callBy P run) := by
  constructor
  · intro B f args h v h' hc μ w vs H hG hv
    unfold valOf at hc
    split at hc
    · rename_i v0 h0 hc0
      simp only [Option.some.injEq, Prod.mk.injEq] at hc
      obtain ⟨rfl, rfl⟩ := hc
      unfold callBy at hc0
      split at hc0
      · cases hc0
      · rename_i fr hf
        obtain ⟨e1, fnc, c, e2, e3⟩ := enterA_FR hf hv
        refine .inr ⟨callFunc_enter E e2 e3 vs w, fun cs => ?_⟩
        unfold outcome at hc0
        split at hc0
        · rename_i fn nt tm todo defs acs h2 hr
          obtain ⟨hend, hto⟩ := hrun _ _ hr
          obtain ⟨μ', fr', cs', w', q1, q2, q3, q4, q5, q6, q7⟩ := hto B μ _ [] cs w e1 rfl H hG
          obtain ⟨hcs, hdf⟩ := ended_spec hend
          cases hff : Nat.beq fn f with
          | false => rw [hff] at hc0; simp at hc0
          | true =>
            rw [hff] at hc0
            simp only [cond_true] at hc0
            have hfn : fn = f := by simpa using hff
            subst hfn
            split at hc0
            · rename_i x hx
              simp only [Option.some.injEq, Prod.mk.injEq, ARes.val.injEq] at hc0
              obtain ⟨rfl, rfl⟩ := hc0
              have hacs : acs = [] := hcs
              have hdefs : defs = [] := hdf
              subst hacs; subst hdefs
              have hcs' : cs' = [] := q4
              subst hcs'
              obtain ⟨fnc2, u, g1, g2, g3⟩ := resultsA_run (P := P) hx q3.tm q5
              refine ⟨.returned u, w', fr', ⟨μ', u, q1, rfl, g3, q5, q6⟩, ?_, q3.fn, ?_⟩
              · show Steps P _ _
                simpa using q2
              · exact ⟨q3.mode, q3.defs, q3.kind, fnc2, by rw [q3.fn]; exact g1, g2⟩
            · cases hc0
        · rename_i fn nt tm todo defs ch kind acs h2 hr
          cases hff : Nat.beq fn f with
          | false => rw [hff] at hc0; simp at hc0
          | true =>
            rw [hff] at hc0
            simp only [cond_true] at hc0
            split at hc0 <;> cases hc0
        · cases hc0
    · cases hc
  · intro B f args h ch h' hc0 μ w vs H hG hv
    unfold callBy at hc0
    split at hc0
    · cases hc0
    · rename_i fr hf
      obtain ⟨e1, fnc, c, e2, e3⟩ := enterA_FR hf hv
      refine ⟨callFunc_enter E e2 e3 vs w, fun cs => ?_⟩
      unfold outcome at hc0
      split at hc0
      · rename_i fn nt tm todo defs acs h2 hr
        cases hff : Nat.beq fn f with
        | false => rw [hff] at hc0; simp at hc0
        | true =>
          rw [hff] at hc0
          simp only [cond_true] at hc0
          split at hc0 <;> cases hc0
      · rename_i fn nt tm todo defs ch' kind acs h2 hr
        obtain ⟨hend, hto⟩ := hrun _ _ hr
        obtain ⟨μ', fr', cs', w', q1, q2, q3, q4, q5, q6, q7⟩ := hto B μ _ [] cs w e1 rfl H hG
        obtain ⟨hcs, hdf⟩ := ended_spec hend
        cases hff : Nat.beq fn f with
        | false => rw [hff] at hc0; simp at hc0
        | true =>
          rw [hff] at hc0
          simp only [cond_true] at hc0
          have hfn : fn = f := by simpa using hff
          subst hfn
          split at hc0
          · rename_i fnc2 hx
            simp only [Option.some.injEq, Prod.mk.injEq, ARes.pan.injEq] at hc0
            obtain ⟨rfl, rfl⟩ := hc0
            have hacs : acs = [] := hcs
            have hdefs : defs = [] := hdf
            subst hacs; subst hdefs
            have hcs' : cs' = [] := q4
            subst hcs'
            obtain ⟨es, hm, hes⟩ := q3.mode
            refine ⟨.panicked es, w', fr', ⟨μ', es, q1, rfl, hes, q5, q6⟩, ?_, q3.fn, ?_⟩
            · show Steps P _ _
              simpa using q2
            · exact ⟨hm, q3.defs, fnc2, by rw [q3.fn]; exact hx⟩
          · cases hc0
      · cases hc0

theorem subOf_sound (E : Env P G orc) {run : ASt → Option ASt} (hrun : RunSound P G run) : CallSound P G (valOf (subOf P orc run)) ∧ PanSound P G (subOf P orc run) := by
  obtain ⟨h1, h2⟩ := callBy_sound E hrun
  constructor
  · intro B f args h v h' hc
    unfold valOf subOf at hc
    split at hc
    · rename_i v0 h0 hc0
      simp only [Option.some.injEq, Prod.mk.injEq] at hc
      obtain ⟨rfl, rfl⟩ := hc
      split at hc0
      · rename_i v1 h1 ho
        simp only [Option.some.injEq, Prod.mk.injEq, ARes.val.injEq] at hc0
        obtain ⟨rfl, rfl⟩ := hc0
        exact E.orc B f args h _ _ ho
      · refine h1 B f args h _ _ ?_
        unfold valOf
        rw [hc0]
    · cases hc
  · intro B f args h ch h' hc
    unfold subOf at hc
    split at hc
    · cases hc
    · exact h2 B f args h ch h' hc

theorem arun_sound (E : Env P G orc) : ∀ n, RunSound P G (arun P G orc n)
  | 0 => by intro s s' h; simp [arun] at h
  | n + 1 => by
    intro s s' h
    have e : arun P G orc (n + 1) s = (match ended s with
      | true => some s
      | false => match astep P G orc (subOf P orc (arun P G orc n)) s with
        | some s' => arun P G orc n s'
        | none => none) := rfl
    rw [e] at h
    split at h
    · rename_i he
      simp at h; subst h
      exact ⟨he, fun B μ fr cs rest w h1 h2 h3 h4 => ⟨μ, fr, cs, w, List.prefix_refl _, Steps.refl P _, h1, h2, h3, Bel.refl _ _, h4⟩⟩
    · split at h
      · rename_i s1 hs
        obtain ⟨he, hto⟩ := arun_sound E n s1 s' h
        refine ⟨he, fun B μ fr cs rest w h1 h2 h3 h4 => ?_⟩
        obtain ⟨μ1, fr1, cs1, w1, a1, a2, a3, a4, a5, a6, a7⟩ := astep_run (rest := rest) E (subOf_sound E (arun_sound E n)).1 (subOf_sound E (arun_sound E n)).2 hs h1 h2 h3 h4
        obtain ⟨μ2, fr2, cs2, w2, b1, b2, b3, b4, b5, b6, b7⟩ := hto B μ1 fr1 cs1 rest w1 a3 a4 a5 a7
        exact ⟨μ2, fr2, cs2, w2, a1.trans b1, a2.trans b2, b3, b4, b5, a6.trans b6, b7⟩
      · simp at h

/-- What the evaluator says of a call. -/
theorem acall_sound (E : Env P G orc) {fuel : Nat} {f : FuncId} {args : List AV} {h h' : AH} {v : AV} {w : World} {vs : Array Value} (hc : acall P G orc fuel f args h = some (v, h')) (H : HR B μ h w) (hG : ∀ g, g < G → blk μ g = some g) (hv : VRs μ args vs.toList) :
    Calls P f vs w fun e w' => ∃ μ' u, μ <+: μ' ∧ e = .returned u ∧ VR μ' v u ∧ HR B μ' h' w' ∧ Bel B w w' := by
  rcases (callBy_sound E (arun_sound E fuel)).1 B f args h v h' hc μ w vs H hG hv with ⟨μ', w', u, _, h2, _⟩ | ⟨_, h2⟩
  · exfalso
    have hc' : valOf (callBy P (arun P G orc fuel)) f args h = some (v, h') := hc
    unfold valOf at hc'
    split at hc'
    · rename_i v0 h0 hc0
      unfold callBy at hc0
      split at hc0
      · simp at hc0
      · rename_i fr hf
        obtain ⟨_, fnc, c, e2, e3⟩ := enterA_FR hf hv
        rw [callFunc_enter E e2 e3 vs w] at h2
        simp at h2
    · cases hc'
  · exact h2

/-- A closed call that the evaluator says to be true. -/
theorem closed_true (E : Env P G orc) {fuel : Nat} {f : FuncId} {h : AH} {w : World} (hc : isTrue (acall P G orc fuel f [] h) = true) (H : HR B μ h w) (hG : ∀ g, g < G → blk μ g = some g) :
    Calls P f #[] w fun e w' => e = .returned (.bool true) ∧ Bel B w w' := by
  unfold isTrue at hc
  split at hc
  · rename_i b h' hr
    subst hc
    refine (acall_sound E hr H hG (vs := #[]) (by simp [VRs_nil])).mono ?_
    rintro e w' ⟨μ', u, _, rfl, h2, _, h4⟩
    unfold VR at h2
    subst h2
    exact ⟨rfl, h4⟩
  · simp at hc
end
end Go.Ev
