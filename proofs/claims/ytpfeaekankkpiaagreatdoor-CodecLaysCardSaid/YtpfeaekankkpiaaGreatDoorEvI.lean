/-
  One step of the abstract machine is some steps of the machine.
-/
import Derived.Test.YtpfeaekankkpiaaGreatDoorEvH
namespace Go.Ev
open Go Go.RowKit

/-- What is told of calls that panic holds. -/
def PanSound (P : Program) (G : Nat) (sub : SubX) : Prop :=
  ∀ (B : Nat → Nat) f args h ch h', sub f args h = some (.pan ch, h') → ∀ (μ : List (Nat × Nat)) (w : World) (vs : Array Value), HR B μ h w → (∀ g, g < G → blk μ g = some g) → VRs μ args vs.toList →
    (callFunc f vs).run P w = .ok (.enter f vs) w ∧ Calls P f vs w fun e w' => ∃ μ' es, μ <+: μ' ∧ e = .panicked es ∧ PRs μ' ch es ∧ HR B μ' h' w' ∧ Bel B w w'
/-- What is told of calls holds. -/
def CallSound (P : Program) (G : Nat) (sub : Sub) : Prop :=
  ∀ (B : Nat → Nat) f args h v h', sub f args h = some (v, h') → ∀ (μ : List (Nat × Nat)) (w : World) (vs : Array Value), HR B μ h w → (∀ g, g < G → blk μ g = some g) → VRs μ args vs.toList →
    (∃ μ' w' u, μ <+: μ' ∧ (callFunc f vs).run P w = .ok (.value u) w' ∧ VR μ' v u ∧ HR B μ' h' w' ∧ Bel B w w') ∨
    ((callFunc f vs).run P w = .ok (.enter f vs) w ∧ Calls P f vs w fun e w' => ∃ μ' u, μ <+: μ' ∧ e = .returned u ∧ VR μ' v u ∧ HR B μ' h' w' ∧ Bel B w w')

structure Env (P : Program) (G : Nat) (orc : Orc) : Prop where
  name : ∀ (f : Nat) (fn : Func), P.funcs[f]? = some fn → (fn.name == "runtime.NumGoroutine") = false
  mix : P.follows .mixedOrders = true
  orc : CallSound P G orc

/-- The machine comes to a state that the abstract one stands for. -/
def To (P : Program) (B : Nat → Nat) (G : Nat) (rest : List Frame) (μ : List (Nat × Nat)) (fr : Frame) (cs : List Frame) (w : World) (s : ASt) : Prop :=
  ∃ μ' fr' cs' w', μ <+: μ' ∧ Steps P (lone fr (cs ++ rest) w) (lone fr' (cs' ++ rest) w') ∧ FR μ' s.fr fr' ∧ FRs μ' s.cs cs' ∧ HR B μ' s.h w' ∧ Bel B w w' ∧ ∀ g, g < G → blk μ' g = some g

section
variable {P : Program} {B : Nat → Nat} {G : Nat} {orc : Orc} {rest : List Frame} {μ : List (Nat × Nat)}

theorem To.one {fr fr' : Frame} {cs cs' : List Frame} {w : World} {s : ASt} (hG : ∀ g, g < G → blk μ g = some g) (h1 : step P (lone fr (cs ++ rest) w) = .next (lone fr' (cs' ++ rest) w)) (h2 : FR μ s.fr fr') (h3 : FRs μ s.cs cs') (h4 : HR B μ s.h w) :
    To P B G rest μ fr cs w s := ⟨μ, fr', cs', w, List.prefix_refl _, Steps.one h1, h2, h3, h4, Bel.refl _ _, hG⟩

theorem at_of {fr : Frame} (hm : fr.mode = .run) (hr : fr.roundOf = none) : fr = fr.at ⟨fr.tmps, fr.defers⟩ fr.todo := by
  cases fr
  simp at hm hr
  subst hm; subst hr
  rfl

theorem FR.at {fn nt : Nat} {tm : Tr AV} {todo todo' : List Item} {defs : List ADef} {kind : CallKind} {fr : Frame} (h : FR μ ⟨fn, nt, tm, todo, defs, .run, kind⟩ fr) :
    FR μ ⟨fn, nt, tm, todo', defs, .run, kind⟩ (fr.at ⟨fr.tmps, fr.defers⟩ todo') :=
  ⟨h.fn, h.tm, fun _ => rfl, h.defs, rfl, h.kind, rfl⟩

/-! ### Operations -/
section ops
variable {b : Frame} {a : Act} {k : List Item} {cs : List Frame} {w w' : World} {ops : Array Oper} {i : Nat} {todo : List Nat} {o : Oper}
theorem fin_at (ho : ops[i]? = some o) (v : Value) : (b.at a (.inRegion ops (i :: todo) :: k)).finish v = b.at (a.put o.dst v) (.inRegion ops todo :: k) := by
  rw [Frame.finish_at, ho]; rfl

theorem step_value {v : Value} (ho : ops[i]? = some o) (hw : Region.wanted o (yielded ops a.tmps) = true) (hr : (execOp a.eval o).run P w = .ok (.value v) w') :
    step P (lone (b.at a (.inRegion ops (i :: todo) :: k)) cs w) = .next (lone (b.at (a.put o.dst v) (.inRegion ops todo :: k)) cs w') := by
  refine step_lone_go ?_
  rw [stepG_op ho hw, ← fin_at ho]; simp [stepG.apply, hr]
theorem step_nothing (ho : ops[i]? = some o) (hw : Region.wanted o (yielded ops a.tmps) = true) (hr : (execOp a.eval o).run P w = .ok .skip w') :
    step P (lone (b.at a (.inRegion ops (i :: todo) :: k)) cs w) = .next (lone (b.at (a.put o.dst undef) (.inRegion ops todo :: k)) cs w') := by
  refine step_lone_go ?_
  rw [stepG_op ho hw, ← fin_at ho]; simp [stepG.apply, hr]
theorem step_deferred {d : Deferred} (ho : ops[i]? = some o) (hw : Region.wanted o (yielded ops a.tmps) = true) (hr : (execOp a.eval o).run P w = .ok (.defer d) w') :
    step P (lone (b.at a (.inRegion ops (i :: todo) :: k)) cs w) = .next (lone (b.at ({ a with defers := d :: a.defers }.put o.dst undef) (.inRegion ops todo :: k)) cs w') := by
  refine step_lone_go ?_
  have : ({ b.at a (.inRegion ops (i :: todo) :: k) with defers := d :: a.defers } : Frame).finish undef = b.at ({ a with defers := d :: a.defers }.put o.dst undef) (.inRegion ops todo :: k) := by
    have := Frame.finish_at b { a with defers := d :: a.defers } ops i todo k undef
    rw [ho] at this; exact this
  rw [stepG_op ho hw]; simp only [stepG.apply, Sem.runT_eq, hr, GStep.bare_after]
  exact congrArg (fun fr => GStep.go { frame := fr, callers := cs, status := .running, dying := none } w') this
theorem step_enters {f : FuncId} {args : Array Value} (ho : ops[i]? = some o) (hw : Region.wanted o (yielded ops a.tmps) = true) (hr : (execOp a.eval o).run P w = .ok (.enter f args) w') :
    step P (lone (b.at a (.inRegion ops (i :: todo) :: k)) cs w) = .next (lone (Frame.enter P f args .normal) (b.at a (.inRegion ops (i :: todo) :: k) :: cs) w') :=
  step_lone_go (by rw [stepG_op ho hw]; simp [stepG.apply, hr, Frame.at])
theorem step_panics {v : Value} (ho : ops[i]? = some o) (hw : Region.wanted o (yielded ops a.tmps) = true) (hr : (execOp a.eval o).run P w = .halt (.panic v) w') :
    step P (lone (b.at a (.inRegion ops (i :: todo) :: k)) cs w) = .next (lone { b.at a (.inRegion ops (i :: todo) :: k) with mode := .panicking [{ v, recovered := false }] } cs w') := by
  refine step_lone_go ?_
  rw [stepG_op ho hw, ← Frame.raise_at]; simp [stepG.apply, hr]
theorem step_recovers {v : Value} {cs' : List Frame} (ho : ops[i]? = some o) (hw : Region.wanted o (yielded ops a.tmps) = true) (hr : (execOp a.eval o).run P w = .ok .recover w')
    (ht : tryRecover (b.at a (.inRegion ops (i :: todo) :: k)) cs = some (v, cs')) :
    step P (lone (b.at a (.inRegion ops (i :: todo) :: k)) cs w) = .next (lone (b.at (a.put o.dst v) (.inRegion ops todo :: k)) cs' w') := by
  refine step_lone_go ?_
  rw [stepG_op ho hw, ← fin_at ho]
  have hro : (b.at a (.inRegion ops (i :: todo) :: k)).roundOf = none := rfl
  simp [stepG.apply, hr, hro, ht]
theorem step_recovers_none (ho : ops[i]? = some o) (hw : Region.wanted o (yielded ops a.tmps) = true) (hr : (execOp a.eval o).run P w = .ok .recover w')
    (ht : tryRecover (b.at a (.inRegion ops (i :: todo) :: k)) cs = none) :
    step P (lone (b.at a (.inRegion ops (i :: todo) :: k)) cs w) = .next (lone (b.at (a.put o.dst .nilIface) (.inRegion ops todo :: k)) cs w') := by
  refine step_lone_go ?_
  rw [stepG_op ho hw, ← fin_at ho]
  have hro : (b.at a (.inRegion ops (i :: todo) :: k)).roundOf = none := rfl
  simp [stepG.apply, hr, hro, ht]
end ops

/-- A frame that goes on behind an operation's result. -/
theorem fin_FR {fn nt : Nat} {tm : Tr AV} {todo : List Item} {defs : List ADef} {kind : CallKind} {d : Option Nat} {x : AV} {fr' : AFr} {b : Frame} {a : Act} {v : Value}
    (hf : fin fn nt tm todo defs .run kind d x = some fr') (hfn : b.fn = fn) (ht : TR μ nt tm a.tmps) (hd : DRs μ defs a.defers) (hk : b.kind = kind) (hv : VR μ x v) :
    FR μ fr' (b.at (a.put d v) todo) := by
  unfold fin at hf
  split at hf
  · simp at hf; subst hf
    exact ⟨hfn, ht, fun _ => rfl, hd, rfl, hk, rfl⟩
  · rename_i d'
    cases hc : (Nat.blt d' nt && Nat.blt d' 1000000) with
    | false => rw [hc] at hf; simp at hf
    | true =>
      rw [hc] at hf
      simp at hf; subst hf
      simp only [Bool.and_eq_true] at hc
      have h1 : d' < nt := by simpa [Nat.blt_eq] using hc.1
      have h2 : d' < 1000000 := by simpa [Nat.blt_eq] using hc.2
      exact ⟨hfn, ht.put h1 h2 hv, fun _ => rfl, hd, rfl, hk, rfl⟩

theorem undef_VR (μ : List (Nat × Nat)) : VR μ (.tuple []) undef := by
  unfold VR
  exact ⟨#[], rfl, by simp [VRs_nil]⟩

theorem foldl_put_get : ∀ (args : List AV) (t : Tr AV) (k : Nat), k + args.length < 1000000 → ∀ i,
    (args.foldl (fun (p : Tr AV × Nat) a => (p.1.put 24 p.2 (some a), p.2 + 1)) (t, k)).1.get i = if k ≤ i ∧ i < k + args.length then args[i - k]? else t.get i
  | [], t, k, _, i => by
    simp only [List.foldl_nil, List.length_nil, Nat.add_zero]
    rw [if_neg (by omega)]
  | a :: args, t, k, hk, i => by
    simp only [List.length_cons] at hk
    simp only [List.foldl_cons]
    rw [foldl_put_get args _ (k + 1) (by omega) i, Tr.get_put24 _ _ _ (by omega)]
    simp only [List.length_cons]
    by_cases e : i = k
    · subst e
      rw [if_neg (by omega), if_pos rfl, if_pos (by omega)]
      simp
    · by_cases h : k + 1 ≤ i ∧ i < k + 1 + args.length
      · rw [if_pos h, if_pos (by omega)]
        have : i - k = (i - (k + 1)) + 1 := by omega
        rw [this]; simp
      · rw [if_neg h, if_neg e, if_neg (by omega)]

/-- A frame that is entered. -/
theorem enterA_FR {f : FuncId} {args : List AV} {kind : CallKind} {fr : AFr} {vs : Array Value} (he : enterA P f args kind = some fr) (hv : VRs μ args vs.toList) :
    FR μ fr (Frame.enter P f vs kind) ∧ ∃ fn c, P.funcs[f]? = some fn ∧ fn.body = some c := by
  unfold enterA at he
  split at he
  · rename_i fn hf
    split at he
    · rename_i c hc
      cases hb : (Nat.ble args.length fn.ntmps && Nat.blt fn.ntmps 1000000) with
      | false => rw [hb] at he; simp at he
      | true =>
        rw [hb] at he
        simp at he; subst he
        simp only [Bool.and_eq_true, Nat.ble_eq] at hb
        have h2 : fn.ntmps < 1000000 := by simpa [Nat.blt_eq] using hb.2
        have hl := VRs_length hv
        simp only [Array.length_toList] at hl
        refine ⟨⟨rfl, ⟨?_, ?_⟩, ?_, rfl, rfl, rfl, rfl⟩, fn, c, hf, hc⟩
        · simp [Frame.enter, hf, hl]; omega
        · intro i a ha
          rw [foldl_put_get args .nil 0 (by omega) i] at ha
          split at ha
          · rename_i h0
            rw [Nat.sub_zero] at ha
            obtain ⟨v, h3, h4⟩ := VRs_get hv ha
            refine ⟨v, ?_, h4⟩
            have hlt : i < vs.size := by omega
            have h3' : vs[i]? = some v := by simpa using h3
            simp only [Frame.enter, hf]
            rw [Array.getElem?_append_left hlt]
            exact h3'
          · rw [Tr.get_nil] at ha; simp at ha
        · simp [Frame.enter, hf, hc]
    · simp at he
  · simp at he

theorem callFunc_enter (E : Env P G orc) {f : FuncId} {fn : Func} {c : Code} (hf : P.funcs[f]? = some fn) (hc : fn.body = some c) (vs : Array Value) (w : World) : (callFunc f vs).run P w = .ok (.enter f vs) w := by
  have h1 : fn.name ≠ "runtime.NumGoroutine" := by simpa using E.name f fn hf
  simp [callFunc, hf, h1, hc]

theorem blkG {μ' : List (Nat × Nat)} (hm : μ <+: μ') (hG : ∀ g, g < G → blk μ g = some g) : ∀ g, g < G → blk μ' g = some g := fun g hg => blk_mono hm (hG g hg)

/-- Is the operation wanted? -/
theorem wantA_run {nt : Nat} {tm : Tr AV} {ops : Array Oper} {o : Oper} {b : Bool} {tmps : Array Value} (h : wantA tm ops o.guard = some b) (ht : TR μ nt tm tmps) : Region.wanted o (yielded ops tmps) = b := by
  unfold wantA at h
  unfold Region.wanted
  split at h
  · rename_i hg
    simp at h; subst h
    rw [hg]
  · rename_i j want hg
    rw [hg]
    dsimp only
    split at h
    · rename_i hd
      simp at h; subst h
      unfold yielded
      rw [hd]
      rfl
    · rename_i d hd
      unfold yielded
      rw [hd]
      split at h
      · rename_i c hc
        simp at h; subst h
        obtain ⟨v, h1, h2⟩ := ht.2 d _ hc
        unfold VR at h2
        subst h2
        simp only [Option.bind_some, h1]
        cases c <;> cases want <;> rfl
      · rename_i hc
        simp at h; subst h
        obtain ⟨v, h1, h2⟩ := ht.2 d _ hc
        unfold VR at h2
        obtain ⟨u, rfl, _⟩ := h2
        simp only [Option.bind_some, h1]
        rfl
      · simp at h

theorem mkSt_some {cs : List AFr} {h : AH} {o : Option AFr} {s : ASt} (hs : mkSt cs h o = some s) : ∃ fr, o = some fr ∧ s = ⟨fr, cs, h⟩ := by
  unfold mkSt at hs
  split at hs
  · simp at hs; exact ⟨_, rfl, hs.symm⟩
  · simp at hs
theorem pushF_some {cs : List AFr} {h : AH} {f : AFr} {o : Option AFr} {s : ASt} (hs : pushF cs h f o = some s) : ∃ fr, o = some fr ∧ s = ⟨fr, f :: cs, h⟩ := by
  unfold pushF at hs
  split at hs
  · simp at hs; exact ⟨_, rfl, hs.symm⟩
  · simp at hs

theorem FRs_append_cons {fr : Frame} {cs rest : List Frame} : (fr :: cs) ++ rest = fr :: (cs ++ rest) := rfl

/-- An operation of a region that keeps its order. -/
theorem stepOp_run (E : Env P G orc) {fn nt : Nat} {tm : Tr AV} {ops : Array Oper} {i : Nat} {todo : List Nat} {k : List Item} {defs : List ADef} {kind : CallKind} {acs : List AFr} {h : AH} {s : ASt} {fr : Frame} {cs : List Frame} {w : World}
    (hs : stepOp P G orc fn nt tm ops todo k (.inRegion ops (i :: todo) :: k) defs .run kind acs h ops[i]? = some s) (hfr : FR μ ⟨fn, nt, tm, .inRegion ops (i :: todo) :: k, defs, .run, kind⟩ fr) (hcs : FRs μ acs cs) (H : HR B μ h w)
    (hG : ∀ g, g < G → blk μ g = some g) : To P B G rest μ fr cs w s := by
  unfold stepOp at hs
  split at hs
  · simp at hs
  · rename_i o ho
    have hfr0 := at_of hfr.mode hfr.round
    have htodo : fr.todo = .inRegion ops (i :: todo) :: k := hfr.todo rfl
    rw [htodo] at hfr0
    generalize ha : (⟨fr.tmps, fr.defers⟩ : Act) = a at hfr0
    have hat : a.tmps = fr.tmps := by rw [← ha]
    have had : a.defers = fr.defers := by rw [← ha]
    have hta : TR μ nt tm a.tmps := by rw [hat]; exact hfr.tm
    have hda : DRs μ defs a.defers := by rw [had]; exact hfr.defs
    have hρ := operandA_run hta hG
    split at hs
    · rename_i hw
      have hw' := wantA_run hw hta
      unfold behind at hs
      split at hs
      · simp at hs
      · rename_i v h' hop
        obtain ⟨fr', hf, rfl⟩ := mkSt_some hs
        obtain ⟨μ', w', p1, p2, p3, nx, hr, hn⟩ := aop_run hρ H hop
        cases nx <;> first | exact hn.elim | skip
        rename_i u
        have hst := step_value (b := fr) (k := k) (cs := cs ++ rest) (todo := todo) ho hw' hr
        rw [← hfr0] at hst
        exact ⟨μ', _, cs, w', p1, Steps.one hst, fin_FR hf hfr.fn (hta.mono p1) (by cases o.dst <;> exact hda.mono p1) hfr.kind hn, hcs.mono p1, p2, p3, blkG p1 hG⟩
      · rename_i h' hop
        obtain ⟨fr', hf, rfl⟩ := mkSt_some hs
        obtain ⟨μ', w', p1, p2, p3, nx, hr, hn⟩ := aop_run hρ H hop
        cases nx <;> first | exact hn.elim | skip
        have hst := step_nothing (b := fr) (k := k) (cs := cs ++ rest) (todo := todo) ho hw' hr
        rw [← hfr0] at hst
        exact ⟨μ', _, cs, w', p1, Steps.one hst, fin_FR hf hfr.fn (hta.mono p1) (by cases o.dst <;> exact hda.mono p1) hfr.kind (undef_VR _), hcs.mono p1, p2, p3, blkG p1 hG⟩
      · rename_i f args h' hop
        obtain ⟨μ', w', p1, p2, p3, vs, hv, hr⟩ := aop_run hρ H hop
        split at hs
        · rename_i v h'' horc
          obtain ⟨fr', hf, rfl⟩ := mkSt_some hs
          rcases E.orc B f args h' v h'' horc μ' w' vs p2 (blkG p1 hG) hv with ⟨μ2, w2, u, q1, q2, q3, q4, q5⟩ | ⟨q1, q2⟩
          · have hst := step_value (b := fr) (k := k) (cs := cs ++ rest) (todo := todo) ho hw' (hr.trans q2)
            rw [← hfr0] at hst
            have pq := p1.trans q1
            exact ⟨μ2, _, cs, w2, pq, Steps.one hst, fin_FR hf hfr.fn (hta.mono pq) (by cases o.dst <;> exact hda.mono pq) hfr.kind q3, hcs.mono pq, q4, p3.trans q5, blkG pq hG⟩
          · have hst := step_enters (b := fr) (k := k) (cs := cs ++ rest) (todo := todo) ho hw' (hr.trans q1)
            obtain ⟨e, w2, frX, ⟨μ2, u, g1, g2, g3, g4, g5⟩, hcomes, _, hleave⟩ := q2 (fr.at a (.inRegion ops (i :: todo) :: k) :: (cs ++ rest))
            subst g2
            have hback := step_leave_returned (c := fr.at a (.inRegion ops (i :: todo) :: k)) (cs := cs ++ rest) hleave
            rw [fin_at ho] at hback
            have hall := Steps.head hst (Steps.trans hcomes (Steps.one hback))
            rw [← hfr0] at hall
            have pq := p1.trans g1
            exact ⟨μ2, _, cs, w2, pq, hall, fin_FR hf hfr.fn (hta.mono pq) (by cases o.dst <;> exact hda.mono pq) hfr.kind g3, hcs.mono pq, g4, p3.trans g5, blkG pq hG⟩
        · obtain ⟨fr', hf, rfl⟩ := pushF_some hs
          obtain ⟨e1, fnc, c, e2, e3⟩ := enterA_FR hf hv
          have hst := step_enters (b := fr) (k := k) (cs := cs ++ rest) (todo := todo) ho hw' (hr.trans (callFunc_enter E e2 e3 vs w'))
          rw [← hfr0] at hst
          exact ⟨μ', _, fr :: cs, w', p1, Steps.one hst, e1, ⟨fr, cs, rfl, hfr.mono p1, hcs.mono p1⟩, p2, p3, blkG p1 hG⟩
      · rename_i df h' hop
        obtain ⟨fr', hf, rfl⟩ := mkSt_some hs
        obtain ⟨μ', w', p1, p2, p3, nx, hr, hn⟩ := aop_run hρ H hop
        cases nx <;> first | exact hn.elim | skip
        rename_i d
        have hst := step_deferred (b := fr) (k := k) (cs := cs ++ rest) (todo := todo) ho hw' hr
        rw [← hfr0] at hst
        exact ⟨μ', _, cs, w', p1, Steps.one hst, fin_FR (a := { a with defers := d :: a.defers }) hf hfr.fn (hta.mono p1) (by cases o.dst <;> exact ⟨d, _, rfl, hn, hda.mono p1⟩) hfr.kind (undef_VR _), hcs.mono p1, p2, p3, blkG p1 hG⟩
      · rename_i v h' hop
        simp at hs; subst hs
        obtain ⟨μ', w', p1, p2, p3, u, hr, hn⟩ := aop_run hρ H hop
        have hst := step_panics (b := fr) (k := k) (cs := cs ++ rest) (todo := todo) ho hw' hr
        rw [← hfr0] at hst
        refine ⟨μ', _, cs, w', p1, Steps.one hst, ⟨hfr.fn, hfr.tm.mono p1, (fun h => by cases h), hfr.defs.mono p1, ⟨_, rfl, u, [], rfl, hn, rfl⟩, hfr.kind, hfr.round⟩, hcs.mono p1, p2, p3, blkG p1 hG⟩
      · rename_i h' hop
        obtain ⟨μ', w', p1, p2, p3, nx, hr, hn⟩ := aop_run hρ H hop
        cases nx <;> first | exact hn.elim | skip
        have hk : fr.kind = kind := hfr.kind
        have nilR : ∀ {fr' : AFr} {acs' : List AFr}, FRs μ acs' cs → fin fn nt tm (.inRegion ops todo :: k) defs .run kind o.dst (.raw .nilIface) = some fr' →
            tryRecover (fr.at a (.inRegion ops (i :: todo) :: k)) (cs ++ rest) = none → To P B G rest μ fr cs w ⟨fr', acs', h'⟩ := by
          intro fr' acs' hcs' hf ht
          have hst := step_recovers_none (b := fr) (k := k) (todo := todo) ho hw' hr ht
          rw [← hfr0] at hst
          exact ⟨μ', _, cs, w', p1, Steps.one hst, fin_FR hf hfr.fn (hta.mono p1) (by cases o.dst <;> exact hda.mono p1) hfr.kind (by simp [VR]), hcs'.mono p1, p2, p3, blkG p1 hG⟩
        unfold recoverA at hs
        split at hs
        · obtain ⟨fr', hf, rfl⟩ := mkSt_some hs
          refine nilR hcs hf ?_
          have hk' : (fr.at a (.inRegion ops (i :: todo) :: k)).kind = .normal := hk
          simp [tryRecover, hk']
        · have hk' : (fr.at a (.inRegion ops (i :: todo) :: k)).kind = .deferred := hk
          split at hs
          · rename_i ac arest
            have hcs0 := hcs
            obtain ⟨c, crest, rfl, hc, hcr⟩ := hcs
            unfold recoverD1 at hs
            split at hs
            · rename_i fn2 nt2 tm2 todo2 defs2 v older kind2
              obtain ⟨fr', hf, rfl⟩ := mkSt_some hs
              obtain ⟨es, hm, u, es', rfl, hu, hes⟩ := hc.mode
              have ht : tryRecover (fr.at a (.inRegion ops (i :: todo) :: k)) ((c :: crest) ++ rest) = some (u, { c with mode := .panicking ({ v := u, recovered := true } :: es') } :: (crest ++ rest)) := by
                rw [tryRecover_deferred hk']
                simp [recoverD, hm]
              have hst := step_recovers (b := fr) (k := k) (todo := todo) ho hw' hr ht
              rw [← hfr0] at hst
              have hc' := hc.mono p1
              refine ⟨μ', _, { c with mode := .panicking ({ v := u, recovered := true } :: es') } :: crest, w', p1, Steps.one hst, fin_FR hf hfr.fn (hta.mono p1) (by cases o.dst <;> exact hda.mono p1) hfr.kind (VR_mono p1 _ _ hu), ⟨_, crest, rfl, ?_, hcr.mono p1⟩, p2, p3, blkG p1 hG⟩
              exact ⟨hc'.fn, hc'.tm, (fun h => by cases h), hc'.defs, ⟨_, rfl, u, es', rfl, VR_mono p1 _ _ hu, hes.mono p1⟩, hc'.kind, hc'.round⟩
            · obtain ⟨fr', hf, rfl⟩ := mkSt_some hs
              obtain ⟨es, hm, u, es', rfl, hu, hes⟩ := hc.mode
              refine nilR hcs0 hf ?_
              rw [tryRecover_deferred hk']
              simp [recoverD, hm]
            · obtain ⟨fr', hf, rfl⟩ := mkSt_some hs
              have hm : c.mode = .returning := hc.mode
              refine nilR hcs0 hf ?_
              rw [tryRecover_deferred hk']
              simp [recoverD, hm]
            · simp at hs
          · simp at hs
        · simp at hs
    · rename_i hw
      have hw' := wantA_run hw hta
      obtain ⟨fr', hf, rfl⟩ := mkSt_some hs
      have hst := step_op_skip (P := P) (b := fr) (a := a) (k := k) (cs := cs ++ rest) (w := w) (ops := ops) (i := i) (rest := todo) (by simp [ho, hw'])
      simp only [ho, Option.bind_some] at hst
      rw [← hfr0] at hst
      exact ⟨μ, _, cs, w, List.prefix_refl _, Steps.one hst, fin_FR hf hfr.fn hta (by cases o.dst <;> exact hda) hfr.kind (undef_VR _), hcs, H, Bel.refl _ _, hG⟩
    · simp at hs

theorem go_some {cs : List AFr} {h : AH} {fn nt : Nat} {tm : Tr AV} {todo : List Item} {defs : List ADef} {mode : AMode} {kind : CallKind} {s : ASt} (hs : go cs h fn nt tm todo defs mode kind = some s) : s = ⟨⟨fn, nt, tm, todo, defs, mode, kind⟩, cs, h⟩ := by
  simp [go] at hs; exact hs.symm

/-- A step of the code. -/
theorem stepCode_run {fn nt : Nat} {tm : Tr AV} {k : List Item} {defs : List ADef} {kind : CallKind} {acs : List AFr} {h : AH} {c : Code} {s : ASt} {fr : Frame} {cs : List Frame} {w : World}
    (hs : stepCode G fn nt tm k defs kind acs h c = some s) (hfr : FR μ ⟨fn, nt, tm, .code c :: k, defs, .run, kind⟩ fr) (hcs : FRs μ acs cs) (H : HR B μ h w) (hG : ∀ g, g < G → blk μ g = some g) : To P B G rest μ fr cs w s := by
  have hfr0 := at_of hfr.mode hfr.round
  have htodo : fr.todo = .code c :: k := hfr.todo rfl
  rw [htodo] at hfr0
  generalize ha : (⟨fr.tmps, fr.defers⟩ : Act) = a at hfr0
  have hat : a.tmps = fr.tmps := by rw [← ha]
  have had : a.defers = fr.defers := by rw [← ha]
  have hta : TR μ nt tm a.tmps := by rw [hat]; exact hfr.tm
  have hda : DRs μ defs a.defers := by rw [had]; exact hfr.defs
  have hρ := operandA_run hta hG
  have next : ∀ {todo' : List Item}, step P (lone (fr.at a (.code c :: k)) (cs ++ rest) w) = .next (lone (fr.at a todo') (cs ++ rest) w) → To P B G rest μ fr cs w ⟨⟨fn, nt, tm, todo', defs, .run, kind⟩, acs, h⟩ := by
    intro todo' hst
    rw [← hfr0] at hst
    exact To.one hG hst ⟨hfr.fn, hta, fun _ => rfl, hda, rfl, hfr.kind, rfl⟩ hcs H
  unfold stepCode at hs
  split at hs
  · rw [go_some hs]
    have hst := step_ret (P := P) (b := fr) (a := a) (k := k) (cs := cs ++ rest) (w := w)
    rw [← hfr0] at hst
    exact To.one hG hst ⟨hfr.fn, hfr.tm, (fun h => by cases h), hfr.defs, rfl, hfr.kind, hfr.round⟩ hcs H
  · rw [go_some hs]; exact next step_skip
  · rw [go_some hs]; exact next step_label
  · rw [go_some hs]; exact next step_seq
  · rename_i c x y
    split at hs
    · rename_i b hb
      rw [go_some hs]
      have hc := hρ _ _ hb
      unfold VR at hc
      have hst := step_cond (P := P) (b := fr) (a := a) (k := k) (cs := cs ++ rest) (w := w) (x := x) (y := y) hc
      have e : (bif b then x else y) = (if b = true then x else y) := by cases b <;> rfl
      rw [e]
      exact next hst
    · simp at hs
  · rw [go_some hs]; exact next step_block
  · rw [go_some hs]; exact next step_loop
  · split at hs
    · rename_i k' hk
      rw [go_some hs]; exact next (step_exit hk)
    · simp at hs
  · rw [go_some hs]; exact next step_region
  · simp at hs
end
end Go.Ev
