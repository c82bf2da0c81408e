/-
  What the evaluator says of any operation is what it does.
-/
import Derived.Test.YtpfeaekankkpiaaGreatDoorEvG
namespace Go.Ev
open Go Go.RowKit
section
variable {P : Program} {B : Nat → Nat} {μ : List (Nat × Nat)} {ρ : Operand → Option AV} {σ : Operand → Value} {h : AH} {w : World}

theorem two_VRs {a b : AV} {vs : Array Value} (hv : VRs μ [a, b] vs.toList) : ∃ u v, vs = #[u, v] ∧ VR μ a u ∧ VR μ b v := by
  rw [VRs_cons] at hv
  obtain ⟨u, rest, e, h1, h2⟩ := hv
  obtain ⟨v, e2, h3⟩ := one_VRs h2
  subst e2
  exact ⟨u, v, by rw [← Array.toArray_toList (xs := vs), e], h1, h3⟩

theorem builtA_run {b : Builtin} {ts : Array TypeId} {ty : TypeId} {cs : Array Bool} {args : List AV} {vs : Array Value} {nx : ANx} {h' : AH} (H : HR B μ h w) (ha : builtA P b ts args h = some (nx, h')) (hv : VRs μ args vs.toList) :
    OpR P B μ w nx h' ((builtin b ts ty cs vs).run P w) := by
  unfold builtA at ha
  split at ha
  · rename_i s x
    obtain ⟨u, v, rfl, h1, h2⟩ := two_VRs hv
    split at ha
    · rename_i r h'' hr
      simp at ha
      obtain ⟨rfl, rfl⟩ := ha
      exact appendA_run H hr h1 h2
    · simp at ha
  · simp at ha
    obtain ⟨rfl, rfl⟩ := ha
    exact OpR.same H ⟨.recover, rfl, trivial⟩
  · rename_i d x
    obtain ⟨u, v, rfl, h1, h2⟩ := two_VRs hv
    exact copyA_run H ha h1 h2
  · rename_i id n
    obtain ⟨u, v, rfl, h1, h2⟩ := two_VRs hv
    exact stringA_run H ha h1 h2
  · simp at ha

theorem aNx_some {o : Option ANx} {nx : ANx} {h' : AH} (ha : aNx h o = some (nx, h')) : o = some nx ∧ h' = h := by
  unfold aNx at ha
  split at ha
  · simp at ha
    obtain ⟨rfl, rfl⟩ := ha
    exact ⟨rfl, rfl⟩
  · simp at ha

theorem aCall_run (hρ : ∀ x a, ρ x = some a → VR μ a (σ x)) (H : HR B μ h w) {c : Call} {ty : TypeId} {nx : ANx} {h' : AH} (ha : aCall P ρ h c.callee c.argTypes (evs ρ c.args.toList) = some (nx, h')) :
    OpR P B μ w nx h' (Sem.run P (do let d ← resolve σ c ty; invoke d.target d.args) w) := by
  unfold aCall at ha
  split at ha
  · simp at ha
  · rename_i args hargs
    have hv : VRs μ args (c.args.map σ).toList := by simpa using evs_run hρ hargs
    split at ha
    · rename_i b hb
      have := builtA_run (ty := ty) (cs := c.args.map fun | .const _ => true | _ => false) H ha hv
      have e : Sem.run P (do let d ← resolve σ c ty; invoke d.target d.args) w = (builtin b c.argTypes ty (c.args.map fun | .const _ => true | _ => false) (c.args.map σ)).run P w := by
        simp only [resolve, hb, invoke, Sem.run_bind, Sem.run_pure, Result.andThen]
        rfl
      rw [e]; exact this
    · rename_i f hf
      split at ha
      · rename_i fn first cap hx
        obtain ⟨h1, rfl⟩ := aNx_some ha
        have hx' := hρ _ _ hx
        unfold VR at hx'
        obtain ⟨f', c', hfv, g1, g2⟩ := hx'
        have := callA_run (P := P) (w := w) (vs := f' ++ c.args.map σ) h1 (by simpa using VRs_append g1 (by simpa using hv)) g2
        have e : Sem.run P (do let d ← resolve σ c ty; invoke d.target d.args) w = (invoke (.fn fn c') (f' ++ c.args.map σ)).run P w := by
          simp [resolve, hf, hfv, Deferred.ofValue]
        rw [e]; exact OpR.same H this
      · simp at ha
    · rename_i r name hf
      split at ha
      · rename_i x hx
        obtain ⟨h1, rfl⟩ := aNx_some ha
        have := invokeA_run (P := P) (w := w) (vs := c.args.map σ) h1 (hρ _ _ hx) hv
        have e : Sem.run P (do let d ← resolve σ c ty; invoke d.target d.args) w = (callMethod (σ r) name (c.args.map σ)).run P w := by
          have e0 : (Array.map σ c.args).extract 0 c.args.size = Array.map σ c.args := by
            simp
          simp [resolve, hf, invoke, Array.getElem?_append, e0]
        rw [e]; exact OpR.same H this
      · simp at ha

theorem aLoud_run (hρ : ∀ x a, ρ x = some a → VR μ a (σ x)) (H : HR B μ h w) {o : Oper} {nx : ANx} {h' : AH} (ha : aLoud P ρ h o.op = some (nx, h')) : OpR P B μ w nx h' ((execOp σ o).run P w) := by
  cases ho : o.op <;> rw [ho] at ha <;> simp only [aLoud] at ha
  all_goals first | (cases ha; done) | skip
  case alloc t =>
    cases hz : zeroT P t with
    | none => rw [hz] at ha; simp [aNewVar] at ha
    | some z =>
      rw [hz] at ha
      obtain ⟨v, h1, rfl⟩ := zeroT_run hz w
      have := aNewVar_run (P := P) (s := Instr.alloc t true (.tuple #[])) H ha (VR_ofVal μ v) (by simp [Instr.alloc, h1, run_newVar])
      simpa only [execOp, ho] using this
  case box t x =>
    cases hx : ρ x with
    | none => rw [hx] at ha; simp [aNewVar] at ha
    | some a =>
      rw [hx] at ha
      have := aNewVar_run (P := P) (s := Instr.box t (σ x)) H ha (hρ _ _ hx) (by simp [Instr.box, run_newVar])
      simpa only [execOp, ho] using this
  case store t a x =>
    cases hx : ρ a with
    | none => rw [hx] at ha; simp [aStore] at ha
    | some u =>
      cases hy : ρ x with
      | none => rw [hx, hy] at ha; unfold aStore at ha; split at ha <;> simp_all
      | some v =>
        rw [hx, hy] at ha
        have := aStore_run H ha (hρ _ _ hx) (hρ _ _ hy)
        simpa only [execOp, ho] using this
  case makeSlice t l c =>
    cases hx : ρ l with
    | none => rw [hx] at ha; simp [aMakeSlice] at ha
    | some u =>
      cases hy : ρ c with
      | none => rw [hx, hy] at ha; unfold aMakeSlice at ha; split at ha <;> simp_all
      | some v =>
        rw [hx, hy] at ha
        have := aMakeSlice_run H ha (hρ _ _ hx) (hρ _ _ hy)
        simpa only [execOp, ho] using this
  case buildSlice t len parts =>
    have := aBuildSlice_run hρ H ha
    simpa only [execOp, ho] using this
  case call c =>
    have := aCall_run hρ H (ty := o.type) ha
    simpa only [execOp, ho] using this

theorem aop_run (hρ : ∀ x a, ρ x = some a → VR μ a (σ x)) (H : HR B μ h w) {o : Oper} {nx : ANx} {h' : AH} (ha : aop P ρ o.op h = some (nx, h')) : OpR P B μ w nx h' ((execOp σ o).run P w) := by
  unfold aop at ha
  split at ha
  · obtain ⟨h1, rfl⟩ := aNx_some ha
    exact OpR.same H (aPure_run hρ h1 w)
  · obtain ⟨h1, rfl⟩ := aNx_some ha
    exact OpR.same H (aRead_run hρ H h1)
  · exact aLoud_run hρ H ha
end

/-! ### Frames -/
def TR (μ : List (Nat × Nat)) (nt : Nat) (tm : Tr AV) (tmps : Array Value) : Prop :=
  tmps.size = nt ∧ ∀ i a, tm.get i = some a → ∃ v, tmps[i]? = some v ∧ VR μ a v

theorem TR.mono {μ μ' : List (Nat × Nat)} (hm : μ <+: μ') {nt : Nat} {tm : Tr AV} {tmps : Array Value} (h : TR μ nt tm tmps) : TR μ' nt tm tmps :=
  ⟨h.1, fun i a ha => let ⟨v, h1, h2⟩ := h.2 i a ha; ⟨v, h1, VR_mono hm _ _ h2⟩⟩

theorem TR.put {μ : List (Nat × Nat)} {nt : Nat} {tm : Tr AV} {tmps : Array Value} (h : TR μ nt tm tmps) {d : Nat} {a : AV} {v : Value} (hd : d < nt) (hd2 : d < 1000000) (hv : VR μ a v) : TR μ nt (tm.put 24 d (some a)) (tmps.setIfInBounds d v) := by
  refine ⟨by simp [h.1], ?_⟩
  intro i b hb
  rw [Tr.get_put24 _ _ _ hd2] at hb
  split at hb
  · rename_i e
    subst e
    simp only [Option.some.injEq] at hb
    subst hb
    refine ⟨v, ?_, hv⟩
    simp [h.1, hd]
  · rename_i e
    obtain ⟨u, h1, h2⟩ := h.2 i b hb
    refine ⟨u, ?_, h2⟩
    rw [Array.getElem?_setIfInBounds_ne (by omega)]
    exact h1

/-- What an operand is. -/
theorem operandA_run {G : Nat} {μ : List (Nat × Nat)} {nt : Nat} {tm : Tr AV} {a : Act} (h : TR μ nt tm a.tmps) (hG : ∀ g, g < G → blk μ g = some g) :
    ∀ x v, operandA G tm x = some v → VR μ v (a.eval x) := by
  intro x u ha
  cases x with
  | tmp t =>
    simp only [operandA] at ha
    obtain ⟨v, h1, h2⟩ := h.2 t u ha
    have : a.eval (.tmp t) = v := by
      simp [Act.eval, Array.getD_eq_getD_getElem?, h1]
    rw [this]; exact h2
  | const v =>
    simp [operandA] at ha
    subst ha
    exact VR_ofVal μ v
  | global g =>
    simp only [operandA] at ha
    cases hg : Nat.blt g G with
    | false => rw [hg] at ha; simp at ha
    | true =>
      rw [hg] at ha
      simp at ha; subst ha
      unfold VR
      exact ⟨g, hG g (by simpa [Nat.blt_eq] using hg), rfl⟩
  | func f =>
    simp [operandA] at ha
    subst ha
    unfold VR
    exact ⟨#[], #[], rfl, by simp [VRs_nil], by simp [VRs_nil]⟩

def DRs (μ : List (Nat × Nat)) : List ADef → List Deferred → Prop
  | [], es => es = []
  | d :: ds, es => ∃ e rest, es = e :: rest ∧ DR μ d e ∧ DRs μ ds rest

def PRs (μ : List (Nat × Nat)) : List (AV × Bool) → List PanicEntry → Prop
  | [], es => es = []
  | p :: ps, es => ∃ v rest, es = { v := v, recovered := p.2, goexit := false } :: rest ∧ VR μ p.1 v ∧ PRs μ ps rest

def MR (μ : List (Nat × Nat)) : AMode → FrameMode → Prop
  | .run, m => m = .run
  | .ret, m => m = .returning
  | .pan ch, m => ∃ es, m = .panicking es ∧ PRs μ ch es

structure FR (μ : List (Nat × Nat)) (a : AFr) (f : Frame) : Prop where
  fn : f.fn = a.fn
  tm : TR μ a.nt a.tm f.tmps
  todo : a.mode = .run → f.todo = a.todo
  defs : DRs μ a.defs f.defers
  mode : MR μ a.mode f.mode
  kind : f.kind = a.kind
  round : f.roundOf = none

def FRs (μ : List (Nat × Nat)) : List AFr → List Frame → Prop
  | [], fs => fs = []
  | a :: as, fs => ∃ f rest, fs = f :: rest ∧ FR μ a f ∧ FRs μ as rest

theorem DR.mono {μ μ' : List (Nat × Nat)} (hm : μ <+: μ') {d : ADef} {e : Deferred} (h : DR μ d e) : DR μ' d e :=
  let ⟨c, h1, h2, h3⟩ := h; ⟨c, h1, VRs_mono hm _ _ h2, VRs_mono hm _ _ h3⟩
theorem DRs.mono {μ μ' : List (Nat × Nat)} (hm : μ <+: μ') : ∀ {ds : List ADef} {es : List Deferred}, DRs μ ds es → DRs μ' ds es
  | [], _, h => h
  | _ :: _, _, ⟨e, rest, h1, h2, h3⟩ => ⟨e, rest, h1, h2.mono hm, DRs.mono hm h3⟩
theorem PRs.mono {μ μ' : List (Nat × Nat)} (hm : μ <+: μ') : ∀ {ps : List (AV × Bool)} {es : List PanicEntry}, PRs μ ps es → PRs μ' ps es
  | [], _, h => h
  | _ :: _, _, ⟨e, rest, h1, h2, h3⟩ => ⟨e, rest, h1, VR_mono hm _ _ h2, PRs.mono hm h3⟩
theorem MR.mono {μ μ' : List (Nat × Nat)} (hm : μ <+: μ') {a : AMode} {m : FrameMode} (h : MR μ a m) : MR μ' a m := by
  cases a with
  | run => exact h
  | ret => exact h
  | pan ch => obtain ⟨es, h1, h2⟩ := h; exact ⟨es, h1, h2.mono hm⟩
theorem FR.mono {μ μ' : List (Nat × Nat)} (hm : μ <+: μ') {a : AFr} {f : Frame} (h : FR μ a f) : FR μ' a f :=
  ⟨h.fn, h.tm.mono hm, h.todo, h.defs.mono hm, h.mode.mono hm, h.kind, h.round⟩
theorem FRs.mono {μ μ' : List (Nat × Nat)} (hm : μ <+: μ') : ∀ {as : List AFr} {fs : List Frame}, FRs μ as fs → FRs μ' as fs
  | [], _, h => h
  | _ :: _, _, ⟨f, rest, h1, h2, h3⟩ => ⟨f, rest, h1, h2.mono hm, FRs.mono hm h3⟩

theorem PRs.append {μ : List (Nat × Nat)} : ∀ {ps qs : List (AV × Bool)} {es fs : List PanicEntry}, PRs μ ps es → PRs μ qs fs → PRs μ (ps ++ qs) (es ++ fs)
  | [], _, _, _, h, k => by
    have : _ = [] := h
    subst this
    exact k
  | _ :: _, _, _, _, ⟨v, rest, h1, h2, h3⟩, k => ⟨v, _, by rw [h1]; rfl, h2, PRs.append h3 k⟩

theorem raised_MR {μ : List (Nat × Nat)} {a : AMode} {m : FrameMode} {ps : List (AV × Bool)} {es : List PanicEntry} (h : MR μ a m) (hp : PRs μ ps es) : MR μ (raisedA a ps) (raised m es) := by
  cases a with
  | run => have : m = .run := h; subst this; exact ⟨es, rfl, hp⟩
  | ret => have : m = .returning := h; subst this; exact ⟨es, rfl, hp⟩
  | pan ch => obtain ⟨fs, rfl, h2⟩ := h; exact ⟨es ++ fs, rfl, hp.append h2⟩

theorem settle_MR {μ : List (Nat × Nat)} {a b : AMode} {m : FrameMode} (h : MR μ a m) (hs : settleA a = some b) : MR μ b (settle m) := by
  cases a with
  | run => simp [settleA] at hs; subst hs; have : m = .run := h; subst this; rfl
  | ret => simp [settleA] at hs; subst hs; have : m = .returning := h; subst this; rfl
  | pan ch =>
    obtain ⟨es, rfl, h2⟩ := h
    cases ch with
    | nil => simp [settleA] at hs
    | cons p ps =>
      obtain ⟨v, r⟩ := p
      obtain ⟨u, rest, rfl, h3, h4⟩ := h2
      cases r with
      | true =>
        simp [settleA] at hs; subst hs
        have hd : rest.dropWhile (fun e => !e.goexit) = [] := by
          clear h3
          induction ps generalizing rest with
          | nil => have : rest = [] := h4; subst this; rfl
          | cons q qs ih =>
            obtain ⟨x, r2, rfl, _, h5⟩ := h4
            simp only [List.dropWhile_cons]
            exact ih r2 h5
        simp [settle, hd, MR]
      | false =>
        simp [settleA] at hs; subst hs
        exact ⟨_, rfl, u, rest, rfl, h3, h4⟩
end Go.Ev
