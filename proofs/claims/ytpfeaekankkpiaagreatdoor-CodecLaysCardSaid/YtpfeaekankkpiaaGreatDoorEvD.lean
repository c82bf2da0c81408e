/-
  What the evaluator says of the operations that touch no memory, and of those that read it, is what they do.
-/
import Derived.Test.YtpfeaekankkpiaaGreatDoorEvC
namespace Go.Ev
open Go Go.RowKit
section
variable {P : Program} {μ : List (Nat × Nat)} {ρ : Operand → Option AV} {σ : Operand → Value} {w : World}

theorem vv_res {o : Option AV} {nx : ANx} {v : Value} {r : Result Next} (h : vv o = some nx) (hr : r = .ok (.value v) w) (hv : ∀ a, o = some a → VR μ a v) : ResR P μ w nx r := by
  obtain ⟨a, h1, rfl⟩ := vv_some h
  exact res_val hr (hv a h1)

theorem binA_run {op : BinOp} {t : TypeId} {xo yo : Operand} {x y : AV} {u v : Value} {nx : ANx} (h : binA P op t xo yo x y = some nx) (hx : VR μ x u) (hy : VR μ y v) (w : World) :
    ResR P μ w nx (Sem.run P (do pure (Next.value (← (do eqGuard op t xo yo u v; binOp op t u v)))) w) := by
  unfold binA at h
  split at h
  · rename_i a b
    unfold VR at hx hy
    subst hx; subst hy
    split at h
    · rename_i r hr
      simp at h; subst h
      obtain ⟨r', h1, h2⟩ := strOp_run (μ := μ) hr w t
      exact res_val (run_v (bin_run (eqGuard_other (by simp) (by simp) w) h1)) h2
    · simp at h
  · rename_i k a k' b
    unfold VR at hx hy
    subst hx; subst hy
    have hg : ∀ w, (eqGuard op t xo yo (.int k a) (.int k' b)).run P w = .ok () w := eqGuard_other (by simp) (by simp)
    have e : ∀ w, Sem.run P (do pure (Next.value (← (do eqGuard op t xo yo (.int k a) (.int k' b); binOp op t (.int k a) (.int k' b))))) w
        = Sem.run P (do pure (Next.value (← binOp op t (.int k a) (.int k' b)))) w := fun w => by simp [hg]
    rw [e]
    split at h
    · exact pure1_run (by simpa [binOp] using h) w
    · exact pure1_run (by simpa [binOp] using h) w
    · cases hk : (k == k') with
      | false => rw [hk] at h; simp at h
      | true =>
        rw [hk] at h
        have : k = k' := by simpa using hk
        subst this
        exact intA_run h w t
  · split at h
    · rename_i v1 v2 h1 h2
      rw [VR_val h1 hx, VR_val h2 hy]
      exact pure1_run h w
    · rename_i hno
      split at h
      · split at h
        · rename_i b hb
          simp at h; subst h
          obtain ⟨h1, h2, h3, h4, _⟩ := eqA_run hb hx hy w 9999 rfl
          have h1' : (Op.equal t u v).run P w = .ok b w := h1
          refine res_val (v := .bool b) (run_v (bin_run (eqGuard_other h2 h3 w) ?_)) (by simp [VR])
          rw [h4]
          simp [h1']
        · simp at h
      · split at h
        · rename_i b hb
          simp at h; subst h
          obtain ⟨h1, h2, h3, _, h4⟩ := eqA_run hb hx hy w 9999 rfl
          have h1' : (Op.equal t u v).run P w = .ok b w := h1
          refine res_val (v := .bool (!b)) (run_v (bin_run (eqGuard_other h2 h3 w) ?_)) (by simp [VR])
          rw [h4]
          simp [h1']
        · simp at h
      · simp at h

/-- A bound of a cut. -/
theorem idx_run {a : AV} {n : Nat} {v : Value} (h : idx? a = some n) (hv : VR μ a v) : ∃ k, v = .int k n := by
  unfold idx? at h
  split at h
  · simp at h; subst h
    unfold VR at hv
    exact ⟨_, hv⟩
  · simp at h

def OptR (μ : List (Nat × Nat)) : Option AV → Option Value → Prop
  | none, v => v = none
  | some a, v => ∃ u, v = some u ∧ VR μ a u

theorem opt_run (hρ : ∀ x a, ρ x = some a → VR μ a (σ x)) {x : Option Operand} {a : Option AV} (h : opt ρ x = some a) : OptR μ a (x.map σ) := by
  cases x with
  | none => simp [opt] at h; subst h; rfl
  | some x =>
    simp only [opt] at h
    split at h
    · rename_i b hb
      simp at h; subst h
      exact ⟨_, rfl, hρ _ _ hb⟩
    · simp at h

theorem sliceBound_run {a : AV} {n limit : Nat} {v : Value} {code : BoundsCode} {d : Option Nat} (h : boundA limit (some a) d = some n) (hv : VR μ a v) (L : Nat) (hL : limit ≤ L) (w : World) :
    (Instr.sliceBound v L code).run P w = .ok n w ∧ n ≤ limit := by
  simp only [boundA] at h
  split at h
  · rename_i m hm
    obtain ⟨k, rfl⟩ := idx_run hm hv
    cases hb : Nat.ble m limit with
    | false => rw [hb] at h; simp at h
    | true =>
      rw [hb] at h
      simp at h; subst h
      have : m ≤ limit := by simpa using hb
      refine ⟨?_, this⟩
      have h2 : (0 : Int) ≤ (m : Int) ∧ (m : Int) ≤ (L : Int) := by omega
      simp [Instr.sliceBound, asIntOf, h2]
  · simp at h

def capOf (mx : Option AV) (m C : Nat) : Nat := match mx with | some _ => m | none => C

/-- The three bounds of a cut: what is said of the capacity C that is really there, at least 'cap'. -/
theorem boundsA_run {len cap l h m : Nat} {lo hi mx : Option AV} {lo' hi' mx' : Option Value} {isS : Bool} (hb : boundsA len cap lo hi mx = some (l, h, m)) (h1 : OptR μ lo lo') (h2 : OptR μ hi hi') (h3 : OptR μ mx mx')
    (C : Nat) (hC : cap ≤ C) (w : World) :
    (Instr.sliceBounds isS len C lo' hi' mx').run P w = .ok (l, h, capOf mx m C) w ∧ l ≤ h ∧ m ≤ cap ∧ (mx = none → m = cap) ∧ ((∃ x, hi = some x) → h ≤ m) ∧ (hi = none → h = len) := by
  unfold boundsA at hb
  cases mx with
  | none =>
    simp only [OptR] at h3; subst h3
    rw [show boundA cap none (some cap) = some cap from rfl] at hb
    dsimp only at hb
    cases hi with
    | none =>
      simp only [OptR] at h2; subst h2
      rw [show boundA cap none (some len) = some len from rfl] at hb
      dsimp only at hb
      cases lo with
      | none =>
        simp only [OptR] at h1; subst h1
        simp [boundA] at hb
        obtain ⟨rfl, rfl, rfl⟩ := hb
        simp [capOf, Instr.sliceBounds]
      | some a =>
        obtain ⟨u, rfl, hu⟩ := h1
        split at hb
        · simp at hb
        · rename_i l' hl
          simp at hb
          obtain ⟨rfl, rfl, rfl⟩ := hb
          obtain ⟨g1, g2⟩ := sliceBound_run (P := P) (code := .sliceB) hl hu len (Nat.le_refl _) w
          simp [capOf, Instr.sliceBounds, g1, g2]
    | some b =>
      obtain ⟨v, rfl, hv⟩ := h2
      split at hb
      · simp at hb
      · rename_i h' hh
        obtain ⟨k1, k2⟩ := sliceBound_run (P := P) (code := if isS then .sliceAcap else .sliceAlen) hh hv C hC w
        cases lo with
        | none =>
          simp only [OptR] at h1; subst h1
          simp [boundA] at hb
          obtain ⟨rfl, rfl, rfl⟩ := hb
          simp [capOf, Instr.sliceBounds, k1, k2]
        | some a =>
          obtain ⟨u, rfl, hu⟩ := h1
          split at hb
          · simp at hb
          · rename_i l' hl
            simp at hb
            obtain ⟨rfl, rfl, rfl⟩ := hb
            obtain ⟨g1, g2⟩ := sliceBound_run (P := P) (code := .sliceB) hl hu h' (Nat.le_refl _) w
            simp [capOf, Instr.sliceBounds, g1, g2, k1, k2]
  | some c =>
    obtain ⟨x, rfl, hx⟩ := h3
    split at hb
    · simp at hb
    · rename_i m' hm
      obtain ⟨e1, e2⟩ := sliceBound_run (P := P) (code := if isS then .slice3Acap else .slice3Alen) hm hx C hC w
      cases hi with
      | none => simp [boundA] at hb
      | some b =>
        obtain ⟨v, rfl, hv⟩ := h2
        split at hb
        · simp at hb
        · rename_i h' hh
          obtain ⟨k1, k2⟩ := sliceBound_run (P := P) (code := .slice3B) hh hv m' (Nat.le_refl _) w
          cases lo with
          | none =>
            simp only [OptR] at h1; subst h1
            simp [boundA] at hb
            obtain ⟨rfl, rfl, rfl⟩ := hb
            simp [capOf, Instr.sliceBounds, e1, e2, k1, k2]
          | some a =>
            obtain ⟨u, rfl, hu⟩ := h1
            split at hb
            · simp at hb
            · rename_i l' hl
              simp at hb
              obtain ⟨rfl, rfl, rfl⟩ := hb
              obtain ⟨g1, g2⟩ := sliceBound_run (P := P) (code := .slice3C) hl hu h' (Nat.le_refl _) w
              simp [capOf, Instr.sliceBounds, g1, g2, k1, k2, e1, e2]
end
end Go.Ev
