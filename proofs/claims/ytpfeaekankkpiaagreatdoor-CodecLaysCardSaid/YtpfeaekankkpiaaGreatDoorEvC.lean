/-
  What the evaluator says of one operation that touches no memory is what the operation does.
-/
import Derived.Test.YtpfeaekankkpiaaGreatDoorEvB
namespace Go.Ev
open Go Go.RowKit

def DR (μ : List (Nat × Nat)) (d : ADef) (e : Deferred) : Prop :=
  ∃ cap', e.target = .fn d.fn cap' ∧ VRs μ d.cap cap'.toList ∧ VRs μ d.args e.args.toList

def NxR (μ : List (Nat × Nat)) : ANx → Next → Prop
  | .val a, .value v => VR μ a v
  | .skip, .skip => True
  | .defer d, .defer e => DR μ d e
  | .recover, .recover => True
  | _, _ => False

/-- What the abstract outcome says of the operation's run. -/
def ResR (P : Program) (μ : List (Nat × Nat)) (w : World) : ANx → Result Next → Prop
  | .pan a, r => ∃ v, r = .halt (.panic v) w ∧ VR μ a v
  | .enter f args, r => ∃ vs : Array Value, VRs μ args vs.toList ∧ r = (callFunc f vs).run P w
  | x, r => ∃ nx, r = .ok nx w ∧ NxR μ x nx

theorem res_val {P : Program} {μ : List (Nat × Nat)} {w : World} {a : AV} {v : Value} {r : Result Next} (h : r = .ok (.value v) w) (hv : VR μ a v) : ResR P μ w (.val a) r := ⟨_, h, hv⟩

section
variable {P : Program} {μ : List (Nat × Nat)} {ρ : Operand → Option AV} {σ : Operand → Value} {w : World}

theorem run_v {s : Sem Value} {v : Value} {w w' : World} (h : s.run P w = .ok v w') : Sem.run P (do pure (Next.value (← s))) w = .ok (.value v) w' := by
  simp [h]
theorem run_v_pan {s : Sem Value} {x : Halt} {w w' : World} (h : s.run P w = .halt x w') : Sem.run P (do pure (Next.value (← s))) w = .halt x w' := by
  simp [h]
theorem run_u {s : Sem Unit} {w w' : World} (h : s.run P w = .ok () w') : Sem.run P (do s; pure Next.skip) w = .ok .skip w' := by
  simp [h]

theorem vv_some {o : Option AV} {nx : ANx} (h : vv o = some nx) : ∃ a, o = some a ∧ nx = .val a := by
  unfold vv at h
  split at h
  · rename_i a; simp at h; exact ⟨a, rfl, h.symm⟩
  · simp at h

theorem evs_run (hρ : ∀ x a, ρ x = some a → VR μ a (σ x)) : ∀ {l : List Operand} {as : List AV}, evs ρ l = some as → VRs μ as (l.map σ)
  | [], as, h => by simp [evs] at h; subst h; simp [VRs_nil]
  | x :: l, as, h => by
    simp only [evs] at h
    split at h
    · rename_i a ha
      split at h
      · rename_i r hr
        simp at h; subst h
        rw [List.map_cons, VRs_cons]
        exact ⟨_, _, rfl, hρ _ _ ha, evs_run hρ hr⟩
      · simp at h
    · simp at h

/-- A program of the model that touches no memory, as an operation's value. -/
theorem pure1_run {s : Sem Value} {nx : ANx} (h : pure1 P s = some nx) (w : World) : ResR P μ w nx (Sem.run P (do pure (Next.value (← s))) w) := by
  unfold pure1 at h
  split at h
  · rename_i v hv
    simp at h; subst h
    have := pureRun_ok hv w
    exact res_val (run_v this) (VR_ofVal μ v)
  · rename_i v hv
    simp at h; subst h
    have := pureRun_ok hv w
    exact ⟨v, run_v_pan this, VR_ofVal μ v⟩
  · simp at h

theorem intA_run {op : BinOp} {k : IntKind} {a b : Int} {nx : ANx} (h : intA P op k a b = some nx) (w : World) (t : TypeId) :
    ResR P μ w nx (Sem.run P (do pure (Next.value (← binOp op t (.int k a) (.int k b)))) w) := by
  unfold intA at h
  cases op <;> dsimp only at h
  all_goals first
    | (cases h; done)
    | (have e := pure1_run (μ := μ) h w; simpa [binOp] using e)
    | (cases h; refine res_val (run_v (v := ?_) (w' := w) ?_) ?_; rotate_left; (simp [binOp, Op.intArith, Op.intCmp]; rfl); simp [VR])

theorem lb_eq : ∀ (x y : List UInt8), lb x y = (x == y)
  | [], [] => rfl
  | [], _ :: _ => rfl
  | _ :: _, [] => rfl
  | a :: x, b :: y => by
    have e : Nat.beq a.toNat b.toNat = (a == b) := by
      rw [Bool.eq_iff_iff]
      simp [UInt8.toNat_inj]
    simp only [lb, e, List.cons_beq_cons, lb_eq x y]
    cases a == b <;> rfl

theorem ll_eq : ∀ (x y : List UInt8), ll x y = Op.bytesLess x y
  | [], [] => rfl
  | [], _ :: _ => rfl
  | _ :: _, [] => rfl
  | a :: x, b :: y => by
    have e : Nat.beq a.toNat b.toNat = (a == b) := by
      rw [Bool.eq_iff_iff]
      simp [UInt8.toNat_inj]
    have e2 : Nat.blt a.toNat b.toNat = decide (a < b) := by
      rw [Bool.eq_iff_iff]
      simp [UInt8.lt_iff_toNat_lt]
    simp only [ll, Op.bytesLess, e, e2, ll_eq x y]
    cases decide (a < b) <;> cases a == b <;> rfl

theorem toList_mk (x : List UInt8) : (⟨x.toArray⟩ : ByteArray).toList = x := by
  simp

theorem eqGuard_other {op : BinOp} {t : TypeId} {xo yo : Operand} {a b : Value} (h1 : ¬ (a = .nilIface ∧ b = .nilIface)) (h2 : ∀ cs, a ≠ .agg cs) (w : World) :
    (eqGuard op t xo yo a b).run P w = .ok () w := by
  unfold eqGuard
  cases op <;> simp
  all_goals
    split
    · exact absurd ⟨rfl, rfl⟩ h1
    · exact absurd rfl (h2 _)
    · rfl

theorem bin_run {op : BinOp} {t : TypeId} {xo yo : Operand} {a b : Value} {w : World} {r : Result Value} (hg : (eqGuard op t xo yo a b).run P w = .ok () w) (h : (binOp op t a b).run P w = r) :
    Sem.run P (do eqGuard op t xo yo a b; binOp op t a b) w = r := by
  simp [hg, h]

theorem strOp_run {op : BinOp} {x y : List UInt8} {a : AV} (h : strOp op x y = some a) (w : World) (t : TypeId) :
    ∃ v, (binOp op t (.string ⟨x.toArray⟩) (.string ⟨y.toArray⟩)).run P w = .ok v w ∧ VR μ a v := by
  have hb : binOp op t (.string ⟨x.toArray⟩) (.string ⟨y.toArray⟩) = Op.stringOp op ⟨x.toArray⟩ ⟨y.toArray⟩ := by
    cases op <;> rfl
  rw [hb]
  cases op <;> simp only [strOp] at h
  all_goals first
    | (cases h; done)
    | (cases h; refine ⟨_, by simp only [Op.stringOp]; rfl, ?_⟩; unfold VR; simp [lb_eq, ll_eq]; done)
    | skip
  · cases hl : Nat.ble (x.length + y.length) 1000000000 with
    | false => rw [hl] at h; simp at h
    | true =>
      rw [hl] at h
      simp at h; subst h
      have hle : x.length + y.length ≤ 1000000000 := by simpa using hl
      refine ⟨.string (⟨x.toArray⟩ ++ ⟨y.toArray⟩), ?_, ?_⟩
      · unfold Op.stringOp
        have hs : (⟨x.toArray⟩ : ByteArray).size = x.length := by simp [ByteArray.size]
        have hs' : (⟨y.toArray⟩ : ByteArray).size = y.length := by simp [ByteArray.size]
        simp only [hs, hs']
        rw [if_neg (by have : IntKind.i64.max = 9223372036854775807 := by decide
                       rw [this]; omega)]
        rfl
      · unfold VR
        congr 1

theorem eqIface_run {a b : TypeId} {v v' : AV} {u u' : Value} {ms : Array (String × TypeId)} {t : TypeId} {r : Bool} (hu : P.underlying t = some (.interface ms)) (h : eqIface P a v b v' = some r) (hv : VR μ v u) (hv' : VR μ v' u') (w : World) (d : Nat) (hd : d = 9999) :
    (Op.equalIn (d + 1) t (.iface a u) (.iface b u')).run P w = .ok r w := by
  unfold eqIface at h
  cases he : Nat.beq a b with
  | false =>
    rw [he] at h
    simp at h; subst h
    have hne : a ≠ b := by intro e; subst e; simp at he
    simp [Op.equalIn, run_underlying hu, hne]
  | true =>
    rw [he] at h
    have hab : a = b := by simpa using he
    subst hab
    simp only [cond_true] at h
    split at h
    · rename_i i hi
      cases hc : i.comparable with
      | false => rw [hc] at h; simp at h
      | true =>
        rw [hc] at h
        simp only [cond_true] at h
        split at h
        · rename_i x y hx hy
          split at h
          · rename_i r' hr
            simp at h; subst h
            have e1 := VR_val hx hv
            have e2 := VR_val hy hv'
            subst e1; subst e2
            rw [← hd] at hr
            have := pureRun_ok hr w
            simp [Op.equalIn, run_underlying hu, typeInfo, hi, hc]
            simpa using this
          · simp at h
        · simp at h
    · simp at h

theorem eqA_run {t : TypeId} {x y : AV} {u v : Value} {r : Bool} (h : eqA P t x y = some r) (hx : VR μ x u) (hy : VR μ y v) (w : World) (d : Nat) (hd : d = 9999) :
    (Op.equalIn (d + 1) t u v).run P w = .ok r w ∧ ¬ (u = .nilIface ∧ v = .nilIface) ∧ (∀ cs, u ≠ .agg cs) ∧
      binOp .eql t u v = (do pure (.bool (← Op.equal t u v))) ∧ binOp .neq t u v = (do pure (.bool (!(← Op.equal t u v)))) := by
  unfold eqA at h
  cases hu : P.underlying t with
  | none => rw [hu] at h; simp at h
  | some desc =>
    rw [hu] at h
    cases desc <;> dsimp only at h
    all_goals first | (cases h; done) | skip
    case pointer e =>
      split at h
      · rename_i a o b p
        unfold VR at hx hy
        obtain ⟨c, h1, rfl⟩ := hx
        obtain ⟨d', h2, rfl⟩ := hy
        split at h
        · rename_i n hn
          cases he : Nat.beq a b with
          | false => rw [he] at h; simp at h
          | true =>
            rw [he] at h
            have hab : a = b := by simpa using he
            subst hab
            rw [h1] at h2
            simp at h2; subst h2
            simp at h; subst h
            refine ⟨?_, by simp, by simp, rfl, rfl⟩
            have hs := sizeT_run hn w
            simp [Op.equalIn, run_underlying hu, hs, sameAddr]
            by_cases eo : o = p
            · subst eo; simp
            · have : Nat.beq o p = false := by
                rw [Bool.eq_false_iff]; intro hb; exact eo (by simpa using hb)
              rw [this]; simp
        · simp at h
      · simp at h; subst h
        unfold VR at hx hy
        obtain ⟨c, h1, rfl⟩ := hx
        subst hy
        exact ⟨by simp [Op.equalIn, run_underlying hu], by simp, by simp, rfl, rfl⟩
      · simp at h; subst h
        unfold VR at hx hy
        obtain ⟨c, h1, rfl⟩ := hy
        subst hx
        exact ⟨by simp [Op.equalIn, run_underlying hu], by simp, by simp, rfl, rfl⟩
      · simp at h
    case slice e =>
      split at h
      · simp at h; subst h
        unfold VR at hx hy
        obtain ⟨c, c', h1, rfl, _⟩ := hx
        subst hy
        exact ⟨by simp [Op.equalIn, run_underlying hu], by simp, by simp, rfl, rfl⟩
      · simp at h; subst h
        unfold VR at hx hy
        obtain ⟨c, c', h1, rfl, _⟩ := hy
        subst hx
        exact ⟨by simp [Op.equalIn, run_underlying hu], by simp, by simp, rfl, rfl⟩
      · simp at h
    case map k e =>
      split at h
      · simp at h; subst h
        unfold VR at hx hy
        obtain ⟨c, h1, rfl⟩ := hx
        subst hy
        exact ⟨by simp [Op.equalIn, run_underlying hu], by simp, by simp, rfl, rfl⟩
      · simp at h; subst h
        unfold VR at hx hy
        obtain ⟨c, h1, rfl⟩ := hy
        subst hx
        exact ⟨by simp [Op.equalIn, run_underlying hu], by simp, by simp, rfl, rfl⟩
      · simp at h
    case func ps rs va =>
      split at h
      · simp at h; subst h
        unfold VR at hx hy
        obtain ⟨c, c', rfl, _⟩ := hx
        subst hy
        exact ⟨by simp [Op.equalIn, run_underlying hu], by simp, by simp, rfl, rfl⟩
      · simp at h; subst h
        unfold VR at hx hy
        obtain ⟨c, c', rfl, _⟩ := hy
        subst hx
        exact ⟨by simp [Op.equalIn, run_underlying hu], by simp, by simp, rfl, rfl⟩
      · simp at h
    case interface ms =>
      split at h
      · simp at h; subst h
        unfold VR at hx hy
        obtain ⟨c, rfl, _⟩ := hx
        subst hy
        exact ⟨by simp [Op.equalIn, run_underlying hu], by simp, by simp, rfl, rfl⟩
      · simp at h; subst h
        unfold VR at hx hy
        obtain ⟨c, rfl, _⟩ := hy
        subst hx
        exact ⟨by simp [Op.equalIn, run_underlying hu], by simp, by simp, rfl, rfl⟩
      · unfold VR at hx hy
        obtain ⟨c, rfl, hc⟩ := hx
        obtain ⟨d', rfl, hd'⟩ := hy
        exact ⟨eqIface_run hu h hc hd' w d hd, by simp, by simp, rfl, rfl⟩
      · simp at h
end
end Go.Ev
