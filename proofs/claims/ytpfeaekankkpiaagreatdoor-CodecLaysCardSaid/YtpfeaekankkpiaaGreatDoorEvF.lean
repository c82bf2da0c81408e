/-
  What the evaluator says of the operations that touch no memory, and of those that read it, is what they do: all kinds together.
-/
import Derived.Test.YtpfeaekankkpiaaGreatDoorEvE
namespace Go.Ev
open Go Go.RowKit
section
variable {P : Program} {μ : List (Nat × Nat)} {ρ : Operand → Option AV} {σ : Operand → Value} {w : World}

theorem vv_ok {o : Option AV} {nx : ANx} (h : vv o = some nx) : ∃ a, o = some a ∧ nx = .val a := vv_some h

theorem aConvP_run {s d : TypeId} {a : AV} {v : Value} {nx : ANx} (h : aConvP P s d (some a) = some nx) (hv : VR μ a v) (w : World) :
    ResR P μ w nx (Sem.run P (do pure (Next.value (← convert s d v))) w) := by
  unfold aConvP at h
  split at h
  · rename_i k n he
    simp at he; subst he
    unfold VR at hv; subst hv
    split at h
    · rename_i ds k' hs hd
      simp at h; subst h
      refine res_val (run_v (v := .int k' (k'.wrap n)) ?_) (by simp [VR])
      unfold convert
      simp only [Sem.run_bind, run_underlying hs, run_underlying hd, Result.andThen]
      rfl
    · simp at h
  · rename_i x he
    simp at he; subst he
    unfold VR at hv; subst hv
    split at h
    · rename_i ds hs hd
      simp at h; subst h
      refine res_val (run_v (v := .string ⟨x.toArray⟩) ?_) (by unfold VR; rfl)
      unfold convert
      simp only [Sem.run_bind, run_underlying hs, run_underlying hd, Result.andThen]
      rfl
    · simp at h
  · simp at h

theorem fieldPlace_run {fd : Field} {n b off : Nat} (h : sizeT P fd.type = some (n + 1)) (w : World) : (fieldPlace ⟨b, off, none⟩ fd).run P w = .ok ⟨b, off + fd.offset, none⟩ w := by
  have := sizeT_run h w
  simp [fieldPlace, this, add_lit]

theorem aFieldAddr_run {t : TypeId} {f : Nat} {a : AV} {v : Value} {nx : ANx} (h : aFieldAddr P t f (some a) = some nx) (hv : VR μ a v) (w : World) :
    ResR P μ w nx (Sem.run P (do pure (Next.value (← Instr.fieldAt t v f))) w) := by
  unfold aFieldAddr at h
  split at h
  · rename_i id off he
    simp at he; subst he
    unfold VR at hv
    obtain ⟨b, hb, rfl⟩ := hv
    split at h
    · rename_i fs hu
      split at h
      · rename_i fd hf
        split at h
        · rename_i n hs
          simp at h; subst h
          refine res_val (run_v (v := .pointer (some ⟨b, off + fd.offset, none⟩)) ?_) (by unfold VR; exact ⟨b, hb, rfl⟩)
          have := fieldPlace_run (b := b) (off := off) hs w
          simp [Instr.fieldAt, run_underlying hu, hf, Instr.sureAddr, this]
        · simp at h
      · simp at h
    · simp at h
  · simp at h

theorem aField_run {t : TypeId} {f : Nat} {a : AV} {v : Value} {nx : ANx} (h : aField P t f (some a) = some nx) (hv : VR μ a v) (w : World) :
    ResR P μ w nx (Sem.run P (do pure (Next.value (← Instr.field t v f))) w) := by
  unfold aField at h
  split at h
  · rename_i cs he
    simp at he; subst he
    unfold VR at hv
    obtain ⟨u, rfl, hu'⟩ := hv
    split at h
    · rename_i fs hu
      split at h
      · rename_i fd hf
        obtain ⟨a, ha, rfl⟩ := vv_ok h
        obtain ⟨r, hr1, hr2⟩ := partA_run ha hu' w
        refine res_val (run_v (v := r) ?_) hr2
        simp [Instr.field, run_underlying hu, hf, asAgg, hr1]
      · simp at h
    · simp at h
  · simp at h

theorem aIndexAddr_run {t : TypeId} {a i : AV} {v u : Value} {nx : ANx} (h : aIndexAddr P t (some a) (some i) = some nx) (hv : VR μ a v) (hi : VR μ i u) (w : World) :
    ResR P μ w nx (Sem.run P (do pure (Next.value (← Instr.indexAt t v u))) w) := by
  unfold aIndexAddr at h
  split at h
  · rename_i id off k n he1 he2
    simp at he1 he2; subst he1; subst he2
    unfold VR at hv hi
    obtain ⟨b, hb, rfl⟩ := hv
    subst hi
    split at h
    · rename_i m e hu
      split at h
      · rename_i size hs
        cases hl : Nat.blt n m with
        | false => rw [hl] at h; simp at h
        | true =>
          rw [hl] at h
          simp at h; subst h
          have hlt : n < m := by simpa [Nat.blt_eq] using hl
          refine res_val (run_v (v := .pointer (some ⟨b, off + n * size, none⟩)) ?_) (by unfold VR; exact ⟨b, hb, rfl⟩)
          have hs' := sizeT_run hs w
          have h0 : (0 : Int) ≤ Int.ofNat n ∧ Int.ofNat n < (m : Int) := ⟨Int.natCast_nonneg n, by simpa using hlt⟩
          simp [Instr.indexAt, asIntOf, run_underlying hu, Instr.sureAddr, hlt, hs', add_lit]
      · simp at h
    · simp at h
  · rename_i id off len cap ex k n he1 he2
    simp at he1 he2; subst he1; subst he2
    unfold VR at hv hi
    obtain ⟨b, c, hb, rfl, _⟩ := hv
    subst hi
    split at h
    · rename_i e hu
      split at h
      · rename_i size hs
        cases hl : Nat.blt n len with
        | false => rw [hl] at h; simp at h
        | true =>
          rw [hl] at h
          simp at h; subst h
          have hlt : n < len := by simpa [Nat.blt_eq] using hl
          refine res_val (run_v (v := .pointer (some ⟨b, off + n * size, none⟩)) ?_) (by unfold VR; exact ⟨b, hb, rfl⟩)
          have hs' := sizeT_run hs w
          simp [Instr.indexAt, asIntOf, run_underlying hu, hlt, hs', add_lit]
      · simp at h
    · simp at h
  · simp at h

theorem aIndex_run {t : TypeId} {a i : AV} {v u : Value} {nx : ANx} (h : aIndex P t (some a) (some i) = some nx) (hv : VR μ a v) (hi : VR μ i u) (w : World) :
    ResR P μ w nx (Sem.run P (do pure (Next.value (← Instr.index t v u))) w) := by
  unfold aIndex at h
  split at h
  · rename_i s k n he1 he2
    simp at he1 he2; subst he1; subst he2
    unfold VR at hv hi
    subst hv; subst hi
    split at h
    · rename_i hu
      split at h
      · rename_i c hc
        simp at h; subst h
        refine res_val (run_v (v := .int .u8 c.toNat) ?_) (by simp [VR])
        have hlt : n < s.length := (List.getElem?_eq_some_iff.1 hc).1
        have hget : (⟨s.toArray⟩ : ByteArray)[n]? = some c := by
          rw [ByteArray.getElem?_lt' _ _ (by simpa [ByteArray.size] using hlt)]
          congr 1
          have := (List.getElem?_eq_some_iff.1 hc).2
          rw [← this]
          rfl
        simp [Instr.index, asIntOf, run_underlying hu, hget]
      · simp at h
    · simp at h
  · rename_i cs k n he1 he2
    simp at he1 he2; subst he1; subst he2
    unfold VR at hv hi
    obtain ⟨x, rfl, hx⟩ := hv
    subst hi
    split at h
    · rename_i m e hu
      split at h
      · rename_i size hs
        cases hl : Nat.blt n m with
        | false => rw [hl] at h; simp at h
        | true =>
          rw [hl] at h
          simp only [cond_true] at h
          have hlt : n < m := by simpa [Nat.blt_eq] using hl
          obtain ⟨a, ha, rfl⟩ := vv_ok h
          obtain ⟨r, hr1, hr2⟩ := partA_run ha hx w
          refine res_val (run_v (v := r) ?_) hr2
          have hs' := sizeT_run hs w
          simp [Instr.index, asIntOf, run_underlying hu, hlt, hs', hr1]
      · simp at h
    · simp at h
  · simp at h

theorem missing_none {want : Array (String × TypeId)} {got : Array Method} (h : hasAll want got = true) : Instr.missingMethod want got = none := by
  have : (want.toList.filter fun (name, sig) => !got.any fun m => m.name == name && m.sig == sig) = [] := by
    rw [List.filter_eq_nil_iff]
    intro p hp
    unfold hasAll at h
    have := List.all_eq_true.1 h p hp
    simpa using this
  simp [Instr.missingMethod, this, Instr.least]

theorem least_some {l : List String} (p : String → Bool) (g : String → String) (h : l ≠ []) : ∃ m, (Instr.least (l.filter (not ∘ p)) <|> Instr.least ((l.filter p).map g)) = some m := by
  cases h1 : List.filter (not ∘ p) l with
  | cons a r => exact ⟨_, by simp [Instr.least]; rfl⟩
  | nil =>
    cases h2 : List.filter p l with
    | cons a r => simp [Instr.least]
    | nil =>
      exfalso
      cases l with
      | nil => exact h rfl
      | cons a r =>
        rw [List.filter_eq_nil_iff] at h1 h2
        have g1 := h1 a (by simp)
        have g2 := h2 a (by simp)
        simp at g1
        exact g2 g1

theorem missing_some {want : Array (String × TypeId)} {got : Array Method} (h : hasAll want got = false) : ∃ m, Instr.missingMethod want got = some m := by
  have hne : ((want.toList.filter fun (name, sig) => !got.any fun m => m.name == name && m.sig == sig).map (·.1)) ≠ [] := by
    intro hn
    rw [List.map_eq_nil_iff, List.filter_eq_nil_iff] at hn
    have : hasAll want got = true := by
      unfold hasAll
      rw [List.all_eq_true]
      intro p hp
      have := hn p hp
      simpa using this
    rw [this] at h; simp at h
  unfold Instr.missingMethod
  dsimp only
  generalize (List.map (fun x => x.fst) (List.filter (fun x => match x with | (name, sig) => !got.any fun m => m.name == name && m.sig == sig) want.toList)) = l at *
  rw [List.partition_eq_filter_filter]
  exact least_some _ _ hne

theorem aFails_run {t : TypeId} {ok : Bool} {nx : ANx} {x : RuntimeError} (h : aFails P t ok = some nx) (w : World) :
    ResR P μ w nx (Sem.run P (do pure (Next.value (← (do if ok = true then pure (.tuple #[← zeroValue t, .bool false]) else runtimePanic x : Sem Value)))) w) := by
  unfold aFails at h
  cases ok with
  | false => simp at h
  | true =>
    simp only [cond_true] at h
    split at h
    · rename_i z hz
      simp at h; subst h
      obtain ⟨v, h1, rfl⟩ := zeroT_run hz w
      refine res_val (run_v (v := .tuple #[v, .bool false]) (by simp [h1])) ?_
      unfold VR
      exact ⟨_, rfl, by rw [VRs_cons]; exact ⟨_, _, rfl, VR_ofVal μ v, by rw [VRs_cons]; exact ⟨_, _, rfl, by simp [VR], by simp [VRs_nil]⟩⟩⟩
    · simp at h

theorem holds_VR {ok : Bool} {a : AV} {v : Value} (h : VR μ a v) : VR μ (bif ok then .tuple [a, .bool true] else a) (if ok = true then .tuple #[v, .bool true] else v) := by
  cases ok with
  | false => simpa using h
  | true =>
    simp only [cond_true, if_true]
    unfold VR
    exact ⟨_, rfl, by rw [VRs_cons]; exact ⟨_, _, rfl, h, by rw [VRs_cons]; exact ⟨_, _, rfl, by simp [VR], by simp [VRs_nil]⟩⟩⟩

theorem aAssert_run {t xt : TypeId} {ok : Bool} {a : AV} {v : Value} {nx : ANx} (h : aAssert P t ok (some a) = some nx) (hv : VR μ a v) (w : World) :
    ResR P μ w nx (Sem.run P (do pure (Next.value (← Instr.typeAssert v xt t ok))) w) := by
  unfold aAssert at h
  split at h
  · rename_i d x he
    simp at he; subst he
    have hv0 := hv
    unfold VR at hv
    obtain ⟨u, rfl, hx⟩ := hv
    split at h
    · rename_i want hu
      split at h
      · rename_i i hi
        cases hh : hasAll want i.methods with
        | true =>
          rw [hh] at h
          simp only [cond_true, Option.some.injEq] at h; subst h
          refine res_val (run_v (v := if ok = true then .tuple #[.iface d u, .bool true] else .iface d u) ?_) (holds_VR hv0)
          simp [Instr.typeAssert, run_underlying hu, typeInfo, hi, missing_none hh]
        | false =>
          rw [hh] at h
          simp only [cond_false] at h
          obtain ⟨m, hm⟩ := missing_some hh
          have := aFails_run (μ := μ) (x := .typeAssertion none (some d) t m) h w
          simpa [Instr.typeAssert, run_underlying hu, typeInfo, hi, hm] using this
      · simp at h
    · rename_i desc hni hu
      have hrun : ∀ w, (Instr.typeAssert (.iface d u) xt t ok).run P w = Sem.run P (if d = t then pure (if ok = true then .tuple #[u, .bool true] else u) else (do if ok = true then pure (.tuple #[← zeroValue t, .bool false]) else runtimePanic (.typeAssertion (some xt) (some d) t "") : Sem Value)) w := by
        intro w
        unfold Instr.typeAssert
        simp only [Sem.run_bind, run_underlying hu, Result.andThen]
      cases hd : Nat.beq d t with
      | true =>
        rw [hd] at h
        simp only [cond_true, Option.some.injEq] at h; subst h
        have : d = t := by simpa using hd
        subst this
        refine res_val (run_v (v := if ok = true then .tuple #[u, .bool true] else u) ?_) (holds_VR hx)
        rw [hrun]; simp
      | false =>
        rw [hd] at h
        simp only [cond_false] at h
        have hne : ¬ d = t := by intro e; subst e; simp at hd
        have := aFails_run (μ := μ) (x := .typeAssertion (some xt) (some d) t "") h w
        simp only [Sem.run_bind, hrun, if_neg hne] at this ⊢
        all_goals exact this
    · simp at h
  · rename_i he
    simp at he; subst he
    unfold VR at hv; subst hv
    split at h
    · rename_i desc hu
      by_cases hi : ∃ want, desc = .interface want
      · obtain ⟨want, rfl⟩ := hi
        have := aFails_run (μ := μ) (x := .typeAssertion none none t "") h w
        simpa [Instr.typeAssert, run_underlying hu] using this
      · have := aFails_run (μ := μ) (x := .typeAssertion (some xt) none t "") h w
        have hrun : ∀ w, (Instr.typeAssert .nilIface xt t ok).run P w = Sem.run P (do if ok = true then pure (.tuple #[← zeroValue t, .bool false]) else runtimePanic (.typeAssertion (some xt) none t "") : Sem Value) w := by
          intro w
          unfold Instr.typeAssert
          simp only [Sem.run_bind, run_underlying hu, Result.andThen]
          cases desc <;> first | rfl | exact absurd ⟨_, rfl⟩ hi
        simp only [Sem.run_bind, hrun] at this ⊢
        exact this
    · simp at h
  · simp at h

theorem pair_run {s : Sem Value} {nx : ANx} {r : Result Next} (h : ResR P μ w nx (Sem.run P (do pure (Next.value (← s))) w)) (e : r = Sem.run P (do pure (Next.value (← s))) w) : ResR P μ w nx r := e ▸ h

theorem len_run {ts : Array TypeId} {ty t : TypeId} {cs : Array Bool} {n : Nat} {v : Value} (h0 : ts[0]? = some t) (h : (∃ s : List UInt8, P.underlying t = some .string ∧ v = .string ⟨s.toArray⟩ ∧ n = s.length) ∨ (∃ e a c, P.underlying t = some (.slice e) ∧ v = .slice a n c)) (w : World) :
    (builtin .len ts ty cs #[v]).run P w = .ok (.value (.int .i64 n)) w := by
  rcases h with ⟨s, hu, rfl, rfl⟩ | ⟨e, a, c, hu, rfl⟩
  · have hs : (⟨s.toArray⟩ : ByteArray).size = s.length := by simp [ByteArray.size]
    simp [builtin, Builtin.len_, h0, run_underlying hu, goInt, hs]
  · simp [builtin, Builtin.len_, h0, run_underlying hu, goInt]

theorem cap_run {ts : Array TypeId} {ty t : TypeId} {cs : Array Bool} {e : TypeId} {a : Option Addr} {n c : Nat} (h0 : ts[0]? = some t) (hu : P.underlying t = some (.slice e)) (w : World) :
    (builtin .cap ts ty cs #[.slice a n c]).run P w = .ok (.value (.int .i64 c)) w := by
  simp [builtin, Builtin.cap_, h0, run_underlying hu, goInt]

theorem one_VRs {a : AV} {vs : List Value} (h : VRs μ [a] vs) : ∃ v, vs = [v] ∧ VR μ a v := by
  rw [VRs_cons] at h
  obtain ⟨v, rest, rfl, h1, h2⟩ := h
  rw [VRs_nil] at h2
  subst h2
  exact ⟨v, rfl, h1⟩

theorem two_VRs' {a b : AV} {vs : Array Value} (hv : VRs μ [a, b] vs.toList) : ∃ u v, vs = #[u, v] ∧ VR μ a u ∧ VR μ b v := by
  rw [VRs_cons] at hv
  obtain ⟨u, rest, e, h1, h2⟩ := hv
  obtain ⟨v, e2, h3⟩ := one_VRs h2
  subst e2
  exact ⟨u, v, by rw [← Array.toArray_toList (xs := vs), e], h1, h3⟩

theorem aBuiltinP_run {b : Builtin} {ts : Array TypeId} {ty : TypeId} {cs : Array Bool} {as : List AV} {vs : Array Value} {nx : ANx} (h : aBuiltinP P b ts (some as) = some nx) (hv : VRs μ as vs.toList) (w : World) :
    ResR P μ w nx ((builtin b ts ty cs vs).run P w) := by
  unfold aBuiltinP at h
  split at h
  · rename_i a he
    simp at he; subst he
    obtain ⟨v, h1, h2⟩ := one_VRs hv
    have hvs : vs = #[v] := by rw [← Array.toArray_toList (xs := vs), h1]
    subst hvs
    split at h
    · rename_i t ht
      split at h
      · rename_i n hu hl
        split at h
        · rename_i s
          simp at h; subst h
          simp [lenA] at hl; subst hl
          unfold VR at h2
          exact res_val (len_run ht (.inl ⟨s, hu, h2, rfl⟩) w) (by simp [VR])
        · simp at h
      · rename_i e n hu hl
        split at h
        · simp at h
        · rename_i hns
          simp at h; subst h
          unfold lenA at hl
          split at hl
          · rename_i s; exact absurd rfl (hns s)
          · simp at hl; subst hl
            unfold VR at h2
            obtain ⟨b, c, _, rfl, _⟩ := h2
            exact res_val (len_run ht (.inr ⟨e, _, _, hu, rfl⟩) w) (by simp [VR])
          · simp at hl; subst hl
            unfold VR at h2; subst h2
            exact res_val (len_run ht (.inr ⟨e, _, _, hu, rfl⟩) w) (by simp [VR])
          · simp at hl
      · simp at h
    · simp at h
  · rename_i id off len c he
    simp at he; subst he
    obtain ⟨v, h1, h2⟩ := one_VRs hv
    have hvs : vs = #[v] := by rw [← Array.toArray_toList (xs := vs), h1]
    subst hvs
    split at h
    · rename_i t ht
      split at h
      · rename_i e hu
        simp at h; subst h
        unfold VR at h2
        obtain ⟨b, c', _, rfl, _, hc, _⟩ := h2
        have := hc rfl
        subst this
        exact res_val (cap_run ht hu w) (by simp [VR])
      · simp at h
    · simp at h
  · rename_i k a k' b he
    simp at he; subst he
    obtain ⟨u, v, rfl, h1, h2⟩ := two_VRs' hv
    simp at h; subst h
    unfold VR at h1 h2
    subst h1 h2
    refine res_val (v := .int k (if b < a then b else a)) ?_ ?_
    · simp [builtin, Builtin.min_, Builtin.min2]
    · unfold VR
      by_cases hb : b < a <;> simp [hb]
  · rename_i k a k' b he
    simp at he; subst he
    obtain ⟨u, v, rfl, h1, h2⟩ := two_VRs' hv
    simp at h; subst h
    unfold VR at h1 h2
    subst h1 h2
    refine res_val (v := .int k (if a < b then b else a)) ?_ ?_
    · simp [builtin, Builtin.max_, Builtin.max2]
    · unfold VR
      by_cases hb : a < b <;> simp [hb]
  · simp at h

theorem nilAhead_run {t : TypeId} {a : AV} {v : Value} {name : String} {q : FuncId × AV} (ha : methodA P t a name = some q) :
    (nilAhead (P.types.size + Made.depth) t v name).run P w = .ok (some false) w := by
  have hd : 0 < Made.depth := by decide
  obtain ⟨k, hk⟩ : ∃ k, P.types.size + Made.depth = k + 1 := ⟨P.types.size + Made.depth - 1, by omega⟩
  rw [hk]
  unfold methodA at ha
  split at ha
  · simp at ha
  · rename_i i hi
    split at ha
    · simp at ha
    · rename_i m hm
      split at ha
      · rename_i hp
        split at ha
        · rename_i f' hf
          simp [nilAhead, typeInfo, hi, hm, hp, hf, followBlind]
        · rename_i f' hf
          split at ha
          · simp at ha
          · rename_i d hnp hu
            simp [nilAhead, typeInfo, hi, hm, hp, hf, run_underlying hu, followBlind]
            cases d <;> first | rfl | exact absurd rfl (hnp _)
          · simp at ha
        · simp at ha
      · simp at ha

theorem aPure_run (hρ : ∀ x a, ρ x = some a → VR μ a (σ x)) {o : Oper} {nx : ANx} (h : aPure P ρ o.op = some nx) (w : World) : ResR P μ w nx ((execOp σ o).run P w) := by
  cases ho : o.op <;> rw [ho] at h <;> simp only [aPure, aPure2] at h
  all_goals first | (cases h; done) | skip
  case move x =>
    obtain ⟨a, ha, rfl⟩ := vv_ok h
    exact res_val (by simp [execOp, ho]) (hρ _ _ ha)
  case assign x =>
    obtain ⟨a, ha, rfl⟩ := vv_ok h
    exact res_val (by simp [execOp, ho]) (hρ _ _ ha)
  case pick c a b =>
    unfold aPick at h
    split at h
    · rename_i t hc
      have hc' := hρ _ _ hc
      unfold VR at hc'
      obtain ⟨x, hx, rfl⟩ := vv_ok h
      refine res_val (v := if t = true then σ a else σ b) ?_ ?_
      · simp [execOp, ho, hc', asBool]
      · cases t with
        | true => simpa using hρ _ _ hx
        | false => simpa using hρ _ _ hx
    · simp at h
  case nilCheck x =>
    unfold aNil at h
    split at h
    · rename_i id off hx
      simp at h; subst h
      have hx' := hρ _ _ hx
      have hx2 := hx'
      unfold VR at hx'
      obtain ⟨b, hb, hx'⟩ := hx'
      refine res_val (v := σ x) ?_ hx2
      simp [execOp, ho, hx']
    · rename_i fn first cap hx
      cases hr : readyA P fn first with
      | false => rw [hr] at h; simp at h
      | true =>
        rw [hr] at h
        simp at h; subst h
        have hx' := hρ _ _ hx
        have hx2 := hx'
        unfold VR at hx'
        obtain ⟨f', c', hx', hf, hc⟩ := hx'
        refine res_val (v := σ x) ?_ hx2
        unfold readyA at hr
        split at hr
        · rename_i name t v rest
          split at hr
          · rename_i q hm
            rw [VRs_cons] at hf
            obtain ⟨u, r, e, h1, h2⟩ := hf
            unfold VR at h1
            obtain ⟨z, rfl, hz⟩ := h1
            have h0 : f'[0]? = some (.iface t z) := by
              rw [← Array.getElem?_toList, e]; rfl
            have := nilAhead_run (w := w) hm (v := z)
            simp [execOp, ho, hx', h0, this]
          · simp at hr
        · rename_i name
          rw [VRs_nil] at hf
          have h0 : f'[0]? = none := by
            rw [← Array.getElem?_toList, hf]; rfl
          simp [execOp, ho, hx', h0]
        · simp at hr
        · simp only [execOp, ho, hx']
          cases fn <;> first | rfl | (rename_i h3 _ _; exact absurd rfl (h3 _))
    · simp at h
  case binOp op t x y yt =>
    unfold aBin at h
    split at h
    · rename_i a b ha hb
      have := binA_run h (hρ _ _ ha) (hρ _ _ hb) w
      simpa only [execOp, ho] using this
    · simp at h
  case unOp op t x =>
    unfold aUn at h
    split at h
    · rename_i a ha
      split at h
      · rename_i v hv
        have e := VR_val hv (hρ _ _ ha)
        have := pure1_run (μ := μ) h w
        simp only [execOp, ho, e]
        exact this
      · simp at h
    · simp at h
  case convert s d x =>
    cases hx : ρ x with
    | none => rw [hx] at h; simp [aConvP] at h
    | some a =>
      rw [hx] at h
      have := aConvP_run h (hρ _ _ hx) w
      simpa only [execOp, ho] using this
  case makeInterface t x =>
    unfold aIface at h
    split at h
    · rename_i a ha
      split at h
      · simp at h
      · rename_i desc hni hu
        simp at h; subst h
        refine res_val (v := .iface t (σ x)) ?_ (by unfold VR; exact ⟨_, rfl, hρ _ _ ha⟩)
        have : (Instr.makeInterface t (σ x)).run P w = .ok (.iface t (σ x)) w := by
          unfold Instr.makeInterface
          simp only [Sem.run_bind, run_underlying hu, Result.andThen]
          cases desc <;> first | rfl | exact absurd hu (hni _)
        simp only [execOp, ho]
        exact run_v this
      · simp at h
    · simp at h
  case makeFunc fn first cap =>
    unfold aFunc at h
    split at h
    · rename_i f c hf hc
      simp at h; subst h
      refine res_val (v := .func fn (first.map σ) (cap.map σ)) (by simp [execOp, ho, Instr.makeFunc]) ?_
      unfold VR
      exact ⟨_, _, rfl, by simpa using evs_run hρ hf, by simpa using evs_run hρ hc⟩
    · simp at h
  case slice t x lo hi mx =>
    have := aSlice_run hρ h w
    simpa only [execOp, ho] using this
  case fieldAddr t x f =>
    cases hx : ρ x with
    | none => rw [hx] at h; simp [aFieldAddr] at h
    | some a =>
      rw [hx] at h
      have := aFieldAddr_run h (hρ _ _ hx) w
      simpa only [execOp, ho] using this
  case field t x f =>
    cases hx : ρ x with
    | none => rw [hx] at h; simp [aField] at h
    | some a =>
      rw [hx] at h
      have := aField_run h (hρ _ _ hx) w
      simpa only [execOp, ho] using this
  case indexAddr t x i =>
    cases hx : ρ x with
    | none => rw [hx] at h; simp [aIndexAddr] at h
    | some a =>
      cases hi : ρ i with
      | none => rw [hx, hi] at h; unfold aIndexAddr at h; split at h <;> simp_all
      | some b =>
        rw [hx, hi] at h
        have := aIndexAddr_run h (hρ _ _ hx) (hρ _ _ hi) w
        simpa only [execOp, ho] using this
  case index t x i =>
    cases hx : ρ x with
    | none => rw [hx] at h; simp [aIndex] at h
    | some a =>
      cases hi : ρ i with
      | none => rw [hx, hi] at h; unfold aIndex at h; split at h <;> simp_all
      | some b =>
        rw [hx, hi] at h
        have := aIndex_run h (hρ _ _ hx) (hρ _ _ hi) w
        simpa only [execOp, ho] using this
  case typeAssert x xt t ok =>
    cases hx : ρ x with
    | none => rw [hx] at h; simp [aAssert] at h
    | some a =>
      rw [hx] at h
      have := aAssert_run (xt := xt) h (hρ _ _ hx) w
      simpa only [execOp, ho] using this
  case extract x i =>
    unfold aExtract at h
    split at h
    · rename_i vs hx
      have hx' := hρ _ _ hx
      unfold VR at hx'
      obtain ⟨u, hu, hvs⟩ := hx'
      obtain ⟨a, ha, rfl⟩ := vv_ok h
      obtain ⟨v, h1, h2⟩ := VRs_get hvs ha
      refine res_val (v := v) ?_ h2
      have h1' : u[i]? = some v := by simpa using h1
      simp [execOp, ho, hu, Instr.extract, h1']
    · simp at h
  case build t parts =>
    have := aBuild_run hρ h w
    simpa only [execOp, ho] using this
  case panic x =>
    unfold aPanic at h
    split at h
    · rename_i t v hx
      simp at h; subst h
      have hx' := hρ _ _ hx
      have hx2 := hx'
      unfold VR at hx'
      obtain ⟨u, hu, _⟩ := hx'
      refine ⟨σ x, ?_, hx2⟩
      simp [execOp, ho, hu, Instr.panic, goPanic]
    · simp at h
  case defer c =>
    unfold aDefer at h
    split at h
    · simp at h
    · rename_i args ha
      split at h
      · rename_i f hf
        split at h
        · rename_i fn first cap hx
          simp at h; subst h
          have hx' := hρ _ _ hx
          unfold VR at hx'
          obtain ⟨f', c', hfv, h1, h2⟩ := hx'
          have ha' := evs_run hρ ha
          refine ⟨.defer { target := .fn fn c', args := f' ++ c.args.map σ }, ?_, ?_⟩
          · simp [execOp, ho, resolve, hf, Deferred.ofValue, hfv]
          · refine ⟨c', rfl, h2, ?_⟩
            simp only [Array.toList_append, Array.toList_map]
            exact VRs_append h1 ha'
        · simp at h
      · simp at h
  case call c =>
    unfold aPureC at h
    split at h
    · rename_i b hb
      cases ha : evs ρ c.args.toList with
      | none => rw [ha] at h; unfold aBuiltinP at h; split at h <;> simp_all
      | some as =>
        rw [ha] at h
        have hv : VRs μ as (c.args.map σ).toList := by simpa using evs_run hρ ha
        have := aBuiltinP_run (ty := o.type) (cs := c.args.map fun | .const _ => true | _ => false) h hv w
        have e : (execOp σ o).run P w = (builtin b c.argTypes o.type (c.args.map fun | .const _ => true | _ => false) (c.args.map σ)).run P w := by
          simp only [execOp, ho, resolve, hb, invoke, Sem.run_bind, Sem.run_pure, Result.andThen]
          rfl
        rw [e]
        exact this
    · simp at h
end
end Go.Ev
