/-
  A region that draws its order: the invariant, and the whole region.
-/
import Derived.Test.YtpfeaekankkpiaaGreatDoorEvJ
namespace Go.Ev
open Go Go.RowKit

/-- What a region's checks give, and its walk in the text's order, state by state. -/
structure Plan (P : Program) (G : Nat) (sub : Sub) (M : List Nat) (W : Tr Nat) (L : List Nat) (ops : List Oper) (FD : List (Nat × Nat)) (nt : Nat) (tr : List St) (T : Nat → St) (n : Nat) : Prop where
  hn : n ≤ ops.length
  w : ∀ j o d, ops[j]? = some o → o.dst = some d → W.get d = some j
  back : ∀ j o, ops[j]? = some o → ∀ e ∈ o.after.toList, Region.binds .any e = true → e.on < j
  m : ∀ i j, bitAt M i j = true → ∃ o, ops[i]? = some o ∧ ∃ e ∈ o.after.toList, Region.binds .any e = true ∧ (j = e.on ∨ bitAt M e.on j = true)
  l : ∀ j, j ∈ L ↔ ∃ o, ops[j]? = some o ∧ ld P FD o = true
  st : ∀ k, k ≤ n → tr[k]? = some (T k)
  ex : ∀ i o, i < n → ops[i]? = some o → exD P G sub M W L ops FD nt i o (T i).1 (T i).2 = some (T (i + 1))
  rd : ∀ i o, i < n → ops[i]? = some o → cls P o.op = .r → okHeap M i L = true ∨ (wantD M W ops i (T i).1 o.guard = some true → ∃ v, aRead P (rhoD G M W i (T i).1) (T i).2 o.op = some (.val v) ∧ sameRead P (rhoD G M W i (T i).1) o.op M i L v tr 0 = true)

section
variable {P : Program} {B : Nat → Nat} {G : Nat} {sub : Sub} {M : List Nat} {W : Tr Nat} {L : List Nat} {ops : List Oper} {FD : List (Nat × Nat)} {nt : Nat} {tr : List St} {T : Nat → St} {n : Nat}

theorem Plan.keep (p : Plan P G sub M W L ops FD nt tr T n) {i : Nat} {o : Oper} (hi : i < n) (ho : ops[i]? = some o) {t : Nat} (ht : o.dst ≠ some t) : (T (i + 1)).1.get t = (T i).1.get t := by
  exact (exD_put (p.ex i o hi ho)).1 t ht
theorem Plan.heap (p : Plan P G sub M W L ops FD nt tr T n) {i : Nat} {o : Oper} (hi : i < n) (ho : ops[i]? = some o) (hl : ld P FD o = false) : (T (i + 1)).2 = (T i).2 := (exD_put (p.ex i o hi ho)).2 hl

/-- A slot is what it was, up to the one operation that writes it. -/
theorem Plan.before (p : Plan P G sub M W L ops FD nt tr T n) {t : Nat} : ∀ k, k ≤ n → (∀ j, W.get t = some j → k ≤ j) → (T k).1.get t = (T 0).1.get t
  | 0, _, _ => rfl
  | k + 1, hk, hj => by
    have hlt : k < ops.length := by have := p.hn; omega
    have ho : ops[k]? = some ops[k] := List.getElem?_eq_getElem hlt
    rw [p.keep (by omega) ho (fun e => by have := hj k (p.w k _ t ho e); omega)]
    exact Plan.before p k (by omega) (fun j h => by have := hj j h; omega)
/-- Behind it, it is what that one wrote. -/
theorem Plan.behind (p : Plan P G sub M W L ops FD nt tr T n) {t j : Nat} (hj : W.get t = some j) : ∀ k, j < k → k ≤ n → (T k).1.get t = (T (j + 1)).1.get t
  | 0, h, _ => by omega
  | k + 1, h, hk => by
    by_cases e : k = j
    · subst e; rfl
    · have hlt : k < ops.length := by have := p.hn; omega
      have ho : ops[k]? = some ops[k] := List.getElem?_eq_getElem hlt
      rw [p.keep (by omega) ho (fun hd => by have := p.w k _ t ho hd; rw [hj] at this; simp at this; omega)]
      exact Plan.behind p hj k (by omega) (by omega)
theorem Plan.still (p : Plan P G sub M W L ops FD nt tr T n) {a : Nat} : ∀ b, a ≤ b → b ≤ n → (∀ j o, a ≤ j → j < b → ops[j]? = some o → ld P FD o = false) → (T b).2 = (T a).2
  | 0, h, _, _ => by
    have : a = 0 := by omega
    subst this; rfl
  | b + 1, h, hb, hq => by
    by_cases e : a = b + 1
    · subst e; rfl
    · have hlt : b < ops.length := by have := p.hn; omega
      have ho : ops[b]? = some ops[b] := List.getElem?_eq_getElem hlt
      rw [p.heap (by omega) ho (hq b _ (by omega) (by omega) ho)]
      exact Plan.still p b (by omega) (by omega) (fun j o h1 h2 h3 => hq j o h1 (by omega) h3)

theorem Plan.bit_lt (p : Plan P G sub M W L ops FD nt tr T n) : ∀ (b i f : Nat), i ≤ b → bitAt M i f = true → f < i := by
  intro b
  induction b with
  | zero =>
    intro i f hi h
    obtain ⟨o, h1, e, h2, h3, h4⟩ := p.m i f h
    have := p.back i o h1 e h2 h3
    omega
  | succ b ih =>
    intro i f hi h
    obtain ⟨o, h1, e, h2, h3, h4⟩ := p.m i f h
    have := p.back i o h1 e h2 h3
    rcases h4 with rfl | h4
    · exact this
    · have := ih e.on f (by omega) h4
      omega
theorem okB_okSlot {i t : Nat} (h : okB M W i t = true) : okSlot M W i t = true := by
  unfold okB at h
  unfold okSlot
  cases hw : W.get t with
  | none => rfl
  | some j =>
    rw [hw] at h
    dsimp only at h ⊢
    unfold parted
    rw [h]
    simp
theorem rhoB_rhoD {i : Nat} {tm : Tr AV} {x : Operand} {v : AV} (h : rhoB G M W i tm x = some v) : rhoD G M W i tm x = some v := by
  cases x with
  | tmp t =>
    simp only [rhoB] at h
    cases ho : okB M W i t with
    | false => rw [ho] at h; simp at h
    | true =>
      rw [ho] at h
      simp only [cond_true] at h
      simp only [rhoD, okB_okSlot ho, cond_true]
      exact h
  | const c => exact h
  | global g => exact h
  | func f => exact h
theorem wantB_wantD {i : Nat} {tm : Tr AV} {g : Option (Nat × Bool)} {b : Bool} (h : wantB M W ops i tm g = some b) : wantD M W ops i tm g = some b := by
  unfold wantB at h
  unfold wantD
  split at h
  · exact h
  · split at h
    · exact h
    · rename_i d hd
      cases ho : okB M W i d with
      | false => rw [ho] at h; simp at h
      | true =>
        rw [ho] at h
        simp only [cond_true] at h
        rw [okB_okSlot ho]
        exact h
theorem Plan.slotB (p : Plan P G sub M W L ops FD nt tr T n) {f i t : Nat} (hfi : f ≤ i) (hi : i ≤ n) (ho : okB M W f t = true) : (T i).1.get t = (T f).1.get t := by
  unfold okB at ho
  cases hw : W.get t with
  | none => rw [p.before i hi (fun j h => by rw [hw] at h; simp at h), p.before f (by omega) (fun j h => by rw [hw] at h; simp at h)]
  | some j =>
    rw [hw] at ho
    simp only [Bool.and_eq_true, Nat.blt_eq] at ho
    rw [p.behind hw i (by omega) hi, p.behind hw f (by omega) (by omega)]
theorem Plan.rhoB_same (p : Plan P G sub M W L ops FD nt tr T n) {f i : Nat} (hfi : f ≤ i) (hi : i ≤ n) : rhoB G M W f (T i).1 = rhoB G M W f (T f).1 := by
  funext x
  cases x with
  | tmp t =>
    simp only [rhoB]
    cases ho : okB M W f t with
    | false => rfl
    | true => simp only [cond_true]; exact p.slotB hfi hi ho
  | const c => rfl
  | global g => rfl
  | func f => rfl
theorem Plan.wantB_same (p : Plan P G sub M W L ops FD nt tr T n) {f i : Nat} (hfi : f ≤ i) (hi : i ≤ n) (g : Option (Nat × Bool)) : wantB M W ops f (T i).1 g = wantB M W ops f (T f).1 g := by
  unfold wantB
  split
  · rfl
  · split
    · rfl
    · rename_i d hd
      cases ho : okB M W f d with
      | false => rfl
      | true => simp only [cond_true]; rw [p.slotB hfi hi ho]

/-- A new slice that is made and waits for its call. -/
structure Wait (G : Nat) (M : List Nat) (W : Tr Nat) (ops : List Oper) (FD : List (Nat × Nat)) (T : Nat → St) (listed : Array Bool) (f d u : Nat) (fo : Oper) : Prop where
  done : listed.getD f false = true
  op : ops[f]? = some fo
  fl : isFl FD fo = true
  dst : fo.dst = some d
  user : fdOf FD d = some u
  open_ : listed.getD u false = false
  want : wantB M W ops f (T f).1 fo.guard = some true
/-- What is told of those that wait. -/
structure Pend (P : Program) (B : Nat → Nat) (G : Nat) (M : List Nat) (W : Tr Nat) (ops : List Oper) (FD : List (Nat × Nat)) (T : Nat → St) (listed : Array Bool) (a : Act) (w : World) (μ : List (Nat × Nat)) (S : Nat → Nat) (pb : Nat → Nat) : Prop where
  own : ∀ f d u fo, Wait G M W ops FD T listed f d u fo → S (pb f) = 2 ∧ B (pb f) = 0
  row : ∀ f d u fo e len r, Wait G M W ops FD T listed f d u fo → aFresh P (rhoB G M W f (T f).1) fo.op = some (e, len, r) → a.tmps[d]? = some (.slice (some ⟨pb f, 0, none⟩) len len) ∧ ∃ arr, w.heap[pb f]? = some (.cells arr e (0, 0)) ∧ VRs μ r arr.toList
  inj : ∀ f d u fo f' d' u' fo', Wait G M W ops FD T listed f d u fo → Wait G M W ops FD T listed f' d' u' fo' → pb f = pb f' → f = f'

/-- What a slot holds, when just those that are listed have been carried out. -/
noncomputable def vw (W : Tr Nat) (T : Nat → St) (listed : Array Bool) (t : Nat) : Option AV :=
  match W.get t with
  | some j => if listed.getD j false = true then (T (j + 1)).1.get t else (T 0).1.get t
  | none => (T 0).1.get t

/-- The invariant. -/
structure Con (P : Program) (B : Nat → Nat) (G : Nat) (M : List Nat) (W : Tr Nat) (ops : List Oper) (FD : List (Nat × Nat)) (nt : Nat) (T : Nat → St) (n : Nat) (μ : List (Nat × Nat)) (w0 : World) (df : List Deferred) (listed : Array Bool) (a : Act) (w : World) : Prop where
  size : listed.size = ops.length
  lt : ∀ j, listed.getD j false = true → j < n
  low : ∀ i j, listed.getD i false = true → bitAt M i j = true → listed.getD j false = true
  df : a.defers = df
  tsz : a.tmps.size = nt
  rest : ∃ (S : Nat → Nat) (μ' : List (Nat × Nat)) (k : Nat) (pb : Nat → Nat), (∀ b, B b ≠ 0 → S b = B b) ∧ μ <+: μ' ∧ k ≤ n ∧ (∀ j o, ops[j]? = some o → ld P FD o = true → (listed.getD j false = true ↔ j < k)) ∧ HR S μ' (T k).2 w ∧ Bel B w0 w ∧
    (∀ g, g < G → blk μ' g = some g) ∧ (∀ t v, vw W T listed t = some v → ∃ u, a.tmps[t]? = some u ∧ VR μ' v u) ∧ Pend P B G M W ops FD T listed a w μ' S pb

theorem ready_spec {ops : Array Oper} {listed : Array Bool} {i : Nat} (h : i ∈ Region.ready .any ops listed) :
    listed.getD i true = false ∧ ∃ o, ops[i]? = some o ∧ ∀ e ∈ o.after.toList, Region.binds .any e = true → listed.getD e.on false = true := by
  unfold Region.ready at h
  rw [List.mem_filter] at h
  obtain ⟨_, h2⟩ := h
  simp only [Bool.and_eq_true, Bool.not_eq_true'] at h2
  obtain ⟨h3, h4⟩ := h2
  refine ⟨h3, ?_⟩
  cases ho : ops[i]? with
  | none => rw [ho] at h4; simp at h4
  | some o =>
    rw [ho] at h4
    simp only [Option.map_some, Option.getD_some] at h4
    refine ⟨o, rfl, fun e he hb => ?_⟩
    rw [← Array.all_toList] at h4
    have := List.all_eq_true.1 h4 e he
    rw [hb] at this
    simpa using this

theorem getD_false_of_true {listed : Array Bool} {i : Nat} (h : listed.getD i true = false) : listed.getD i false = false ∧ i < listed.size := by
  by_cases hi : i < listed.size
  · simp [Array.getD, hi] at h ⊢
    exact h
  · simp [Array.getD, hi] at h

theorem getD_set {listed : Array Bool} {i : Nat} (hi : i < listed.size) (j : Nat) : (listed.setIfInBounds i true).getD j false = if j = i then true else listed.getD j false := by
  by_cases hj : j < listed.size
  · by_cases e : j = i
    · subst e; simp [Array.getD, hj]
    · simp [Array.getD, hj, e, Array.getElem_setIfInBounds_ne (h := Ne.symm e)]
  · by_cases e : j = i
    · omega
    · simp [Array.getD, hj, e]

variable {μ : List (Nat × Nat)} {w0 w : World} {df : List Deferred} {listed : Array Bool} {a : Act} {i : Nat} {o : Oper}

/-- What operation i may read is what it read in the text's order. -/
theorem Con.slot (p : Plan P G sub M W L ops FD nt tr T n) (hlow : ∀ i j, listed.getD i false = true → bitAt M i j = true → listed.getD j false = true) (hi : listed.getD i false = false) (hin : i ≤ n)
    (hpre : ∀ j, bitAt M i j = true → listed.getD j false = true) {t : Nat} (hok : okSlot M W i t = true) : vw W T listed t = (T i).1.get t := by
  unfold vw
  unfold okSlot at hok
  cases hw : W.get t with
  | none =>
    dsimp only
    exact (p.before i hin (fun j h => by rw [hw] at h; simp at h)).symm
  | some j =>
    rw [hw] at hok
    dsimp only at hok ⊢
    rw [Bool.or_eq_true] at hok
    rcases hok with hok | hok
    · have : j = i := by simpa using hok
      subst this
      rw [hi]
      simp only [Bool.false_eq_true, if_false]
      exact (p.before j hin (fun j' h => by rw [hw] at h; simp at h; omega)).symm
    · rcases parted_spec hok with ⟨h1, h2⟩ | ⟨h1, h2⟩
      · rw [hpre j h2]
        simp only [if_true]
        exact (p.behind hw i h1 hin).symm
      · have : listed.getD j false = false := by
          cases hl : listed.getD j false with
          | false => rfl
          | true => have := hlow j i hl h2; rw [hi] at this; simp at this
        rw [this]
        simp only [Bool.false_eq_true, if_false]
        exact (p.before i hin (fun j' h => by rw [hw] at h; simp at h; omega)).symm

theorem rhoD_run {μ' : List (Nat × Nat)} (hs : ∀ t, okSlot M W i t = true → vw W T listed t = (T i).1.get t) (hv : ∀ t v, vw W T listed t = some v → ∃ u, a.tmps[t]? = some u ∧ VR μ' v u) (hG : ∀ g, g < G → blk μ' g = some g) :
    ∀ x v, rhoD G M W i (T i).1 x = some v → VR μ' v (a.eval x) := by
  intro x v hx
  cases x with
  | tmp t =>
    simp only [rhoD] at hx
    cases ho : okSlot M W i t with
    | false => rw [ho] at hx; simp at hx
    | true =>
      rw [ho] at hx
      simp only [cond_true] at hx
      rw [← hs t ho] at hx
      obtain ⟨u, h1, h2⟩ := hv t v hx
      have : a.eval (.tmp t) = u := by simp [Act.eval, Array.getD_eq_getD_getElem?, h1]
      rw [this]; exact h2
  | const c =>
    simp [rhoD, operandA] at hx
    subst hx
    exact VR_ofVal μ' c
  | global g =>
    simp only [rhoD, operandA] at hx
    cases hg : Nat.blt g G with
    | false => rw [hg] at hx; simp at hx
    | true =>
      rw [hg] at hx
      simp at hx; subst hx
      unfold VR
      exact ⟨g, hG g (by simpa [Nat.blt_eq] using hg), rfl⟩
  | func f =>
    simp [rhoD, operandA] at hx
    subst hx
    unfold VR
    exact ⟨#[], #[], rfl, by simp [VRs_nil], by simp [VRs_nil]⟩

theorem wantD_run {aops : Array Oper} (hops : aops.toList = ops) {μ' : List (Nat × Nat)} {b : Bool} (hw : wantD M W ops i (T i).1 o.guard = some b) (hs : ∀ t, okSlot M W i t = true → vw W T listed t = (T i).1.get t)
    (hv : ∀ t v, vw W T listed t = some v → ∃ u, a.tmps[t]? = some u ∧ VR μ' v u) : Region.wanted o (yielded aops a.tmps) = b := by
  unfold wantD at hw
  unfold Region.wanted
  split at hw
  · rename_i hg
    simp at hw; subst hw
    rw [hg]
  · rename_i j want hg
    rw [hg]
    dsimp only
    have hj : aops[j]? = ops[j]? := by rw [← hops]; simp
    unfold yielded
    rw [hj]
    split at hw
    · rename_i hd
      simp at hw; subst hw
      have : (ops[j]?).bind (fun x => x.dst) = none := by
        cases ho : ops[j]? with
        | none => rfl
        | some x => rw [ho] at hd; simpa using hd
      rw [this]
      rfl
    · rename_i d hd
      have : (ops[j]?).bind (fun x => x.dst) = some d := by
        cases ho : ops[j]? with
        | none => rw [ho] at hd; simp at hd
        | some x => rw [ho] at hd; simpa using hd
      rw [this]
      cases hok : okSlot M W i d with
      | false => rw [hok] at hw; simp at hw
      | true =>
        rw [hok] at hw
        simp only [cond_true] at hw
        split at hw
        · rename_i c hc
          simp at hw; subst hw
          rw [← hs d hok] at hc
          obtain ⟨u, h1, h2⟩ := hv d _ hc
          unfold VR at h2
          subst h2
          simp only [Option.bind_some, h1]
          cases c <;> cases want <;> rfl
        · rename_i hc
          simp at hw; subst hw
          rw [← hs d hok] at hc
          obtain ⟨u, h1, h2⟩ := hv d _ hc
          unfold VR at h2
          obtain ⟨u', rfl, _⟩ := h2
          simp only [Option.bind_some, h1]
          rfl
        · simp at hw

/-- The put behind an operation: the slots again. -/
theorem Con.slots (p : Plan P G sub M W L ops FD nt tr T n) (hil : i < n) (ho : ops[i]? = some o) (hi : listed.getD i false = false) (hsz : i < listed.size) {μ' μ2 : List (Nat × Nat)} (hm : μ' <+: μ2) {tm : Tr AV} {h' : AH} {x : AV} {u : Value}
    (hp : putT nt tm h' o.dst x = some (T (i + 1))) (htsz : a.tmps.size = nt) (hx : VR μ2 x u) (hv : ∀ t v, vw W T listed t = some v → ∃ u, a.tmps[t]? = some u ∧ VR μ' v u) :
    (a.put o.dst u).tmps.size = nt ∧ ∀ t v, vw W T (listed.setIfInBounds i true) t = some v → ∃ u', (a.put o.dst u).tmps[t]? = some u' ∧ VR μ2 v u' := by
  have same : ∀ t, o.dst ≠ some t → vw W T (listed.setIfInBounds i true) t = vw W T listed t := by
    intro t ht
    unfold vw
    cases hw : W.get t with
    | none => rfl
    | some j =>
      dsimp only
      rw [getD_set hsz]
      by_cases e : j = i
      · subst e
        rw [if_pos rfl, if_pos rfl, hi]
        simp only [Bool.false_eq_true, if_false]
        rw [p.keep hil ho ht]
        exact p.before j (by omega) (fun j' h => by rw [hw] at h; simp at h; omega)
      · rw [if_neg e]
  cases hd : o.dst with
  | none =>
    rw [hd] at same
    refine ⟨htsz, fun t v ht => ?_⟩
    rw [same t (by simp)] at ht
    obtain ⟨u', h1, h2⟩ := hv t v ht
    exact ⟨u', h1, VR_mono hm _ _ h2⟩
  | some d =>
    rw [hd] at hp same
    obtain ⟨_, h2, h3, h4⟩ := putT_some hp
    refine ⟨by simp [Act.put, htsz], fun t v ht => ?_⟩
    by_cases e : t = d
    · subst e
      have hw := p.w i o t ho hd
      unfold vw at ht
      rw [hw] at ht
      dsimp only at ht
      rw [getD_set hsz, if_pos rfl, if_pos rfl, h4, Tr.get_put24 _ _ _ h3, if_pos rfl] at ht
      simp only [Option.some.injEq] at ht
      subst ht
      exact ⟨u, by simp [Act.put, htsz, h2], hx⟩
    · rw [same t (by simpa using Ne.symm e)] at ht
      obtain ⟨u', g1, g2⟩ := hv t v ht
      refine ⟨u', ?_, VR_mono hm _ _ g2⟩
      simp only [Act.put]
      rw [Array.getElem?_setIfInBounds_ne (by omega)]
      exact g1

/-- The same where no value is told of the slot. -/
theorem Con.slotsN (p : Plan P G sub M W L ops FD nt tr T n) (hil : i < n) (ho : ops[i]? = some o) (hi : listed.getD i false = false) (hsz : i < listed.size) {μ' : List (Nat × Nat)} {tm : Tr AV} {h' : AH} {u : Value}
    (hp : putN nt tm h' o.dst = some (T (i + 1))) (htsz : a.tmps.size = nt) (hv : ∀ t v, vw W T listed t = some v → ∃ u, a.tmps[t]? = some u ∧ VR μ' v u) :
    (a.put o.dst u).tmps.size = nt ∧ ∀ t v, vw W T (listed.setIfInBounds i true) t = some v → ∃ u', (a.put o.dst u).tmps[t]? = some u' ∧ VR μ' v u' := by
  obtain ⟨d, hd, h1, h2, h3⟩ := putN_some hp
  rw [hd]
  refine ⟨by simp [Act.put, htsz], fun t v ht => ?_⟩
  by_cases e : t = d
  · subst e
    have hw := p.w i o t ho hd
    unfold vw at ht
    rw [hw] at ht
    dsimp only at ht
    rw [getD_set hsz, if_pos rfl, if_pos rfl, h3, Tr.get_put24 _ _ _ h2, if_pos rfl] at ht
    cases ht
  · have same : vw W T (listed.setIfInBounds i true) t = vw W T listed t := by
      unfold vw
      cases hw : W.get t with
      | none => rfl
      | some j =>
        dsimp only
        rw [getD_set hsz]
        by_cases e' : j = i
        · subst e'
          rw [if_pos rfl, if_pos rfl, hi]
          simp only [Bool.false_eq_true, if_false]
          rw [p.keep hil ho (by rw [hd]; simpa using Ne.symm e)]
          exact p.before j (by omega) (fun j' h => by rw [hw] at h; simp at h; omega)
        · rw [if_neg e']
    rw [same] at ht
    obtain ⟨u', g1, g2⟩ := hv t v ht
    refine ⟨u', ?_, g2⟩
    simp only [Act.put]
    rw [Array.getElem?_setIfInBounds_ne (by omega)]
    exact g1

/-- The heap that an operation meets which is parted from all that may turn it. -/
theorem Con.heapAt (p : Plan P G sub M W L ops FD nt tr T n) (hin : i ≤ n) (hi : listed.getD i false = false) (hlow : ∀ i j, listed.getD i false = true → bitAt M i j = true → listed.getD j false = true)
    (hpre : ∀ j, bitAt M i j = true → listed.getD j false = true) {k : Nat} (hk : k ≤ n) (hL : ∀ j o, ops[j]? = some o → ld P FD o = true → (listed.getD j false = true ↔ j < k)) (hok : okHeap M i L = true) :
    (T k).2 = (T i).2 ∧ ∀ j o, ops[j]? = some o → ld P FD o = true → j ≠ i → (listed.getD j false = true ↔ j < i) := by
  have key : ∀ j o, ops[j]? = some o → ld P FD o = true → j ≠ i → (listed.getD j false = true ↔ j < i) := by
    intro j o ho hl hne
    rcases okHeap_spec hok j ((p.l j).2 ⟨o, ho, hl⟩) with e | e
    · exact absurd e hne
    · rcases parted_spec e with ⟨h1, h2⟩ | ⟨h1, h2⟩
      · exact ⟨fun _ => h1, fun _ => hpre j h2⟩
      · constructor
        · intro h
          have := hlow j i h h2
          rw [hi] at this; simp at this
        · intro h; omega
  refine ⟨?_, key⟩
  rcases Nat.le_total k i with h | h
  · refine (p.still i h (by omega) (fun j o h1 h2 ho => ?_)).symm
    cases hl : ld P FD o with
    | false => rfl
    | true =>
      have g1 := (key j o ho hl (by omega)).2 h2
      have g2 := (hL j o ho hl).1 g1
      omega
  · refine p.still k h hk (fun j o h1 h2 ho => ?_)
    cases hl : ld P FD o with
    | false => rfl
    | true =>
      have g1 := (hL j o ho hl).2 h2
      by_cases e : j = i
      · subst e; rw [hi] at g1; simp at g1
      · have := (key j o ho hl e).1 g1
        omega

/-- A new slice's row, as the program makes it. -/
theorem aFresh_run {ρ : Operand → Option AV} {σ : Operand → Value} {μ' : List (Nat × Nat)} (hρ : ∀ x a, ρ x = some a → VR μ' a (σ x)) {op : Oper} {e : TypeId} {len : Nat} {r : List AV} (h : aFresh P ρ op.op = some (e, len, r)) (w : World) :
    ∃ arr : Array Value, (execOp σ op).run P w = .ok (.value (.slice (some ⟨w.heap.size, 0, none⟩) len len)) (w.alloc (.cells arr e)) ∧ VRs μ' r arr.toList := by
  unfold aFresh at h
  split at h
  · rename_i t len' parts hop
    have he : (Array.map (fun (x : Nat × Operand) => match x with | (i, x) => (i, σ x)) parts).toList = parts.toList.map fun (p : Nat × Operand) => (p.1, σ p.2) := by simp
    split at h
    · rename_i ps elem hps hu
      obtain ⟨p1, p2⟩ := noParts_run hρ hps
      split at h
      · rename_i size z hs hz
        obtain ⟨zv, hz1, rfl⟩ := zeroT_run hz w
        have hs' := sizeT_run hs w
        cases hc : (Nat.ble 1 (len' * size) && Nat.ble (len' * size) 1000000 && Nat.beq (ofVal zv).cells.length size) with
        | false => rw [hc] at h; simp at h
        | true =>
          rw [hc] at h
          simp only [cond_true] at h
          simp only [Bool.and_eq_true, Nat.ble_eq, Nat.beq_eq] at hc
          obtain ⟨⟨c1, c2⟩, c3⟩ := hc
          have hzc : VRs μ' (ofVal zv).cells zv.cells.toList := VR_cells (VR_ofVal μ' zv)
          have hzl := VRs_length hzc
          have hsz : zv.cells.size = size := by simp at hzl; omega
          have hrep := repeatA_VRs hzc len'
          have hcells : VRs μ' (repeatA (ofVal zv).cells len') ((Array.range (len' * size)).map (zv.cells[· % zv.cells.size]!)).toList := by
            have e1 : ((Array.range (len' * size)).map (zv.cells[· % zv.cells.size]!)).toList = (List.range (len' * zv.cells.toList.length)).map fun i => zv.cells.toList[i % zv.cells.toList.length]! := by
              simp [hsz]
              intro a _
              rw [getElem!_def]
              split <;> simp_all
            rw [e1]; exact hrep
          have n1 : ¬ len' * size > 2 ^ 24 := by omega
          have n2 : ¬ len' * size = 0 := by omega
          split at h
          · rename_i r' hf
            cases ha : r'.all AV.one with
            | false => rw [ha] at h; simp at h
            | true =>
              rw [ha] at h
              simp only [cond_true, Option.some.injEq, Prod.mk.injEq] at h
              obtain ⟨rfl, rfl, rfl⟩ := h
              obtain ⟨out, ho1, ho2⟩ := fillA_run (qs := parts.toList.map fun (p : Nat × Operand) => (p.1, σ p.2)) hf hcells p1 p2
              refine ⟨out, ?_, ho2⟩
              simp only [execOp, hop]
              unfold Instr.buildSlice
              rw [he]
              simp only [Sem.run_bind, run_underlying hu, Result.andThen, hs', if_neg n1, if_neg n2, hz1, Sem.run_pure, ho1, run_newRow]
          · cases h
      · cases h
    · cases h
  · cases h

theorem HR.less {S S' : Nat → Nat} {μ' : List (Nat × Nat)} {h : AH} {w : World} (H : HR S μ' h w) (hs : ∀ b, S' b ≠ 0 → S' b = S b) : HR S' μ' h w := by
  refine ⟨H.len, fun id o ho => ?_, H.inj, fun k hk => H.bsz k (by rw [← hs k hk]; exact hk), H.nle⟩
  obtain ⟨b, C, h1, h2⟩ := H.obj id o ho
  refine ⟨b, C, h1, ?_⟩
  cases o with
  | cells cs t ro g =>
    obtain ⟨arr, fz, g1, g2, g3, g4, g5⟩ := h2
    refine ⟨arr, fz, g1, g2, fun e => ⟨Classical.byContradiction fun hne => hne ((hs b hne).trans (g3 e).1), (g3 e).2⟩, g4, fun e => g5 ((hs b (by omega)).symm.trans e)⟩
theorem HR.apart {S : Nat → Nat} {μ' : List (Nat × Nat)} {h : AH} {w : World} (H : HR S μ' h w) {b : Nat} (hb : S b = 2) : ∀ id o, h.t.get id = some o → blk μ' id ≠ some b := by
  intro id o ho e
  obtain ⟨b', C, h1, h2⟩ := H.obj id o ho
  rw [blk_of h1] at e
  simp only [Option.some.injEq] at e
  subst e
  cases o with
  | cells cs t ro g =>
    obtain ⟨arr, fz, g1, g2, g3, g4, g5⟩ := h2
    exact g5 hb

theorem noTmp_spec {t : Nat} : ∀ {l : List Operand}, noTmp t l = true → ∀ t', Operand.tmp t' ∈ l → t' ≠ t
  | [], _, t', h => by cases h
  | .tmp x :: l, h, t', hm => by
    simp only [noTmp, Bool.and_eq_true, Bool.not_eq_true'] at h
    rcases List.mem_cons.1 hm with e | e
    · cases e
      intro e'
      subst e'
      simp at h
    · exact noTmp_spec h.2 t' e
  | .const _ :: l, h, t', hm => by
    rcases List.mem_cons.1 hm with e | e
    · cases e
    · exact noTmp_spec (by simpa [noTmp] using h) t' e
  | .global _ :: l, h, t', hm => by
    rcases List.mem_cons.1 hm with e | e
    · cases e
    · exact noTmp_spec (by simpa [noTmp] using h) t' e
  | .func _ :: l, h, t', hm => by
    rcases List.mem_cons.1 hm with e | e
    · cases e
    · exact noTmp_spec (by simpa [noTmp] using h) t' e

/-- The new slices that a call takes are laid: nothing turns in the world. -/
theorem adoptL_run (p : Plan P G sub M W L ops FD nt tr T n) (hin : i ≤ n) (hi : listed.getD i false = false) (hpre : ∀ j, bitAt M i j = true → listed.getD j false = true) {pb : Nat → Nat}
    (hinj : ∀ f d u fo f' d' u' fo', Wait G M W ops FD T listed f d u fo → Wait G M W ops FD T listed f' d' u' fo' → pb f = pb f' → f = f') {B : Nat → Nat} (hB0 : ∀ f d u fo, Wait G M W ops FD T listed f d u fo → B (pb f) = 0) : ∀ (l : List Operand) {ρ ρ' : Operand → Option AV} {h h' : AH} {S : Nat → Nat} {μ' : List (Nat × Nat)},
    adoptL P G M W ops FD i (T i).1 l ρ h = some (ρ', h') → HR S μ' h w → (∀ b, B b ≠ 0 → S b = B b) → (∀ x v, ρ x = some v → VR μ' v (a.eval x)) →
    (∀ f d u fo, Wait G M W ops FD T listed f d u fo → (u ≠ i ∨ .tmp d ∈ l) → S (pb f) = 2) →
    (∀ f d u fo e len r, Wait G M W ops FD T listed f d u fo → aFresh P (rhoB G M W f (T f).1) fo.op = some (e, len, r) → a.tmps[d]? = some (.slice (some ⟨pb f, 0, none⟩) len len) ∧ ∃ arr, w.heap[pb f]? = some (.cells arr e (0, 0)) ∧ VRs μ' r arr.toList) →
    ∃ S' μ2, μ' <+: μ2 ∧ (∀ b, B b ≠ 0 → S' b = B b) ∧ HR S' μ2 h' w ∧ (∀ x v, ρ' x = some v → VR μ2 v (a.eval x)) ∧ (∀ f d u fo, Wait G M W ops FD T listed f d u fo → u ≠ i → S' (pb f) = 2) := by
  intro l
  induction l with
  | nil =>
    intro ρ ρ' h h' S μ' had H hBS hρ hS hrow
    simp [adoptL] at had
    obtain ⟨rfl, rfl⟩ := had
    exact ⟨S, μ', List.prefix_refl _, hBS, H, hρ, fun f d u fo hw hu => hS f d u fo hw (.inl hu)⟩
  | cons x l ih =>
    intro ρ ρ' h h' S μ' had H hBS hρ hS hrow
    have skip : adoptL P G M W ops FD i (T i).1 l ρ h = some (ρ', h') → _ := fun had => ih had H hBS hρ (fun f d u fo hw hu => hS f d u fo hw (hu.imp id (List.mem_cons_of_mem _))) hrow
    cases x with
    | const c => exact skip (by simpa [adoptL] using had)
    | global g => exact skip (by simpa [adoptL] using had)
    | func f => exact skip (by simpa [adoptL] using had)
    | tmp t =>
      simp only [adoptL] at had
      split at had
      · exact skip had
      · rename_i u hu
        cases hc : (Nat.beq u i && noTmp t l) with
        | false => rw [hc] at had; simp at had
        | true =>
          rw [hc] at had
          simp only [cond_true] at had
          simp only [Bool.and_eq_true, Nat.beq_eq] at hc
          obtain ⟨rfl, hnt⟩ := hc
          split at had
          · rename_i f hf
            cases hb : bitAt M u f with
            | false => rw [hb] at had; simp at had
            | true =>
              rw [hb] at had
              simp only [cond_true] at had
              split at had
              · rename_i fo hfo
                cases hfl' : (isFl FD fo && isDst t fo) with
                | false => rw [hfl'] at had; simp at had
                | true =>
                  rw [hfl'] at had
                  simp only [cond_true] at had
                  simp only [Bool.and_eq_true] at hfl'
                  obtain ⟨hfl, hdst⟩ := hfl'
                  have hfi := p.bit_lt u u f (Nat.le_refl _) hb
                  rw [p.wantB_same (Nat.le_of_lt hfi) hin, p.rhoB_same (Nat.le_of_lt hfi) hin] at had
                  split at had
                  · rename_i hw
                    split at had
                    · rename_i e len r hfr
                      split at had
                      · rename_i nid h1 hal
                        have hd : fo.dst = some t := by
                          unfold isDst at hdst
                          split at hdst
                          · rename_i d hd
                            have : d = t := by simpa using hdst
                            rw [hd, this]
                          · cases hdst
                        have hWt : Wait G M W ops FD T listed f t u fo := ⟨hpre f hb, hfo, hfl, hd, hu, hi, hw⟩
                        obtain ⟨q1, arr, q2, q3⟩ := hrow f t u fo e len r hWt hfr
                        have hSf := hS f t u fo hWt (.inr (List.mem_cons_self ..))
                        have hBf := hB0 f t u fo hWt
                        have hlen := VRs_length q3
                        simp only [Array.length_toList] at hlen
                        have H1 : HR (fun b => if b = pb f then 0 else S b) μ' h w := H.less (fun b hb' => by
                          by_cases e : b = pb f
                          · rw [if_pos e] at hb'; exact absurd rfl hb'
                          · rw [if_neg e])
                        obtain ⟨H2, hid⟩ := H1.add (b := pb f) (C := len) hal ⟨arr, (0, 0), q2, by
                            rw [List.take_of_length_le (by simp; omega)]
                            exact VRs_mono (List.prefix_append _ _) _ _ q3, fun _ => ⟨by simp, fun j _ hj => by omega⟩, by simp, by simp⟩ (H.apart hSf)
                        have hpr : μ' <+: μ' ++ [(pb f, len)] := List.prefix_append _ _
                        obtain ⟨S', μ2, r1, r2, r3, r4, r5⟩ := ih had H2 (fun b hb' => by
                            by_cases e : b = pb f
                            · subst e; exact absurd hBf hb'
                            · rw [if_neg e]; exact hBS b hb') (fun x v hx => by
                            unfold upd at hx
                            split at hx
                            · rename_i t'
                              cases ht : Nat.beq t' t with
                              | false => rw [ht] at hx; exact VR_mono hpr _ _ (hρ _ _ hx)
                              | true =>
                                rw [ht] at hx
                                simp only [cond_true, Option.some.injEq] at hx
                                subst hx
                                have : t' = t := by simpa using ht
                                subst this
                                have he : a.eval (.tmp t') = .slice (some ⟨pb f, 0, none⟩) len len := by simp [Act.eval, Array.getD_eq_getD_getElem?, q1]
                                rw [he]
                                unfold VR
                                exact ⟨pb f, len, blk_of hid, rfl, Nat.le_refl _, fun _ => rfl, fun e => by cases e⟩
                            · exact VR_mono hpr _ _ (hρ _ _ hx)) (fun f' d' u' fo' hw' hu' => by
                            rw [if_neg]
                            · exact hS f' d' u' fo' hw' (hu'.imp id (List.mem_cons_of_mem _))
                            · intro e
                              have hff := hinj f' d' u' fo' f t u fo hw' hWt e
                              subst hff
                              have e1 := hw'.op
                              rw [hfo] at e1; cases e1
                              have e2 := hw'.dst
                              rw [hd] at e2; cases e2
                              rcases hu' with h | h
                              · have e3 := hw'.user
                                rw [hu] at e3; cases e3
                                exact h rfl
                              · exact noTmp_spec hnt _ h rfl) (fun f' d' u' fo' e' len' r' hw' hfr' => by
                            obtain ⟨g1, arr', g2, g3⟩ := hrow f' d' u' fo' e' len' r' hw' hfr'
                            exact ⟨g1, arr', g2, VRs_mono hpr _ _ g3⟩)
                        exact ⟨S', μ2, hpr.trans r1, r2, r3, r4, r5⟩
                      · cases had
                    · cases had
                  · cases had
              · cases had
          · cases had
end
end Go.Ev
