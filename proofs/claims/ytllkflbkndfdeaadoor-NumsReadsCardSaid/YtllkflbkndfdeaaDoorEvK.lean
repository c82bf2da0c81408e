/-
  A region that draws its order: the invariant, and the whole region.
-/
import Derived.Test.YtllkflbkndfdeaaDoorEvJ
namespace Go.Ev
open Go Go.RowKit

/-- What a region's checks give, and its walk in the text's order, state by state. -/
structure Plan (P : Program) (G : Nat) (sub : Sub) (M : List Nat) (W : Tr Nat) (L : List Nat) (ops : List Oper) (nt : Nat) (tr : List St) (T : Nat → St) : Prop where
  w : ∀ j o d, ops[j]? = some o → o.dst = some d → W.get d = some j
  back : ∀ j o, ops[j]? = some o → ∀ e ∈ o.after.toList, Region.binds .any e = true → e.on < j
  m : ∀ i j, bitAt M i j = true → ∃ o, ops[i]? = some o ∧ ∃ e ∈ o.after.toList, Region.binds .any e = true ∧ (j = e.on ∨ bitAt M e.on j = true)
  l : ∀ j, j ∈ L ↔ ∃ o, ops[j]? = some o ∧ loud P o = true
  st : ∀ k, k ≤ ops.length → tr[k]? = some (T k)
  ex : ∀ i o, ops[i]? = some o → exD P G sub M W L ops nt i o (T i).1 (T i).2 = some (T (i + 1))
  rd : ∀ i o, ops[i]? = some o → cls P o.op = .r → okHeap M i L = true ∨ (wantD M W ops i (T i).1 o.guard = some true → ∃ v, aRead P (rhoD G M W i (T i).1) (T i).2 o.op = some (.val v) ∧ sameRead P (rhoD G M W i (T i).1) o.op M i L v tr 0 = true)

section
variable {P : Program} {B G : Nat} {sub : Sub} {M : List Nat} {W : Tr Nat} {L : List Nat} {ops : List Oper} {nt : Nat} {tr : List St} {T : Nat → St}

theorem Plan.keep (p : Plan P G sub M W L ops nt tr T) {i : Nat} {o : Oper} (ho : ops[i]? = some o) {t : Nat} (ht : o.dst ≠ some t) : (T (i + 1)).1.get t = (T i).1.get t := by
  obtain ⟨v, h', hp, _⟩ := exD_put (p.ex i o ho)
  exact putT_other hp ht
theorem Plan.heap (p : Plan P G sub M W L ops nt tr T) {i : Nat} {o : Oper} (ho : ops[i]? = some o) (hl : loud P o = false) : (T (i + 1)).2 = (T i).2 := by
  obtain ⟨v, h', hp, hq⟩ := exD_put (p.ex i o ho)
  rw [(putT_some hp).1, hq hl]

/-- A slot is what it was, up to the one operation that writes it. -/
theorem Plan.before (p : Plan P G sub M W L ops nt tr T) {t : Nat} : ∀ k, k ≤ ops.length → (∀ j, W.get t = some j → k ≤ j) → (T k).1.get t = (T 0).1.get t
  | 0, _, _ => rfl
  | k + 1, hk, hj => by
    have hlt : k < ops.length := by omega
    have ho : ops[k]? = some ops[k] := List.getElem?_eq_getElem hlt
    rw [p.keep ho (fun e => by have := hj k (p.w k _ t ho e); omega)]
    exact Plan.before p k (by omega) (fun j h => by have := hj j h; omega)
/-- Behind it, it is what that one wrote. -/
theorem Plan.behind (p : Plan P G sub M W L ops nt tr T) {t j : Nat} (hj : W.get t = some j) : ∀ k, j < k → k ≤ ops.length → (T k).1.get t = (T (j + 1)).1.get t
  | 0, h, _ => by omega
  | k + 1, h, hk => by
    by_cases e : k = j
    · subst e; rfl
    · have hlt : k < ops.length := by omega
      have ho : ops[k]? = some ops[k] := List.getElem?_eq_getElem hlt
      rw [p.keep ho (fun hd => by have := p.w k _ t ho hd; rw [hj] at this; simp at this; omega)]
      exact Plan.behind p hj k (by omega) (by omega)
theorem Plan.still (p : Plan P G sub M W L ops nt tr T) {a : Nat} : ∀ b, a ≤ b → b ≤ ops.length → (∀ j o, a ≤ j → j < b → ops[j]? = some o → loud P o = false) → (T b).2 = (T a).2
  | 0, h, _, _ => by
    have : a = 0 := by omega
    subst this; rfl
  | b + 1, h, hb, hq => by
    by_cases e : a = b + 1
    · subst e; rfl
    · have hlt : b < ops.length := by omega
      have ho : ops[b]? = some ops[b] := List.getElem?_eq_getElem hlt
      rw [p.heap ho (hq b _ (by omega) (by omega) ho)]
      exact Plan.still p b (by omega) (by omega) (fun j o h1 h2 h3 => hq j o h1 (by omega) h3)

/-- What a slot holds, when just those that are listed have been carried out. -/
noncomputable def vw (W : Tr Nat) (T : Nat → St) (listed : Array Bool) (t : Nat) : Option AV :=
  match W.get t with
  | some j => if listed.getD j false = true then (T (j + 1)).1.get t else (T 0).1.get t
  | none => (T 0).1.get t

/-- The invariant. -/
structure Con (P : Program) (B G : Nat) (M : List Nat) (W : Tr Nat) (ops : List Oper) (nt : Nat) (T : Nat → St) (μ : List (Nat × Nat)) (w0 : World) (df : List Deferred) (listed : Array Bool) (a : Act) (w : World) : Prop where
  size : listed.size = ops.length
  low : ∀ i j, listed.getD i false = true → bitAt M i j = true → listed.getD j false = true
  df : a.defers = df
  tsz : a.tmps.size = nt
  rest : ∃ μ' k, μ <+: μ' ∧ k ≤ ops.length ∧ (∀ j o, ops[j]? = some o → loud P o = true → (listed.getD j false = true ↔ j < k)) ∧ HR B μ' (T k).2 w ∧ Below B w0 w ∧
    (∀ g, g < G → blk μ' g = some g) ∧ ∀ t v, vw W T listed t = some v → ∃ u, a.tmps[t]? = some u ∧ VR μ' v u

theorem ready_spec {ops : Array Oper} {listed : Array Bool} {i : Nat} (h : i ∈ Region.ready .any ops listed) :
    listed.getD i true = false ∧ ∃ o, ops[i]? = some o ∧ ∀ e ∈ o.after.toList, Region.binds .any e = true → listed.getD e.on false = true := by
  unfold Region.ready at h
  rw [List.mem_filter] at h
  obtain ⟨_, h2⟩ := h
  simp only [Bool.and_eq_true, Bool.not_eq_true'] at h2
  obtain ⟨h3, h4⟩ := h2
  refine ⟨h3, ?_⟩
  cases ho : ops[i]? with
  | none => rw [ho] at h4; simp at h4
  | some o =>
    rw [ho] at h4
    simp only [Option.map_some, Option.getD_some] at h4
    refine ⟨o, rfl, fun e he hb => ?_⟩
    rw [← Array.all_toList] at h4
    have := List.all_eq_true.1 h4 e he
    rw [hb] at this
    simpa using this

theorem getD_false_of_true {listed : Array Bool} {i : Nat} (h : listed.getD i true = false) : listed.getD i false = false ∧ i < listed.size := by
  by_cases hi : i < listed.size
  · simp [Array.getD, hi] at h ⊢
    exact h
  · simp [Array.getD, hi] at h

theorem getD_set {listed : Array Bool} {i : Nat} (hi : i < listed.size) (j : Nat) : (listed.setIfInBounds i true).getD j false = if j = i then true else listed.getD j false := by
  by_cases hj : j < listed.size
  · by_cases e : j = i
    · subst e; simp [Array.getD, hj]
    · simp [Array.getD, hj, e, Array.getElem_setIfInBounds_ne (h := Ne.symm e)]
  · by_cases e : j = i
    · omega
    · simp [Array.getD, hj, e]

variable {μ : List (Nat × Nat)} {w0 w : World} {df : List Deferred} {listed : Array Bool} {a : Act} {i : Nat} {o : Oper}

/-- What operation i may read is what it read in the text's order. -/
theorem Con.slot (p : Plan P G sub M W L ops nt tr T) (hlow : ∀ i j, listed.getD i false = true → bitAt M i j = true → listed.getD j false = true) (hi : listed.getD i false = false) (hin : i ≤ ops.length)
    (hpre : ∀ j, bitAt M i j = true → listed.getD j false = true) {t : Nat} (hok : okSlot M W i t = true) : vw W T listed t = (T i).1.get t := by
  unfold vw
  unfold okSlot at hok
  cases hw : W.get t with
  | none =>
    dsimp only
    exact (p.before i hin (fun j h => by rw [hw] at h; simp at h)).symm
  | some j =>
    rw [hw] at hok
    dsimp only at hok ⊢
    rw [Bool.or_eq_true] at hok
    rcases hok with hok | hok
    · have : j = i := by simpa using hok
      subst this
      rw [hi]
      simp only [Bool.false_eq_true, if_false]
      exact (p.before j hin (fun j' h => by rw [hw] at h; simp at h; omega)).symm
    · rcases parted_spec hok with ⟨h1, h2⟩ | ⟨h1, h2⟩
      · rw [hpre j h2]
        simp only [if_true]
        exact (p.behind hw i h1 hin).symm
      · have : listed.getD j false = false := by
          cases hl : listed.getD j false with
          | false => rfl
          | true => have := hlow j i hl h2; rw [hi] at this; simp at this
        rw [this]
        simp only [Bool.false_eq_true, if_false]
        exact (p.before i hin (fun j' h => by rw [hw] at h; simp at h; omega)).symm

theorem rhoD_run {μ' : List (Nat × Nat)} (hs : ∀ t, okSlot M W i t = true → vw W T listed t = (T i).1.get t) (hv : ∀ t v, vw W T listed t = some v → ∃ u, a.tmps[t]? = some u ∧ VR μ' v u) (hG : ∀ g, g < G → blk μ' g = some g) :
    ∀ x v, rhoD G M W i (T i).1 x = some v → VR μ' v (a.eval x) := by
  intro x v hx
  cases x with
  | tmp t =>
    simp only [rhoD] at hx
    cases ho : okSlot M W i t with
    | false => rw [ho] at hx; simp at hx
    | true =>
      rw [ho] at hx
      simp only [cond_true] at hx
      rw [← hs t ho] at hx
      obtain ⟨u, h1, h2⟩ := hv t v hx
      have : a.eval (.tmp t) = u := by simp [Act.eval, Array.getD_eq_getD_getElem?, h1]
      rw [this]; exact h2
  | const c =>
    simp [rhoD, operandA] at hx
    subst hx
    exact VR_ofVal μ' c
  | global g =>
    simp only [rhoD, operandA] at hx
    cases hg : Nat.blt g G with
    | false => rw [hg] at hx; simp at hx
    | true =>
      rw [hg] at hx
      simp at hx; subst hx
      unfold VR
      exact ⟨g, hG g (by simpa [Nat.blt_eq] using hg), rfl⟩
  | func f =>
    simp [rhoD, operandA] at hx
    subst hx
    unfold VR
    exact ⟨#[], #[], rfl, by simp [VRs_nil], by simp [VRs_nil]⟩

theorem wantD_run {aops : Array Oper} (hops : aops.toList = ops) {μ' : List (Nat × Nat)} {b : Bool} (hw : wantD M W ops i (T i).1 o.guard = some b) (hs : ∀ t, okSlot M W i t = true → vw W T listed t = (T i).1.get t)
    (hv : ∀ t v, vw W T listed t = some v → ∃ u, a.tmps[t]? = some u ∧ VR μ' v u) : Region.wanted o (yielded aops a.tmps) = b := by
  unfold wantD at hw
  unfold Region.wanted
  split at hw
  · rename_i hg
    simp at hw; subst hw
    rw [hg]
  · rename_i j want hg
    rw [hg]
    dsimp only
    have hj : aops[j]? = ops[j]? := by rw [← hops]; simp
    unfold yielded
    rw [hj]
    split at hw
    · rename_i hd
      simp at hw; subst hw
      have : (ops[j]?).bind (fun x => x.dst) = none := by
        cases ho : ops[j]? with
        | none => rfl
        | some x => rw [ho] at hd; simpa using hd
      rw [this]
      rfl
    · rename_i d hd
      have : (ops[j]?).bind (fun x => x.dst) = some d := by
        cases ho : ops[j]? with
        | none => rw [ho] at hd; simp at hd
        | some x => rw [ho] at hd; simpa using hd
      rw [this]
      cases hok : okSlot M W i d with
      | false => rw [hok] at hw; simp at hw
      | true =>
        rw [hok] at hw
        simp only [cond_true] at hw
        split at hw
        · rename_i c hc
          simp at hw; subst hw
          rw [← hs d hok] at hc
          obtain ⟨u, h1, h2⟩ := hv d _ hc
          unfold VR at h2
          subst h2
          simp only [Option.bind_some, h1]
          cases c <;> cases want <;> rfl
        · rename_i hc
          simp at hw; subst hw
          rw [← hs d hok] at hc
          obtain ⟨u, h1, h2⟩ := hv d _ hc
          unfold VR at h2
          obtain ⟨u', rfl, _⟩ := h2
          simp only [Option.bind_some, h1]
          rfl
        · simp at hw

/-- The put behind an operation: the slots again. -/
theorem Con.slots (p : Plan P G sub M W L ops nt tr T) (ho : ops[i]? = some o) (hi : listed.getD i false = false) (hsz : i < listed.size) {μ' μ2 : List (Nat × Nat)} (hm : μ' <+: μ2) {tm : Tr AV} {h' : AH} {x : AV} {u : Value}
    (hp : putT nt tm h' o.dst x = some (T (i + 1))) (htsz : a.tmps.size = nt) (hx : VR μ2 x u) (hv : ∀ t v, vw W T listed t = some v → ∃ u, a.tmps[t]? = some u ∧ VR μ' v u) :
    (a.put o.dst u).tmps.size = nt ∧ ∀ t v, vw W T (listed.setIfInBounds i true) t = some v → ∃ u', (a.put o.dst u).tmps[t]? = some u' ∧ VR μ2 v u' := by
  have hil : i < ops.length := (List.getElem?_eq_some_iff.1 ho).1
  have same : ∀ t, o.dst ≠ some t → vw W T (listed.setIfInBounds i true) t = vw W T listed t := by
    intro t ht
    unfold vw
    cases hw : W.get t with
    | none => rfl
    | some j =>
      dsimp only
      rw [getD_set hsz]
      by_cases e : j = i
      · subst e
        rw [if_pos rfl, if_pos rfl, hi]
        simp only [Bool.false_eq_true, if_false]
        rw [p.keep ho ht]
        exact p.before j (by omega) (fun j' h => by rw [hw] at h; simp at h; omega)
      · rw [if_neg e]
  cases hd : o.dst with
  | none =>
    rw [hd] at same
    refine ⟨htsz, fun t v ht => ?_⟩
    rw [same t (by simp)] at ht
    obtain ⟨u', h1, h2⟩ := hv t v ht
    exact ⟨u', h1, VR_mono hm _ _ h2⟩
  | some d =>
    rw [hd] at hp same
    obtain ⟨_, h2, h3, h4⟩ := putT_some hp
    refine ⟨by simp [Act.put, htsz], fun t v ht => ?_⟩
    by_cases e : t = d
    · subst e
      have hw := p.w i o t ho hd
      unfold vw at ht
      rw [hw] at ht
      dsimp only at ht
      rw [getD_set hsz, if_pos rfl, if_pos rfl, h4, Tr.get_put24 _ _ _ h3, if_pos rfl] at ht
      simp only [Option.some.injEq] at ht
      subst ht
      exact ⟨u, by simp [Act.put, htsz, h2], hx⟩
    · rw [same t (by simpa using Ne.symm e)] at ht
      obtain ⟨u', g1, g2⟩ := hv t v ht
      refine ⟨u', ?_, VR_mono hm _ _ g2⟩
      simp only [Act.put]
      rw [Array.getElem?_setIfInBounds_ne (by omega)]
      exact g1

/-- The heap that an operation meets which is parted from all that may turn it. -/
theorem Con.heapAt (p : Plan P G sub M W L ops nt tr T) (hin : i < ops.length) (hi : listed.getD i false = false) (hlow : ∀ i j, listed.getD i false = true → bitAt M i j = true → listed.getD j false = true)
    (hpre : ∀ j, bitAt M i j = true → listed.getD j false = true) {k : Nat} (hk : k ≤ ops.length) (hL : ∀ j o, ops[j]? = some o → loud P o = true → (listed.getD j false = true ↔ j < k)) (hok : okHeap M i L = true) :
    (T k).2 = (T i).2 ∧ ∀ j o, ops[j]? = some o → loud P o = true → j ≠ i → (listed.getD j false = true ↔ j < i) := by
  have key : ∀ j o, ops[j]? = some o → loud P o = true → j ≠ i → (listed.getD j false = true ↔ j < i) := by
    intro j o ho hl hne
    rcases okHeap_spec hok j ((p.l j).2 ⟨o, ho, hl⟩) with e | e
    · exact absurd e hne
    · rcases parted_spec e with ⟨h1, h2⟩ | ⟨h1, h2⟩
      · exact ⟨fun _ => h1, fun _ => hpre j h2⟩
      · constructor
        · intro h
          have := hlow j i h h2
          rw [hi] at this; simp at this
        · intro h; omega
  refine ⟨?_, key⟩
  rcases Nat.le_total k i with h | h
  · refine (p.still i h (by omega) (fun j o h1 h2 ho => ?_)).symm
    cases hl : loud P o with
    | false => rfl
    | true =>
      have g1 := (key j o ho hl (by omega)).2 h2
      have g2 := (hL j o ho hl).1 g1
      omega
  · refine p.still k h hk (fun j o h1 h2 ho => ?_)
    cases hl : loud P o with
    | false => rfl
    | true =>
      have g1 := (hL j o ho hl).2 h2
      by_cases e : j = i
      · subst e; rw [hi] at g1; simp at g1
      · have := (key j o ho hl e).1 g1
        omega
end
end Go.Ev
