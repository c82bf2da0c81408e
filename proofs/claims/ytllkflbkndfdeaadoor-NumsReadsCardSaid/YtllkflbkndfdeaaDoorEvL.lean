/-
  A region that draws its order: one operation, and the whole region.
-/
import Derived.Test.YtllkflbkndfdeaaDoorEvK
namespace Go.Ev
open Go Go.RowKit
section
variable {P : Program} {B G : Nat} {sub : Sub} {M : List Nat} {W : Tr Nat} {L : List Nat} {ops : List Oper} {nt : Nat} {tr : List St} {T : Nat → St}
variable {μ : List (Nat × Nat)} {w0 w : World} {df : List Deferred} {listed : Array Bool} {a : Act} {i : Nat} {o : Oper}

theorem put_defers (a : Act) (d : Option Nat) (u : Value) : (a.put d u).defers = a.defers := by cases d <;> rfl

theorem ResR_val {μ : List (Nat × Nat)} {w : World} {x : AV} {r : Result Next} (h : ResR P μ w (.val x) r) : ∃ u, r = .ok (.value u) w ∧ VR μ x u := by
  obtain ⟨nx, h1, h2⟩ := h
  cases nx <;> first | exact h2.elim | skip
  rename_i u
  exact ⟨u, h1, h2⟩

set_option maxHeartbeats 1000000 in
/-- One operation, whichever is ready. -/
theorem Con.step (p : Plan P G sub M W L ops nt tr T) (hsub : CallSound P B G sub) {aops : Array Oper} (hops : aops.toList = ops) {Q : Exit → Act → World → Prop} (C : Con P B G M W ops nt T μ w0 df listed a w) (hr : i ∈ Region.ready .any aops listed) :
    wpOp P aops Q i (fun a' w' => Con P B G M W ops nt T μ w0 df (listed.setIfInBounds i true) a' w') a w := by
  obtain ⟨hl0, o, ho0, hedge⟩ := ready_spec hr
  obtain ⟨hi, hsz⟩ := getD_false_of_true hl0
  have ho : ops[i]? = some o := by rw [← hops]; simpa using ho0
  have hin : i < ops.length := (List.getElem?_eq_some_iff.1 ho).1
  have hpre : ∀ j, bitAt M i j = true → listed.getD j false = true := by
    intro j hj
    obtain ⟨o', h1, e, h2, h3, h4⟩ := p.m i j hj
    rw [ho] at h1
    simp only [Option.some.injEq] at h1
    subst h1
    have := hedge e h2 h3
    rcases h4 with rfl | h4
    · exact this
    · exact C.low _ _ this h4
  obtain ⟨μ', k, hm, hk, hL, H, hB, hG, hv⟩ := C.rest
  have hs : ∀ t, okSlot M W i t = true → vw W T listed t = (T i).1.get t := fun t ht => Con.slot p C.low hi (by omega) hpre ht
  have hlow' : ∀ x j, (listed.setIfInBounds i true).getD x false = true → bitAt M x j = true → (listed.setIfInBounds i true).getD j false = true := by
    intro x j hx hb
    rw [getD_set hsz] at hx ⊢
    split
    · rfl
    · split at hx
      · rename_i e; subst e; exact hpre j hb
      · exact C.low x j hx hb
  have hlist : ∀ j, j ≠ i → ((listed.setIfInBounds i true).getD j false = true ↔ listed.getD j false = true) := by
    intro j hj
    rw [getD_set hsz, if_neg hj]
  have hex := p.ex i o ho
  unfold exD at hex
  unfold wpOp
  rw [ho0]
  dsimp only
  -- what is left behind a quiet operation
  have quiet : ∀ {h' : AH} {x : AV} {u : Value}, putT nt (T i).1 h' o.dst x = some (T (i + 1)) → loud P o = false → VR μ' x u → Con P B G M W ops nt T μ w0 df (listed.setIfInBounds i true) (a.put o.dst u) w := by
    intro h' x u hp hq hx
    obtain ⟨s1, s2⟩ := Con.slots p ho hi hsz (List.prefix_refl _) hp C.tsz hx hv
    refine ⟨by simpa using C.size, hlow', by rw [put_defers]; exact C.df, s1, μ', k, hm, hk, ?_, H, hB, hG, s2⟩
    intro j o' ho' hl'
    have : j ≠ i := by intro e; subst e; rw [ho] at ho'; simp at ho'; subst ho'; rw [hq] at hl'; simp at hl'
    rw [hlist j this]
    exact hL j o' ho' hl'
  split at hex
  · rename_i hwant
    rw [wantD_run hops hwant hs hv]
    simp only [if_true]
    refine .inl ?_
    have hρ := rhoD_run (a := a) hs hv hG
    unfold doD at hex
    unfold Oper.wp
    split at hex
    · rename_i hc
      have hq : loud P o = false := by unfold loud; rw [hc]
      split at hex
      · rename_i v hv'
        obtain ⟨u, h1, h2⟩ := ResR_val (aPure_run hρ hv' w)
        rw [h1]
        exact quiet hex hq h2
      · simp at hex
    · rename_i hc
      have hq : loud P o = false := by unfold loud; rw [hc]
      split at hex
      · rename_i v hv'
        have hread : aRead P (rhoD G M W i (T i).1) (T k).2 o.op = some (.val v) := by
          rcases p.rd i o ho hc with hok | hok
          · rw [(Con.heapAt p hin hi C.low hpre hk hL hok).1]; exact hv'
          · obtain ⟨v2, g1, g2⟩ := hok hwant
            rw [hv'] at g1
            simp only [Option.some.injEq, ANx.val.injEq] at g1
            subst g1
            refine sameRead_spec g2 k (T k) (p.st k hk) ?_
            intro j hj hpj
            obtain ⟨oj, e1, e2⟩ := (p.l j).1 hj
            have := hL j oj e1 e2
            rw [Nat.zero_add]
            rcases parted_spec hpj with ⟨f1, f2⟩ | ⟨f1, f2⟩
            · exact ⟨fun _ => this.1 (hpre j f2), fun h => absurd f1 h⟩
            · refine ⟨fun h => by omega, fun _ => ?_⟩
              rcases Nat.lt_or_ge j k with h | h
              · have := C.low j i (this.2 h) f2
                rw [hi] at this; simp at this
              · exact h
        obtain ⟨u, h1, h2⟩ := ResR_val (aRead_run hρ H hread)
        rw [h1]
        exact quiet hex hq h2
      · simp at hex
    · rename_i hc
      have hq : loud P o = true := by unfold loud; rw [hc]
      cases hok : okHeap M i L with
      | false => rw [hok] at hex; simp at hex
      | true =>
        rw [hok] at hex
        simp only [cond_true] at hex
        obtain ⟨hheap, hkey⟩ := Con.heapAt p hin hi C.low hpre hk hL hok
        rw [hheap] at H
        -- what is left behind a loud one
        have noisy : ∀ {μ2 : List (Nat × Nat)} {h' : AH} {x : AV} {u : Value} {w2 : World}, putT nt (T i).1 h' o.dst x = some (T (i + 1)) → μ' <+: μ2 → HR B μ2 h' w2 → Below B w w2 → VR μ2 x u →
            Con P B G M W ops nt T μ w0 df (listed.setIfInBounds i true) (a.put o.dst u) w2 := by
          intro μ2 h' x u w2 hp hm2 H2 hB2 hx
          obtain ⟨s1, s2⟩ := Con.slots p ho hi hsz hm2 hp C.tsz hx hv
          refine ⟨by simpa using C.size, hlow', by rw [put_defers]; exact C.df, s1, μ2, i + 1, hm.trans hm2, by omega, ?_, by rw [(putT_some hp).1]; exact H2, hB.trans hB2, blkG hm2 hG, s2⟩
          intro j o' ho' hl'
          rw [getD_set hsz]
          split
          · rename_i e; subst e; simp
          · rename_i e
            rw [hkey j o' ho' hl' e]
            omega
        split at hex
        · rename_i v h' hv'
          obtain ⟨μ2, w2, q1, q2, q3, q4⟩ := aLoud_run hρ H hv'
          obtain ⟨u, h1, h2⟩ := ResR_val q4
          rw [h1]
          exact noisy hex q1 q2 q3 h2
        · rename_i h' hv'
          obtain ⟨μ2, w2, q1, q2, q3, nx, h1, h2⟩ := aLoud_run hρ H hv'
          cases nx <;> first | exact h2.elim | skip
          rw [h1]
          exact noisy hex q1 q2 q3 (undef_VR _)
        · rename_i f args h' hv'
          obtain ⟨μ2, w2, q1, q2, q3, vs, q4, q5⟩ := aLoud_run hρ H hv'
          rw [q5]
          split at hex
          · rename_i v h'' hsv
            rcases hsub f args h' v h'' hsv μ2 w2 vs q2 (blkG q1 hG) q4 with ⟨μ3, w3, u, r1, r2, r3, r4, r5⟩ | ⟨r1, r2⟩
            · rw [r2]
              exact noisy hex (q1.trans r1) r4 (q3.trans r5) r3
            · rw [r1]
              refine Calls.mono r2 ?_
              rintro e w3 ⟨μ3, u, r3, rfl, r4, r5, r6⟩
              exact noisy hex (q1.trans r3) r5 (q3.trans r6) r4
          · simp at hex
        · simp at hex
  · rename_i hwant
    rw [wantD_run hops hwant hs hv]
    simp only [Bool.false_eq_true, if_false]
    cases hl : loud P o with
    | false =>
      rw [hl] at hex
      simp only [cond_false] at hex
      exact quiet hex hl (undef_VR _)
    | true =>
      rw [hl] at hex
      simp only [cond_true] at hex
      cases hok : okHeap M i L with
      | false => rw [hok] at hex; simp at hex
      | true =>
        rw [hok] at hex
        simp only [cond_true] at hex
        obtain ⟨hheap, hkey⟩ := Con.heapAt p hin hi C.low hpre hk hL hok
        rw [hheap] at H
        obtain ⟨s1, s2⟩ := Con.slots p ho hi hsz (List.prefix_refl _) hex C.tsz (undef_VR _) hv
        refine ⟨by simpa using C.size, hlow', by rw [put_defers]; exact C.df, s1, μ', i + 1, hm, by omega, ?_, by rw [(putT_some hex).1]; exact H, hB, hG, s2⟩
        intro j o' ho' hl'
        rw [getD_set hsz]
        split
        · rename_i e; subst e; simp
        · rename_i e
          rw [hkey j o' ho' hl' e]
          omega
  · simp at hex

/-- How many are left. -/
def left (listed : Array Bool) (n : Nat) : Nat := (List.range n).countP fun i => !listed.getD i true

theorem countP_lt {p q : Nat → Bool} : ∀ {l : List Nat} {i : Nat}, i ∈ l → p i = true → q i = false → (∀ j, q j = true → p j = true) → l.countP q < l.countP p
  | [], _, h, _, _, _ => by simp at h
  | x :: l, i, h, hp, hq, hle => by
    have mono : l.countP q ≤ l.countP p := List.countP_mono_left (fun j _ => hle j)
    rw [List.countP_cons, List.countP_cons]
    by_cases e : x = i
    · subst e
      rw [hp, hq]
      simp
      omega
    · have hi : i ∈ l := by
        rcases List.mem_cons.1 h with h | h
        · exact absurd h.symm e
        · exact h
      have := countP_lt hi hp hq hle
      have hx : (if q x = true then 1 else 0) ≤ (if p x = true then 1 else 0) := by
        cases hqx : q x with
        | false => simp
        | true => rw [hle x hqx]; simp
      omega

theorem left_lt {listed : Array Bool} {n i : Nat} (hi : listed.getD i true = false) (hn : i < n) : left (listed.setIfInBounds i true) n < left listed n := by
  obtain ⟨_, hsz⟩ := getD_false_of_true hi
  have hg : ∀ j, (listed.setIfInBounds i true).getD j true = if j = i then true else listed.getD j true := by
    intro j
    by_cases hj : j < listed.size
    · by_cases e : j = i
      · subst e; simp [Array.getD, hj]
      · simp [Array.getD, hj, e, Array.getElem_setIfInBounds_ne (h := Ne.symm e)]
    · simp [Array.getD, hj]
  unfold left
  refine countP_lt (List.mem_range.2 hn) (by simp [hi]) (by rw [hg]; simp) (fun j hj => ?_)
  rw [hg] at hj
  split at hj
  · simp at hj
  · exact hj

/-- Whatever order is picked: all operations are carried out in the end. -/
theorem Con.all (p : Plan P G sub M W L ops nt tr T) (hsub : CallSound P B G sub) {aops : Array Oper} (hops : aops.toList = ops) {Q : Exit → Act → World → Prop}
    (hQ : ∀ a w listed, Con P B G M W ops nt T μ w0 df listed a w → (∀ j, j < ops.length → listed.getD j false = true) → Q .normal a w) : ∀ (fuel : Nat) (listed : Array Bool) (a : Act) (w : World),
    Con P B G M W ops nt T μ w0 df listed a w → left listed ops.length ≤ fuel → wpAny P .any aops Q fuel listed a w := by
  have hsize : aops.size = ops.length := by rw [← hops]; simp
  have done : ∀ (listed : Array Bool) (a : Act) (w : World), Con P B G M W ops nt T μ w0 df listed a w → Region.ready .any aops listed = [] → Q .normal a w := by
    intro listed a w C hr
    refine hQ a w listed C ?_
    intro j hj
    induction j using Nat.strongRecOn with
    | _ j ih =>
      cases hl : listed.getD j false with
      | true => rfl
      | false =>
        exfalso
        have ho : ops[j]? = some ops[j] := List.getElem?_eq_getElem hj
        have hlt : listed.getD j true = false := by
          have hsz : j < listed.size := by rw [C.size]; exact hj
          simp [Array.getD, hsz] at hl ⊢
          exact hl
        have : j ∈ Region.ready .any aops listed := by
          unfold Region.ready
          rw [List.mem_filter]
          refine ⟨List.mem_range.2 (by rw [hsize]; exact hj), ?_⟩
          have ho' : aops[j]? = some ops[j] := by rw [← ho, ← hops]; simp
          rw [hlt, ho']
          simp only [Bool.not_false, Bool.true_and, Option.map_some, Option.getD_some]
          rw [← Array.all_toList, List.all_eq_true]
          intro e he
          cases hb : Region.binds .any e with
          | false => rfl
          | true =>
            have := p.back j _ ho e he hb
            simp only [Bool.not_true, Bool.false_or]
            exact ih e.on this (by omega)
        rw [hr] at this
        simp at this
  intro fuel
  induction fuel with
  | zero =>
    intro listed a w C hc
    have hr : Region.ready .any aops listed = [] := by
      rw [List.eq_nil_iff_forall_not_mem]
      intro i hi
      obtain ⟨h1, o, h2, _⟩ := ready_spec hi
      have hin : i < ops.length := by rw [← hsize]; exact (Array.getElem?_eq_some_iff.1 h2).1
      have := left_lt h1 hin
      omega
    exact ⟨hr, done listed a w C hr⟩
  | succ fuel ih =>
    intro listed a w C hc
    refine ⟨done listed a w C, fun i hi => ?_⟩
    have hstep := Con.step (Q := Q) p hsub hops C hi
    obtain ⟨h1, o, h2, _⟩ := ready_spec hi
    have hin : i < ops.length := by rw [← hsize]; exact (Array.getElem?_eq_some_iff.1 h2).1
    have hlt := left_lt h1 hin
    exact wpOp_mono (fun a' w' C' => ih _ a' w' C' (by omega)) hstep

theorem lastD_some {tr : List St} {b : Bool} {s : St} (h : lastD (some tr) b = some s) : ∃ r, tr = s :: r ∧ b = true := by
  cases tr with
  | nil => simp [lastD] at h
  | cons x r =>
    cases b with
    | false => simp [lastD] at h
    | true => simp [lastD] at h; subst h; exact ⟨r, rfl, rfl⟩

/-- The plan of a region whose walk went through. -/
theorem runD_plan {tm : Tr AV} {h : AH} {s : St} (hr : runD P G sub ops nt tm h = some s) : ∃ M W L tr T, Plan P G sub M W L ops nt tr T ∧ T 0 = (tm, h) ∧ T ops.length = s := by
  unfold runD at hr
  cases hc : (allW (writersFrom ops 0) ops 0 && allBack 0 ops) with
  | false => rw [hc] at hr; simp at hr
  | true =>
    rw [hc] at hr
    simp only [cond_true] at hr
    simp only [Bool.and_eq_true] at hc
    split at hr
    · rename_i tr htr
      obtain ⟨seg, h1, h2, h3, h4⟩ := txtD_spec htr
      simp only [List.reverse_nil, List.nil_append] at h1
      have hlast : ∃ r, tr = s :: r ∧ chkR P G (masksFrom [] ops) (writersFrom ops 0) (loudsFrom P ops 0) ops tr.reverse ops tr.reverse 0 = true := by
        exact lastD_some hr
      obtain ⟨r, hr1, hr2⟩ := hlast
      have hT : ∀ k, k ≤ ops.length → seg[k]? = some (seg.getD k (tm, h)) := by
        intro k hk
        have : k < seg.length := by omega
        simp [List.getD_eq_getElem?_getD, this]
      refine ⟨masksFrom [] ops, writersFrom ops 0, loudsFrom P ops 0, tr.reverse, fun k => seg.getD k (tm, h), ⟨?_, ?_, ?_, ?_, ?_, ?_, ?_⟩, ?_, ?_⟩
      · intro j o d h5 h6
        have := allW_spec hc.1 j o d h5 h6
        simpa using this
      · intro j o h5 e h6 h7
        have := allBack_spec hc.2 j o h5 e h6 h7
        omega
      · intro i j h5; exact bitAt_spec h5
      · intro j
        rw [loudsFrom_spec]
        constructor
        · rintro ⟨k, o, g1, g2, g3⟩
          have : j = k := by omega
          subst this
          exact ⟨o, g1, g2⟩
        · rintro ⟨o, g1, g2⟩
          exact ⟨j, o, g1, g2, by omega⟩
      · intro k hk
        rw [h1]; exact hT k hk
      · intro i o ho
        obtain ⟨x, y, g1, g2, g3⟩ := h4 i o ho
        have hi : i < ops.length := (List.getElem?_eq_some_iff.1 ho).1
        have e1 := hT i (by omega)
        have e2 := hT (i + 1) (by omega)
        rw [g1] at e1
        rw [g2] at e2
        simp only [Option.some.injEq] at e1 e2
        rw [← e1, ← e2]
        rw [Nat.zero_add] at g3
        exact g3
      · intro i o ho hcl
        have hi : i < ops.length := (List.getElem?_eq_some_iff.1 ho).1
        have hs : tr.reverse[i]? = some (seg.getD i (tm, h)) := by rw [h1]; exact hT i (by omega)
        have := chkR_spec hr2 i o _ ho hs hcl
        rw [Nat.zero_add] at this
        exact this
      · simp [List.getD_eq_getElem?_getD, h3]
      · have : seg = (s :: r).reverse := by rw [← h1, hr1]
        have hlen : r.length = ops.length := by
          have := congrArg List.length this
          rw [h2] at this
          simp at this
          omega
        rw [this]
        simp [List.getD_eq_getElem?_getD, ← hlen]
    · simp at hr

/-- The whole region. -/
theorem runD_run (hmix : P.follows .mixedOrders = true) (hsub : CallSound P B G sub) {aops : Array Oper} {id : Nat} {tm : Tr AV} {h : AH} {s : St} {b : Frame} {k : List Item} {cs : List Frame} (hr : runD P G sub aops.toList nt tm h = some s)
    (ht : TR μ nt tm a.tmps) (H : HR B μ h w) (hG : ∀ g, g < G → blk μ g = some g) :
    ∃ μ' a' w', μ <+: μ' ∧ Steps P (lone (b.at a (.code (.region id aops true) :: k)) cs w) (lone (b.at a' k) cs w') ∧ TR μ' nt s.1 a'.tmps ∧ a'.defers = a.defers ∧ HR B μ' s.2 w' ∧ Below B w w' ∧ ∀ g, g < G → blk μ' g = some g := by
  obtain ⟨M, W, L, tr, T, p, hT0, hTn⟩ := runD_plan hr
  let Q : Exit → Act → World → Prop := fun e a' w' => e = .normal ∧ ∃ μ', μ <+: μ' ∧ TR μ' nt s.1 a'.tmps ∧ a'.defers = a.defers ∧ HR B μ' s.2 w' ∧ Below B w w' ∧ ∀ g, g < G → blk μ' g = some g
  have hrep : ∀ j, (Array.replicate aops.size false).getD j false = false := by
    intro j
    by_cases hj : j < aops.size
    · simp [Array.getD, hj]
    · simp [Array.getD, hj]
  have C0 : Con P B G M W aops.toList nt T μ w a.defers (Array.replicate aops.size false) a { w with drawn := w.drawn + 1 } := by
    refine ⟨by simp, fun i j hi _ => by rw [hrep] at hi; simp at hi, rfl, ht.1, μ, 0, List.prefix_refl _, Nat.zero_le _, ?_, by rw [hT0]; exact H.drew, (Below.refl _ _).drew, hG, ?_⟩
    · intro j o _ _
      rw [hrep]; simp
    · intro t v hv
      have : vw W T (Array.replicate aops.size false) t = tm.get t := by
        unfold vw
        cases hw : W.get t with
        | none => dsimp only; rw [hT0]
        | some j => dsimp only; rw [hrep, hT0]; simp
      rw [this] at hv
      exact ht.2 t v hv
  have hfin : ∀ a' w' listed, Con P B G M W aops.toList nt T μ w a.defers listed a' w' → (∀ j, j < aops.toList.length → listed.getD j false = true) → Q .normal a' w' := by
    intro a' w' listed C hall
    obtain ⟨μ', k', hm, hk, hL, H', hB, hG', hv⟩ := C.rest
    refine ⟨rfl, μ', hm, ⟨C.tsz, ?_⟩, C.df, ?_, hB, hG'⟩
    · intro t v htv
      refine hv t v ?_
      rw [← htv, ← hTn]
      unfold vw
      cases hw : W.get t with
      | none => exact (p.before _ (Nat.le_refl _) (fun j hj => by rw [hw] at hj; simp at hj)).symm
      | some j =>
        dsimp only
        by_cases hj : j < aops.toList.length
        · rw [hall j hj]
          simp only [if_true]
          exact (p.behind hw _ hj (Nat.le_refl _)).symm
        · have hnl : listed.getD j false = false := by
            have : ¬ j < listed.size := by rw [C.size]; exact hj
            simp [Array.getD, this]
          rw [hnl]
          simp only [Bool.false_eq_true, if_false]
          exact (p.before _ (Nat.le_refl _) (fun j' hj' => by rw [hw] at hj'; simp at hj'; omega)).symm
    · rw [← hTn]
      have : (T aops.toList.length).2 = (T k').2 := by
        refine p.still _ hk (Nat.le_refl _) (fun j o h1 h2 ho => ?_)
        cases hl : loud P o with
        | false => rfl
        | true =>
          have := (hL j o ho hl).1 (hall j h2)
          omega
      rw [this]; exact H'
  have hany := Con.all (μ := μ) p hsub rfl hfin aops.size (Array.replicate aops.size false) a _ C0 (by
    unfold left
    have := List.countP_le_length (p := fun i => !(Array.replicate aops.size false).getD i true) (l := List.range aops.toList.length)
    simpa using this)
  have hops : ∀ t, wpOps P aops Q (Region.schedule (P.follows .mixedOrders) aops t) a { w with drawn := w.drawn + 1 } := by
    intro t
    have := wpAny_sound aops.size t _ _ _ hany
    rw [hmix]
    simpa [Region.schedule, Region.linearise] using this
  obtain ⟨e, a', w', ⟨rfl, μ', q1, q2, q3, q4, q5, q6⟩, harr⟩ := wp_ops _ a _ (hops (w.tape w.drawn (.order b.fn id))) b k cs
  exact ⟨μ', a', w', q1, Steps.head step_region_draw harr, q2, q3, q4, q5, q6⟩
end
end Go.Ev
