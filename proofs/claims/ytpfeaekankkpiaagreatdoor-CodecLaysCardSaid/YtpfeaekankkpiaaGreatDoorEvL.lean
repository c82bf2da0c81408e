/-
  A region that draws its order: one operation, and the whole region.
-/
import Derived.Test.YtpfeaekankkpiaaGreatDoorEvK
namespace Go.Ev
open Go Go.RowKit
section
variable {P : Program} {B : Nat → Nat} {G : Nat} {sub : Sub} {M : List Nat} {W : Tr Nat} {L : List Nat} {ops : List Oper} {FD : List (Nat × Nat)} {nt : Nat} {tr : List St} {T : Nat → St} {n : Nat}
variable {μ : List (Nat × Nat)} {w0 w : World} {df : List Deferred} {listed : Array Bool} {a : Act} {i : Nat} {o : Oper}

theorem put_defers (a : Act) (d : Option Nat) (u : Value) : (a.put d u).defers = a.defers := by cases d <;> rfl

theorem ResR_val {μ : List (Nat × Nat)} {w : World} {x : AV} {r : Result Next} (h : ResR P μ w (.val x) r) : ∃ u, r = .ok (.value u) w ∧ VR μ x u := by
  obtain ⟨nx, h1, h2⟩ := h
  cases nx <;> first | exact h2.elim | skip
  rename_i u
  exact ⟨u, h1, h2⟩

/-- A function, but for one place. -/
def mkS (S : Nat → Nat) (b v : Nat) : Nat → Nat := fun k => if k = b then v else S k
theorem mkS_eq (S : Nat → Nat) (b v : Nat) : mkS S b v b = v := if_pos rfl
theorem mkS_ne {S : Nat → Nat} {b v k : Nat} (h : k ≠ b) : mkS S b v k = S k := if_neg h

set_option maxHeartbeats 1000000 in
/-- One operation, whichever is ready. -/
theorem Con.step (p : Plan P G sub M W L ops FD nt tr T n) (hsub : CallSound P G sub) {aops : Array Oper} (hops : aops.toList = ops) {Q : Exit → Act → World → Prop} (C : Con P B G M W ops FD nt T n μ w0 df listed a w) (hr : i ∈ Region.ready .any aops listed) (hin : i < n) :
    wpOp P aops Q i (fun a' w' => Con P B G M W ops FD nt T n μ w0 df (listed.setIfInBounds i true) a' w') a w := by
  obtain ⟨hl0, o, ho0, hedge⟩ := ready_spec hr
  obtain ⟨hi, hsz⟩ := getD_false_of_true hl0
  have ho : ops[i]? = some o := by rw [← hops]; simpa using ho0
  have hpre : ∀ j, bitAt M i j = true → listed.getD j false = true := by
    intro j hj
    obtain ⟨o', h1, e, h2, h3, h4⟩ := p.m i j hj
    rw [ho] at h1
    simp only [Option.some.injEq] at h1
    subst h1
    have := hedge e h2 h3
    rcases h4 with rfl | h4
    · exact this
    · exact C.low _ _ this h4
  obtain ⟨S, μ', k, pb, hBS, hm, hk, hL, H, hB, hG, hv, hP⟩ := C.rest
  have hs : ∀ t, okSlot M W i t = true → vw W T listed t = (T i).1.get t := fun t ht => Con.slot p C.low hi (by omega) hpre ht
  have hlow' : ∀ x j, (listed.setIfInBounds i true).getD x false = true → bitAt M x j = true → (listed.setIfInBounds i true).getD j false = true := by
    intro x j hx hb
    rw [getD_set hsz] at hx ⊢
    split
    · rfl
    · split at hx
      · rename_i e; subst e; exact hpre j hb
      · exact C.low x j hx hb
  have hlt' : ∀ j, (listed.setIfInBounds i true).getD j false = true → j < n := by
    intro j hj
    rw [getD_set hsz] at hj
    split at hj
    · omega
    · exact C.lt j hj
  have hlist : ∀ j, j ≠ i → ((listed.setIfInBounds i true).getD j false = true ↔ listed.getD j false = true) := by
    intro j hj
    rw [getD_set hsz, if_neg hj]
  -- whoever waits behind the operation, and is not it, waited ahead of it
  have hwait : ∀ {f d u : Nat} {fo : Oper}, Wait G M W ops FD T (listed.setIfInBounds i true) f d u fo → f ≠ i → Wait G M W ops FD T listed f d u fo ∧ u ≠ i := by
    intro f d u fo hw hf
    have h1 := hw.open_
    rw [getD_set hsz] at h1
    split at h1
    · cases h1
    · rename_i hu
      exact ⟨⟨(hlist f hf).1 hw.done, hw.op, hw.fl, hw.dst, hw.user, h1, hw.want⟩, hu⟩
  -- a slot that waits is not the operation's
  have hother : ∀ {f d u : Nat} {fo : Oper} (x : Value), Wait G M W ops FD T listed f d u fo → (a.put o.dst x).tmps[d]? = a.tmps[d]? := by
    intro f d u fo x hw
    have hne : f ≠ i := by intro e; subst e; have := hw.done; rw [hi] at this; cases this
    cases hd : o.dst with
    | none => rfl
    | some d' =>
      have h1 := p.w i o d' ho hd
      have h2 := p.w f fo d hw.op hw.dst
      have : d' ≠ d := by intro e; subst e; rw [h1] at h2; exact hne (Option.some.inj h2).symm
      simp only [Act.put]
      rw [Array.getElem?_setIfInBounds_ne this]
  have hex := p.ex i o hin ho
  unfold wpOp
  rw [ho0]
  dsimp only
  cases hfl : isFl FD o with
  | true =>
    obtain ⟨hput, b, hwB, hfr⟩ := exD_fl hfl hex
    have hld : ld P FD o = false := by unfold ld; rw [hfl]; rfl
    have hL' : ∀ j o', ops[j]? = some o' → ld P FD o' = true → ((listed.setIfInBounds i true).getD j false = true ↔ j < k) := by
      intro j o' ho' hl'
      have : j ≠ i := by intro e; subst e; rw [ho] at ho'; simp at ho'; subst ho'; rw [hld] at hl'; cases hl'
      rw [hlist j this]
      exact hL j o' ho' hl'
    rw [wantD_run hops (wantB_wantD hwB) hs hv]
    cases b with
    | true =>
      simp only [if_true]
      refine .inl ?_
      obtain ⟨⟨e, len, r⟩, hq⟩ := hfr rfl
      have hρ := rhoD_run (a := a) hs hv hG
      obtain ⟨arr, hrun, harr⟩ := aFresh_run (fun x v hx => hρ x v (rhoB_rhoD hx)) hq w
      unfold Oper.wp
      rw [hrun]
      show Con P B G M W ops FD nt T n μ w0 df (listed.setIfInBounds i true) (a.put o.dst (.slice (some ⟨w.heap.size, 0, none⟩) len len)) (w.alloc (.cells arr e))
      obtain ⟨s1, s2⟩ := Con.slotsN (u := .slice (some ⟨w.heap.size, 0, none⟩) len len) p hin ho hi hsz hput C.tsz hv
      obtain ⟨d, hd, hd1, hd2, hd3⟩ := putN_some hput
      have hB0 : B w.heap.size = 0 := Classical.byContradiction fun hne => Nat.lt_irrefl _ (H.bsz _ (by rw [hBS _ hne]; exact hne))
      have H1 : HR S μ' (T k).2 (w.alloc (.cells arr e)) := H.beside (by simp) (fun b hb => heap_push_lt w _ b hb)
      have hold : ∀ f d u fo, Wait G M W ops FD T listed f d u fo → pb f < w.heap.size ∧ pb f ≠ w.heap.size := fun f d u fo hw => by
        have := H.bsz (pb f) (by rw [(hP.own f d u fo hw).1]; omega)
        omega
      refine ⟨by simpa using C.size, hlt', hlow', by rw [put_defers]; exact C.df, s1, mkS S w.heap.size 2, μ', k, mkS pb i w.heap.size, ?_, hm, hk, hL', ?_, ?_, hG, s2, ?_, ?_, ?_⟩
      · intro b hb
        by_cases e : b = w.heap.size
        · subst e; exact absurd hB0 hb
        · rw [mkS_ne e]; exact hBS b hb
      · refine ⟨H1.len, fun id ob hob => ?_, H1.inj, fun b hb => ?_, H1.nle⟩
        · obtain ⟨b', C', h1, h2⟩ := H1.obj id ob hob
          obtain ⟨b2, C2, g1, g2⟩ := H.obj id ob hob
          rw [h1] at g1
          simp only [Option.some.injEq, Prod.mk.injEq] at g1
          obtain ⟨rfl, rfl⟩ := g1
          have hne : b' ≠ w.heap.size := by have := g2.lt; omega
          refine ⟨b', C', h1, ?_⟩
          cases ob with
          | cells cs t ro g =>
            obtain ⟨arr', fz, k1, k2, k3, k4, k5⟩ := h2
            exact ⟨arr', fz, k1, k2, fun e => by rw [mkS_ne hne]; exact k3 e, k4, by rw [mkS_ne hne]; exact k5⟩
        · by_cases e : b = w.heap.size
          · subst e; simp
          · rw [mkS_ne e] at hb; exact H1.bsz b hb
      · exact hB.alloc (fun b hb => H.bsz b (by rw [hBS b hb]; exact hb)) _
      · intro f d' u fo hw
        by_cases e : f = i
        · rw [e, mkS_eq, mkS_eq]; exact ⟨rfl, hB0⟩
        · obtain ⟨hw', _⟩ := hwait hw e
          rw [mkS_ne e, mkS_ne (hold f d' u fo hw').2]
          exact hP.own f d' u fo hw'
      · intro f d' u fo e' len' r' hw hfr'
        by_cases e0 : f = i
        · subst e0
          have hfo := hw.op
          rw [ho] at hfo; cases hfo
          have hdd := hw.dst
          rw [hd] at hdd; cases hdd
          rw [hq] at hfr'; cases hfr'
          rw [mkS_eq, hd]
          refine ⟨by simp [Act.put, C.tsz, hd1], arr, heap_push_new w _, harr⟩
        · obtain ⟨hw', _⟩ := hwait hw e0
          obtain ⟨g1, arr', g2, g3⟩ := hP.row f d' u fo e' len' r' hw' hfr'
          rw [mkS_ne e0]
          exact ⟨by rw [hother _ hw']; exact g1, arr', by rw [heap_push_lt w _ _ (hold f d' u fo hw').1]; exact g2, g3⟩
      · intro f d1 u1 fo1 f' d2 u2 fo2 hw1 hw2 he
        by_cases e1 : f = i
        · by_cases e2 : f' = i
          · rw [e1, e2]
          · rw [e1, mkS_eq, mkS_ne e2] at he
            exact absurd he.symm (hold f' d2 u2 fo2 (hwait hw2 e2).1).2
        · by_cases e2 : f' = i
          · rw [e2, mkS_ne e1, mkS_eq] at he
            exact absurd he (hold f d1 u1 fo1 (hwait hw1 e1).1).2
          · rw [mkS_ne e1, mkS_ne e2] at he
            exact hP.inj f d1 u1 fo1 f' d2 u2 fo2 (hwait hw1 e1).1 (hwait hw2 e2).1 he
    | false =>
      simp only [Bool.false_eq_true, if_false]
      obtain ⟨s1, s2⟩ := Con.slotsN (u := undef) p hin ho hi hsz hput C.tsz hv
      have hne : ∀ {f d u : Nat} {fo : Oper}, Wait G M W ops FD T (listed.setIfInBounds i true) f d u fo → f ≠ i := by
        intro f d u fo hw e
        subst e
        have hfo := hw.op
        rw [ho] at hfo; cases hfo
        have := hw.want
        rw [hwB] at this; cases this
      refine ⟨by simpa using C.size, hlt', hlow', by rw [put_defers]; exact C.df, s1, S, μ', k, pb, hBS, hm, hk, hL', H, hB, hG, s2, ?_, ?_, ?_⟩
      · intro f d u fo hw; exact hP.own f d u fo (hwait hw (hne hw)).1
      · intro f d u fo e len r hw hfr'
        obtain ⟨g1, g2⟩ := hP.row f d u fo e len r (hwait hw (hne hw)).1 hfr'
        exact ⟨by rw [hother _ (hwait hw (hne hw)).1]; exact g1, g2⟩
      · intro f d1 u1 fo1 f' d2 u2 fo2 hw1 hw2 he
        exact hP.inj f d1 u1 fo1 f' d2 u2 fo2 (hwait hw1 (hne hw1)).1 (hwait hw2 (hne hw2)).1 he
  | false =>
  have hld : ld P FD o = loud P o := by unfold ld; rw [hfl]; rfl
  have hneF : ∀ {f d u : Nat} {fo : Oper}, Wait G M W ops FD T (listed.setIfInBounds i true) f d u fo → f ≠ i := by
    intro f d u fo hw e
    subst e
    have hfo := hw.op
    rw [ho] at hfo; cases hfo
    have := hw.fl
    rw [hfl] at this; cases this
  -- what waits, waits still
  have hpend : ∀ {μ2 : List (Nat × Nat)} {S2 : Nat → Nat} {u : Value} {w2 : World}, μ' <+: μ2 → (∀ f d u fo, Wait G M W ops FD T listed f d u fo → u ≠ i → S2 (pb f) = 2 ∧ w2.heap[pb f]? = w.heap[pb f]?) →
      Pend P B G M W ops FD T (listed.setIfInBounds i true) (a.put o.dst u) w2 μ2 S2 pb := by
    intro μ2 S2 u w2 hm2 h2
    refine ⟨?_, ?_, ?_⟩
    · intro f d u fo hw
      obtain ⟨hw', hu⟩ := hwait hw (hneF hw)
      exact ⟨(h2 f d u fo hw' hu).1, (hP.own f d u fo hw').2⟩
    · intro f d u fo e len r hw hfr'
      obtain ⟨hw', hu⟩ := hwait hw (hneF hw)
      obtain ⟨g1, arr', g2, g3⟩ := hP.row f d u fo e len r hw' hfr'
      exact ⟨by rw [hother _ hw']; exact g1, arr', by rw [(h2 f d u fo hw' hu).2]; exact g2, VRs_mono hm2 _ _ g3⟩
    · intro f d1 u1 fo1 f' d2 u2 fo2 hw1 hw2 he
      exact hP.inj f d1 u1 fo1 f' d2 u2 fo2 (hwait hw1 (hneF hw1)).1 (hwait hw2 (hneF hw2)).1 he
  have hpend0 : ∀ {u : Value}, Pend P B G M W ops FD T (listed.setIfInBounds i true) (a.put o.dst u) w μ' S pb := fun {u} => hpend (List.prefix_refl _) (fun f d u fo hw _ => ⟨(hP.own f d u fo hw).1, rfl⟩)
  unfold exD at hex
  rw [hfl] at hex
  simp only [cond_false] at hex
  -- what is left behind a quiet operation
  have quiet : ∀ {h' : AH} {x : AV} {u : Value}, putT nt (T i).1 h' o.dst x = some (T (i + 1)) → loud P o = false → VR μ' x u → Con P B G M W ops FD nt T n μ w0 df (listed.setIfInBounds i true) (a.put o.dst u) w := by
    intro h' x u hp hq hx
    obtain ⟨s1, s2⟩ := Con.slots p hin ho hi hsz (List.prefix_refl _) hp C.tsz hx hv
    refine ⟨by simpa using C.size, hlt', hlow', by rw [put_defers]; exact C.df, s1, S, μ', k, pb, hBS, hm, hk, ?_, H, hB, hG, s2, hpend0⟩
    intro j o' ho' hl'
    have : j ≠ i := by intro e; subst e; rw [ho] at ho'; simp at ho'; subst ho'; rw [hld, hq] at hl'; simp at hl'
    rw [hlist j this]
    exact hL j o' ho' hl'
  split at hex
  · rename_i hwant
    rw [wantD_run hops hwant hs hv]
    simp only [if_true]
    refine .inl ?_
    have hρ := rhoD_run (a := a) hs hv hG
    unfold doD at hex
    unfold Oper.wp
    split at hex
    · rename_i hc
      have hq : loud P o = false := by unfold loud; rw [hc]
      split at hex
      · rename_i v hv'
        obtain ⟨u, h1, h2⟩ := ResR_val (aPure_run hρ hv' w)
        rw [h1]
        exact quiet hex hq h2
      · simp at hex
    · rename_i hc
      have hq : loud P o = false := by unfold loud; rw [hc]
      split at hex
      · rename_i v hv'
        have hread : aRead P (rhoD G M W i (T i).1) (T k).2 o.op = some (.val v) := by
          rcases p.rd i o hin ho hc with hok | hok
          · rw [(Con.heapAt p (Nat.le_of_lt hin) hi C.low hpre hk hL hok).1]; exact hv'
          · obtain ⟨v2, g1, g2⟩ := hok hwant
            rw [hv'] at g1
            simp only [Option.some.injEq, ANx.val.injEq] at g1
            subst g1
            refine sameRead_spec g2 k (T k) (p.st k hk) ?_
            intro j hj hpj
            obtain ⟨oj, e1, e2⟩ := (p.l j).1 hj
            have := hL j oj e1 e2
            rw [Nat.zero_add]
            rcases parted_spec hpj with ⟨f1, f2⟩ | ⟨f1, f2⟩
            · exact ⟨fun _ => this.1 (hpre j f2), fun h => absurd f1 h⟩
            · refine ⟨fun h => by omega, fun _ => ?_⟩
              rcases Nat.lt_or_ge j k with h | h
              · have := C.low j i (this.2 h) f2
                rw [hi] at this; simp at this
              · exact h
        obtain ⟨u, h1, h2⟩ := ResR_val (aRead_run hρ H hread)
        rw [h1]
        exact quiet hex hq h2
      · simp at hex
    · rename_i hc
      have hq : loud P o = true := by unfold loud; rw [hc]
      cases hok : okHeap M i L with
      | false => rw [hok] at hex; simp at hex
      | true =>
        rw [hok] at hex
        simp only [cond_true] at hex
        obtain ⟨hheap, hkey⟩ := Con.heapAt p (Nat.le_of_lt hin) hi C.low hpre hk hL hok
        rw [hheap] at H
        split at hex
        · rename_i ρ' h0 had
          -- the new slices that it takes are laid
          obtain ⟨S1, μ1, m1, hBS1, H1, hρ1, hS1⟩ : ∃ S' μ2, μ' <+: μ2 ∧ (∀ b, B b ≠ 0 → S' b = B b) ∧ HR S' μ2 h0 w ∧ (∀ x v, ρ' x = some v → VR μ2 v (a.eval x)) ∧ (∀ f d u fo, Wait G M W ops FD T listed f d u fo → u ≠ i → S' (pb f) = 2) := by
            unfold adopt at had
            split at had
            · exact adoptL_run p (Nat.le_of_lt hin) hi hpre hP.inj (fun f d u fo hw => (hP.own f d u fo hw).2) _ had H hBS hρ (fun f d u fo hw _ => (hP.own f d u fo hw).1) hP.row
            · simp only [Option.some.injEq, Prod.mk.injEq] at had
              obtain ⟨rfl, rfl⟩ := had
              exact ⟨S, μ', List.prefix_refl _, hBS, H, hρ, fun f d u fo hw _ => (hP.own f d u fo hw).1⟩
          -- what is left behind a loud one
          have noisy : ∀ {μ2 : List (Nat × Nat)} {h' : AH} {x : AV} {u : Value} {w2 : World}, putT nt (T i).1 h' o.dst x = some (T (i + 1)) → μ1 <+: μ2 → HR S1 μ2 h' w2 → Bel S1 w w2 → VR μ2 x u →
              Con P B G M W ops FD nt T n μ w0 df (listed.setIfInBounds i true) (a.put o.dst u) w2 := by
            intro μ2 h' x u w2 hp hm2 H2 hB2 hx
            obtain ⟨s1, s2⟩ := Con.slots p hin ho hi hsz (m1.trans hm2) hp C.tsz hx hv
            refine ⟨by simpa using C.size, hlt', hlow', by rw [put_defers]; exact C.df, s1, S1, μ2, i + 1, pb, hBS1, hm.trans (m1.trans hm2), by omega, ?_, by rw [(putT_some hp).1]; exact H2, hB.trans (hB2.sub (fun b hb => by rw [hBS1 b hb]; exact hb)), blkG (m1.trans hm2) hG, s2,
              hpend (m1.trans hm2) (fun f d u fo hw hu => ⟨hS1 f d u fo hw hu, hB2.block _ (by rw [hS1 f d u fo hw hu]; omega)⟩)⟩
            intro j o' ho' hl'
            rw [getD_set hsz]
            split
            · rename_i e; subst e; simp
            · rename_i e
              rw [hkey j o' ho' hl' e]
              omega
          split at hex
          · rename_i v h' hv'
            obtain ⟨μ2, w2, q1, q2, q3, q4⟩ := aLoud_run hρ1 H1 hv'
            obtain ⟨u, h1, h2⟩ := ResR_val q4
            rw [h1]
            exact noisy hex q1 q2 q3 h2
          · rename_i h' hv'
            obtain ⟨μ2, w2, q1, q2, q3, nx, h1, h2⟩ := aLoud_run hρ1 H1 hv'
            cases nx <;> first | exact h2.elim | skip
            rw [h1]
            exact noisy hex q1 q2 q3 (undef_VR _)
          · rename_i f args h' hv'
            obtain ⟨μ2, w2, q1, q2, q3, vs, q4, q5⟩ := aLoud_run hρ1 H1 hv'
            rw [q5]
            split at hex
            · rename_i v h'' hsv
              rcases hsub S1 f args h' v h'' hsv μ2 w2 vs q2 (blkG (m1.trans q1) hG) q4 with ⟨μ3, w3, u, r1, r2, r3, r4, r5⟩ | ⟨r1, r2⟩
              · rw [r2]
                exact noisy hex (q1.trans r1) r4 (q3.trans r5) r3
              · rw [r1]
                refine Calls.mono r2 ?_
                rintro e w3 ⟨μ3, u, r3, rfl, r4, r5, r6⟩
                exact noisy hex (q1.trans r3) r5 (q3.trans r6) r4
            · simp at hex
          · simp at hex
        · simp at hex
  · rename_i hwant
    rw [wantD_run hops hwant hs hv]
    simp only [Bool.false_eq_true, if_false]
    cases hl : loud P o with
    | false =>
      rw [hl] at hex
      simp only [cond_false] at hex
      exact quiet hex hl (undef_VR _)
    | true =>
      rw [hl] at hex
      simp only [cond_true] at hex
      cases hok : okHeap M i L with
      | false => rw [hok] at hex; simp at hex
      | true =>
        rw [hok] at hex
        simp only [cond_true] at hex
        obtain ⟨hheap, hkey⟩ := Con.heapAt p (Nat.le_of_lt hin) hi C.low hpre hk hL hok
        rw [hheap] at H
        obtain ⟨s1, s2⟩ := Con.slots p hin ho hi hsz (List.prefix_refl _) hex C.tsz (undef_VR _) hv
        refine ⟨by simpa using C.size, hlt', hlow', by rw [put_defers]; exact C.df, s1, S, μ', i + 1, pb, hBS, hm, by omega, ?_, by rw [(putT_some hex).1]; exact H, hB, hG, s2, hpend0⟩
        intro j o' ho' hl'
        rw [getD_set hsz]
        split
        · rename_i e; subst e; simp
        · rename_i e
          rw [hkey j o' ho' hl' e]
          omega
  · simp at hex

/-- How many are left. -/
def left (listed : Array Bool) (n : Nat) : Nat := (List.range n).countP fun i => !listed.getD i true

theorem countP_lt {p q : Nat → Bool} : ∀ {l : List Nat} {i : Nat}, i ∈ l → p i = true → q i = false → (∀ j, q j = true → p j = true) → l.countP q < l.countP p
  | [], _, h, _, _, _ => by simp at h
  | x :: l, i, h, hp, hq, hle => by
    have mono : l.countP q ≤ l.countP p := List.countP_mono_left (fun j _ => hle j)
    rw [List.countP_cons, List.countP_cons]
    by_cases e : x = i
    · subst e
      rw [hp, hq]
      simp
      omega
    · have hi : i ∈ l := by
        rcases List.mem_cons.1 h with h | h
        · exact absurd h.symm e
        · exact h
      have := countP_lt hi hp hq hle
      have hx : (if q x = true then 1 else 0) ≤ (if p x = true then 1 else 0) := by
        cases hqx : q x with
        | false => simp
        | true => rw [hle x hqx]; simp
      omega

theorem left_lt {listed : Array Bool} {n i : Nat} (hi : listed.getD i true = false) (hn : i < n) : left (listed.setIfInBounds i true) n < left listed n := by
  obtain ⟨_, hsz⟩ := getD_false_of_true hi
  have hg : ∀ j, (listed.setIfInBounds i true).getD j true = if j = i then true else listed.getD j true := by
    intro j
    by_cases hj : j < listed.size
    · by_cases e : j = i
      · subst e; simp [Array.getD, hj]
      · simp [Array.getD, hj, e, Array.getElem_setIfInBounds_ne (h := Ne.symm e)]
    · simp [Array.getD, hj]
  unfold left
  refine countP_lt (List.mem_range.2 hn) (by simp [hi]) (by rw [hg]; simp) (fun j hj => ?_)
  rw [hg] at hj
  split at hj
  · simp at hj
  · exact hj

/-- Whatever order is picked: all operations are carried out in the end. -/
theorem Con.all (p : Plan P G sub M W L ops FD nt tr T n) (hsub : CallSound P G sub) {aops : Array Oper} (hops : aops.toList = ops) {Q : Exit → Act → World → Prop}
    (hQ : ∀ a w listed, Con P B G M W ops FD nt T n μ w0 df listed a w → (∀ j, j < ops.length → listed.getD j false = true) → Q .normal a w)
    (hbad : ∀ a w listed i (K : Act → World → Prop), Con P B G M W ops FD nt T n μ w0 df listed a w → i ∈ Region.ready .any aops listed → ¬ i < n → wpOp P aops Q i K a w) : ∀ (fuel : Nat) (listed : Array Bool) (a : Act) (w : World),
    Con P B G M W ops FD nt T n μ w0 df listed a w → left listed ops.length ≤ fuel → wpAny P .any aops Q fuel listed a w := by
  have hsize : aops.size = ops.length := by rw [← hops]; simp
  have done : ∀ (listed : Array Bool) (a : Act) (w : World), Con P B G M W ops FD nt T n μ w0 df listed a w → Region.ready .any aops listed = [] → Q .normal a w := by
    intro listed a w C hr
    refine hQ a w listed C ?_
    intro j hj
    induction j using Nat.strongRecOn with
    | _ j ih =>
      cases hl : listed.getD j false with
      | true => rfl
      | false =>
        exfalso
        have ho : ops[j]? = some ops[j] := List.getElem?_eq_getElem hj
        have hlt : listed.getD j true = false := by
          have hsz : j < listed.size := by rw [C.size]; exact hj
          simp [Array.getD, hsz] at hl ⊢
          exact hl
        have : j ∈ Region.ready .any aops listed := by
          unfold Region.ready
          rw [List.mem_filter]
          refine ⟨List.mem_range.2 (by rw [hsize]; exact hj), ?_⟩
          have ho' : aops[j]? = some ops[j] := by rw [← ho, ← hops]; simp
          rw [hlt, ho']
          simp only [Bool.not_false, Bool.true_and, Option.map_some, Option.getD_some]
          rw [← Array.all_toList, List.all_eq_true]
          intro e he
          cases hb : Region.binds .any e with
          | false => rfl
          | true =>
            have := p.back j _ ho e he hb
            simp only [Bool.not_true, Bool.false_or]
            exact ih e.on this (by omega)
        rw [hr] at this
        simp at this
  intro fuel
  induction fuel with
  | zero =>
    intro listed a w C hc
    have hr : Region.ready .any aops listed = [] := by
      rw [List.eq_nil_iff_forall_not_mem]
      intro i hi
      obtain ⟨h1, o, h2, _⟩ := ready_spec hi
      have hin : i < ops.length := by rw [← hsize]; exact (Array.getElem?_eq_some_iff.1 h2).1
      have := left_lt h1 hin
      omega
    exact ⟨hr, done listed a w C hr⟩
  | succ fuel ih =>
    intro listed a w C hc
    refine ⟨done listed a w C, fun i hi => ?_⟩
    obtain ⟨h1, o, h2, _⟩ := ready_spec hi
    by_cases hnn : i < n
    case neg => exact hbad a w listed i _ C hi hnn
    have hstep := Con.step (Q := Q) p hsub hops C hi hnn
    have hin : i < ops.length := by rw [← hsize]; exact (Array.getElem?_eq_some_iff.1 h2).1
    have hlt := left_lt h1 hin
    exact wpOp_mono (fun a' w' C' => ih _ a' w' C' (by omega)) hstep

theorem clearT_spec : ∀ {l : List Oper} {tm tm' : Tr AV}, clearT l tm = some tm' → ∀ t v, tm'.get t = some v → tm.get t = some v ∧ ∀ o ∈ l, o.dst ≠ some t
  | [], tm, tm', h, t, v, hv => by
    simp [clearT] at h; subst h
    exact ⟨hv, by simp⟩
  | x :: l, tm, tm', h, t, v, hv => by
    simp only [clearT] at h
    split at h
    · rename_i d hd
      cases hc : Nat.blt d 1000000 with
      | false => rw [hc] at h; simp at h
      | true =>
        rw [hc] at h
        simp only [cond_true] at h
        have hlt : d < 1000000 := by simpa [Nat.blt_eq] using hc
        obtain ⟨h1, h2⟩ := clearT_spec h t v hv
        rw [Tr.get_put24 _ _ _ hlt] at h1
        split at h1
        · cases h1
        · rename_i hne
          refine ⟨h1, ?_⟩
          intro o ho
          rcases List.mem_cons.1 ho with rfl | ho
          · rw [hd]
            intro e
            simp at e
            exact hne e.symm
          · exact h2 o ho
    · rename_i hd
      obtain ⟨h1, h2⟩ := clearT_spec h t v hv
      refine ⟨h1, ?_⟩
      intro o ho
      rcases List.mem_cons.1 ho with rfl | ho
      · rw [hd]; simp
      · exact h2 o ho

/-- The plan of a region whose walk went as far as it could. -/
theorem txtX_plan {sub : SubX} {tm : Tr AV} {h : AH} {tr : List St} {e : Option (List (AV × Bool) × AH)} (hc : (allW (writersFrom ops 0) ops 0 && allBack 0 ops) = true)
    (htr : txtX P G sub (masksFrom [] ops) (writersFrom ops 0) (loudsFrom P FD ops 0) ops FD nt ops 0 (tm, h) [] = some (tr, e))
    (hr2 : chkR P G (masksFrom [] ops) (writersFrom ops 0) (loudsFrom P FD ops 0) ops tr.reverse ops tr.reverse 0 = true) :
    ∃ T n, Plan P G (valOf sub) (masksFrom [] ops) (writersFrom ops 0) (loudsFrom P FD ops 0) ops FD nt tr.reverse T n ∧ T 0 = (tm, h) ∧ (∃ r, tr = T n :: r) ∧ EndX P G sub (masksFrom [] ops) (writersFrom ops 0) (loudsFrom P FD ops 0) ops FD nt ops 0 tr.reverse n e := by
  simp only [Bool.and_eq_true] at hc
  obtain ⟨seg, n, h1, h2, hnl, h3, h4, h5⟩ := txtX_spec htr
  simp only [List.reverse_nil, List.nil_append] at h1
  have hT : ∀ k, k ≤ n → seg[k]? = some (seg.getD k (tm, h)) := by
    intro k hk
    have : k < seg.length := by omega
    simp [List.getD_eq_getElem?_getD, this]
  refine ⟨fun k => seg.getD k (tm, h), n, ⟨hnl, ?_, ?_, ?_, ?_, ?_, ?_, ?_⟩, ?_, ?_, by rw [h1]; exact h5⟩
  · intro j o d h5 h6
    have := allW_spec hc.1 j o d h5 h6
    simpa using this
  · intro j o h5 e h6 h7
    have := allBack_spec hc.2 j o h5 e h6 h7
    omega
  · intro i j h5; exact bitAt_spec h5
  · intro j
    rw [loudsFrom_spec]
    constructor
    · rintro ⟨k, o, g1, g2, g3⟩
      have : j = k := by omega
      subst this
      exact ⟨o, g1, g2⟩
    · rintro ⟨o, g1, g2⟩
      exact ⟨j, o, g1, g2, by omega⟩
  · intro k hk
    rw [h1]; exact hT k hk
  · intro i o hi ho
    obtain ⟨x, y, g1, g2, g3⟩ := h4 i o hi ho
    have e1 := hT i (by omega)
    have e2 := hT (i + 1) (by omega)
    rw [g1] at e1
    rw [g2] at e2
    simp only [Option.some.injEq] at e1 e2
    rw [← e1, ← e2]
    rw [Nat.zero_add] at g3
    exact g3
  · intro i o hi ho hcl
    have hs : tr.reverse[i]? = some (seg.getD i (tm, h)) := by rw [h1]; exact hT i (by omega)
    have := chkR_spec hr2 i o _ ho hs hcl
    rw [Nat.zero_add] at this
    exact this
  · simp [List.getD_eq_getElem?_getD, h3]
  · have hrev : tr = seg.reverse := by rw [← h1, List.reverse_reverse]
    cases hsr : seg.reverse with
    | nil =>
      have := congrArg List.length hsr
      simp at this
      rw [this] at h2; simp at h2
    | cons s r =>
      refine ⟨r, ?_⟩
      rw [hrev, hsr]
      congr 1
      have : seg = (s :: r).reverse := by rw [← hsr, List.reverse_reverse]
      have hlen : r.length = n := by
        have := congrArg List.length this
        rw [h2] at this
        simp at this
        omega
      rw [this]
      simp [List.getD_eq_getElem?_getD, ← hlen]

theorem lastX_st {tm : Tr AV} {tr : List St} {e : Option (List (AV × Bool) × AH)} {b : Bool} {s : St} (h : lastX ops tm tr e b = .st s) : e = none ∧ b = true ∧ ∃ r, tr = s :: r := by
  unfold lastX at h
  split at h
  · cases h; exact ⟨rfl, rfl, _, rfl⟩
  · split at h <;> cases h
  · cases h
theorem lastX_pan {tm : Tr AV} {tr : List St} {e : Option (List (AV × Bool) × AH)} {b : Bool} {s : St} {ch : List (AV × Bool)} (h : lastX ops tm tr e b = .pan ch s) : e = some (ch, s.2) ∧ b = true ∧ clearT ops tm = some s.1 := by
  unfold lastX at h
  split at h
  · cases h
  · split at h
    · rename_i tm' hc
      cases h
      exact ⟨rfl, rfl, hc⟩
    · cases h
  · cases h

theorem start_con {T : Nat → St} {aops : Array Oper} {tm : Tr AV} {h : AH} (hops : aops.toList = ops) (hT0 : T 0 = (tm, h)) (ht : TR μ nt tm a.tmps) (H : HR B μ h w) (hG : ∀ g, g < G → blk μ g = some g) :
    Con P B G M W ops FD nt T n μ w a.defers (Array.replicate aops.size false) a { w with drawn := w.drawn + 1 } := by
  have hrep : ∀ j, (Array.replicate aops.size false).getD j false = false := by
    intro j
    by_cases hj : j < aops.size
    · simp [Array.getD, hj]
    · simp [Array.getD, hj]
  refine ⟨by rw [← hops]; simp, fun j hj => by rw [hrep] at hj; simp at hj, fun i j hi _ => by rw [hrep] at hi; simp at hi, rfl, ht.1, B, μ, 0, fun _ => 0, fun _ _ => rfl, List.prefix_refl _, Nat.zero_le _, ?_, by rw [hT0]; exact H.drew, (Bel.refl _ _).drew, hG, ?_, ?_⟩
  · intro j o _ _
    rw [hrep]; simp
  · intro t v hv
    have : vw W T (Array.replicate aops.size false) t = tm.get t := by
      unfold vw
      cases hw : W.get t with
      | none => dsimp only; rw [hT0]
      | some j => dsimp only; rw [hrep, hT0]; simp
    rw [this] at hv
    exact ht.2 t v hv
  · have no : ∀ {f d u : Nat} {fo : Oper}, ¬ Wait G M W ops FD T (Array.replicate aops.size false) f d u fo := fun {f d u fo} hw => by
      have := hw.done
      rw [hrep] at this; cases this
    exact ⟨fun f d u fo hw => (no hw).elim, fun f d u fo e len r hw _ => (no hw).elim, fun f d u fo f' d' u' fo' hw _ _ => (no hw).elim⟩

/-- The whole region. -/
theorem runF_run (FD : List (Nat × Nat)) (hmix : P.follows .mixedOrders = true) {sub : SubX} (hsub : CallSound P G (valOf sub)) (hpan : PanSound P G sub) {aops : Array Oper} {id : Nat} {tm : Tr AV} {h : AH} {b : Frame} {k : List Item} {cs : List Frame}
    (ht : TR μ nt tm a.tmps) (H : HR B μ h w) (hG : ∀ g, g < G → blk μ g = some g) :
    (∀ s, runF P G sub aops.toList FD nt tm h = .st s → ∃ μ' a' w', μ <+: μ' ∧ Steps P (lone (b.at a (.code (.region id aops true) :: k)) cs w) (lone (b.at a' k) cs w') ∧ TR μ' nt s.1 a'.tmps ∧ a'.defers = a.defers ∧ HR B μ' s.2 w' ∧ Bel B w w' ∧ ∀ g, g < G → blk μ' g = some g) ∧
    (∀ ch s, runF P G sub aops.toList FD nt tm h = .pan ch s → ∃ μ' a' w' es todo, μ <+: μ' ∧ Steps P (lone (b.at a (.code (.region id aops true) :: k)) cs w) (lone { b.at a' todo with mode := .panicking es } cs w') ∧ PRs μ' ch es ∧ TR μ' nt s.1 a'.tmps ∧ a'.defers = a.defers ∧ HR B μ' s.2 w' ∧ Bel B w w' ∧ ∀ g, g < G → blk μ' g = some g) := by
  have hleft : left (Array.replicate aops.size false) aops.toList.length ≤ aops.size := by
    unfold left
    have := List.countP_le_length (p := fun i => !(Array.replicate aops.size false).getD i true) (l := List.range aops.toList.length)
    simpa using this
  have fin : ∀ {Q : Exit → Act → World → Prop}, wpAny P .any aops Q aops.size (Array.replicate aops.size false) a { w with drawn := w.drawn + 1 } → ∃ e a' w', Q e a' w' ∧ Arrives P (lone (b.at a (.code (.region id aops true) :: k)) cs w) b k cs e a' w' := by
    intro Q hany
    have hops : ∀ t, wpOps P aops Q (Region.schedule (P.follows .mixedOrders) aops t) a { w with drawn := w.drawn + 1 } := by
      intro t
      have := wpAny_sound aops.size t _ _ _ hany
      rw [hmix]
      simpa [Region.schedule, Region.linearise] using this
    obtain ⟨e, a', w', q, harr⟩ := wp_ops _ a _ (hops (w.tape w.drawn (.order b.fn id))) b k cs
    exact ⟨e, a', w', q, .of_steps (.one step_region_draw) harr⟩
  constructor
  · intro s hr
    unfold runF at hr
    cases hc : (allW (writersFrom aops.toList 0) aops.toList 0 && allBack 0 aops.toList) with
    | false => rw [hc] at hr; cases hr
    | true =>
    rw [hc] at hr
    simp only [cond_true] at hr
    split at hr
    · rename_i tr e htr
      obtain ⟨rfl, hck, r, htr2⟩ := lastX_st hr
      obtain ⟨T, n, p, hT0, ⟨r', hTn⟩, hend⟩ := txtX_plan hc htr hck
      have hnl : n = aops.toList.length := hend
      subst hnl
      have hTs : T aops.toList.length = s := by
        rw [htr2] at hTn
        exact (List.cons.inj hTn).1.symm
      let Q : Exit → Act → World → Prop := fun e a' w' => e = .normal ∧ ∃ μ', μ <+: μ' ∧ TR μ' nt s.1 a'.tmps ∧ a'.defers = a.defers ∧ HR B μ' s.2 w' ∧ Bel B w w' ∧ ∀ g, g < G → blk μ' g = some g
      have hfin : ∀ a' w' listed, Con P B G (masksFrom [] aops.toList) (writersFrom aops.toList 0) aops.toList FD nt T aops.toList.length μ w a.defers listed a' w' → (∀ j, j < aops.toList.length → listed.getD j false = true) → Q .normal a' w' := by
        intro a' w' listed C hall
        obtain ⟨S, μ', k', pb, hBS, hm, hk, hL, H', hB, hG', hv, hP⟩ := C.rest
        refine ⟨rfl, μ', hm, ⟨C.tsz, ?_⟩, C.df, ?_, hB, hG'⟩
        · intro t v htv
          refine hv t v ?_
          rw [← htv, ← hTs]
          unfold vw
          cases hw : (writersFrom aops.toList 0).get t with
          | none => exact (p.before _ (Nat.le_refl _) (fun j hj => by rw [hw] at hj; simp at hj)).symm
          | some j =>
            dsimp only
            by_cases hj : j < aops.toList.length
            · rw [hall j hj]
              simp only [if_true]
              exact (p.behind hw _ hj (Nat.le_refl _)).symm
            · have hnl : listed.getD j false = false := by
                have : ¬ j < listed.size := by rw [C.size]; exact hj
                simp [Array.getD, this]
              rw [hnl]
              simp only [Bool.false_eq_true, if_false]
              exact (p.before _ (Nat.le_refl _) (fun j' hj' => by rw [hw] at hj'; simp at hj'; omega)).symm
        · rw [← hTs]
          have : (T aops.toList.length).2 = (T k').2 := by
            refine p.still _ hk (Nat.le_refl _) (fun j o h1 h2 ho => ?_)
            cases hl : ld P FD o with
            | false => rfl
            | true =>
              have := (hL j o ho hl).1 (hall j h2)
              omega
          rw [this]; exact H'.less (fun b hb => (hBS b hb).symm)
      have hany := Con.all (μ := μ) p hsub rfl hfin (fun a w listed i K C hi hni => by
        obtain ⟨_, o, h2, _⟩ := ready_spec hi
        have : i < aops.size := (Array.getElem?_eq_some_iff.1 h2).1
        simp at hni
        omega) aops.size (Array.replicate aops.size false) a _ (start_con rfl hT0 ht H hG) hleft
      obtain ⟨e, a', w', ⟨rfl, μ', q1, q2, q3, q4, q5, q6⟩, harr⟩ := fin hany
      exact ⟨μ', a', w', q1, harr, q2, q3, q4, q5, q6⟩
    · cases hr
  · intro ch s hr
    unfold runF at hr
    cases hc : (allW (writersFrom aops.toList 0) aops.toList 0 && allBack 0 aops.toList) with
    | false => rw [hc] at hr; cases hr
    | true =>
    rw [hc] at hr
    simp only [cond_true] at hr
    split at hr
    · rename_i tr e htr
      obtain ⟨rfl, hck, hcl⟩ := lastX_pan hr
      obtain ⟨T, n, p, hT0, ⟨r', hTn⟩, hend⟩ := txtX_plan hc htr hck
      obtain ⟨o, at', ho, hat, hx, haft⟩ := hend
      rw [Nat.zero_add] at hx
      have hnl : n < aops.toList.length := (List.getElem?_eq_some_iff.1 ho).1
      have hatT : at' = T n := by
        have := p.st n (Nat.le_refl _)
        rw [hat] at this
        exact Option.some.inj this
      subst hatT
      let Q : Exit → Act → World → Prop := fun e a' w' => ∃ es μ', e = .panic es ∧ PRs μ' ch es ∧ μ <+: μ' ∧ TR μ' nt s.1 a'.tmps ∧ a'.defers = a.defers ∧ HR B μ' s.2 w' ∧ Bel B w w' ∧ ∀ g, g < G → blk μ' g = some g
      have hfin : ∀ a' w' listed, Con P B G (masksFrom [] aops.toList) (writersFrom aops.toList 0) aops.toList FD nt T n μ w a.defers listed a' w' → (∀ j, j < aops.toList.length → listed.getD j false = true) → Q .normal a' w' := by
        intro a' w' listed C hall
        have := C.lt n (hall n hnl)
        omega
      have hany := Con.all (Q := Q) (μ := μ) p hsub rfl hfin (fun a1 w1 listed i K C hi hni => by
        obtain ⟨hl0, o', ho0, hedge⟩ := ready_spec hi
        obtain ⟨hil, hsz⟩ := getD_false_of_true hl0
        have ho' : aops.toList[i]? = some o' := by simpa using ho0
        have hpre : ∀ j, bitAt (masksFrom [] aops.toList) i j = true → listed.getD j false = true := by
          intro j hj
          obtain ⟨o2, h1, e, h2, h3, h4⟩ := p.m i j hj
          rw [ho'] at h1
          simp only [Option.some.injEq] at h1
          subst h1
          have := hedge e h2 h3
          rcases h4 with rfl | h4
          · exact this
          · exact C.low _ _ this h4
        have hin : i = n := by
          rcases Nat.lt_or_ge n i with hlt | hge
          · have hb := haft i hlt (List.getElem?_eq_some_iff.1 ho').1
            rw [Nat.zero_add, Nat.zero_add] at hb
            have := C.lt n (hpre n hb)
            omega
          · omega
        subst hin
        rw [ho] at ho'
        simp only [Option.some.injEq] at ho'
        subst ho'
        obtain ⟨S, μ', k', pb, hBS, hm, hk, hL, H', hB, hG', hv, hP⟩ := C.rest
        obtain ⟨hnf, hw, hok, hcase⟩ := exX_pan hx
        have hs : ∀ t, okSlot (masksFrom [] aops.toList) (writersFrom aops.toList 0) i t = true → vw (writersFrom aops.toList 0) T listed t = (T i).1.get t := fun t ht => Con.slot p C.low hil (Nat.le_refl _) hpre ht
        obtain ⟨hheap, hkey⟩ := Con.heapAt p (Nat.le_refl _) hil C.low hpre hk hL hok
        rw [hheap] at H'
        have hρ := rhoD_run (a := a1) hs hv hG'
        have htr1 : ∀ {μ2 : List (Nat × Nat)}, μ' <+: μ2 → TR μ2 nt s.1 a1.tmps := by
          intro μ2 hm2
          refine ⟨C.tsz, fun t v htv => ?_⟩
          obtain ⟨g1, g2⟩ := clearT_spec hcl t v htv
          have hsame : ∀ q, q ≤ i → (T q).1.get t = (T 0).1.get t := by
            intro q
            induction q with
            | zero => intro _; rfl
            | succ q ih =>
              intro hq
              have hql : q < aops.toList.length := by omega
              have hoq : aops.toList[q]? = some aops.toList[q] := List.getElem?_eq_getElem hql
              rw [p.keep (by omega) hoq (g2 _ (List.getElem_mem hql))]
              exact ih (by omega)
          have hvw : vw (writersFrom aops.toList 0) T listed t = some v := by
            have h0 : (T 0).1.get t = some v := by rw [hT0]; exact g1
            unfold vw
            split
            · rename_i j hj
              split
              · rename_i hlj
                rw [hsame (j + 1) (by have := C.lt j hlj; omega)]
                exact h0
              · exact h0
            · exact h0
          obtain ⟨u, u1, u2⟩ := hv t v hvw
          exact ⟨u, u1, VR_mono hm2 _ _ u2⟩
        unfold wpOp
        rw [ho0]
        dsimp only
        rw [wantD_run rfl hw hs hv]
        simp only [if_true]
        refine .inl ?_
        unfold Oper.wp
        rcases hcase with ⟨v, hcp, hpv, e1, e2⟩ | ⟨ρ', h0, f, args, h1, hcp, had, hlv, hsv⟩
        · obtain ⟨u, r1, r2⟩ := aPure_run hρ hpv w1
          rw [r1]
          exact ⟨_, μ', rfl, by rw [e1]; exact ⟨u, [], rfl, r2, rfl⟩, hm, htr1 (List.prefix_refl _), C.df, by rw [e2]; exact H'.less (fun b hb => (hBS b hb).symm), hB, hG'⟩
        · obtain ⟨S1, μ1, m1, hBS1, H1, hρ1, _⟩ : ∃ S' μ2, μ' <+: μ2 ∧ (∀ b, B b ≠ 0 → S' b = B b) ∧ HR S' μ2 h0 w1 ∧ (∀ x v, ρ' x = some v → VR μ2 v (a1.eval x)) ∧ (∀ f d u fo, Wait G (masksFrom [] aops.toList) (writersFrom aops.toList 0) aops.toList FD T listed f d u fo → u ≠ i → S' (pb f) = 2) := by
            unfold adopt at had
            split at had
            · exact adoptL_run p (Nat.le_refl _) hil hpre hP.inj (fun f d u fo hw => (hP.own f d u fo hw).2) _ had H' hBS hρ (fun f d u fo hw _ => (hP.own f d u fo hw).1) hP.row
            · simp only [Option.some.injEq, Prod.mk.injEq] at had
              obtain ⟨rfl, rfl⟩ := had
              exact ⟨S, μ', List.prefix_refl _, hBS, H', hρ, fun f d u fo hw _ => (hP.own f d u fo hw).1⟩
          obtain ⟨μ2, w2, q1, q2, q3, vs, q4, q5⟩ := aLoud_run hρ1 H1 hlv
          obtain ⟨r1, r2⟩ := hpan S1 f args h1 ch s.2 hsv μ2 w2 vs q2 (blkG (m1.trans q1) hG') q4
          rw [q5, r1]
          refine Calls.mono r2 ?_
          rintro e w3 ⟨μ3, es, r3, rfl, r4, r5, r6⟩
          exact ⟨es, μ3, rfl, r4, hm.trans (m1.trans (q1.trans r3)), htr1 (m1.trans (q1.trans r3)), C.df, r5.less (fun b hb => (hBS1 b hb).symm), hB.trans ((q3.trans r6).sub (fun b hb => by rw [hBS1 b hb]; exact hb)), blkG (m1.trans (q1.trans r3)) hG'⟩) aops.size (Array.replicate aops.size false) a _ (start_con rfl hT0 ht H hG) hleft
      obtain ⟨e, a', w', ⟨es, μ', rfl, q0, q1, q2, q3, q4, q5, q6⟩, todo, harr⟩ := fin hany
      exact ⟨μ', a', w', es, todo, q1, harr, q0, q2, q3, q4, q5, q6⟩
    · cases hr
theorem runX_run (hmix : P.follows .mixedOrders = true) {sub : SubX} (hsub : CallSound P G (valOf sub)) (hpan : PanSound P G sub) {aops : Array Oper} {id : Nat} {tm : Tr AV} {h : AH} {b : Frame} {k : List Item} {cs : List Frame}
    (ht : TR μ nt tm a.tmps) (H : HR B μ h w) (hG : ∀ g, g < G → blk μ g = some g) :
    (∀ s, runX P G sub aops.toList nt tm h = .st s → ∃ μ' a' w', μ <+: μ' ∧ Steps P (lone (b.at a (.code (.region id aops true) :: k)) cs w) (lone (b.at a' k) cs w') ∧ TR μ' nt s.1 a'.tmps ∧ a'.defers = a.defers ∧ HR B μ' s.2 w' ∧ Bel B w w' ∧ ∀ g, g < G → blk μ' g = some g) ∧
    (∀ ch s, runX P G sub aops.toList nt tm h = .pan ch s → ∃ μ' a' w' es todo, μ <+: μ' ∧ Steps P (lone (b.at a (.code (.region id aops true) :: k)) cs w) (lone { b.at a' todo with mode := .panicking es } cs w') ∧ PRs μ' ch es ∧ TR μ' nt s.1 a'.tmps ∧ a'.defers = a.defers ∧ HR B μ' s.2 w' ∧ Bel B w w' ∧ ∀ g, g < G → blk μ' g = some g) := by
  have h1 := runF_run (aops := aops) (id := id) (h := h) (b := b) (k := k) (cs := cs) [] hmix hsub hpan ht H hG
  have h2 := runF_run (aops := aops) (id := id) (h := h) (b := b) (k := k) (cs := cs) (hintsFrom (freshDsts aops.toList) aops.toList 0) hmix hsub hpan ht H hG
  unfold runX
  cases hr : runF P G sub aops.toList [] nt tm h with
  | no => exact h2
  | st s => rw [hr] at h1; exact h1
  | pan ch s => rw [hr] at h1; exact h1
end
end Go.Ev
