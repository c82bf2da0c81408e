/-
  A region that draws its order: whatever order is drawn, the abstract walk in the text's order tells what it comes to.
-/
import Derived.Test.YtpfeaekankkpiaaGreatDoorEvI
import Derived.Orders
namespace Go.Ev
open Go Go.RowKit

/-! ### What the checks of a region's text give -/
theorem allW_spec {W : Tr Nat} : ∀ {l : List Oper} {i : Nat}, allW W l i = true → ∀ j o d, l[j]? = some o → o.dst = some d → W.get d = some (i + j)
  | [], _, _, j, o, d, hj, _ => by simp at hj
  | x :: l, i, h, j, o, d, hj, hd => by
    simp only [allW, Bool.and_eq_true] at h
    cases j with
    | zero =>
      simp at hj; subst hj
      have h1 := h.1
      rw [hd] at h1
      dsimp only at h1
      unfold isAt at h1
      split at h1
      · rename_i k hk
        have : k = i := by simpa using h1
        subst this
        simpa using hk
      · simp at h1
    | succ j =>
      have := allW_spec h.2 j o d (by simpa using hj) hd
      rw [this]; congr 1; omega

theorem backs_spec {i : Nat} : ∀ {l : List Edge}, backs i l = true → ∀ e ∈ l, Region.binds .any e = true → e.on < i
  | [], _, e, he, _ => by simp at he
  | x :: l, h, e, he, hb => by
    simp only [backs, Bool.and_eq_true] at h
    rcases List.mem_cons.1 he with rfl | he
    · have h1 := h.1
      rw [hb] at h1
      simpa [Nat.blt_eq] using h1
    · exact backs_spec h.2 e he hb

theorem allBack_spec : ∀ {l : List Oper} {i : Nat}, allBack i l = true → ∀ j o, l[j]? = some o → ∀ e ∈ o.after.toList, Region.binds .any e = true → e.on < i + j
  | [], _, _, j, o, hj, _, _, _ => by simp at hj
  | x :: l, i, h, j, o, hj, e, he, hb => by
    simp only [allBack, Bool.and_eq_true] at h
    cases j with
    | zero => simp at hj; subst hj; exact backs_spec h.1 e he hb
    | succ j =>
      have := allBack_spec h.2 j o (by simpa using hj) e he hb
      omega

theorem maskOf_spec {acc : List Nat} : ∀ {l : List Edge} {j : Nat}, Nat.testBit (maskOf acc l) j = true → ∃ e ∈ l, Region.binds .any e = true ∧ (j = e.on ∨ ∃ m, acc[e.on]? = some m ∧ Nat.testBit m j = true)
  | [], j, h => by simp [maskOf] at h
  | e :: l, j, h => by
    simp only [maskOf] at h
    cases hb : Region.binds .any e with
    | false =>
      rw [hb] at h
      obtain ⟨e', h1, h2⟩ := maskOf_spec (by simpa using h)
      exact ⟨e', List.mem_cons_of_mem _ h1, h2⟩
    | true =>
      rw [hb] at h
      simp only [cond_true] at h
      have h' : Nat.testBit (((1 <<< e.on) ||| (match acc[e.on]? with | some m => m | none => 0)) ||| maskOf acc l) j = true := h
      rw [Nat.testBit_or, Nat.testBit_or, Bool.or_eq_true, Bool.or_eq_true] at h'
      rcases h' with (h1 | h1) | h1
      · refine ⟨e, by simp, hb, .inl ?_⟩
        rw [Nat.testBit_shiftLeft] at h1
        simp only [Bool.and_eq_true, decide_eq_true_eq] at h1
        have := Nat.testBit_one_eq_true_iff_self_eq_zero.1 h1.2
        omega
      · refine ⟨e, by simp, hb, .inr ?_⟩
        split at h1
        · rename_i m hm; exact ⟨m, hm, h1⟩
        · simp at h1
      · obtain ⟨e', h2, h3⟩ := maskOf_spec h1
        exact ⟨e', List.mem_cons_of_mem _ h2, h3⟩

theorem masksFrom_spec : ∀ {l : List Oper} {acc : List Nat}, (masksFrom acc l).take acc.length = acc ∧ (masksFrom acc l).length = acc.length + l.length ∧
    ∀ k o, l[k]? = some o → ∃ acc', (masksFrom acc l).take (acc.length + k) = acc' ∧ (masksFrom acc l)[acc.length + k]? = some (maskOf acc' o.after.toList)
  | [], acc => by simp [masksFrom]
  | x :: l, acc => by
    simp only [masksFrom]
    obtain ⟨h1, h2, h3⟩ := masksFrom_spec (l := l) (acc := acc ++ [maskOf acc x.after.toList])
    refine ⟨?_, by rw [h2]; simp; omega, ?_⟩
    · have := congrArg (List.take acc.length) h1
      rw [List.take_take] at this
      simpa using this
    · intro k o hk
      cases k with
      | zero =>
        simp at hk; subst hk
        refine ⟨acc, ?_, ?_⟩
        · have := congrArg (List.take acc.length) h1
          rw [List.take_take] at this
          simpa using this
        · have : (List.take (acc ++ [maskOf acc x.after.toList]).length (masksFrom (acc ++ [maskOf acc x.after.toList]) l))[acc.length]? = some (maskOf acc x.after.toList) := by
            rw [h1]; simp
          rw [List.getElem?_take] at this
          simp only [List.length_append, List.length_cons, List.length_nil] at this
          rw [if_pos (by omega)] at this
          simpa using this
      | succ k =>
        obtain ⟨acc', g1, g2⟩ := h3 k o (by simpa using hk)
        refine ⟨acc', ?_, ?_⟩
        · rw [← g1]; congr 1; simp; omega
        · rw [← g2]; congr 1; simp; omega

theorem bitAt_spec {l : List Oper} {i j : Nat} (h : bitAt (masksFrom [] l) i j = true) : ∃ o, l[i]? = some o ∧ ∃ e ∈ o.after.toList, Region.binds .any e = true ∧ (j = e.on ∨ bitAt (masksFrom [] l) e.on j = true) := by
  obtain ⟨_, h2, h3⟩ := masksFrom_spec (l := l) (acc := [])
  unfold bitAt at h
  split at h
  · rename_i m hm
    have hi : i < l.length := by
      have := (List.getElem?_eq_some_iff.1 hm).1
      simp at h2; omega
    refine ⟨l[i], List.getElem?_eq_getElem hi, ?_⟩
    obtain ⟨acc', g1, g2⟩ := h3 i l[i] (List.getElem?_eq_getElem hi)
    simp only [List.length_nil, Nat.zero_add] at g1 g2
    rw [hm] at g2
    simp only [Option.some.injEq] at g2
    subst g2
    obtain ⟨e, e1, e2, e3⟩ := maskOf_spec h
    refine ⟨e, e1, e2, e3.imp id ?_⟩
    rintro ⟨m', k1, k2⟩
    unfold bitAt
    rw [← g1, List.getElem?_take] at k1
    split at k1
    · rw [k1]; exact k2
    · simp at k1
  · simp at h

theorem loudsFrom_spec {P : Program} {FD : List (Nat × Nat)} : ∀ {l : List Oper} {i : Nat} {j : Nat}, j ∈ loudsFrom P FD l i ↔ ∃ k o, l[k]? = some o ∧ ld P FD o = true ∧ j = i + k
  | [], i, j => by simp [loudsFrom]
  | x :: l, i, j => by
    simp only [loudsFrom]
    cases hl : ld P FD x with
    | false =>
      simp only [cond_false]
      rw [loudsFrom_spec]
      constructor
      · rintro ⟨k, o, h1, h2, h3⟩
        exact ⟨k + 1, o, by simpa using h1, h2, by omega⟩
      · rintro ⟨k, o, h1, h2, h3⟩
        cases k with
        | zero => simp at h1; subst h1; rw [hl] at h2; simp at h2
        | succ k => exact ⟨k, o, by simpa using h1, h2, by omega⟩
    | true =>
      simp only [cond_true, List.mem_cons]
      rw [loudsFrom_spec]
      constructor
      · rintro (rfl | ⟨k, o, h1, h2, h3⟩)
        · exact ⟨0, x, by simp, hl, by omega⟩
        · exact ⟨k + 1, o, by simpa using h1, h2, by omega⟩
      · rintro ⟨k, o, h1, h2, h3⟩
        cases k with
        | zero => exact .inl (by omega)
        | succ k => exact .inr ⟨k, o, by simpa using h1, h2, by omega⟩

theorem okHeap_spec {M : List Nat} {i : Nat} : ∀ {L : List Nat}, okHeap M i L = true → ∀ j ∈ L, j = i ∨ parted M i j = true
  | [], _, j, hj => by simp at hj
  | x :: L, h, j, hj => by
    simp only [okHeap, Bool.and_eq_true, Bool.or_eq_true] at h
    rcases List.mem_cons.1 hj with rfl | hj
    · exact h.1.imp (fun e => by simpa using e) id
    · exact okHeap_spec h.2 j hj

theorem parted_spec {M : List Nat} {i j : Nat} (h : parted M i j = true) : (j < i ∧ bitAt M i j = true) ∨ (i < j ∧ bitAt M j i = true) := by
  unfold parted at h
  simp only [Bool.or_eq_true, Bool.and_eq_true] at h
  exact h.imp (fun e => ⟨by simpa [Nat.blt_eq] using e.1, e.2⟩) (fun e => ⟨by simpa [Nat.blt_eq] using e.1, e.2⟩)

/-! ### The walk in the text's order -/
abbrev St := Tr AV × AH

theorem putT_some {nt : Nat} {tm : Tr AV} {h : AH} {d : Option Nat} {v : AV} {s : St} (hp : putT nt tm h d v = some s) :
    s.2 = h ∧ match d with | none => s.1 = tm | some d => d < nt ∧ d < 1000000 ∧ s.1 = tm.put 24 d (some v) := by
  cases d with
  | none => simp [putT] at hp; subst hp; exact ⟨rfl, rfl⟩
  | some d =>
    simp only [putT] at hp
    cases hc : (Nat.blt d nt && Nat.blt d 1000000) with
    | false => rw [hc] at hp; simp at hp
    | true =>
      rw [hc] at hp
      simp at hp; subst hp
      simp only [Bool.and_eq_true] at hc
      exact ⟨rfl, by simpa [Nat.blt_eq] using hc.1, by simpa [Nat.blt_eq] using hc.2, rfl⟩

theorem putT_other {nt : Nat} {tm : Tr AV} {h : AH} {d : Option Nat} {v : AV} {s : St} (hp : putT nt tm h d v = some s) {t : Nat} (ht : d ≠ some t) : s.1.get t = tm.get t := by
  obtain ⟨_, h2⟩ := putT_some hp
  cases d with
  | none => rw [h2]
  | some d =>
    obtain ⟨_, h3, h4⟩ := h2
    rw [h4, Tr.get_put24 _ _ _ h3, if_neg (by intro e; subst e; exact ht rfl)]

section
variable {P : Program} {G : Nat} {sub : Sub} {M : List Nat} {W : Tr Nat} {L : List Nat} {ops : List Oper} {FD : List (Nat × Nat)} {nt : Nat}

theorem putN_some {nt : Nat} {tm : Tr AV} {h : AH} {d : Option Nat} {s : St} (hp : putN nt tm h d = some s) : ∃ d', d = some d' ∧ d' < nt ∧ d' < 1000000 ∧ s = (tm.put 24 d' none, h) := by
  cases d with
  | none => simp [putN] at hp
  | some d =>
    simp only [putN] at hp
    cases hc : (Nat.blt d nt && Nat.blt d 1000000) with
    | false => rw [hc] at hp; simp at hp
    | true =>
      rw [hc] at hp
      simp at hp; subst hp
      simp only [Bool.and_eq_true] at hc
      exact ⟨d, rfl, by simpa [Nat.blt_eq] using hc.1, by simpa [Nat.blt_eq] using hc.2, rfl⟩
theorem putN_other {nt : Nat} {tm : Tr AV} {h : AH} {d : Option Nat} {s : St} (hp : putN nt tm h d = some s) {t : Nat} (ht : d ≠ some t) : s.1.get t = tm.get t := by
  obtain ⟨d', rfl, _, h2, rfl⟩ := putN_some hp
  show (tm.put 24 d' none).get t = _
  rw [Tr.get_put24 _ _ _ h2, if_neg (by intro e; subst e; exact ht rfl)]

/-- The walk of a new slice that is made for one call. -/
theorem exD_fl {i : Nat} {o : Oper} {tm : Tr AV} {h : AH} {s : St} (hf : isFl FD o = true) (hx : exD P G sub M W L ops FD nt i o tm h = some s) :
    putN nt tm h o.dst = some s ∧ ∃ b, wantB M W ops i tm o.guard = some b ∧ (b = true → ∃ q, aFresh P (rhoB G M W i tm) o.op = some q) := by
  unfold exD at hx
  rw [hf] at hx
  simp only [cond_true] at hx
  split at hx
  · rename_i hw
    split at hx
    · rename_i q hq
      exact ⟨hx, true, hw, fun _ => ⟨q, hq⟩⟩
    · cases hx
  · rename_i hw
    exact ⟨hx, false, hw, fun e => by cases e⟩
  · cases hx

/-- An operation's walk turns one slot; and the heap alone where it may. -/
theorem exD_put {i : Nat} {o : Oper} {tm : Tr AV} {h : AH} {s : St} (hx : exD P G sub M W L ops FD nt i o tm h = some s) : (∀ t, o.dst ≠ some t → s.1.get t = tm.get t) ∧ (ld P FD o = false → s.2 = h) := by
  cases hf : isFl FD o with
  | true =>
    obtain ⟨hp, _⟩ := exD_fl hf hx
    obtain ⟨d', _, _, _, e⟩ := putN_some hp
    exact ⟨fun t ht => putN_other hp ht, fun _ => by rw [e]⟩
  | false =>
    have hld : ld P FD o = loud P o := by unfold ld; rw [hf]; rfl
    rw [hld]
    have key : (∃ v h', putT nt tm h' o.dst v = some s ∧ (loud P o = false → h' = h)) := by
      unfold exD at hx
      rw [hf] at hx
      simp only [cond_false] at hx
      split at hx
      · unfold doD at hx
        split at hx
        · rename_i hc
          split at hx
          · rename_i v _; exact ⟨v, h, hx, fun _ => rfl⟩
          · simp at hx
        · rename_i hc
          split at hx
          · rename_i v _; exact ⟨v, h, hx, fun _ => rfl⟩
          · simp at hx
        · rename_i hc
          have hl : loud P o = true := by unfold loud; rw [hc]
          cases hk : okHeap M i L with
          | false => rw [hk] at hx; simp at hx
          | true =>
            rw [hk] at hx
            simp only [cond_true] at hx
            split at hx
            · split at hx
              · rename_i v h' _; exact ⟨v, h', hx, fun e => by rw [hl] at e; simp at e⟩
              · rename_i h' _; exact ⟨_, h', hx, fun e => by rw [hl] at e; simp at e⟩
              · split at hx
                · rename_i v h'' _; exact ⟨v, h'', hx, fun e => by rw [hl] at e; simp at e⟩
                · simp at hx
              · simp at hx
            · simp at hx
      · cases hl : loud P o with
        | false => rw [hl] at hx; exact ⟨_, h, by simpa using hx, fun _ => rfl⟩
        | true =>
          rw [hl] at hx
          simp only [cond_true] at hx
          cases hk : okHeap M i L with
          | false => rw [hk] at hx; simp at hx
          | true => rw [hk] at hx; exact ⟨_, h, by simpa using hx, fun e => by simp at e⟩
      · simp at hx
    obtain ⟨v, h', hp, hq⟩ := key
    exact ⟨fun t ht => putT_other hp ht, fun e => by rw [(putT_some hp).1, hq e]⟩

theorem putX_st {d : Option Nat} {tm : Tr AV} {h : AH} {v : AV} {s : St} (hp : putX nt tm h d v = .st s) : putT nt tm h d v = some s := by
  unfold putX at hp
  split at hp
  · rename_i s' hs
    simp only [XD.st.injEq] at hp
    rw [hs, hp]
  · cases hp
theorem putX_pan {d : Option Nat} {tm : Tr AV} {h h' : AH} {v : AV} {ch : List (AV × Bool)} (hp : putX nt tm h d v = .pan ch h') : False := by
  unfold putX at hp
  split at hp <;> cases hp
theorem exX_st {sub : SubX} {i : Nat} {o : Oper} {tm : Tr AV} {h : AH} {s : St} (hx : exX P G sub M W L ops FD nt i o tm h = .st s) : exD P G (valOf sub) M W L ops FD nt i o tm h = some s := by
  unfold exX at hx
  unfold exD
  cases hf : isFl FD o with
  | true =>
    rw [hf] at hx
    simp only [cond_true] at hx ⊢
    unfold ofOpt at hx
    split at hx
    · rename_i s' hs
      simp only [XD.st.injEq] at hx
      rw [hs, hx]
    · cases hx
  | false =>
  rw [hf] at hx
  simp only [cond_false] at hx ⊢
  split at hx
  · rename_i hw
    try (rw [hw]; dsimp only)
    unfold doX at hx
    unfold doD
    split at hx
    · rename_i hc
      try (rw [hc]; dsimp only)
      split at hx
      · rename_i v hv; (try rw [hv]); exact putX_st hx
      · cases hk : okHeap M i L <;> rw [hk] at hx <;> cases hx
      · cases hx
    · rename_i hc
      try (rw [hc]; dsimp only)
      split at hx
      · rename_i v hv; (try rw [hv]); exact putX_st hx
      · cases hx
    · rename_i hc
      try (rw [hc]; dsimp only)
      cases hk : okHeap M i L with
      | false => rw [hk] at hx; cases hx
      | true =>
        rw [hk] at hx
        simp only [cond_true] at hx ⊢
        split at hx
        · rename_i ρ' h0 had
          try (rw [had]; dsimp only)
          split at hx
          · rename_i v h' hv; (try rw [hv]); exact putX_st hx
          · rename_i h' hv; (try rw [hv]); exact putX_st hx
          · rename_i f args h' hv
            try (rw [hv]; dsimp only)
            split at hx
            · rename_i v h'' hs
              have : valOf sub f args h' = some (v, h'') := by unfold valOf; rw [hs]
              rw [this]
              exact putX_st hx
            · cases hx
            · cases hx
          · cases hx
        · cases hx
  · rename_i hw
    try (rw [hw]; dsimp only)
    cases hl : loud P o with
    | false =>
      rw [hl] at hx
      exact putX_st hx
    | true =>
      rw [hl] at hx
      simp only [cond_true] at hx ⊢
      cases hk : okHeap M i L with
      | false => rw [hk] at hx; cases hx
      | true => rw [hk] at hx; exact putX_st hx
  · cases hx
/-- Where a panic comes from. -/
theorem exX_pan {sub : SubX} {i : Nat} {o : Oper} {tm : Tr AV} {h h' : AH} {ch : List (AV × Bool)} (hx : exX P G sub M W L ops FD nt i o tm h = .pan ch h') :
    isFl FD o = false ∧ wantD M W ops i tm o.guard = some true ∧ okHeap M i L = true ∧
      ((∃ v, cls P o.op = .p ∧ aPure P (rhoD G M W i tm) o.op = some (.pan v) ∧ ch = [(v, false)] ∧ h' = h) ∨
       (∃ ρ' h0 f args h1, cls P o.op = .l ∧ adopt P G M W ops FD i tm (rhoD G M W i tm) h o.op = some (ρ', h0) ∧ aLoud P ρ' h0 o.op = some (.enter f args, h1) ∧ sub f args h1 = some (.pan ch, h'))) := by
  unfold exX at hx
  cases hf : isFl FD o with
  | true =>
    rw [hf] at hx
    simp only [cond_true] at hx
    unfold ofOpt at hx
    split at hx <;> cases hx
  | false =>
  refine ⟨rfl, ?_⟩
  rw [hf] at hx
  simp only [cond_false] at hx
  split at hx
  · rename_i hw
    refine ⟨hw, ?_⟩
    unfold doX at hx
    split at hx
    · rename_i hc
      split at hx
      · exact (putX_pan hx).elim
      · rename_i v hv
        cases hk : okHeap M i L with
        | false => rw [hk] at hx; cases hx
        | true =>
          rw [hk] at hx
          simp only [cond_true, XD.pan.injEq] at hx
          exact ⟨rfl, .inl ⟨v, hc, hv, hx.1.symm, hx.2.symm⟩⟩
      · cases hx
    · split at hx
      · exact (putX_pan hx).elim
      · cases hx
    · rename_i hc
      cases hk : okHeap M i L with
      | false => rw [hk] at hx; cases hx
      | true =>
        rw [hk] at hx
        simp only [cond_true] at hx
        refine ⟨rfl, .inr ?_⟩
        split at hx
        · rename_i ρ' h0 had
          split at hx
          · exact (putX_pan hx).elim
          · exact (putX_pan hx).elim
          · rename_i f args h1 hv
            split at hx
            · exact (putX_pan hx).elim
            · rename_i ch' h'' hs
              simp only [XD.pan.injEq] at hx
              obtain ⟨rfl, rfl⟩ := hx
              exact ⟨ρ', h0, f, args, h1, hc, had, hv, hs⟩
            · cases hx
          · cases hx
        · cases hx
  · cases hl : loud P o with
    | false => rw [hl] at hx; exact (putX_pan hx).elim
    | true =>
      rw [hl] at hx
      simp only [cond_true] at hx
      cases hk : okHeap M i L with
      | false => rw [hk] at hx; cases hx
      | true => rw [hk] at hx; exact (putX_pan hx).elim
  · cases hx
theorem afterAll_spec {i : Nat} : ∀ {l : List Oper} {j : Nat}, afterAll M i l j = true → ∀ k, k < l.length → bitAt M (j + k) i = true
  | [], _, _, k, hk => by simp at hk
  | x :: l, j, h, k, hk => by
    simp only [afterAll, Bool.and_eq_true] at h
    cases k with
    | zero => exact h.1
    | succ k =>
      have := afterAll_spec h.2 k (by simpa using hk)
      rw [show j + (k + 1) = j + 1 + k by omega]
      exact this

/-- How a walk ends: behind all operations, or at the one that panics. -/
def EndX (P : Program) (G : Nat) (sub : SubX) (M : List Nat) (W : Tr Nat) (L : List Nat) (ops : List Oper) (FD : List (Nat × Nat)) (nt : Nat) (l : List Oper) (i : Nat) (seg : List St) (n : Nat) : Option (List (AV × Bool) × AH) → Prop
  | none => n = l.length
  | some (ch, h) => ∃ o a, l[n]? = some o ∧ seg[n]? = some a ∧ exX P G sub M W L ops FD nt (i + n) o a.1 a.2 = .pan ch h ∧ ∀ k, n < k → k < l.length → bitAt M (i + k) (i + n) = true

theorem txtX_spec {sub : SubX} : ∀ {l : List Oper} {i : Nat} {s : St} {acc tr : List St} {e : Option (List (AV × Bool) × AH)}, txtX P G sub M W L ops FD nt l i s acc = some (tr, e) →
    ∃ (seg : List St) (n : Nat), tr.reverse = acc.reverse ++ seg ∧ seg.length = n + 1 ∧ n ≤ l.length ∧ seg[0]? = some s ∧
      (∀ k o, k < n → l[k]? = some o → ∃ a b, seg[k]? = some a ∧ seg[k + 1]? = some b ∧ exD P G (valOf sub) M W L ops FD nt (i + k) o a.1 a.2 = some b) ∧ EndX P G sub M W L ops FD nt l i seg n e
  | [], i, s, acc, tr, e, h => by
    simp [txtX] at h
    obtain ⟨rfl, rfl⟩ := h
    exact ⟨[s], 0, by simp, by simp, by simp, by simp, (by intro k o hk; omega), rfl⟩
  | x :: l, i, s, acc, tr, e, h => by
    simp only [txtX] at h
    split at h
    · rename_i s' hs
      obtain ⟨seg, n, h1, h2, h3, h4, h5, h6⟩ := txtX_spec h
      refine ⟨s :: seg, n + 1, by rw [h1]; simp, by simp [h2], by simp; omega, by simp, ?_, ?_⟩
      · intro k o hk ho
        cases k with
        | zero =>
          simp at ho; subst ho
          exact ⟨s, s', by simp, by simpa using h4, by simpa using exX_st hs⟩
        | succ k =>
          obtain ⟨a, b, g1, g2, g3⟩ := h5 k o (by omega) (by simpa using ho)
          refine ⟨a, b, by simpa using g1, by simpa using g2, ?_⟩
          rw [← g3]; congr 1; omega
      · cases e with
        | none =>
          have : n = l.length := h6
          show n + 1 = (x :: l).length
          simp; exact this
        | some q =>
          obtain ⟨ch, hh⟩ := q
          obtain ⟨o, a, g1, g2, g3, g4⟩ := h6
          refine ⟨o, a, by simpa using g1, by simpa using g2, by rw [show i + (n + 1) = i + 1 + n by omega]; exact g3, ?_⟩
          intro k hk hkl
          have := g4 (k - 1) (by omega) (by simp at hkl; omega)
          rw [show i + k = i + 1 + (k - 1) by omega, show i + (n + 1) = i + 1 + n by omega]
          exact this
    · rename_i ch hh hs
      cases ha : afterAll M i l (i + 1) with
      | false => rw [ha] at h; simp at h
      | true =>
        rw [ha] at h
        simp only [cond_true, Option.some.injEq, Prod.mk.injEq] at h
        obtain ⟨rfl, rfl⟩ := h
        refine ⟨[s], 0, by simp, by simp, by simp, by simp, (by intro k o hk; omega), ?_⟩
        refine ⟨x, s, by simp, by simp, by simpa using hs, ?_⟩
        intro k hk hkl
        have := afterAll_spec ha (k - 1) (by simp at hkl; omega)
        rw [show i + k = i + 1 + (k - 1) by omega]
        exact this
    · cases h
end

/-! ### Equal values -/
theorem sEq_eq {a b : AV} (h : sEq a b = true) : a = b := by
  unfold sEq at h
  split at h <;> (try simp only [Bool.and_eq_true, lb_eq, beq_iff_eq, Nat.beq_eq] at h)
  all_goals first
    | rfl
    | (obtain ⟨⟨⟨⟨rfl, rfl⟩, rfl⟩, rfl⟩, rfl⟩ := h; rfl)
    | (obtain ⟨rfl, rfl⟩ := h; rfl)
    | (subst h; rfl)
    | (simp at h)
theorem sEqs_eq : ∀ {a b : List AV}, sEqs a b = true → a = b
  | [], [], _ => rfl
  | x :: l, y :: m, h => by
    simp only [sEqs, Bool.and_eq_true] at h
    rw [sEq_eq h.1, sEqs_eq h.2]
  | [], _ :: _, h => by simp [sEqs] at h
  | _ :: _, [], h => by simp [sEqs] at h
theorem avEq_eq {a b : AV} (h : avEq a b = true) : a = b := by
  unfold avEq at h
  split at h
  · rw [sEqs_eq h]
  · simp only [Bool.and_eq_true, Nat.beq_eq] at h
    obtain ⟨rfl, h2⟩ := h
    rw [sEq_eq h2]
  · exact sEq_eq h

theorem sameRead_spec {P : Program} {ρ : Operand → Option AV} {o : Op} {M : List Nat} {i : Nat} {L : List Nat} {v : AV} : ∀ {l : List St} {k0 : Nat}, sameRead P ρ o M i L v l k0 = true → ∀ k s, l[k]? = some s →
    (∀ j ∈ L, parted M i j = true → (j < i → j < k0 + k) ∧ (¬ j < i → k0 + k ≤ j)) → aRead P ρ s.2 o = some (.val v)
  | [], _, _, k, s, hk, _ => by simp at hk
  | x :: l, k0, h, k, s, hk, hp => by
    simp only [sameRead, Bool.and_eq_true] at h
    cases k with
    | succ k => exact sameRead_spec h.2 k s (by simpa using hk) (fun j hj hpj => by have := hp j hj hpj; exact ⟨fun e => by have := this.1 e; omega, fun e => by have := this.2 e; omega⟩)
    | zero =>
      simp at hk; subst hk
      have h1 := h.1
      have hc : (L.all fun j => !(parted M i j) || (bif Nat.blt j i then Nat.blt j k0 else Nat.ble k0 j)) = true := by
        rw [List.all_eq_true]
        intro j hj
        cases hpj : parted M i j with
        | false => rfl
        | true =>
          obtain ⟨p1, p2⟩ := hp j hj hpj
          simp only [Bool.not_true, Bool.false_or]
          cases hlt : Nat.blt j i with
          | true =>
            have := p1 (by simpa [Nat.blt_eq] using hlt)
            simp [Nat.blt_eq]; omega
          | false =>
            have : ¬ j < i := by intro e; have : Nat.blt j i = true := by simpa [Nat.blt_eq] using e
                                 rw [this] at hlt; simp at hlt
            have := p2 this
            simp; omega
      rw [hc] at h1
      simp only [cond_true] at h1
      split at h1
      · rename_i u hu
        rw [hu, avEq_eq h1]
      · simp at h1

theorem chkR_spec {P : Program} {G : Nat} {M : List Nat} {W : Tr Nat} {L : List Nat} {ops : List Oper} {tr : List St} : ∀ {l : List Oper} {r : List St} {i0 : Nat}, chkR P G M W L ops tr l r i0 = true → ∀ i o s, l[i]? = some o → r[i]? = some s → cls P o.op = .r →
    okHeap M (i0 + i) L = true ∨ (wantD M W ops (i0 + i) s.1 o.guard = some true → ∃ v, aRead P (rhoD G M W (i0 + i) s.1) s.2 o.op = some (.val v) ∧ sameRead P (rhoD G M W (i0 + i) s.1) o.op M (i0 + i) L v tr 0 = true)
  | [], _, _, _, i, o, s, ho, _, _ => by simp at ho
  | _ :: _, [], _, _, i, o, s, _, hs, _ => by simp at hs
  | x :: l, y :: r, i0, h, i, o, s, ho, hs, hc => by
    simp only [chkR, Bool.and_eq_true] at h
    cases i with
    | succ i =>
      have := chkR_spec h.2 i o s (by simpa using ho) (by simpa using hs) hc
      have e : i0 + 1 + i = i0 + (i + 1) := by omega
      rw [e] at this
      exact this
    | zero =>
      simp at ho hs; subst ho; subst hs
      have h1 := h.1
      rw [hc] at h1
      dsimp only at h1
      cases hk : okHeap M i0 L with
      | true => exact .inl rfl
      | false =>
        rw [hk] at h1
        simp only [cond_false] at h1
        refine .inr fun hw => ?_
        simp only [Nat.add_zero] at hw ⊢
        rw [hw] at h1
        dsimp only at h1
        split at h1
        · rename_i v hv; exact ⟨v, hv, h1⟩
        · simp at h1
end Go.Ev
