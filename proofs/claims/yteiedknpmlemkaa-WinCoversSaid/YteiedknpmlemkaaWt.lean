/-
  The evaluator is told what Of and Gather tell: so closed calls that go through windows are run in the kernel, too.
-/
import Derived.Test.YteiedknpmlemkaaWq
namespace Go.Proofs.Yteiedknpmlemkaa
open Go Go.RowKit Go.Lib Go.Ev

/-- Windows out of a row's cells. -/
noncomputable def decR : List AV → Option (List Win)
  | .int .i64 a :: .int .i64 b :: rest => (match decR rest with
    | some r => some ((a, b) :: r)
    | none => none)
  | [] => some []
  | _ => none
noncomputable def readR (h : AH) : AV → Option (List Win)
  | .slice id 0 len _ _ => (match h.get id with
    | some (.cells cs _ _ _) => (match takeN (len * 2) cs with
      | some l => decR l
      | none => none)
    | none => none)
  | .raw (.slice none 0 0) => some []
  | _ => none
noncomputable def lenOf : AV → Nat
  | .slice _ _ len _ _ => len
  | _ => 0
noncomputable def tellR (h : AH) : List Win → Option (AV × AH)
  | [] => some (.raw (.slice none 0 0), h)
  | out => (match newRowA h 34 ((cellsL out).map ofScalar) 2 with
    | some (id, h') => some (.slice id 0 out.length out.length false, h')
    | none => none)
noncomputable def orc : Orc := fun f args h =>
  match f, args with
  | 10, [.agg [.int .i64 k, .int .i64 a, .int .i64 b, .int .i64 g], .int .i64 t] => tellR h (ofM ⟨k, a, b, g⟩ t)
  | 18, [s] => (match readR h s with
    | some rs => bif Nat.beq rs.length (lenOf s) && Nat.ble rs.length 1000000 then tellR h (gatherM rs) else none
    | none => none)
  | 14, [.agg [.int .i64 a, .int .i64 b], .agg [.int .i64 c, .int .i64 d]] => some (.agg [.int .i64 (joinM (a, b) (c, d)).1, .int .i64 (joinM (a, b) (c, d)).2], h)
  | _, _ => none

theorem agg2 {μ : List (Nat × Nat)} {a b : Int} {u : Value} (h : VR μ (.agg [.int .i64 a, .int .i64 b]) u) : u = wv (a, b) := by
  simp only [VR, VRs_cons, VRs_nil] at h
  obtain ⟨u, rfl, v1, q1, e1, rfl, v2, q2, rfl, rfl, rfl⟩ := h
  congr 1
  exact Array.toList_inj.1 e1

theorem decR_vn {μ : List (Nat × Nat)} : ∀ (n : Nat) {l : List AV} {rs : List Win} {vs : List Value}, l.length ≤ n → decR l = some rs → VRs μ l vs → vs = cellsL rs := by
  intro n
  induction n with
  | zero =>
    intro l rs vs hn h hv
    obtain rfl : l = [] := List.eq_nil_of_length_eq_zero (by omega)
    simp [decR] at h; subst h
    rw [VRs_nil] at hv; subst hv; rfl
  | succ n ih =>
    intro l rs vs hn h hv
    unfold decR at h
    split at h
    · rename_i a b rest
      split at h
      · rename_i r hr
        simp at h; subst h
        simp only [VRs_cons] at hv
        obtain ⟨v1, r1, rfl, e1, v2, r2, rfl, e2, h7⟩ := hv
        unfold VR at e1 e2
        subst e1 e2
        rw [ih (by simp at hn; omega) hr h7]
        rfl
      · cases h
    · simp at h; subst h
      rw [VRs_nil] at hv; subst hv; rfl
    · cases h
theorem decR_v {μ : List (Nat × Nat)} {l : List AV} {rs : List Win} {vs : List Value} (h : decR l = some rs) (hv : VRs μ l vs) : vs = cellsL rs := decR_vn l.length (Nat.le_refl _) h hv

theorem readR_wins {B : Nat → Nat} {μ : List (Nat × Nat)} {h : AH} {w : World} {s : AV} {u : Value} {rs : List Win} (H : HR B μ h w) (hr : readR h s = some rs) (hl : rs.length = lenOf s) (hv : VR μ s u) :
    ∃ A cap, u = .slice A rs.length cap ∧ Wins w w.heap.size u rs := by
  unfold readR at hr
  split at hr
  · rename_i id len cap ex
    split at hr
    · rename_i cs t ro g hg
      split at hr
      · rename_i l htk
        unfold VR at hv
        obtain ⟨b, c, hb, rfl, _⟩ := hv
        obtain ⟨C, _, arr, fz, hw, hv0, _⟩ := H.at hg hb
        obtain ⟨h1, h2⟩ := VRs_takeN hv0 htk
        have h3 := decR_v hr h1
        have hlen : rs.length = len := hl
        subst hlen
        refine ⟨_, c, rfl, _, c, rfl, .inr ⟨b, rfl, (Array.getElem?_eq_some_iff.1 hw).1, fun j x hx => ?_⟩⟩
        have hj : j < rs.length := (List.getElem?_eq_some_iff.1 hx).1
        have cell : ∀ i u, (cellsL rs)[i]? = some u → w.cell? ⟨b, i, none⟩ = some u := by
          intro i u hi
          rw [← h3, List.getElem?_take] at hi
          have : i < rs.length * 2 := Classical.byContradiction fun q => by rw [if_neg q] at hi; cases hi
          rw [if_pos this] at hi
          rw [cell_of_block hw]
          rw [List.getElem?_take] at hi
          have h6 : i < cs.length := Classical.byContradiction fun q => by rw [if_neg q] at hi; cases hi
          rw [if_pos h6] at hi
          simpa using hi
        obtain ⟨q1, q2⟩ := cellsL_at rs j x hx
        exact ⟨cell _ _ q1, cell _ _ q2⟩
      · cases hr
    · cases hr
  · simp at hr; subst hr
    unfold VR at hv; subst hv
    exact ⟨none, 0, rfl, none, 0, rfl, .inl rfl⟩
  · cases hr

theorem tellR_stands {B : Nat → Nat} {μ : List (Nat × Nat)} {h h' : AH} {w w' : World} {out : List Win} {x : AV} {v : Value} (H : HR B μ h w) (ht : tellR h out = some (x, h')) (hown : w'.ownsRow w.heap.size 34 2 v out.length (cellsL out)) (hnil : out = [] → v = .slice none 0 0) (hb : Below w.heap.size w w') :
    ∃ μ', μ <+: μ' ∧ VR μ' x v ∧ HR B μ' h' w' := by
  have H' : HR B μ h w' := H.beside hb.size hb.block
  unfold tellR at ht
  split at ht
  · simp only [Option.some.injEq, Prod.mk.injEq] at ht
    obtain ⟨rfl, rfl⟩ := ht
    exact ⟨μ, List.prefix_refl _, by unfold VR; exact hnil rfl, H'⟩
  · rename_i hne
    split at ht
    · rename_i id h1 hn
      simp only [Option.some.injEq, Prod.mk.injEq] at ht
      obtain ⟨rfl, rfl⟩ := ht
      unfold newRowA at hn
      cases hall : (((cellsL out).map ofScalar).all AV.one) with
      | false => rw [hall] at hn; simp at hn
      | true =>
        rw [hall] at hn
        simp only [cond_true] at hn
        rcases hown.2 with ⟨rfl, h0⟩ | ⟨g, cap, cur, rfl, hg, hc, hcap, _, hsz, htk⟩
        · exact absurd (List.eq_nil_of_length_eq_zero h0) hne
        · have hcl := cellsL_len out
          obtain ⟨H2, hid⟩ := H'.add (b := g) (C := cap) hn ⟨cur, (0, 0), hc, by
              rw [List.length_map, hcl, htk]
              exact VRs_ofScalar _ _, fun _ => ⟨Classical.byContradiction fun hne => by have := H.bsz g hne; omega, fun i _ hi => by omega⟩, by omega, fun e2 => by have := H.bsz g (by omega); omega⟩ (fun j p hj hbj => by
              obtain ⟨b', C', q1, q2⟩ := H.obj j p hj
              rw [blk_of q1] at hbj
              have := q2.lt
              simp at hbj; omega)
          refine ⟨_, List.prefix_append _ _, ?_, H2⟩
          unfold VR
          exact ⟨g, cap, blk_of hid, rfl, hcap, ⟨fun e => Bool.noConfusion e, fun _ => cpo_of hid⟩⟩
    · cases ht

theorem orc_sound : CallSound Try.prog 0 orc := by
  intro B f args h v h' hc μ w vs H hG hv
  unfold orc at hc
  split at hc
  · rename_i k a b g t
    obtain ⟨u1, u2, rfl, r1, r2⟩ := two_VRs hv
    have e1 : u1 = OpD.val ⟨k, a, b, g⟩ := by
      simp only [VR, VRs_cons, VRs_nil] at r1
      obtain ⟨u, rfl, v1, q1, e1, rfl, v2, q2, rfl, rfl, v3, q3, rfl, rfl, v4, q4, rfl, rfl, rfl⟩ := r1
      unfold OpD.val
      congr 1
      exact Array.toList_inj.1 e1
    subst e1
    have e2 : u2 = .int .i64 t := by unfold VR at r2; exact r2
    subst e2
    refine .inr ⟨callFunc_enter (orc := orc0) env0 Try.func10 rfl _ _, ?_⟩
    refine (of_any ⟨k, a, b, g⟩ t w).mono ?_
    rintro e w' ⟨u, rfl, h1, h2, h3⟩
    obtain ⟨μ', p1, p2, p3⟩ := tellR_stands H hc h1 h2 h3
    exact ⟨μ', u, p1, rfl, p2, p3, Bel.of_below h3 H.bsz⟩
  · rename_i s
    split at hc
    · rename_i rs hr
      cases hq : (Nat.beq rs.length (lenOf s) && Nat.ble rs.length 1000000) with
      | false => rw [hq] at hc; simp at hc
      | true =>
        rw [hq] at hc
        simp only [cond_true] at hc
        simp only [Bool.and_eq_true, Nat.beq_eq, Nat.ble_eq] at hq
        obtain ⟨u1, e1, r1⟩ := one_VRs hv
        obtain rfl : vs = #[u1] := Array.toList_inj.1 e1
        obtain ⟨A, cap, rfl, hrec⟩ := readR_wins H hr hq.1 r1
        refine .inr ⟨callFunc_enter (orc := orc0) env0 Try.func18 rfl _ _, ?_⟩
        refine (gather_any rs A cap w hrec (by omega)).mono ?_
        rintro e w' ⟨u, rfl, h1, h2, h3⟩
        obtain ⟨μ', p1, p2, p3⟩ := tellR_stands H hc h1 h2 h3
        exact ⟨μ', u, p1, rfl, p2, p3, Bel.of_below h3 H.bsz⟩
    · cases hc
  · rename_i a b c d
    simp only [Option.some.injEq, Prod.mk.injEq] at hc
    obtain ⟨rfl, rfl⟩ := hc
    obtain ⟨u1, u2, rfl, r1, r2⟩ := two_VRs hv
    obtain rfl := agg2 r1
    obtain rfl := agg2 r2
    refine .inr ⟨callFunc_enter (orc := orc0) env0 Try.func14 rfl _ _, ?_⟩
    refine (join_any (a, b) (c, d) w).mono ?_
    rintro e w' ⟨rfl, hb⟩
    exact ⟨μ, _, List.prefix_refl _, rfl, by simp [VR, VRs_cons, VRs_nil], H.beside hb.size hb.block, Bel.of_below hb H.bsz⟩
  · cases hc

theorem env : Env Try.prog 0 orc where
  name := env0.name
  mix := env0.mix
  orc := orc_sound

/-- A closed call of this program that the evaluator says to be true. -/
theorem closed_here {f : FuncId} {fuel : Nat} (hc : isTrue (acall Try.prog 0 orc fuel f [] h00) = true) (w : World) :
    Calls Try.prog f #[] w fun e w' => e = .returned (.bool true) ∧ Below w.heap.size w w' :=
  (closed_true env hc (h00_stands w) (fun g hg => by omega)).mono fun e w' hh => ⟨hh.1, hh.2.below⟩
end Go.Proofs.Yteiedknpmlemkaa
