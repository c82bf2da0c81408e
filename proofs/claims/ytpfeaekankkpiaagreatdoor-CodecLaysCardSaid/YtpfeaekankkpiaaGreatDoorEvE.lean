/-
  What the evaluator says of the operations that touch no memory, and of those that read it, is what they do: each kind, and all of them together.
-/
import Derived.Test.YtpfeaekankkpiaaGreatDoorEvD
import Derived.Laws.Strings2
namespace Go.Ev
open Go Go.RowKit

theorem over_len : ∀ {cs : List AV} {n : Nat} {vs r : List AV}, over cs n vs = some r → n + vs.length ≤ cs.length
  | cs, 0, [], r, h => by simp
  | _ :: cs, 0, v :: vs, r, h => by
    simp only [over] at h
    split at h
    · rename_i s hs
      have := over_len hs
      simp at this ⊢; omega
    · simp at h
  | c :: cs, n + 1, vs, r, h => by
    simp only [over] at h
    split at h
    · rename_i s hs
      have := over_len hs
      simp at this ⊢; omega
    · simp at h
  | [], 0, _ :: _, r, h => by simp [over] at h
  | [], n + 1, _, r, h => by simp [over] at h

theorem overL_nil (l : List Value) (off : Nat) : overL l off [] = l := by simp [overL]
theorem overL_cons (c : Value) (l : List Value) (n : Nat) (vs : List Value) : overL (c :: l) (n + 1) vs = c :: overL l n vs := by
  simp [overL, Nat.succ_add]
theorem overL_zero (c v : Value) (l vs : List Value) : overL (c :: l) 0 (v :: vs) = v :: overL l 0 vs := by
  simp [overL]

theorem over_VRs {μ : List (Nat × Nat)} : ∀ {cs : List AV} {n : Nat} {vs r : List AV} {ws us : List Value}, over cs n vs = some r → VRs μ cs ws → VRs μ vs us → VRs μ r (overL ws n us)
  | cs, 0, [], r, ws, us, h, h1, h2 => by
    rw [VRs_nil] at h2; subst h2
    cases cs <;> simp [over] at h <;> subst h <;> simpa [overL_nil] using h1
  | c :: cs, 0, v :: vs, r, ws, us, h, h1, h2 => by
    rw [VRs_cons] at h1 h2
    obtain ⟨w, ws, rfl, _, h1⟩ := h1
    obtain ⟨u, us, rfl, hu, h2⟩ := h2
    simp only [over] at h
    split at h
    · rename_i s hs
      simp at h; subst h
      rw [overL_zero, VRs_cons]
      exact ⟨_, _, rfl, hu, over_VRs hs h1 h2⟩
    · simp at h
  | c :: cs, n + 1, vs, r, ws, us, h, h1, h2 => by
    rw [VRs_cons] at h1
    obtain ⟨w, ws, rfl, hw, h1⟩ := h1
    simp only [over] at h
    split at h
    · rename_i s hs
      simp at h; subst h
      rw [overL_cons, VRs_cons]
      exact ⟨_, _, rfl, hw, over_VRs hs h1 h2⟩
    · simp at h
  | [], 0, _ :: _, r, ws, us, h, _, _ => by simp [over] at h
  | [], n + 1, _, r, ws, us, h, _, _ => by simp [over] at h

theorem foldl_over : ∀ (vs : List Value) (j off : Nat) (cells : Array Value), off + j + vs.length ≤ cells.size →
    ((vs.zipIdx j).foldl (fun (cs : Array Value) (p : Value × Nat) => cs.setIfInBounds (off + p.2) p.1) cells).toList = overL cells.toList (off + j) vs
  | [], j, off, cells, _ => by simp [overL_nil]
  | v :: vs, j, off, cells, h => by
    simp only [List.length_cons] at h
    simp only [List.zipIdx_cons, List.foldl_cons]
    rw [foldl_over vs (j + 1) off _ (by simp; omega)]
    unfold overL
    simp only [Array.toList_setIfInBounds, List.length_cons]
    rw [← Nat.add_assoc off j 1, List.take_set, List.drop_set, if_pos (by omega)]
    have hlen : off + j < cells.toList.length := by simp; omega
    rw [List.take_succ_eq_append_getElem hlen, List.set_append_right _ _ (by simp; omega)]
    simp only [List.length_take, Array.length_toList, List.append_assoc]
    rw [Nat.min_eq_left (by omega)]
    simp
    congr 1
    omega

section
variable {P : Program} {μ : List (Nat × Nat)} {ρ : Operand → Option AV} {σ : Operand → Value} {w : World}

theorem VR_cells {a : AV} {v : Value} (h : VR μ a v) : VRs μ a.cells v.cells.toList := by
  cases a with
  | agg cs => unfold VR at h; obtain ⟨u, rfl, hu⟩ := h; exact hu
  | raw u =>
    unfold VR at h; subst h
    cases v with
    | agg cs => exact VRs_ofScalar μ _
    | _ => simp only [AV.cells, Value.cells]; rw [VRs_cons]; exact ⟨_, _, rfl, by unfold VR; rfl, by rw [VRs_nil]⟩
  | bool _ => have h' := h; unfold VR at h; subst h; simp only [AV.cells, Value.cells]; rw [VRs_cons]; exact ⟨_, _, rfl, h', by rw [VRs_nil]⟩
  | int _ _ => have h' := h; unfold VR at h; subst h; simp only [AV.cells, Value.cells]; rw [VRs_cons]; exact ⟨_, _, rfl, h', by rw [VRs_nil]⟩
  | str _ => have h' := h; unfold VR at h; subst h; simp only [AV.cells, Value.cells]; rw [VRs_cons]; exact ⟨_, _, rfl, h', by rw [VRs_nil]⟩
  | ptr _ _ => have h' := h; unfold VR at h; obtain ⟨_, _, rfl⟩ := h; simp only [AV.cells, Value.cells]; rw [VRs_cons]; exact ⟨_, _, rfl, h', by rw [VRs_nil]⟩
  | slice _ _ _ _ _ => have h' := h; unfold VR at h; obtain ⟨_, _, _, rfl, _⟩ := h; simp only [AV.cells, Value.cells]; rw [VRs_cons]; exact ⟨_, _, rfl, h', by rw [VRs_nil]⟩
  | map _ => have h' := h; unfold VR at h; obtain ⟨_, _, rfl⟩ := h; simp only [AV.cells, Value.cells]; rw [VRs_cons]; exact ⟨_, _, rfl, h', by rw [VRs_nil]⟩
  | func _ _ _ => have h' := h; unfold VR at h; obtain ⟨_, _, rfl, _⟩ := h; simp only [AV.cells, Value.cells]; rw [VRs_cons]; exact ⟨_, _, rfl, h', by rw [VRs_nil]⟩
  | iface _ _ => have h' := h; unfold VR at h; obtain ⟨_, rfl, _⟩ := h; simp only [AV.cells, Value.cells]; rw [VRs_cons]; exact ⟨_, _, rfl, h', by rw [VRs_nil]⟩
  | tuple _ => have h' := h; unfold VR at h; obtain ⟨_, rfl, _⟩ := h; simp only [AV.cells, Value.cells]; rw [VRs_cons]; exact ⟨_, _, rfl, h', by rw [VRs_nil]⟩

theorem fillA_run {placeA : Nat → Option (Nat × Nat)} : ∀ {ps : List (Nat × AV)} {qs : List (Nat × Value)} {cs r : List AV} {cells : Array Value}, fillA placeA cs ps = some r → VRs μ cs cells.toList →
    ps.length = qs.length → (∀ (i : Nat) (p : Nat × AV) (q : Nat × Value), ps[i]? = some p → qs[i]? = some q → p.1 = q.1 ∧ VR μ p.2 q.2) → ∃ out, Instr.fill placeA cells qs = some out ∧ VRs μ r out.toList
  | [], [], cs, r, cells, h, hv, _, _ => by simp [fillA] at h; subst h; exact ⟨cells, rfl, hv⟩
  | [], _ :: _, _, _, _, _, _, hl, _ => by simp at hl
  | _ :: _, [], _, _, _, _, _, hl, _ => by simp at hl
  | (i, a) :: ps, (j, v) :: qs, cs, r, cells, h, hv, hl, hp => by
    have h0 := hp 0 (i, a) (j, v) rfl rfl
    obtain ⟨rfl, ha⟩ : i = j ∧ VR μ a v := h0
    simp only [fillA] at h
    split at h
    · simp at h
    · rename_i off size hpl
      cases hb : Nat.beq a.cells.length size with
      | false => rw [hb] at h; simp at h
      | true =>
        rw [hb] at h
        simp only [cond_true] at h
        split at h
        · rename_i r' hr'
          have hc := VR_cells ha
          have hlen := VRs_length hc
          have hle := over_len hr'
          have hcl := VRs_length hv
          have hsz : v.cells.size = size := by
            have : a.cells.length = size := by simpa using hb
            simp at hlen; omega
          have hfit : ¬ (v.cells.size ≠ size || off + v.cells.size > cells.size) = true := by
            simp at hlen hcl
            simp; omega
          have hov := over_VRs hr' hv hc
          have hfold : (v.cells.zipIdx.foldl (fun (cs : Array Value) (p : Value × Nat) => cs.setIfInBounds (off + p.2) p.1) cells).toList = overL cells.toList off v.cells.toList := by
            have := foldl_over v.cells.toList 0 off cells (by simp at hlen hcl ⊢; omega)
            simp only [Nat.add_zero] at this
            rw [← this]
            congr 1
            rw [← Array.foldl_toList]
            simp
          obtain ⟨out, ho1, ho2⟩ := fillA_run (placeA := placeA) (cells := v.cells.zipIdx.foldl (fun (cs : Array Value) (p : Value × Nat) => cs.setIfInBounds (off + p.2) p.1) cells) h (by rw [hfold]; exact hov) (by simpa using hl)
            (fun k p q hk1 hk2 => hp (k + 1) p q (by simpa using hk1) (by simpa using hk2))
          refine ⟨out, ?_, ho2⟩
          simp only [Instr.fill, hpl]
          rw [if_neg hfit]
          exact ho1
        · simp at h

theorem noParts_run (hρ : ∀ x a, ρ x = some a → VR μ a (σ x)) : ∀ {l : List (Nat × Operand)} {ps : List (Nat × AV)}, noParts ρ l = some ps →
    ps.length = (l.map fun (p : Nat × Operand) => (p.1, σ p.2)).length ∧ ∀ (i : Nat) (p : Nat × AV) (q : Nat × Value), ps[i]? = some p → (l.map fun (p : Nat × Operand) => (p.1, σ p.2))[i]? = some q → p.1 = q.1 ∧ VR μ p.2 q.2
  | [], ps, h => by simp [noParts] at h; subst h; simp
  | (i, x) :: l, ps, h => by
    simp only [noParts] at h
    split at h
    · rename_i a ha
      split at h
      · rename_i r hr
        simp at h; subst h
        obtain ⟨h1, h2⟩ := noParts_run hρ hr
        refine ⟨by simpa using h1, ?_⟩
        intro k p q hk1 hk2
        cases k with
        | zero =>
          simp at hk1 hk2
          subst hk1; subst hk2
          exact ⟨rfl, hρ _ _ ha⟩
        | succ k => exact h2 k p q (by simpa using hk1) (by simpa using hk2)
      · simp at h
    · simp at h

theorem placesA_run : ∀ {fs : List Field} {pl : List (Nat × Nat)}, placesA P fs = some pl → ∀ w, (List.mapM (m := Sem) (fun (f : Field) => do pure (f.offset, ← sizeOf f.type)) fs).run P w = .ok pl w
  | [], pl, h, w => by simp [placesA] at h; subst h; rfl
  | f :: l, pl, h, w => by
    simp only [placesA] at h
    split at h
    · rename_i n hn
      split at h
      · rename_i r hr
        simp at h; subst h
        have h1 := sizeT_run hn w
        have h2 := placesA_run hr w
        simp only [List.mapM_cons, Sem.run_bind, h1, Result.andThen, Sem.run_pure, h2]
      · simp at h
    · simp at h

theorem aBuild_run (hρ : ∀ x a, ρ x = some a → VR μ a (σ x)) {t : TypeId} {parts : Array (Nat × Operand)} {nx : ANx} (h : aBuild P t (zeroT P t) (noParts ρ parts.toList) = some nx) (w : World) :
    ResR P μ w nx (Sem.run P (do pure (Next.value (← Instr.build t (parts.map fun (i, x) => (i, σ x))))) w) := by
  unfold aBuild at h
  split at h
  · rename_i z ps hz hps
    obtain ⟨zv, hz1, rfl⟩ := zeroT_run hz w
    obtain ⟨p1, p2⟩ := noParts_run hρ hps
    have hzc : VRs μ (ofVal zv).cells zv.cells.toList := VR_cells (VR_ofVal μ zv)
    split at h
    · rename_i fs hu
      split at h
      · rename_i pl hpl
        split at h
        · rename_i r hr
          simp at h; subst h
          obtain ⟨out, ho1, ho2⟩ := fillA_run (qs := parts.toList.map fun (p : Nat × Operand) => (p.1, σ p.2)) hr hzc p1 p2
          refine res_val (v := .agg out) (run_v ?_) (by unfold VR; exact ⟨_, rfl, ho2⟩)
          have hm := placesA_run hpl w
          have hm' : (fs.mapM (m := Sem) (fun (f : Field) => do pure (f.offset, ← sizeOf f.type))).run P w = .ok pl.toArray w := by
            simp only [bind_pure_comp] at hm
            simp [Array.mapM_eq_mapM_toList, hm]
          unfold Instr.build
          simp only [Sem.run_bind, hz1, run_underlying hu, Result.andThen, hm']
          have e : (Array.map (fun (x : Nat × Operand) => match x with | (i, x) => (i, σ x)) parts).toList = parts.toList.map fun (p : Nat × Operand) => (p.1, σ p.2) := by simp
          rw [e]
          have e2 : (fun (i : Nat) => pl.toArray[i]?) = fun (i : Nat) => pl[i]? := by funext i; simp
          rw [e2, ho1]
          rfl
        · simp at h
      · simp at h
    · rename_i n e hu
      split at h
      · rename_i size hs
        split at h
        · rename_i r hr
          simp at h; subst h
          obtain ⟨out, ho1, ho2⟩ := fillA_run (qs := parts.toList.map fun (p : Nat × Operand) => (p.1, σ p.2)) hr hzc p1 p2
          refine res_val (v := .agg out) (run_v ?_) (by unfold VR; exact ⟨_, rfl, ho2⟩)
          unfold Instr.build
          have hs' := sizeT_run hs w
          simp only [Sem.run_bind, hz1, run_underlying hu, Result.andThen, hs']
          have e : (Array.map (fun (x : Nat × Operand) => match x with | (i, x) => (i, σ x)) parts).toList = parts.toList.map fun (p : Nat × Operand) => (p.1, σ p.2) := by simp
          rw [e, ho1]
          rfl
        · simp at h
      · simp at h
    · simp at h
  · simp at h

theorem aSlice_run (hρ : ∀ x a, ρ x = some a → VR μ a (σ x)) {t : TypeId} {x : Operand} {lo hi mx : Option Operand} {nx : ANx} (h : aSlice P t (ρ x) (opt ρ lo) (opt ρ hi) (opt ρ mx) = some nx) (w : World) :
    ResR P μ w nx (Sem.run P (do pure (Next.value (← Instr.sliceAt t (σ x) (lo.map σ) (hi.map σ) (mx.map σ)))) w) := by
  unfold aSlice at h
  split at h
  · rename_i a l' h' m' ha hl hh hm
    have hx := hρ _ _ ha
    have gl := opt_run hρ hl
    have gh := opt_run hρ hh
    have gm := opt_run hρ hm
    split at h
    · rename_i id off n e hu
      split at h
      · rename_i l hh' m size hb hs
        simp at h; subst h
        obtain ⟨r1, r2, r3, r4, r5, r6⟩ := boundsA_run (P := P) (isS := false) hb gl gh gm n (Nat.le_refl _) w
        have hm' : capOf m' m n = m := by
          cases m' with
          | none => exact (r4 rfl).symm
          | some _ => rfl
        rw [hm'] at r1
        unfold VR at hx
        obtain ⟨b, hb1, hb2⟩ := hx
        refine res_val (run_v (v := .slice (some (if m = l then ⟨b, off, none⟩ else ⟨b, off + l * size, none⟩)) (hh' - l) (m - l)) ?_) ?_
        · have hs' := sizeT_run hs w
          rw [hb2]
          simp [Instr.sliceAt, run_underlying hu, Instr.sureAddr, r1, hs', add_lit]
        · unfold VR
          by_cases e : m = l
          · have : Nat.beq m l = true := by simpa using e
            rw [this, if_pos e]
            exact ⟨b, _, hb1, rfl, Nat.le_refl _, fun _ => rfl, fun h => by simp at h⟩
          · have : Nat.beq m l = false := by rw [Bool.eq_false_iff]; intro hb; exact e (by simpa using hb)
            rw [this, if_neg e]
            exact ⟨b, _, hb1, rfl, Nat.le_refl _, fun _ => rfl, fun h => by simp at h⟩
      · simp at h
    · rename_i id off len cap ex e hu
      split at h
      · rename_i l hh' m size hb hs
        unfold VR at hx
        obtain ⟨b, C, hb1, hb2, hC, hex, hcp⟩ := hx
        obtain ⟨r1, r2, r3, r4, r5, r6⟩ := boundsA_run (P := P) (isS := true) hb gl gh gm C hC w
        have hs' := sizeT_run hs w
        have hrun : (Instr.sliceAt t (σ x) (lo.map σ) (hi.map σ) (mx.map σ)).run P w =
            .ok (.slice (if capOf m' m C = l then some ⟨b, off, none⟩ else some ⟨b, off + l * size, none⟩) (hh' - l) (capOf m' m C - l)) w := by
          rw [hb2]
          simp only [Instr.sliceAt, Sem.run_bind, run_underlying hu, Result.andThen, Instr.slice, r1, hs', Option.map_some, add_lit]
          rfl
        cases ex with
        | true =>
          simp only [cond_true, Option.some.injEq] at h; subst h
          have hc := hex rfl
          subst hc
          have hm' : capOf m' m C = m := by
            cases m' with
            | none => exact (r4 rfl).symm
            | some _ => rfl
          rw [hm'] at hrun
          refine res_val (run_v hrun) ?_
          unfold VR
          by_cases e : m = l
          · have : Nat.beq m l = true := by simpa using e
            rw [this, if_pos e]
            exact ⟨b, _, hb1, rfl, Nat.le_refl _, fun _ => rfl, fun h => by simp at h⟩
          · have : Nat.beq m l = false := by rw [Bool.eq_false_iff]; intro hb; exact e (by simpa using hb)
            rw [this, if_neg e]
            exact ⟨b, _, hb1, rfl, Nat.le_refl _, fun _ => rfl, fun h => by simp at h⟩
        | false =>
          simp only [cond_false] at h
          cases hl0 : Nat.beq l 0 with
          | false => rw [hl0] at h; simp at h
          | true =>
            rw [hl0] at h
            simp only [cond_true, Option.some.injEq] at h; subst h
            have : l = 0 := by simpa using hl0
            subst this
            refine res_val (run_v hrun) ?_
            simp only [Nat.zero_mul, Nat.add_zero, ite_self, Nat.sub_zero]
            unfold VR
            cases m' with
            | none => exact ⟨b, C, hb1, rfl, by rw [r4 rfl]; exact hC, fun hh => by simp at hh, fun _ => hcp rfl⟩
            | some _ => exact ⟨b, m, hb1, rfl, Nat.le_refl _, fun _ => rfl, fun h => by simp at h⟩
      · simp at h
    · rename_i s hu
      split at h
      · rename_i l hh' m hb
        simp at h; subst h
        simp only [OptR] at gm
        obtain ⟨r1, _⟩ := boundsA_run (P := P) (isS := false) (mx' := none) hb gl gh rfl s.length (Nat.le_refl _) w
        unfold VR at hx
        refine res_val (run_v (v := .string ⟨((s.drop l).take (hh' - l)).toArray⟩) ?_) (by unfold VR; rfl)
        have hsz : (⟨s.toArray⟩ : ByteArray).size = s.length := by simp [ByteArray.size]
        rw [hx, gm]
        simp only [Instr.sliceAt, Sem.run_bind, run_underlying hu, Result.andThen, Instr.slice, hsz]
        simp [ByteArray.extract_mk, r1]
      · simp at h
    · rename_i e hu
      split at h
      · rename_i size hb hs
        simp at h; subst h
        obtain ⟨r1, _⟩ := boundsA_run (P := P) (isS := true) hb gl gh gm 0 (Nat.le_refl _) w
        have hs' := sizeT_run hs w
        unfold VR at hx
        have hc : capOf m' 0 0 = 0 := by cases m' <;> rfl
        rw [hc] at r1
        refine res_val (run_v (v := .slice none 0 0) ?_) (by unfold VR; rfl)
        rw [hx]
        simp only [Instr.sliceAt, Sem.run_bind, run_underlying hu, Result.andThen, Instr.slice, r1, hs']
        rfl
      · simp at h
    · simp at h
  · simp at h
end
end Go.Ev
