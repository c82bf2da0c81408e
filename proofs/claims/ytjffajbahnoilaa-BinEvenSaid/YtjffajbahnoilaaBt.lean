/-
  The evaluator is told what First and Turns tell: so closed calls that deal are run in the kernel, too. works(); BinKnown.
-/
import Derived.Test.YtjffajbahnoilaaBe
namespace Go.Proofs.Ytjffajbahnoilaa
open Go Go.RowKit Go.Lib Go.Ev

set_option maxRecDepth 100000 in
theorem turns_none (A B : Option Addr) (n c c2 : Nat) (w : World) : Calls Try.prog 11 #[.slice A n c, .slice B 0 c2] w fun e w' => e = .returned (.slice none 0 0) ∧ w' = w := by
  go_enter Try.func11, Try.ntmps11
  go_wp2
  go_ret
  exact ⟨rfl, rfl⟩

noncomputable def orc0 : Orc := fun _ _ _ => none
noncomputable def h00 : AH := { n := 0, t := .nil }
theorem names : Try.prog.funcs.toList.all (fun fn => !(fn.name == "runtime.NumGoroutine")) = true := by kernel_rfl
theorem env0 : Env Try.prog 0 orc0 where
  name := fun f fn hf => by
    have := List.all_eq_true.1 names fn (List.mem_of_getElem? (i := f) (by rw [Array.getElem?_toList]; exact hf))
    simpa using this
  mix := by kernel_rfl
  orc := fun _ f args h v h' hc => by simp [orc0] at hc
theorem h00_stands (w : World) : HR (under w.heap.size) [] h00 w :=
  ⟨rfl, fun id o ho => by simp [h00, Tr.get_nil] at ho, fun i j o p b hi => by simp [h00, Tr.get_nil] at hi, fun _ hk => under_lt hk, by simp [h00]⟩

/-- Numbers out of a row's cells. -/
noncomputable def decI : List AV → Option (List Int)
  | .int .i64 a :: rest => (match decI rest with
    | some r => some (a :: r)
    | none => none)
  | [] => some []
  | _ => none
noncomputable def readI (h : AH) : AV → Option (List Int)
  | .slice id 0 len _ _ => (match h.get id with
    | some (.cells cs _ _ _) => (match takeN len cs with
      | some l => decI l
      | none => none)
    | none => none)
  | .raw (.slice none 0 0) => some []
  | _ => none
noncomputable def lenI : AV → Option Nat
  | .slice _ 0 len _ _ => some len
  | .raw (.slice none 0 0) => some 0
  | _ => none
def turnL (ws : List Int) (q n : Nat) : List Int := (List.range n).map (fun k => ws.getD (k % q) 0)
noncomputable def tellI (h : AH) (l : List Int) : Option (AV × AH) :=
  match newRowA h 3 ((l.map (Value.int .i64)).map ofScalar) 1 with
  | some (id, h') => some (.slice id 0 l.length l.length false, h')
  | none => none
noncomputable def orc : Orc := fun f args h =>
  match f, args with
  | 8, [.int .i64 a] => some (.agg ((firstM a).map (AV.int .i64)), h)
  | 11, [s, t] => (match lenI s, readI h t with
    | some n, some ws => bif Nat.ble n 50 && Nat.ble ws.length 50 then (match ws with
      | [] => some (.raw (.slice none 0 0), h)
      | _ :: _ => tellI h (turnL ws ws.length n)) else none
    | _, _ => none)
  | _, _ => none

theorem turnL_eq (ws : List Int) (q n : Nat) : (List.range n).map (turn ws q) = (turnL ws q n).map (Value.int .i64) := by
  unfold turnL turn
  rw [List.map_map]
  rfl

theorem decI_v {μ : List (Nat × Nat)} : ∀ {l : List AV} {rs : List Int} {vs : List Value}, decI l = some rs → VRs μ l vs → vs = rs.map (Value.int .i64)
  | [], rs, vs, h, hv => by
    simp [decI] at h; subst h
    rw [VRs_nil] at hv; subst hv; rfl
  | x :: rest, rs, vs, h, hv => by
    unfold decI at h
    split at h
    · rename_i a rest' heq
      obtain ⟨rfl, rfl⟩ := List.cons.inj heq
      split at h
      · rename_i r hr
        simp at h; subst h
        simp only [VRs_cons] at hv
        obtain ⟨v1, r1, rfl, e1, h7⟩ := hv
        unfold VR at e1
        subst e1
        rw [decI_v hr h7]
        rfl
      · cases h
    · rename_i heq; cases heq
    · cases h

theorem lenI_v {μ : List (Nat × Nat)} {s : AV} {u : Value} {n : Nat} (h : lenI s = some n) (hv : VR μ s u) : ∃ A c, u = .slice A n c := by
  unfold lenI at h
  split at h
  · simp at h; subst h
    unfold VR at hv
    obtain ⟨b, c, hb, rfl, _⟩ := hv
    exact ⟨_, _, rfl⟩
  · simp at h; subst h
    unfold VR at hv; subst hv
    exact ⟨_, _, rfl⟩
  · cases h

theorem readI_v {B : Nat → Nat} {μ : List (Nat × Nat)} {h : AH} {w : World} {s : AV} {u : Value} {rs : List Int} (H : HR B μ h w) (hr : readI h s = some rs) (hv : VR μ s u) :
    (rs = [] ∧ ∃ A c, u = .slice A 0 c) ∨ (∃ ad c, u = .slice (some ad) rs.length c ∧ ad.block < w.heap.size ∧ ∀ j z, rs[j]? = some z → w.cell? (ad.add j) = some (.int .i64 z)) := by
  unfold readI at hr
  split at hr
  · rename_i id len cap ex
    split at hr
    · rename_i cs t ro g hg
      split at hr
      · rename_i l htk
        unfold VR at hv
        obtain ⟨b, c, hb, rfl, _⟩ := hv
        obtain ⟨C, _, arr, fz, hw, hv0, _⟩ := H.at hg hb
        obtain ⟨h1, h2⟩ := VRs_takeN hv0 htk
        have h3 := decI_v hr h1
        have hlen : rs.length = len := by
          have := congrArg List.length h3
          simp only [List.length_map, List.length_take] at this h2
          omega
        subst hlen
        refine .inr ⟨_, c, rfl, (Array.getElem?_eq_some_iff.1 hw).1, fun j z hj => ?_⟩
        have hj' : (rs.map (Value.int .i64))[j]? = some (.int .i64 z) := by rw [List.getElem?_map, hj]; rfl
        rw [← h3, List.getElem?_take] at hj'
        split at hj'
        · rw [List.getElem?_take] at hj'
          split at hj'
          · rw [add_lit, cell_of_block hw]
            simpa using hj'
          · cases hj'
        · cases hj'
      · cases hr
    · cases hr
  · simp at hr; subst hr
    unfold VR at hv; subst hv
    exact .inl ⟨rfl, _, _, rfl⟩
  · cases hr

theorem tellI_stands {B : Nat → Nat} {μ : List (Nat × Nat)} {h h' : AH} {w w' : World} {l : List Int} {x : AV} {g n : Nat} (H : HR B μ h w) (hc : tellI h l = some (x, h')) (hln : l.length = n) (g1 : w.heap.size ≤ g)
    (g3 : w'.heap[g]? = some (.cells (l.map (Value.int .i64)).toArray 3 (0, 0))) (hb : Below w.heap.size w w') : ∃ μ', μ <+: μ' ∧ VR μ' x (.slice (some ⟨g, 0, none⟩) n n) ∧ HR B μ' h' w' := by
  have H' : HR B μ h w' := H.beside hb.size hb.block
  unfold tellI at hc
  split at hc
  · rename_i id h1 hnw
    simp only [Option.some.injEq, Prod.mk.injEq] at hc
    obtain ⟨rfl, rfl⟩ := hc
    unfold newRowA at hnw
    cases hall : (((l.map (Value.int .i64)).map ofScalar).all AV.one) with
    | false => rw [hall] at hnw; simp at hnw
    | true =>
      rw [hall] at hnw
      simp only [cond_true] at hnw
      obtain ⟨H2, hid⟩ := H'.add (b := g) (C := n) hnw ⟨_, (0, 0), g3, by
          rw [List.length_map, List.length_map, hln]
          have e : ((l.map (Value.int .i64)).toArray.toList.take n) = l.map (Value.int .i64) := by
            show List.take n (l.map (Value.int .i64)) = _
            exact List.take_of_length_le (by simp [hln])
          rw [e]
          exact VRs_ofScalar _ _, fun _ => ⟨Classical.byContradiction fun hne => by have := H.bsz g hne; omega, fun i _ hi => by omega⟩, by simp [hln], fun e2 => by have := H.bsz g (by omega); omega⟩ (fun j p hj hbj => by
          obtain ⟨b', C', q1, q2⟩ := H.obj j p hj
          rw [blk_of q1] at hbj
          have := q2.lt
          simp at hbj; omega)
      refine ⟨_, List.prefix_append _ _, ?_, H2⟩
      unfold VR
      rw [hln]
      exact ⟨g, n, blk_of hid, rfl, Nat.le_refl _, ⟨fun e => Bool.noConfusion e, fun _ => cpo_of hid⟩⟩
  · cases hc

theorem orc_sound : CallSound Try.prog 0 orc := by
  intro B f args h v h' hc μ w vs H hG hv
  unfold orc at hc
  split at hc
  · rename_i a
    simp only [Option.some.injEq, Prod.mk.injEq] at hc
    obtain ⟨rfl, rfl⟩ := hc
    obtain ⟨u1, e1, r1⟩ := one_VRs hv
    obtain rfl : vs = #[u1] := Array.toList_inj.1 e1
    simp only [VR] at r1
    subst r1
    refine .inr ⟨callFunc_enter (orc := orc0) env0 Try.func8 rfl _ _, ?_⟩
    refine (first_any a w).mono ?_
    rintro e w' ⟨rfl, hb⟩
    refine ⟨μ, _, List.prefix_refl _, rfl, ?_, H.beside hb.size hb.block, Bel.of_below hb H.bsz⟩
    unfold VR arr
    refine ⟨_, rfl, ?_⟩
    have := VRs_ofScalar μ ((firstM a).map (Value.int .i64))
    rw [List.map_map] at this
    exact this
  · rename_i s t
    split at hc
    · rename_i n ws hn hw
      cases hq : (Nat.ble n 50 && Nat.ble ws.length 50) with
      | false => rw [hq] at hc; simp at hc
      | true =>
        rw [hq] at hc
        simp only [cond_true] at hc
        simp only [Bool.and_eq_true, Nat.ble_eq] at hq
        obtain ⟨u1, u2, rfl, r1, r2⟩ := two_VRs hv
        obtain ⟨A, c, rfl⟩ := lenI_v hn r1
        rcases readI_v H hw r2 with ⟨rfl, A2, c2, rfl⟩ | ⟨ad, c2, rfl, hlt, hcell⟩
        · simp only [Option.some.injEq, Prod.mk.injEq] at hc
          obtain ⟨rfl, rfl⟩ := hc
          refine .inr ⟨callFunc_enter (orc := orc0) env0 Try.func11 rfl _ _, ?_⟩
          refine (turns_none A A2 n c c2 w).mono ?_
          rintro e w' ⟨rfl, rfl⟩
          exact ⟨μ, _, List.prefix_refl _, rfl, by unfold VR; rfl, H, Bel.of_below (Below.refl _ _) H.bsz⟩
        · by_cases hws : ws = []
          · subst hws
            simp only [Option.some.injEq, Prod.mk.injEq] at hc
            obtain ⟨rfl, rfl⟩ := hc
            refine .inr ⟨callFunc_enter (orc := orc0) env0 Try.func11 rfl _ _, ?_⟩
            refine (turns_none A (some ad) n c c2 w).mono ?_
            rintro e w' ⟨rfl, rfl⟩
            exact ⟨μ, _, List.prefix_refl _, rfl, by unfold VR; rfl, H, Bel.of_below (Below.refl _ _) H.bsz⟩
          · obtain ⟨z, zs, e⟩ := List.exists_cons_of_ne_nil hws
            rw [e] at hc
            dsimp only at hc
            rw [← e] at hc
            have hpos : 0 < ws.length := by rw [e]; simp
            have hm : ws.length ≤ maxLen := by have := hq.2; unfold maxLen; omega
            refine .inr ⟨callFunc_enter (orc := orc0) env0 Try.func11 rfl _ _, ?_⟩
            refine (turns_any A n c ad ws ws.length c2 rfl hpos hm hq.1 w hlt hcell).mono ?_
            rintro e w' ⟨g, rfl, g1, g2, g3, hb⟩
            rw [turnL_eq] at g3
            obtain ⟨μ', p1, p2, p3⟩ := tellI_stands (n := n) H hc (by unfold turnL; rw [List.length_map, List.length_range]) g1 g3 hb
            exact ⟨μ', _, p1, rfl, p2, p3, Bel.of_below hb H.bsz⟩
    · cases hc
  · cases hc

theorem env : Env Try.prog 0 orc where
  name := env0.name
  mix := env0.mix
  orc := orc_sound

/-- A closed call of this program that the evaluator says to be true. -/
theorem closed_here {f : FuncId} {fuel : Nat} (hc : isTrue (acall Try.prog 0 orc fuel f [] h00) = true) (w : World) :
    Calls Try.prog f #[] w fun e w' => e = .returned (.bool true) ∧ Below w.heap.size w w' :=
  (closed_true env hc (h00_stands w) (fun g hg => by omega)).mono fun e w' hh => ⟨hh.1, hh.2.below⟩

set_option maxRecDepth 1000000 in
theorem works_t : isTrue (acall Try.prog 0 orc 1000000 15 [] h00) = true := by kernel_rfl
theorem works (w : World) : Calls Try.prog 15 #[] w fun e w' => e = .returned (.bool true) ∧ Below w.heap.size w w' := closed_here works_t w
set_option maxRecDepth 1000000 in
theorem known_t : isTrue (acall Try.prog 0 orc 1000000 5 [] h00) = true := by kernel_rfl
theorem known (w : World) : Calls Try.prog 5 #[] w fun e w' => e = .returned (.bool true) ∧ Below w.heap.size w w' := closed_here known_t w
end Go.Proofs.Ytjffajbahnoilaa
