/-
  The theorem NumsBack (P1.1 to P1.4), whole: for all things and bytes the law returns true, and all read afterwards as before.
-/
import Derived.Test.YtllkflbkndfdeaaDoorEvBh
import Derived.Test.YtllkflbkndfdeaaDoorEvT
import Derived.Test.YtllkflbkndfdeaaDoorTie
import Derived.Test.YtllkflbkndfdeaaDoorCards
import Derived.SevenTiedAt
import Derived.Carry
namespace Go.Proofs.YtllkflbkndfdeaaDoor
open Go Go.ChangeShapes Go.WideShapes Go.ChangeAt Go.RowKit Go.Lib

set_option maxRecDepth 100000 in
theorem thing_cells : Tryd.prog.cellsOf 74 = 3 := by kernel_rfl
theorem one3 : Tryd.prog.cellsOf 5 = 1 ∧ Tryd.prog.cellsOf 29 = 1 ∧ Tryd.prog.cellsOf 9 = 1 := by refine ⟨?_, ?_, ?_⟩ <;> kernel_rfl
set_option maxRecDepth 100000 in
/-- The things that came in. -/
theorem open_things {H : Type} {enc : TypeId × Value → H} {W : World} {v : Value} {d : DataW H} {ps : List MemPlace} {base : Nat} (hv : Value.okWide Tryd.prog W .any base 71 v) (h : DataW.Trod enc Tryd.prog W 0 (fun _ => true) true 71 v d ps)
    (hlt : ∀ x ∈ ps, x.block < W.heap.size) : ∃ (A : Option Addr) (cp : Nat) (l : List Th), v = .slice A l.length cp ∧ cp ≤ maxLen ∧ l.length ≤ cp ∧
      (l = [] ∨ ∃ ad : Addr, A = some ad ∧ ad.block < W.heap.size ∧ ∀ j x, l[j]? = some x → W.cell? (ad.add (j * 3)) = some (.int .u8 x.kd) ∧ W.cell? (ad.add (j * 3 + 1)) = some (.int .u64 x.n) ∧ W.cell? (ad.add (j * 3 + 2)) = some (.string x.str)) ∧ ∀ x ∈ l, okTh x := by
  obtain ⟨a0, len, cap, rfl⟩ := okWide_slice Tryd.underlying71 hv
  obtain ⟨fuel, hf⟩ := h
  rcases Go.Deep.open_slice Tryd.underlying71 hf with ⟨hcs, _⟩ | ⟨a, len', cap', m, n, D, Pl, hcs, _, hl, hm, hmm, hx, hi⟩
  · simp [Value.cells] at hcs
    obtain ⟨rfl, rfl, rfl⟩ := hcs
    exact ⟨none, 0, [], rfl, by simp [maxLen], Nat.le_refl _, .inl rfl, by simp⟩
  · simp [Value.cells] at hcs
    obtain ⟨rfl, rfl, rfl⟩ := hcs
    simp only [if_true] at hmm
    subst hmm
    simp only [Prod.mk.injEq] at hx
    obtain ⟨_, rfl⟩ := hx
    have hall : ∀ i, i < len → ∃ x : Th, okTh x ∧ W.cell? (a.add (i * 3)) = some (.int .u8 x.kd) ∧ W.cell? (a.add (i * 3 + 1)) = some (.int .u64 x.n) ∧ W.cell? (a.add (i * 3 + 2)) = some (.string x.str) := by
      intro i hil
      obtain ⟨cs, hc, ht⟩ := hi i (by omega)
      rw [thing_cells] at hc
      obtain ⟨ys, n', _, _, hlen, hyl, hfd⟩ := DataW.trod_struct Tryd.underlying74 ht
      obtain ⟨_, hcl, hat⟩ := World.cells?_some hc
      rw [thing_cells] at hlen
      match cs, hlen with
      | [c0, c1, c2], _ =>
        have f0 : DataW.trod enc Tryd.prog W 0 (fun _ => true) true n' 5 (([c0, c1, c2].drop 0).take (Tryd.prog.cellsOf 5)) = ys[0]? := hfd 0 _ rfl
        have f1 : DataW.trod enc Tryd.prog W 0 (fun _ => true) true n' 29 (([c0, c1, c2].drop 1).take (Tryd.prog.cellsOf 29)) = ys[1]? := hfd 1 _ rfl
        have f2 : DataW.trod enc Tryd.prog W 0 (fun _ => true) true n' 9 (([c0, c1, c2].drop 2).take (Tryd.prog.cellsOf 9)) = ys[2]? := hfd 2 _ rfl
        rw [one3.1] at f0
        rw [one3.2.1] at f1
        rw [one3.2.2] at f2
        simp only [List.drop_zero, List.take_succ_cons, List.take_zero, List.drop_succ_cons] at f0 f1 f2
        have g0 : ys[0]? = some (ys[0]'(by rw [hyl]; decide)) := List.getElem?_eq_getElem _
        have g1 : ys[1]? = some (ys[1]'(by rw [hyl]; decide)) := List.getElem?_eq_getElem _
        have g2 : ys[2]? = some (ys[2]'(by rw [hyl]; decide)) := List.getElem?_eq_getElem _
        obtain ⟨z0, e0, _, w0⟩ := DataW.trod_int Tryd.underlying5 (f0.trans g0)
        obtain ⟨z1, e1, _, w1⟩ := DataW.trod_int Tryd.underlying29 (f1.trans g1)
        obtain ⟨z2, e2, _, w2⟩ := DataW.trod_string Tryd.underlying9 (f2.trans g2)
        simp only [List.cons.injEq, and_true] at e0 e1 e2
        subst e0; subst e1; subst e2
        obtain ⟨k0, rfl, b0⟩ := bd_u8 w0
        obtain ⟨k1, rfl, b1⟩ := bd_u64 w1
        refine ⟨⟨k0, k1, z2⟩, ⟨b0, b1, by unfold maxLen at w2; exact w2⟩, ?_, ?_, ?_⟩
        · have := hat (i := 0) (by omega)
          simpa [Go.Deep.add_add] using this
        · have := hat (i := 1) (by omega)
          simpa [Go.Deep.add_add] using this
        · have := hat (i := 2) (by omega)
          simpa [Go.Deep.add_add] using this
    obtain ⟨l, hll, hp⟩ := list_of len hall
    subst hll
    refine ⟨some a, _, l, rfl, hm, hl, ?_, fun x hx => ?_⟩
    · by_cases h0 : l = []
      · exact .inl h0
      · refine .inr ⟨a, rfl, ?_, fun j x hx => ⟨(hp j x hx).2.1, (hp j x hx).2.2.1, (hp j x hx).2.2.2⟩⟩
        obtain ⟨b, off, spot⟩ := a
        have hpos : 0 < l.length := List.length_pos_iff.2 h0
        refine hlt (.cell b off) (List.mem_append_left _ (MemPlace.mem_row.2 ⟨0, ?_, by simp⟩))
        rw [thing_cells]
        omega
    · obtain ⟨j, hj, rfl⟩ := List.getElem_of_mem hx
      exact (hp j _ (List.getElem?_eq_getElem hj)).1


set_option maxRecDepth 100000 in
theorem numsBack_lifted (os : Os) (started : os.Started) (H : Type) (enc : TypeId × Value → H) :
    ReturnsInHanded {} Tryd.checked os 5 .any (fun w args => (Rows.numsBackSpec.pre enc Tryd.prog Tryd.f5 [] false w args ∧ laidMetH Tryd.prog [("errors.errorType", Rows.laid_errors_errorType)] w) ∧ sizedMet enc Tryd.prog Tryd.f5 (OpenSpec.ofChange Rows.numsBackSpec) false w args)
      (Rows.numsBackSpec.post enc Tryd.prog Tryd.f5 false true false false) := by
  refine returnsInHanded_of_change_and (C := Tryd.checked) (X := fun w _ => laidMetH Tryd.prog [("errors.errorType", Rows.laid_errors_errorType)] w) (fun _ _ _ hh h => h.of_heap hh) own started (by kernel_rfl) Tryd.func5
    (ChangeSpec.witness_at (enc := enc) (C := Tryd.checked) (os := os) (X := fun w _ => laidMetH Tryd.prog [("errors.errorType", Rows.laid_errors_errorType)] w) false (laidWorld os) #[.slice none 0 0, .string ⟨#[]⟩] 8 rfl (by kernel_rfl) (by kernel_rfl) (by kernel_rfl) (by kernel_rfl) (by kernel_rfl) (laidWorld_met os _)) ?_
  intro W base args ds gs before hval0 hW _ _ hL _
  have hval : ∀ (j : Nat) t v, Tryd.f5.params[j]? = some t → args[j]? = some v → Value.okWide Tryd.prog W .any base t v := hval0
  have hW' := hW
  obtain ⟨p, q, hA0, hV0, rfl, hfz, hnd⟩ := hW
  have hA : DataW.TrodAll enc Tryd.prog W 0 (fun _ => true) true Tryd.f5.params.toList args.toList ds p := hA0
  have hV : DataW.TrodVars enc Tryd.prog W (fun _ => true) [] gs q := hV0
  have hlt : ∀ x ∈ p, x.block < W.heap.size := fun x hx => by simpa using hW'.lt x (by simp [hx])
  have hr : ∀ t ∈ Tryd.f5.params.toList, Tryd.prog.readableRec t = true ∧ t < Tryd.prog.types.size := by
    intro t ht
    rw [Tryd.params5] at ht
    simp at ht
    rcases ht with rfl | rfl <;> exact ⟨by kernel_rfl, of_decide_eq_true (by kernel_rfl)⟩
  have hkeep := fun (W' : World) (hb : Below W.heap.size W W') => trodAll_below laidOutHere hb hr hA hlt
  rw [Tryd.params5] at hA hval
  obtain ⟨v0, vs0, d0, ds0, p0, q0, hargs, rfl, rfl, h0, r0⟩ := trodAll_cons hA
  obtain ⟨v1, vs1, d1, ds1, p1, q1, rfl, rfl, rfl, h1, r1⟩ := trodAll_cons r0
  obtain ⟨rfl, rfl, rfl⟩ := trodAll_nil r1
  obtain rfl : args = #[v0, v1] := by cases args; simp_all
  obtain ⟨rfl, rfl⟩ : gs = [] ∧ q = [] := by
    cases gs with
    | nil => exact ⟨rfl, hV⟩
    | cons g r => exact absurd hV (by intro h; cases h)
  have hlt0 : ∀ x ∈ p0, x.block < W.heap.size := fun x hx => hlt x (by simp [hx])
  have hlt1 : ∀ x ∈ p1, x.block < W.heap.size := fun x hx => hlt x (by simp [hx])
  have hg := handle_of_laid hL
  have e1 : Rows.numsBackSpec.fn H ([d0, d1] ++ []) = { results := [.lit (.bool true)], args := [d0, d1] } := by simp [Rows.numsBackSpec]
  obtain ⟨A, cp, l, rfl, hcm, hlc, hAl, hok⟩ := open_things (hval 0 71 v0 rfl rfl) h0 hlt0
  obtain ⟨s, rfl, _, _, hs⟩ := Go.ChangeMaps.open_string Tryd.underlying9 (hval 1 9 v1 rfl rfl) h1
  unfold maxLen at hs hcm
  refine (back_walk A cp l s W (by omega) hlc hAl hok (by omega) (works hg)).mono fun e W' ⟨he, hb'⟩ => ?_
  subst he
  refine ⟨_, rfl, _, _, _, [], p0 ++ (p1 ++ ([])), [], hW', ?_, ?_, ?_, hb'.frame _, fun h => by cases h⟩
  · rw [e1]; exact trodAll_mk1 (shut_bool Tryd.underlying4 true)
  · rw [e1]; exact hkeep W' hb'
  · rw [e1]; rfl

theorem numsBack_holds : Rows.NumsBackSaid :=
  OpenClaim.holds_of_wide 5 Tryd.f5 rfl rfl rfl rfl rfl rfl rfl ⟨rfl, rfl, rfl, rfl, rfl⟩ rfl rfl rfl rfl rfl (by kernel_rfl) Tryd.func5 (by kernel_rfl)
    (of_decide_eq_true (by kernel_rfl)) (by unfold Func.isWrapper; rw [if_neg (of_decide_eq_false (by kernel_rfl))]; exact ⟨rfl, rfl⟩)
    (fun os started H enc _ => numsBack_lifted os started H enc)

theorem numsBack_card : Rows.NumsBackCardSaid :=
  Claim7.holds_tied_plain_at .later [] [.handle] true (true, "54bfd2e275fded5b7b9476fa02e262fa3dd8ecb31b60ba17b06562993f315d7c") true
    numsBack_holds (fun _ h => by cases h) (by kernel_rfl) (fun _ h => by cases h) numsBack_row_tie rfl ⟨rfl, rfl⟩ (by kernel_rfl) rfl
    (fun f fn hf hfn => by
      obtain rfl : f = 5 := Option.some.inj ((show Tryd.prog.funcNamed "anabranch/anabranchlaw01.NumsBack" = some 5 by kernel_rfl).symm.trans hf) |>.symm
      obtain rfl : fn = Tryd.f5 := (Option.some.inj (Tryd.func5.symm.trans hfn)).symm
      exact ⟨by kernel_rfl, fun j t ht => by
        rw [Tryd.params5] at ht
        have h3 : t = 71 ∨ t = 9 := by
          rcases j with _ | _ | j
          · left; simpa using ht.symm
          · right; simpa using ht.symm
          · simp at ht
        rcases h3 with rfl | rfl
        · exact (show Tryd.prog.wantsStandIn 71 = false by kernel_rfl)
        · exact (show Tryd.prog.wantsStandIn 9 = false by kernel_rfl)⟩)
    (by kernel_rfl)
#print axioms numsBack_card
end Go.Proofs.YtllkflbkndfdeaaDoor
