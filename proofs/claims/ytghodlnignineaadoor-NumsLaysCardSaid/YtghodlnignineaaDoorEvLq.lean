/-
  Promise P1.1's law NumsLays: the row and its tied card.
-/
import Derived.Test.YtghodlnignineaaDoorEvLa
import Derived.Test.YtghodlnignineaaDoorEvSq
import Derived.Carry
import Derived.ChangeMaps5
namespace Go.Proofs.YtghodlnignineaaDoor
open Go Go.ChangeShapes Go.WideShapes Go.RowKit Go.Ev Go.Lib

theorem wf_u8 {n : Int} (h : (Lit.int .u8 n).wf = true) : 0 ≤ n ∧ n < 256 := by
  have h' : IntKind.u8.min ≤ n ∧ n ≤ IntKind.u8.max := by simpa [Lit.wf] using h
  have e1 : IntKind.u8.min = 0 := by decide
  have e2 : IntKind.u8.max = 255 := by decide
  rw [e1, e2] at h'
  omega
theorem cells5 : Tryd.prog.cellsOf 5 = 1 := by kernel_rfl
theorem laidOut : laidOutB Tryd.prog = true := by kernel_rfl

/-- A slice of bytes that came in reads as a text's bytes. -/
theorem open_bytes {H : Type} {enc : TypeId × Value → H} {W : World} {a0 : Option Addr} {len cap : Nat} {d : DataW H} {ps : List MemPlace} (h : DataW.Trod enc Tryd.prog W 0 (fun _ => true) true 61 (.slice a0 len cap) d ps)
    (hlt : ∀ x ∈ ps, x.block < W.heap.size) : len ≤ cap ∧ cap ≤ maxLen ∧ ∃ Y : ByteArray, Rd W W.heap.size a0 len cap (strCells Y) := by
  obtain ⟨fuel, hf⟩ := h
  rcases open_ints Tryd.underlying61 Tryd.underlying5 cells5 hf with ⟨hcs, hx⟩ | ⟨a, len', cap', zs, hcs, _, hl, hm, hz, hx, hcell, hwz⟩
  · simp [Value.cells] at hcs
    obtain ⟨rfl, rfl, rfl⟩ := hcs
    exact ⟨Nat.le_refl _, by simp [maxLen], sb [], rfl, fun _ => ⟨rfl, rfl⟩, fun _ e => by cases e⟩
  · simp [Value.cells] at hcs
    obtain ⟨rfl, rfl, rfl⟩ := hcs
    simp only [Prod.mk.injEq] at hx
    obtain ⟨rfl, rfl⟩ := hx
    simp only [if_true] at hz
    have hb : ∀ x ∈ (zs.take len).map Int.toNat, x < 256 := by
      intro x hx
      obtain ⟨z, hz, rfl⟩ := List.mem_map.1 hx
      have := wf_u8 (hwz z (List.mem_of_mem_take hz))
      omega
    refine ⟨hl, hm, sb ((zs.take len).map Int.toNat), ?_, (fun e => by cases e), ?_⟩
    · rw [strCells_length, sb_size, List.length_map, List.length_take]; omega
    · rintro ad e
      cases e
      refine ⟨fun h0 => ?_, fun j u hu => ?_⟩
      · obtain ⟨b, off, spot⟩ := a
        exact hlt (.cell b off) (MemPlace.mem_row.2 ⟨0, by omega, by simp⟩)
      · rw [← u8s_cells hb] at hu
        simp only [u8s, List.map_map] at hu
        rw [List.getElem?_map] at hu
        have hj : j < len := by
          cases e : (zs.take len)[j]? with
          | none => rw [e] at hu; simp at hu
          | some z => have := (List.getElem?_eq_some_iff.1 e).1; simp at this; omega
        rw [hcell j (by omega), ← hu, List.getElem?_take, if_pos hj, List.getElem?_eq_getElem (show j < zs.length by omega)]
        have hw := wf_u8 (hwz zs[j] (List.getElem_mem _))
        simp [List.getD, List.getElem?_eq_getElem (show j < zs.length by omega)]
        omega

set_option maxRecDepth 100000 in
theorem lays_lifted (os : Os) (started : os.Started) (H : Type) (enc : TypeId × Value → H) :
    ReturnsInHanded {} Tryd.checked os 4 .any (fun w args => (Rows.numsLaysSpec.pre enc Tryd.prog Tryd.f4 [] false w args ∧ laidMetH Tryd.prog [("errors.errorType", Rows.laid_errors_errorType)] w) ∧ sizedMet enc Tryd.prog Tryd.f4 (OpenSpec.ofChange Rows.numsLaysSpec) false w args)
      (Rows.numsLaysSpec.post enc Tryd.prog Tryd.f4 false true false false) := by
  refine returnsInHanded_of_change_and (C := Tryd.checked) (X := fun w _ => laidMetH Tryd.prog [("errors.errorType", Rows.laid_errors_errorType)] w) (fun _ _ _ hh h => h.of_heap hh) own started (by kernel_rfl) Tryd.func4
    (ChangeSpec.witness_at (enc := enc) (C := Tryd.checked) (os := os) (X := fun w _ => laidMetH Tryd.prog [("errors.errorType", Rows.laid_errors_errorType)] w) false (laidWorld os) #[.slice none 0 0, .int .u64 0, .string ⟨#[]⟩] 8 rfl (by kernel_rfl) (by kernel_rfl) (by kernel_rfl) (by kernel_rfl) (by kernel_rfl) (laidWorld_met os _)) ?_
  intro W base args ds gs before hval0 hW _ _ hL _
  have hval : ∀ (j : Nat) t v, Tryd.f4.params[j]? = some t → args[j]? = some v → Value.okWide Tryd.prog W .any base t v := hval0
  have hW' := hW
  obtain ⟨p, q, hA0, hV0, rfl, hfz, hnd⟩ := hW
  have hA : DataW.TrodAll enc Tryd.prog W 0 (fun _ => true) true Tryd.f4.params.toList args.toList ds p := hA0
  have hV : DataW.TrodVars enc Tryd.prog W (fun _ => true) [] gs q := hV0
  rw [Tryd.params4] at hA hval
  obtain ⟨v0, vs0, d0, ds0, p0, q0, hargs, rfl, rfl, h0, r0⟩ := trodAll_cons hA
  obtain ⟨v1, vs1, d1, ds1, p1, q1, rfl, rfl, rfl, h1, r1⟩ := trodAll_cons r0
  obtain ⟨v2, vs2, d2, ds2, p2, q2, rfl, rfl, rfl, h2, r2⟩ := trodAll_cons r1
  obtain ⟨rfl, rfl, rfl⟩ := trodAll_nil r2
  obtain rfl : args = #[v0, v1, v2] := by cases args; simp_all
  obtain ⟨rfl, rfl⟩ : gs = [] ∧ q = [] := by
    cases gs with
    | nil => exact ⟨rfl, hV⟩
    | cons g r => exact absurd hV (by intro h; cases h)
  obtain ⟨a0, len, cap, rfl⟩ := okWide_slice Tryd.underlying61 (hval 0 61 v0 rfl rfl)
  obtain ⟨n1, rfl, rfl, rfl, hw1⟩ := open_int Tryd.underlying29 (hval 1 29 v1 rfl rfl) h1
  obtain ⟨s, rfl, rfl, rfl, hs⟩ := Go.ChangeMaps.open_string Tryd.underlying9 (hval 2 9 v2 rfl rfl) h2
  have hg := handle_of_laid hL
  obtain ⟨N, rfl, hN⟩ := wf_u64 hw1
  have hlt : ∀ x ∈ p0, x.block < W.heap.size := fun x hx => by simpa using hW'.lt x (by simp [hx])
  obtain ⟨hlc, hcm, Y, hR⟩ := open_bytes h0 hlt
  have e1 : Rows.numsLaysSpec.fn H ([d0, .lit (.int .u64 N), .lit (.string s.data.toList)] ++ []) = { results := [.lit (.bool true)], args := [d0, .lit (.int .u64 N), .lit (.string s.data.toList)] } := by simp [Rows.numsLaysSpec]
  have hk : ∃ k, k = 300 ∧ ¬ s.size ≤ 300 ∨ k = s.size ∧ s.size ≤ 300 := by
    by_cases h : s.size ≤ 300
    · exact ⟨_, .inr ⟨rfl, h⟩⟩
    · exact ⟨_, .inl ⟨rfl, h⟩⟩
  have hm : ∃ m, (m = 100 ∧ ¬ len ≤ 100 ∨ m = len ∧ len ≤ 100) ∧ m ≤ len := by
    by_cases h : len ≤ 100
    · exact ⟨_, .inr ⟨rfl, h⟩, Nat.le_refl _⟩
    · exact ⟨_, .inl ⟨rfl, h⟩, by omega⟩
  obtain ⟨k, hk⟩ := hk
  obtain ⟨m, hm, hml⟩ := hm
  unfold maxLen at hs hcm
  refine (lays_walk a0 len cap N m k (cutB Y m) s W hlc hcm hs hm hk (rd_cut hR hml) hN hg).mono fun e W' ⟨he, hb'⟩ => ?_
  subst he
  refine ⟨_, rfl, _, _, _, [], p0, [], hW', ?_, ?_, ?_, hb'.frame _, fun h => by cases h⟩
  · rw [e1]; exact trodAll_mk1 (shut_bool Tryd.underlying4 true)
  · rw [e1]
    have t1 := Below.trod laidOut (by kernel_rfl) (of_decide_eq_true (by kernel_rfl)) h0 hb' hlt
    have t2 := trodAll_mk3 t1 (shut_int Tryd.underlying29 hw1) (Go.ChangeMaps.shut_string Tryd.underlying9 hs)
    rw [List.append_nil, List.append_nil] at t2
    exact t2
  · rw [e1]; rfl

theorem lays_holds : Rows.NumsLaysSaid :=
  OpenClaim.holds_of_wide 4 Tryd.f4 rfl rfl rfl rfl rfl rfl rfl ⟨rfl, rfl, rfl, rfl, rfl⟩ rfl rfl rfl rfl rfl (by kernel_rfl) Tryd.func4 (by kernel_rfl)
    (of_decide_eq_true (by kernel_rfl)) (by unfold Func.isWrapper; rw [if_neg (of_decide_eq_false (by kernel_rfl))]; exact ⟨rfl, rfl⟩)
    (fun os started H enc _ => lays_lifted os started H enc)

theorem numsLays_card : Rows.NumsLaysCardSaid :=
  Claim7.holds_tied_plain_at .later [] [.handle] true (true, "54bfd2e275fded5b7b9476fa02e262fa3dd8ecb31b60ba17b06562993f315d7c") true
    lays_holds (fun _ h => by cases h) (by kernel_rfl) (fun _ h => by cases h) numsLays_row_tie rfl ⟨rfl, rfl⟩ (by kernel_rfl) rfl
    (fun f fn hf hfn => by
      obtain rfl : f = 4 := Option.some.inj ((show Tryd.prog.funcNamed "anabranch/anabranchlaw01.NumsLays" = some 4 by kernel_rfl).symm.trans hf) |>.symm
      obtain rfl : fn = Tryd.f4 := (Option.some.inj (Tryd.func4.symm.trans hfn)).symm
      exact ⟨by kernel_rfl, fun j t ht => by
        rw [Tryd.params4] at ht
        have h3 : t = 61 ∨ t = 29 ∨ t = 9 := by
          rcases j with _ | _ | _ | j
          · left; simpa using ht.symm
          · right; left; simpa using ht.symm
          · right; right; simpa using ht.symm
          · simp at ht
        rcases h3 with rfl | rfl | rfl
        · exact (show Tryd.prog.wantsStandIn 61 = false by kernel_rfl)
        · exact (show Tryd.prog.wantsStandIn 29 = false by kernel_rfl)
        · exact (show Tryd.prog.wantsStandIn 9 = false by kernel_rfl)⟩)
    (by kernel_rfl)
#print axioms numsLays_card
end Go.Proofs.YtghodlnignineaaDoor
