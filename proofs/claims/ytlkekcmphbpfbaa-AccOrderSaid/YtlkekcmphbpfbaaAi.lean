/-
  Aggregates of rows of numbers; a row's number at its place; the reference's Of.
-/
import Derived.Test.YtlkekcmphbpfbaaAf
import Derived.Deep.RegionWith
import Derived.Lib.SmallJoins
namespace Go.Proofs.Ytlkekcmphbpfbaa
open Go Go.RowKit Go.Lib

/-- The aggregate of a row, merged one behind the other. -/
def ofM (l : List Int) : AccD := l.foldl (fun a v => mergeM a (oneM v)) ⟨0, 0, 0, 0, 0⟩
theorem ofM_snoc (l : List Int) (v : Int) : ofM (l ++ [v]) = mergeM (ofM l) (oneM v) := by simp [ofM]
theorem zero_ok : AccD.ok ⟨0, 0, 0, 0, 0⟩ := by constructor <;> simp [I64]
theorem ofM_ok (l : List Int) (h : ∀ v ∈ l, I64 v) : (ofM l).ok := by
  have : ∀ n (l : List Int), l.length = n → (∀ v ∈ l, I64 v) → (ofM l).ok := by
    intro n
    induction n with
    | zero => intro l h0 _; rw [List.eq_nil_of_length_eq_zero h0]; exact zero_ok
    | succ n ih =>
      intro l hn h
      rw [← List.dropLast_concat_getLast (l := l) (by intro e; simp [e] at hn), ofM_snoc]
      exact mergeM_ok (ih _ (by simp; omega) (fun x hx => h x (List.dropLast_subset l hx))) (oneM_ok (h _ (List.getLast_mem _)))
  exact this _ l rfl h
theorem ofM_take (l : List Int) (j : Nat) (hj : j < l.length) : mergeM (ofM (l.take j)) (oneM l[j]) = ofM (l.take (j + 1)) := by
  rw [← ofM_snoc, List.take_append_getElem hj]

theorem cell_block {W W' : World} {a : Addr} (h : W'.heap[a.block]? = W.heap[a.block]?) : W'.cell? a = W.cell? a := by
  simp only [World.cell?, h]
/-- An aggregate stored over a block's five cells. -/
abbrev stored (W : World) (g : Nat) (a : AccD) : World := ((((W.setCell ⟨g, 0, none⟩ (.int .i64 a.n)).setCell ⟨g, 1, none⟩ (.int .i64 a.hi)).setCell ⟨g, 2, none⟩ (.int .u64 a.lo)).setCell ⟨g, 3, none⟩ (.int .i64 a.mn)).setCell ⟨g, 4, none⟩ (.int .i64 a.mx)
theorem stored_acc {W : World} {g : Nat} {c0 c1 c2 c3 c4 : Value} (a : AccD) (h : W.heap[g]? = some (.cells #[c0, c1, c2, c3, c4] 24 (0, 0))) :
    (stored W g a).heap[g]? = some (.cells #[.int .i64 a.n, .int .i64 a.hi, .int .u64 a.lo, .int .i64 a.mn, .int .i64 a.mx] 24 (0, 0)) :=
  Go.Joins.block_setCell (i := 4) (Go.Joins.block_setCell (i := 3) (Go.Joins.block_setCell (i := 2) (Go.Joins.block_setCell (i := 1) (Go.Joins.block_setCell (i := 0) h _) _) _) _) _
theorem far {W : World} {p : Addr} {v : Value} {k : Nat} (h : k ≠ p.block) : (W.setCell p v).heap[k]? = W.heap[k]? := by
  unfold World.setCell
  simp only [Array.getElem?_modify]
  rw [if_neg (Ne.symm h)]
theorem stored_else {W : World} {g k : Nat} {a : AccD} (h : k ≠ g) : (stored W g a).heap[k]? = W.heap[k]? := by
  unfold stored
  rw [far h, far h, far h, far h, far h]
theorem stored_below {w W : World} {B g : Nat} {a : AccD} (h : B ≤ g) (hb : Below B w W) : Below B w (stored W g a) :=
  ((((hb.setCell (p := ⟨g, 0, none⟩) h _).setCell (p := ⟨g, 1, none⟩) h _).setCell (p := ⟨g, 2, none⟩) h _).setCell (p := ⟨g, 3, none⟩) h _).setCell (p := ⟨g, 4, none⟩) h _
theorem add_blk (a : Addr) (j : Nat) : (a.add j).block = a.block := by
  unfold Addr.add; split <;> rfl
theorem row_at {W : World} {B : Nat} {A : Option Addr} {k : IntKind} {l : List Int} (h : Row W B A k l) (j : Nat) (hj : j < l.length) : ∃ ad : Addr, A = some ad ∧ ad.block < B ∧ W.cell? (ad.add j) = some (.int k l[j]) := by
  rcases h with rfl | ⟨ad, rfl, hb, hc⟩
  · simp at hj
  · exact ⟨ad, rfl, hb, hc j _ (List.getElem?_eq_getElem hj)⟩
theorem Row.same {W W' : World} {B : Nat} {A : Option Addr} {k : IntKind} {l : List Int} (h : Row W B A k l) (hb : Below B W W') : Row W' B A k l := by
  rcases h with rfl | ⟨ad, rfl, h1, h2⟩
  · exact .inl rfl
  · exact .inr ⟨ad, rfl, h1, fun j z hz => by rw [← h2 j z hz]; exact cell_block (by rw [add_blk]; exact hb.block ad.block h1)⟩

set_option maxRecDepth 100000 in
set_option maxHeartbeats 1600000 in
theorem of_any (l : List Int) (A : Option Addr) (cp : Nat) (hl : ∀ v ∈ l, I64 v) (hm : l.length ≤ 9223372036854775807) (w : World) (hrow : Row w w.heap.size A .i64 l) : Calls Try.prog 15 #[.slice A l.length cp] w fun e w' => e = .returned (ofM l).v ∧ Below w.heap.size w w' := by
  have HR := Lib.hid hrow
  have HL := Lib.hid hl
  have HM := Lib.hid hm
  clear hrow hl hm
  obtain ⟨n, hn⟩ : ∃ n, l.length = n := ⟨_, rfl⟩
  rw [hn]
  have HN := Lib.hid hn
  clear hn
  go_enter Try.func15, Try.ntmps15
  go_wp2_with fail
  go_loopw [4] (fun i wr => ∃ j : Nat, i = .int .i64 j ∧ j ≤ n ∧ wr.heap[w.heap.size + 1]? = some (.cells #[.int .i64 (ofM (l.take j)).n, .int .i64 (ofM (l.take j)).hi, .int .u64 (ofM (l.take j)).lo, .int .i64 (ofM (l.take j)).mn, .int .i64 (ofM (l.take j)).mx] 24 (0, 0)) ∧ wr.heap[w.heap.size]? = some (.cells #[.int .i64 0, .int .i64 0, .int .u64 0, .int .i64 0, .int .i64 0] 24 (0, 0)) ∧ Below w.heap.size w wr) (fun i _ => n - (intOf i).toNat)
  case atStart =>
    refine ⟨0, rfl, Nat.zero_le _, ?_, ?_, by go_grown⟩
    · have := World.alloc_heap_new (w.alloc (.cells #[.int .i64 0, .int .i64 0, .int .u64 0, .int .i64 0, .int .i64 0] 24)) (.cells #[.int .i64 0, .int .i64 0, .int .u64 0, .int .i64 0, .int .i64 0] 24)
      simp only [World.size_alloc] at this
      exact this
    · rw [Below.heap_alloc _ _ _ (by simp)]; exact World.alloc_heap_new w _
  case round =>
    obtain ⟨j, rfl, hj, hc, hc2, hb⟩ := hrel
    have HC2 := Lib.hid hc2
    have HB := Lib.hid hb
    have hz : w.heap.size + 1 < wr.heap.size := (Array.getElem?_eq_some_iff.1 hc).1
    have hmm := HM.out
    rw [HN.out] at hmm
    by_cases hlt : j < n
    · have hjl : j < l.length := by rw [HN.out]; exact hlt
      obtain ⟨o, ho⟩ : ∃ o, ofM (l.take j) = o := ⟨_, rfl⟩
      rw [ho] at hc
      have hstep := ofM_take l j hjl
      rw [ho] at hstep
      have hok : o.ok := by rw [← ho]; exact ofM_ok _ (fun x hx => HL.out x (List.mem_of_mem_take hx))
      obtain ⟨ad, rfl, hab, hcell⟩ := row_at (HR.out.same hb) j hjl
      have hv := HL.out _ (List.getElem_mem hjl)
      obtain ⟨v, hvv⟩ : ∃ v, l[j] = v := ⟨_, rfl⟩
      rw [hvv] at hstep hcell hv
      clear hvv hb hc2
      obtain ⟨m2, hm2⟩ : ∃ m2, ofM (l.take (j + 1)) = m2 := ⟨_, rfl⟩
      rw [hm2] at hstep
      replace hm2 := Lib.hid hm2
      have Q1 := fun w => rone_any v hv w
      have Q2 := fun w => rmerge_any o (oneM v) hok (oneM_ok hv) w
      rw [hstep] at Q2
      obtain ⟨o1, ho1⟩ : ∃ o1, oneM v = o1 := ⟨_, rfl⟩
      simp only [ho1] at Q1 Q2
      replace Q1 := Lib.hid Q1
      replace Q2 := Lib.hid Q2
      clear ho ho1 hstep hok hv
      have p := accAt_of hc
      obtain ⟨c0, c1, c2, c3, c4⟩ := p
      have W1 : IntKind.i64.wrap ((j : Int) + 1) = (j : Int) + 1 := IntWalk.i64_in _ (by omega)
      have hq0 : (0 : Int) ≤ (j : Int) := by omega
      have hs : Hid (Below wr.heap.size wr wr.drew) := Lib.hid (by go_grown)
      have HX : Hid (∀ w', Below wr.heap.size wr w' → w'.cell? ⟨w.heap.size + 1, 0, none⟩ = some (.int .i64 o.n) ∧ w'.cell? ⟨w.heap.size + 1, 1, none⟩ = some (.int .i64 o.hi) ∧ w'.cell? ⟨w.heap.size + 1, 2, none⟩ = some (.int .u64 o.lo) ∧ w'.cell? ⟨w.heap.size + 1, 3, none⟩ = some (.int .i64 o.mn) ∧ w'.cell? ⟨w.heap.size + 1, 4, none⟩ = some (.int .i64 o.mx) ∧ w'.cell? (ad.add j) = some (.int .i64 v) ∧ w'.frozen? ⟨w.heap.size + 1, 0, none⟩ = false ∧ w'.frozen? ⟨w.heap.size + 1, 1, none⟩ = false ∧ w'.frozen? ⟨w.heap.size + 1, 2, none⟩ = false ∧ w'.frozen? ⟨w.heap.size + 1, 3, none⟩ = false ∧ w'.frozen? ⟨w.heap.size + 1, 4, none⟩ = false) := Lib.hid (fun w' h => by
        obtain ⟨c0, c1, c2, c3, c4⟩ := (accAt_of hc).same (W' := w') (h.block _ hz)
        have hf : ∀ i, w'.frozen? ⟨w.heap.size + 1, i, none⟩ = false := fun i => by simp [World.frozen?, h.block _ hz, hc]
        refine ⟨c0, c1, c2, c3, c4, ?_, hf 0, hf 1, hf 2, hf 3, hf 4⟩
        rw [← hcell]
        exact cell_block (by rw [add_blk]; exact h.block _ (Nat.lt_trans hab (by omega))))
      go_wp2_with fail
      have CC := Lib.hid c0
      obtain ⟨c0, c1, c2, c3, c4, hcell, f0, f1, f2, f3, f4⟩ := HX.out _ hs.out
      go_region_with (first
        | (go_at_call 9
           (with_reducible refine (Q1.out _).mono ?_)
           rintro e w1 ⟨rfl, hb1⟩
           have hs := Lib.hid (hs.out.trans (hb1.mono hs.out.size))
           clear hb1
           clear c0 c1 c2 c3 c4 hcell f0 f1 f2 f3 f4
           obtain ⟨c0, c1, c2, c3, c4, hcell, f0, f1, f2, f3, f4⟩ := HX.out _ hs.out)
        | (go_at_call 11
           (with_reducible refine (Q2.out _).mono ?_)
           rintro e w1 ⟨rfl, hb1⟩
           have hs := Lib.hid (hs.out.trans (hb1.mono hs.out.size))
           clear hb1
           clear c0 c1 c2 c3 c4 hcell f0 f1 f2 f3 f4
           obtain ⟨c0, c1, c2, c3, c4, hcell, f0, f1, f2, f3, f4⟩ := HX.out _ hs.out))
      all_goals go_wp2
      all_goals go_roundw
      all_goals first
        | exact ⟨j + 1, by go_num, by omega, by rw [hm2.out]; exact stored_acc m2 ((hs.out.block _ hz).trans hc), (stored_else (by omega)).trans ((hs.out.block _ (by omega)).trans HC2.out), stored_below (by omega) (HB.out.trans (hs.out.mono HB.out.size))⟩
        | (simp [intOf]; omega)
    · obtain rfl : j = n := by omega
      obtain ⟨o, ho⟩ : ∃ o, ofM l = o := ⟨_, rfl⟩
      rw [List.take_of_length_le (by rw [HN.out]; exact Nat.le_refl _), ho] at hc
      replace ho := Lib.hid ho
      obtain ⟨c0, c1, c2, c3, c4⟩ := accAt_of hc
      have h0 := HC2.out
      have hf : ∀ i, wr.frozen? ⟨w.heap.size, i, none⟩ = false := fun i => by simp [World.frozen?, h0]
      have f0 := hf 0
      have f1 := hf 1
      have f2 := hf 2
      have f3 := hf 3
      have f4 := hf 4
      obtain ⟨d0, d1, d2, d3, d4⟩ := accAt_of (a := ⟨0, 0, 0, 0, 0⟩) h0
      have HH := Lib.hid h0
      clear hf hc hc2 h0 hb
      go_wp2
      refine bodyPost_ret (v := o.v) ?_ rfl ⟨by rw [ho.out], stored_below (Nat.le_refl _) HB.out⟩
      exact results_cell_row (p := 2) (ty := 24) (by kernel_rfl) _ _ _ _ _ (0, 0) _ rfl (stored_acc o HH.out) Try.underlying24 rfl (by kernel_rfl)
end Go.Proofs.Ytlkekcmphbpfbaa
