/-
  The walk of AccLists.
-/
import Derived.Test.YtlkekcmphbpfbaaAi
import Derived.Deep.RegionWith
namespace Go.Proofs.Ytlkekcmphbpfbaa
open Go Go.RowKit Go.Lib

theorem Row.take {W : World} {B : Nat} {A : Option Addr} {k : IntKind} {l : List Int} (h : Row W B A k l) (m : Nat) : Row W B A k (l.take m) := by
  rcases h with rfl | ⟨ad, rfl, h1, h2⟩
  · exact .inl (by simp)
  · refine .inr ⟨ad, rfl, h1, fun j z hz => h2 j z ?_⟩
    rw [List.getElem?_take] at hz
    split at hz
    · exact hz
    · cases hz

set_option maxRecDepth 100000 in
set_option maxHeartbeats 3200000 in
theorem lists_any (L : List Int) (A : Option Addr) (cp : Nat) (hl : ∀ v ∈ L, I64 v) (hm : cp ≤ maxLen) (hc : L.length ≤ cp) (w : World) (hrow : Row w w.heap.size A .i64 L) : Calls Try.prog 4 #[.slice A L.length cp] w fun e w' => e = .returned (.bool true) ∧ Below w.heap.size w w' := by
  obtain ⟨n, hn⟩ : ∃ n, L.length = n := ⟨_, rfl⟩
  rw [hn] at hc ⊢
  by_cases h2 : n ≤ 200
  · go_enter Try.func4, Try.ntmps4
    go_wp2_with fail
    obtain ⟨l, hle⟩ : ∃ l, L.take n = l := ⟨_, rfl⟩
    have hlen : l.length = n := by rw [← hle, List.length_take]; omega
    have HN := Lib.hid hlen
    have HL : Hid (∀ v ∈ l, I64 v) := Lib.hid (fun v hv => hl v (by rw [← hle] at hv; exact List.mem_of_mem_take hv))
    have HR : Hid (Row w w.heap.size A .i64 l) := Lib.hid (by rw [← hle]; exact hrow.take _)
    have hmm : n ≤ 9223372036854775807 := by unfold maxLen at hm; omega
    clear hle hlen hl hrow hn
    go_loopw [4] (fun i wr => ∃ j : Nat, i = .int .i64 j ∧ j ≤ n ∧ wr.heap[w.heap.size]? = some (.cells #[.int .i64 (ofM (l.take j)).n, .int .i64 (ofM (l.take j)).hi, .int .u64 (ofM (l.take j)).lo, .int .i64 (ofM (l.take j)).mn, .int .i64 (ofM (l.take j)).mx] 24 (0, 0)) ∧ Below w.heap.size w wr) (fun i _ => n - (intOf i).toNat)
    case atStart =>
      exact ⟨0, rfl, Nat.zero_le _, World.alloc_heap_new w _, by go_grown⟩
    case round =>
      obtain ⟨j, rfl, hj, hc, hb⟩ := hrel
      have HB := Lib.hid hb
      have hz : w.heap.size < wr.heap.size := (Array.getElem?_eq_some_iff.1 hc).1
      by_cases hlt : j < n
      · have hjl : j < l.length := by rw [HN.out]; exact hlt
        obtain ⟨o, ho⟩ : ∃ o, ofM (l.take j) = o := ⟨_, rfl⟩
        rw [ho] at hc
        have hstep := ofM_take l j hjl
        rw [ho] at hstep
        have hok : o.ok := by rw [← ho]; exact ofM_ok _ (fun x hx => HL.out x (List.mem_of_mem_take hx))
        obtain ⟨ad, rfl, hab, hcell⟩ := row_at (HR.out.same hb) j hjl
        have hv := HL.out _ (List.getElem_mem hjl)
        obtain ⟨v, hvv⟩ : ∃ v, l[j] = v := ⟨_, rfl⟩
        rw [hvv] at hstep hcell hv
        clear hvv hb
        obtain ⟨m2, hm2⟩ : ∃ m2, ofM (l.take (j + 1)) = m2 := ⟨_, rfl⟩
        rw [hm2] at hstep
        replace hm2 := Lib.hid hm2
        have Q1 := fun w => one_any v hv w
        have Q2 := fun w => merge_any o (oneM v) hok (oneM_ok hv) w
        rw [hstep] at Q2
        obtain ⟨o1, ho1⟩ : ∃ o1, oneM v = o1 := ⟨_, rfl⟩
        simp only [ho1] at Q1 Q2
        replace Q1 := Lib.hid Q1
        replace Q2 := Lib.hid Q2
        clear ho ho1 hstep hok hv
        have W1 : IntKind.i64.wrap ((j : Int) + 1) = (j : Int) + 1 := IntWalk.i64_in _ (by omega)
        have hq0 : (0 : Int) ≤ (j : Int) := by omega
        have hs : Hid (Below wr.heap.size wr wr.drew) := Lib.hid (by go_grown)
        have HX : Hid (∀ w', Below wr.heap.size wr w' → w'.cell? ⟨w.heap.size, 0, none⟩ = some (.int .i64 o.n) ∧ w'.cell? ⟨w.heap.size, 1, none⟩ = some (.int .i64 o.hi) ∧ w'.cell? ⟨w.heap.size, 2, none⟩ = some (.int .u64 o.lo) ∧ w'.cell? ⟨w.heap.size, 3, none⟩ = some (.int .i64 o.mn) ∧ w'.cell? ⟨w.heap.size, 4, none⟩ = some (.int .i64 o.mx) ∧ w'.cell? (ad.add j) = some (.int .i64 v) ∧ w'.frozen? ⟨w.heap.size, 0, none⟩ = false ∧ w'.frozen? ⟨w.heap.size, 1, none⟩ = false ∧ w'.frozen? ⟨w.heap.size, 2, none⟩ = false ∧ w'.frozen? ⟨w.heap.size, 3, none⟩ = false ∧ w'.frozen? ⟨w.heap.size, 4, none⟩ = false) := Lib.hid (fun w' h => by
          obtain ⟨c0, c1, c2, c3, c4⟩ := (accAt_of hc).same (W' := w') (h.block _ hz)
          have hf : ∀ i, w'.frozen? ⟨w.heap.size, i, none⟩ = false := fun i => by simp [World.frozen?, h.block _ hz, hc]
          refine ⟨c0, c1, c2, c3, c4, ?_, hf 0, hf 1, hf 2, hf 3, hf 4⟩
          rw [← hcell]
          exact cell_block (by rw [add_blk]; exact h.block _ (Nat.lt_trans hab (by omega))))
        go_wp2_with fail
        obtain ⟨c0, c1, c2, c3, c4, hcell, f0, f1, f2, f3, f4⟩ := HX.out _ hs.out
        go_region_with (first
          | (go_at_call 8
             (with_reducible refine (Q1.out _).mono ?_)
             rintro e w1 ⟨rfl, hb1⟩
             have hs := Lib.hid (hs.out.trans (hb1.mono hs.out.size))
             clear hb1
             clear c0 c1 c2 c3 c4 hcell f0 f1 f2 f3 f4
             obtain ⟨c0, c1, c2, c3, c4, hcell, f0, f1, f2, f3, f4⟩ := HX.out _ hs.out)
          | (go_at_call 10
             (with_reducible refine (Q2.out _).mono ?_)
             rintro e w1 ⟨rfl, hb1⟩
             have hs := Lib.hid (hs.out.trans (hb1.mono hs.out.size))
             clear hb1
             clear c0 c1 c2 c3 c4 hcell f0 f1 f2 f3 f4
             obtain ⟨c0, c1, c2, c3, c4, hcell, f0, f1, f2, f3, f4⟩ := HX.out _ hs.out))
        all_goals go_wp2
        all_goals go_roundw
        all_goals first
          | exact ⟨j + 1, by go_num, by omega, by rw [hm2.out]; exact stored_acc m2 ((hs.out.block _ hz).trans hc), stored_below (by omega) (HB.out.trans (hs.out.mono HB.out.size))⟩
          | (simp [intOf]; omega)
      · obtain rfl : n = j := by omega
        have hst : l.take n = l := List.take_of_length_le (by rw [HN.out]; exact Nat.le_refl _)
        have Q1 := fun w' (h : Row w' w'.heap.size A .i64 l) => of_any l A cp HL.out (by rw [HN.out]; exact hmm) w' h
        rw [HN.out] at Q1
        obtain ⟨o, ho⟩ : ∃ o, ofM l = o := ⟨_, rfl⟩
        rw [hst, ho] at hc
        simp only [ho] at Q1
        replace Q1 := Lib.hid Q1
        have hg : Try.prog.eqGuardType Try.prog.depth 24 = false := guard24
        have E0 := fun w => acc_eq o w
        have hs : Hid (Below wr.heap.size wr wr.drew) := Lib.hid (by go_grown)
        have HX : Hid (∀ w', Below wr.heap.size wr w' → w'.cell? ⟨w.heap.size, 0, none⟩ = some (.int .i64 o.n) ∧ w'.cell? ⟨w.heap.size, 1, none⟩ = some (.int .i64 o.hi) ∧ w'.cell? ⟨w.heap.size, 2, none⟩ = some (.int .u64 o.lo) ∧ w'.cell? ⟨w.heap.size, 3, none⟩ = some (.int .i64 o.mn) ∧ w'.cell? ⟨w.heap.size, 4, none⟩ = some (.int .i64 o.mx)) := Lib.hid (fun w' h => by
          obtain ⟨c0, c1, c2, c3, c4⟩ := (accAt_of hc).same (W' := w') (h.block _ hz)
          exact ⟨c0, c1, c2, c3, c4⟩)
        have HRW : Hid (∀ w', Below wr.heap.size wr w' → Row w' w'.heap.size A .i64 l) := Lib.hid (fun w' h => by
          have := HR.out.same (HB.out.trans (h.mono HB.out.size))
          rcases this with h0 | ⟨ad, e, h1, h2⟩
          · exact .inl h0
          · exact .inr ⟨ad, e, Nat.lt_of_lt_of_le h1 (Nat.le_trans HB.out.size h.size), h2⟩)
        clear ho hst hc hb
        go_wp2_with fail
        go_region_held3 (fun w' => w'.cell? ⟨w.heap.size, 0, none⟩ = some (.int .i64 o.n) ∧ w'.cell? ⟨w.heap.size, 1, none⟩ = some (.int .i64 o.hi) ∧ w'.cell? ⟨w.heap.size, 2, none⟩ = some (.int .u64 o.lo) ∧ w'.cell? ⟨w.heap.size, 3, none⟩ = some (.int .i64 o.mn) ∧ w'.cell? ⟨w.heap.size, 4, none⟩ = some (.int .i64 o.mx))
          (first | assumption | (exact HX.out _ hs.out))
          (first
            | (go_at_call 15
               (with_reducible refine (Q1.out _ (HRW.out _ hs.out)).mono ?_)
               rintro e w1 ⟨rfl, hb1⟩
               replace hs := Lib.hid (hs.out.trans (hb1.mono hs.out.size))
               clear hb1)
            | (go_at_call 14
               (with_reducible refine (works _).mono ?_)
               rintro e w1 ⟨rfl, hb1⟩
               replace hs := Lib.hid (hs.out.trans (hb1.mono hs.out.size))
               clear hb1))
        go_wp2_with fail
        go_ret
        exact ⟨rfl, HB.out.trans (hs.out.mono HB.out.size)⟩
  · go_enter Try.func4, Try.ntmps4
    go_wp2_with fail
    obtain ⟨l, hle⟩ : ∃ l, L.take 200 = l := ⟨_, rfl⟩
    have hlen : l.length = 200 := by rw [← hle, List.length_take]; omega
    have HN := Lib.hid hlen
    have HL : Hid (∀ v ∈ l, I64 v) := Lib.hid (fun v hv => hl v (by rw [← hle] at hv; exact List.mem_of_mem_take hv))
    have HR : Hid (Row w w.heap.size A .i64 l) := Lib.hid (by rw [← hle]; exact hrow.take _)
    have hmm : 200 ≤ 9223372036854775807 := by unfold maxLen at hm; omega
    clear hle hlen hl hrow hn
    go_loopw [4] (fun i wr => ∃ j : Nat, i = .int .i64 j ∧ j ≤ 200 ∧ wr.heap[w.heap.size]? = some (.cells #[.int .i64 (ofM (l.take j)).n, .int .i64 (ofM (l.take j)).hi, .int .u64 (ofM (l.take j)).lo, .int .i64 (ofM (l.take j)).mn, .int .i64 (ofM (l.take j)).mx] 24 (0, 0)) ∧ Below w.heap.size w wr) (fun i _ => 200 - (intOf i).toNat)
    case atStart =>
      exact ⟨0, rfl, Nat.zero_le _, World.alloc_heap_new w _, by go_grown⟩
    case round =>
      obtain ⟨j, rfl, hj, hc, hb⟩ := hrel
      have HB := Lib.hid hb
      have hz : w.heap.size < wr.heap.size := (Array.getElem?_eq_some_iff.1 hc).1
      by_cases hlt : j < 200
      · have hjl : j < l.length := by rw [HN.out]; exact hlt
        obtain ⟨o, ho⟩ : ∃ o, ofM (l.take j) = o := ⟨_, rfl⟩
        rw [ho] at hc
        have hstep := ofM_take l j hjl
        rw [ho] at hstep
        have hok : o.ok := by rw [← ho]; exact ofM_ok _ (fun x hx => HL.out x (List.mem_of_mem_take hx))
        obtain ⟨ad, rfl, hab, hcell⟩ := row_at (HR.out.same hb) j hjl
        have hv := HL.out _ (List.getElem_mem hjl)
        obtain ⟨v, hvv⟩ : ∃ v, l[j] = v := ⟨_, rfl⟩
        rw [hvv] at hstep hcell hv
        clear hvv hb
        obtain ⟨m2, hm2⟩ : ∃ m2, ofM (l.take (j + 1)) = m2 := ⟨_, rfl⟩
        rw [hm2] at hstep
        replace hm2 := Lib.hid hm2
        have Q1 := fun w => one_any v hv w
        have Q2 := fun w => merge_any o (oneM v) hok (oneM_ok hv) w
        rw [hstep] at Q2
        obtain ⟨o1, ho1⟩ : ∃ o1, oneM v = o1 := ⟨_, rfl⟩
        simp only [ho1] at Q1 Q2
        replace Q1 := Lib.hid Q1
        replace Q2 := Lib.hid Q2
        clear ho ho1 hstep hok hv
        have W1 : IntKind.i64.wrap ((j : Int) + 1) = (j : Int) + 1 := IntWalk.i64_in _ (by omega)
        have hq0 : (0 : Int) ≤ (j : Int) := by omega
        have hs : Hid (Below wr.heap.size wr wr.drew) := Lib.hid (by go_grown)
        have HX : Hid (∀ w', Below wr.heap.size wr w' → w'.cell? ⟨w.heap.size, 0, none⟩ = some (.int .i64 o.n) ∧ w'.cell? ⟨w.heap.size, 1, none⟩ = some (.int .i64 o.hi) ∧ w'.cell? ⟨w.heap.size, 2, none⟩ = some (.int .u64 o.lo) ∧ w'.cell? ⟨w.heap.size, 3, none⟩ = some (.int .i64 o.mn) ∧ w'.cell? ⟨w.heap.size, 4, none⟩ = some (.int .i64 o.mx) ∧ w'.cell? (ad.add j) = some (.int .i64 v) ∧ w'.frozen? ⟨w.heap.size, 0, none⟩ = false ∧ w'.frozen? ⟨w.heap.size, 1, none⟩ = false ∧ w'.frozen? ⟨w.heap.size, 2, none⟩ = false ∧ w'.frozen? ⟨w.heap.size, 3, none⟩ = false ∧ w'.frozen? ⟨w.heap.size, 4, none⟩ = false) := Lib.hid (fun w' h => by
          obtain ⟨c0, c1, c2, c3, c4⟩ := (accAt_of hc).same (W' := w') (h.block _ hz)
          have hf : ∀ i, w'.frozen? ⟨w.heap.size, i, none⟩ = false := fun i => by simp [World.frozen?, h.block _ hz, hc]
          refine ⟨c0, c1, c2, c3, c4, ?_, hf 0, hf 1, hf 2, hf 3, hf 4⟩
          rw [← hcell]
          exact cell_block (by rw [add_blk]; exact h.block _ (Nat.lt_trans hab (by omega))))
        go_wp2_with fail
        obtain ⟨c0, c1, c2, c3, c4, hcell, f0, f1, f2, f3, f4⟩ := HX.out _ hs.out
        go_region_with (first
          | (go_at_call 8
             (with_reducible refine (Q1.out _).mono ?_)
             rintro e w1 ⟨rfl, hb1⟩
             have hs := Lib.hid (hs.out.trans (hb1.mono hs.out.size))
             clear hb1
             clear c0 c1 c2 c3 c4 hcell f0 f1 f2 f3 f4
             obtain ⟨c0, c1, c2, c3, c4, hcell, f0, f1, f2, f3, f4⟩ := HX.out _ hs.out)
          | (go_at_call 10
             (with_reducible refine (Q2.out _).mono ?_)
             rintro e w1 ⟨rfl, hb1⟩
             have hs := Lib.hid (hs.out.trans (hb1.mono hs.out.size))
             clear hb1
             clear c0 c1 c2 c3 c4 hcell f0 f1 f2 f3 f4
             obtain ⟨c0, c1, c2, c3, c4, hcell, f0, f1, f2, f3, f4⟩ := HX.out _ hs.out))
        all_goals go_wp2
        all_goals go_roundw
        all_goals first
          | exact ⟨j + 1, by go_num, by omega, by rw [hm2.out]; exact stored_acc m2 ((hs.out.block _ hz).trans hc), stored_below (by omega) (HB.out.trans (hs.out.mono HB.out.size))⟩
          | (simp [intOf]; omega)
      · obtain rfl : j = 200 := by omega
        have hst : l.take 200 = l := List.take_of_length_le (by rw [HN.out]; exact Nat.le_refl _)
        have Q1 := fun w' (h : Row w' w'.heap.size A .i64 l) => of_any l A cp HL.out (by rw [HN.out]; exact hmm) w' h
        rw [HN.out] at Q1
        obtain ⟨o, ho⟩ : ∃ o, ofM l = o := ⟨_, rfl⟩
        rw [hst, ho] at hc
        simp only [ho] at Q1
        replace Q1 := Lib.hid Q1
        have hg : Try.prog.eqGuardType Try.prog.depth 24 = false := guard24
        have E0 := fun w => acc_eq o w
        have hs : Hid (Below wr.heap.size wr wr.drew) := Lib.hid (by go_grown)
        have HX : Hid (∀ w', Below wr.heap.size wr w' → w'.cell? ⟨w.heap.size, 0, none⟩ = some (.int .i64 o.n) ∧ w'.cell? ⟨w.heap.size, 1, none⟩ = some (.int .i64 o.hi) ∧ w'.cell? ⟨w.heap.size, 2, none⟩ = some (.int .u64 o.lo) ∧ w'.cell? ⟨w.heap.size, 3, none⟩ = some (.int .i64 o.mn) ∧ w'.cell? ⟨w.heap.size, 4, none⟩ = some (.int .i64 o.mx)) := Lib.hid (fun w' h => by
          obtain ⟨c0, c1, c2, c3, c4⟩ := (accAt_of hc).same (W' := w') (h.block _ hz)
          exact ⟨c0, c1, c2, c3, c4⟩)
        have HRW : Hid (∀ w', Below wr.heap.size wr w' → Row w' w'.heap.size A .i64 l) := Lib.hid (fun w' h => by
          have := HR.out.same (HB.out.trans (h.mono HB.out.size))
          rcases this with h0 | ⟨ad, e, h1, h2⟩
          · exact .inl h0
          · exact .inr ⟨ad, e, Nat.lt_of_lt_of_le h1 (Nat.le_trans HB.out.size h.size), h2⟩)
        clear ho hst hc hb
        go_wp2_with fail
        go_region_held3 (fun w' => w'.cell? ⟨w.heap.size, 0, none⟩ = some (.int .i64 o.n) ∧ w'.cell? ⟨w.heap.size, 1, none⟩ = some (.int .i64 o.hi) ∧ w'.cell? ⟨w.heap.size, 2, none⟩ = some (.int .u64 o.lo) ∧ w'.cell? ⟨w.heap.size, 3, none⟩ = some (.int .i64 o.mn) ∧ w'.cell? ⟨w.heap.size, 4, none⟩ = some (.int .i64 o.mx))
          (first | assumption | (exact HX.out _ hs.out))
          (first
            | (go_at_call 15
               (with_reducible refine (Q1.out _ (HRW.out _ hs.out)).mono ?_)
               rintro e w1 ⟨rfl, hb1⟩
               replace hs := Lib.hid (hs.out.trans (hb1.mono hs.out.size))
               clear hb1)
            | (go_at_call 14
               (with_reducible refine (works _).mono ?_)
               rintro e w1 ⟨rfl, hb1⟩
               replace hs := Lib.hid (hs.out.trans (hb1.mono hs.out.size))
               clear hb1))
        go_wp2_with fail
        go_ret
        exact ⟨rfl, HB.out.trans (hs.out.mono HB.out.size)⟩
end Go.Proofs.Ytlkekcmphbpfbaa
