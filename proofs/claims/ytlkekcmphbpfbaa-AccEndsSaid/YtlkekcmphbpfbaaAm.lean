/-
  The walk of AccEnds.
-/
import Derived.Test.YtlkekcmphbpfbaaAl
namespace Go.Proofs.Ytlkekcmphbpfbaa
open Go Go.RowKit Go.Lib

theorem hits (l : List Int) (j : Nat) (hj : j < l.length) (x : Int) : decide (l = [] ∨ x ∈ l.take (j + 1)) = (decide (l = [] ∨ x ∈ l.take j) || decide (l[j] = x)) := by
  rw [List.take_succ_eq_append_getElem hj]
  simp only [List.mem_append, List.mem_singleton]
  by_cases h1 : l = [] <;> by_cases h2 : x ∈ l.take j <;> by_cases h3 : l[j] = x <;> simp [h1, h2, h3]
  all_goals (first | exact h3.symm | (intro h; exact h3 h.symm))
theorem start_ok {l : List Int} {m : Nat} (hn : l.length = m) (x : Int) : Value.bool ((m : Int) == 0) = Value.bool (decide (l = [] ∨ x ∈ l.take 0)) := by
  subst hn
  by_cases h : l = []
  · simp [h]
  · have : l.length ≠ 0 := fun e => h (List.eq_nil_of_length_eq_zero e)
    simp [h]
theorem ends_true {l : List Int} {m : Nat} {x : Int} (hn : l.length = m) (h : l ≠ [] → x ∈ l) : decide (l = [] ∨ x ∈ l.take m) = true := by
  rw [List.take_of_length_le (by omega)]
  by_cases h0 : l = []
  · simp [h0]
  · simp [h h0]

set_option maxRecDepth 100000 in
set_option maxHeartbeats 3200000 in
theorem ends_any (L : List Int) (A : Option Addr) (cp : Nat) (hl : ∀ v ∈ L, I64 v) (hm : cp ≤ maxLen) (hc : L.length ≤ cp) (w : World) (hrow : Row w w.heap.size A .i64 L) : Calls Try.prog 6 #[.slice A L.length cp] w fun e w' => e = .returned (.bool true) ∧ Below w.heap.size w w' := by
  obtain ⟨n, hn⟩ : ∃ n, L.length = n := ⟨_, rfl⟩
  rw [hn] at hc ⊢
  by_cases h2 : n ≤ 100
  · go_enter Try.func6, Try.ntmps6
    obtain ⟨l, hle⟩ : ∃ l, L.take n = l := ⟨_, rfl⟩
    have hlen : l.length = n := by rw [← hle, List.length_take]; omega
    have HN := Lib.hid hlen
    have HL : Hid (∀ v ∈ l, I64 v) := Lib.hid (fun v hv => hl v (by rw [← hle] at hv; exact List.mem_of_mem_take hv))
    have HR : Hid (Row w w.heap.size A .i64 l) := Lib.hid (by rw [← hle]; exact hrow.take _)
    have hmm : n ≤ 100 := by omega
    clear hle hlen hl hrow hn
    go_wp2_with (first
      | (go_at_call 14
         (with_reducible refine (works _).mono ?_)
         rintro e w1 ⟨rfl, hb1⟩
         have BW := Lib.hid hb1
         have HR1 := Lib.hid (HR.out.same hb1)
         clear hb1))
    go_loopw [4] (fun i wr => ∃ k : Nat, i = .int .i64 ((k : Int) - 1) ∧ k ≤ n ∧ wr.heap[w1.heap.size]? = some (.cells #[.int .i64 (ofR (l.drop k)).n, .int .i64 (ofR (l.drop k)).hi, .int .u64 (ofR (l.drop k)).lo, .int .i64 (ofR (l.drop k)).mn, .int .i64 (ofR (l.drop k)).mx] 24 (0, 0)) ∧ Below w1.heap.size w1 wr) (fun i _ => (intOf i + 1).toNat)
    case atStart =>
      refine ⟨n, by go_num, Nat.le_refl _, ?_, by go_grown⟩
      rw [List.drop_of_length_le (by rw [HN.out]; exact Nat.le_refl _)]
      exact World.alloc_heap_new w1 _
    case round =>
      obtain ⟨k, rfl, hk, hc, hb⟩ := hrel
      have HB := Lib.hid hb
      have hz : w1.heap.size < wr.heap.size := (Array.getElem?_eq_some_iff.1 hc).1
      cases k with
      | succ k =>
        have hx : ((k + 1 : Nat) : Int) - 1 = (k : Int) := by omega
        rw [hx]
        have hjl : k < l.length := by rw [HN.out]; omega
        obtain ⟨o, ho⟩ : ∃ o, ofR (l.drop (k + 1)) = o := ⟨_, rfl⟩
        rw [ho] at hc
        have hstep := ofR_drop l k hjl
        rw [ho] at hstep
        have hok : o.ok := by rw [← ho]; exact ofR_ok _ (fun x hx => HL.out x (List.mem_of_mem_drop hx))
        obtain ⟨ad, rfl, hab, hcell⟩ := row_at (HR1.out.same (hb.mono BW.out.size)) k hjl
        have hv := HL.out _ (List.getElem_mem hjl)
        obtain ⟨v, hvv⟩ : ∃ v, l[k] = v := ⟨_, rfl⟩
        rw [hvv] at hstep hcell hv
        clear hvv hb
        obtain ⟨m2, hm2⟩ : ∃ m2, ofR (l.drop k) = m2 := ⟨_, rfl⟩
        rw [hm2] at hstep
        replace hm2 := Lib.hid hm2
        have Q1 := fun w => one_any v hv w
        have Q2 := fun w => merge_any (oneM v) o (oneM_ok hv) hok w
        rw [hstep] at Q2
        obtain ⟨o1, ho1⟩ : ∃ o1, oneM v = o1 := ⟨_, rfl⟩
        simp only [ho1] at Q1 Q2
        replace Q1 := Lib.hid Q1
        replace Q2 := Lib.hid Q2
        clear ho ho1 hstep hok hv
        have hq0 : (0 : Int) ≤ (k : Int) := by omega
        have hq1 : (k : Int) < (n : Int) := by omega
        have hs : Hid (Below wr.heap.size wr wr.drew) := Lib.hid (by go_grown)
        have HX : Hid (∀ w', Below wr.heap.size wr w' → w'.cell? ⟨w1.heap.size, 0, none⟩ = some (.int .i64 o.n) ∧ w'.cell? ⟨w1.heap.size, 1, none⟩ = some (.int .i64 o.hi) ∧ w'.cell? ⟨w1.heap.size, 2, none⟩ = some (.int .u64 o.lo) ∧ w'.cell? ⟨w1.heap.size, 3, none⟩ = some (.int .i64 o.mn) ∧ w'.cell? ⟨w1.heap.size, 4, none⟩ = some (.int .i64 o.mx) ∧ w'.cell? (ad.add k) = some (.int .i64 v) ∧ w'.frozen? ⟨w1.heap.size, 0, none⟩ = false ∧ w'.frozen? ⟨w1.heap.size, 1, none⟩ = false ∧ w'.frozen? ⟨w1.heap.size, 2, none⟩ = false ∧ w'.frozen? ⟨w1.heap.size, 3, none⟩ = false ∧ w'.frozen? ⟨w1.heap.size, 4, none⟩ = false) := Lib.hid (fun w' h => by
          obtain ⟨c0, c1, c2, c3, c4⟩ := (accAt_of hc).same (W' := w') (h.block _ hz)
          have hf : ∀ i, w'.frozen? ⟨w1.heap.size, i, none⟩ = false := fun i => by simp [World.frozen?, h.block _ hz, hc]
          refine ⟨c0, c1, c2, c3, c4, ?_, hf 0, hf 1, hf 2, hf 3, hf 4⟩
          rw [← hcell]
          exact cell_block (by rw [add_blk]; exact h.block _ (by have := BW.out.size; omega)))
        go_wp2_with fail
        obtain ⟨c0, c1, c2, c3, c4, hcell, f0, f1, f2, f3, f4⟩ := HX.out _ hs.out
        go_region_with (first
          | (go_at_call 8
             (with_reducible refine (Q1.out _).mono ?_)
             rintro e w2 ⟨rfl, hb1⟩
             have hs := Lib.hid (hs.out.trans (hb1.mono hs.out.size))
             clear hb1
             clear c0 c1 c2 c3 c4 hcell f0 f1 f2 f3 f4
             obtain ⟨c0, c1, c2, c3, c4, hcell, f0, f1, f2, f3, f4⟩ := HX.out _ hs.out)
          | (go_at_call 10
             (with_reducible refine (Q2.out _).mono ?_)
             rintro e w2 ⟨rfl, hb1⟩
             have hs := Lib.hid (hs.out.trans (hb1.mono hs.out.size))
             clear hb1
             clear c0 c1 c2 c3 c4 hcell f0 f1 f2 f3 f4
             obtain ⟨c0, c1, c2, c3, c4, hcell, f0, f1, f2, f3, f4⟩ := HX.out _ hs.out))
        all_goals go_wp2
        all_goals go_roundw
        all_goals first
          | exact ⟨k, by go_num, by omega, by rw [hm2.out]; exact stored_acc m2 ((hs.out.block _ hz).trans hc), stored_below (by omega) (HB.out.trans (hs.out.mono HB.out.size))⟩
          | (simp [intOf]; done)
          | (simp [intOf]; omega)
      | zero =>
        have hx : ((0 : Nat) : Int) - 1 = (-1 : Int) := by omega
        rw [hx]
        obtain ⟨o, ho⟩ : ∃ o, ofR l = o := ⟨_, rfl⟩
        have hok : o.ok := by rw [← ho]; exact ofR_ok _ HL.out
        obtain ⟨hn, hends⟩ := ofR_ends l (by rw [HN.out]; omega)
        rw [ho] at hn hends
        rw [HN.out] at hn
        rw [List.drop_zero, ho] at hc
        have HE := Lib.hid hends
        have HX : Hid (∀ w', Below wr.heap.size wr w' → w'.cell? ⟨w1.heap.size, 0, none⟩ = some (.int .i64 o.n) ∧ w'.cell? ⟨w1.heap.size, 1, none⟩ = some (.int .i64 o.hi) ∧ w'.cell? ⟨w1.heap.size, 2, none⟩ = some (.int .u64 o.lo) ∧ w'.cell? ⟨w1.heap.size, 3, none⟩ = some (.int .i64 o.mn) ∧ w'.cell? ⟨w1.heap.size, 4, none⟩ = some (.int .i64 o.mx)) := Lib.hid (fun w' h => by
          obtain ⟨c0, c1, c2, c3, c4⟩ := (accAt_of hc).same (W' := w') (h.block _ hz)
          exact ⟨c0, c1, c2, c3, c4⟩)
        have HO := Lib.hid hok.lo
        have Q0 := fun w => result_any o 0 HO.out w
        have Q2 := fun w => result_any o 2 HO.out w
        have Q3 := fun w => result_any o 3 HO.out w
        unfold Tells at Q0 Q2 Q3
        simp only [res_0, res_2, res_3] at Q0 Q2 Q3
        rw [hn] at Q0
        obtain ⟨mn, hmn⟩ : ∃ mn, o.mn = mn := ⟨_, rfl⟩
        obtain ⟨mx, hmx⟩ : ∃ mx, o.mx = mx := ⟨_, rfl⟩
        simp only [hmn] at Q2
        simp only [hmx] at Q3
        rw [hmn, hmx] at HE
        clear hmn hmx
        replace Q0 := Lib.hid Q0
        replace Q2 := Lib.hid Q2
        replace Q3 := Lib.hid Q3
        have HC := Lib.hid hc
        clear ho hok hn hends hb hc
        have hs : Hid (Below wr.heap.size wr wr) := Lib.hid (Below.refl _ _)
        obtain ⟨c0, c1, c2, c3, c4⟩ := HX.out _ hs.out
        go_wp2_with (first
          | (go_at_call 12
             (first | (with_reducible refine (Q2.out _).mono ?_) | (with_reducible refine (Q3.out _).mono ?_) | (with_reducible refine (Q0.out _).mono ?_))
             rintro e w2 ⟨rfl, hb1⟩
             have hs := Lib.hid (hs.out.trans (hb1.mono hs.out.size))
             clear hb1
             clear c0 c1 c2 c3 c4
             obtain ⟨c0, c1, c2, c3, c4⟩ := HX.out _ hs.out))
        have BF : Hid (Below w.heap.size w w2) := Lib.hid (BW.out.trans ((HB.out.trans (hs.out.mono HB.out.size)).mono BW.out.size))
        have HR2 : Hid (Row w2 w.heap.size A .i64 l) := Lib.hid (HR.out.same BF.out)
        clear c0 c1 c2 c3 c4 HX HC HO Q0 Q2 Q3
        rename World => wz
        go_loopw [11, 12, 13] (fun s t i wq => ∃ j : Nat, i = .int .i64 j ∧ j ≤ n ∧ s = .bool (decide (l = [] ∨ mn ∈ l.take j)) ∧ t = .bool (decide (l = [] ∨ mx ∈ l.take j)) ∧ wq = wz) (fun _ _ i _ => n - (intOf i).toNat)
        case atStart =>
          refine ⟨0, rfl, Nat.zero_le _, ?_, ?_, rfl⟩
          · exact start_ok HN.out mn
          · exact start_ok HN.out mx
        case round =>
          obtain ⟨j, rfl, hj, rfl, rfl, rfl⟩ := hrel
          obtain ⟨b1, hb1⟩ : ∃ b, decide (l = [] ∨ mn ∈ l.take j) = b := ⟨_, rfl⟩
          obtain ⟨b2, hb2⟩ : ∃ b, decide (l = [] ∨ mx ∈ l.take j) = b := ⟨_, rfl⟩
          rw [hb1, hb2]
          by_cases hlt : j < n
          · have hjl : j < l.length := by rw [HN.out]; exact hlt
            have N1 := hits l j hjl mn
            have N2 := hits l j hjl mx
            rw [hb1] at N1
            rw [hb2] at N2
            obtain ⟨ad, rfl, hab, hcell⟩ := row_at HR2.out j hjl
            obtain ⟨-, -, hbd⟩ := HE.out (by intro e; rw [e] at hjl; simp at hjl)
            obtain ⟨h1, h2⟩ := hbd _ (List.getElem_mem hjl)
            obtain ⟨v, hvv⟩ : ∃ v, l[j] = v := ⟨_, rfl⟩
            rw [hvv] at hcell h1 h2 N1 N2
            replace N1 := Lib.hid N1
            replace N2 := Lib.hid N2
            have hq0 : (0 : Int) ≤ (j : Int) := by omega
            have hq1 : (j : Int) < (n : Int) := by omega
            have hn1 : ¬ v < mn := by omega
            have hn2 : ¬ mx < v := by omega
            have W1 : IntKind.i64.wrap ((j : Int) + 1) = (j : Int) + 1 := IntWalk.i64_in _ (by omega)
            clear hvv hb1 hb2 hbd
            by_cases e1 : v = mn <;> by_cases e2 : v = mx <;> cases b1 <;> cases b2 <;>
            · try subst e1
              try subst e2
              go_wp2
              go_roundw
              case rel =>
                refine ⟨j + 1, by go_num, by omega, ?_, ?_, by first | rfl | trivial⟩
                · rw [N1.out]; first | rfl | (simp; done) | (simp [e1]; done) | (simp; omega)
                · rw [N2.out]; first | rfl | (simp; done) | (simp [e2]; done) | (simp; omega)
              case measure => first | (simp [intOf]; done) | (simp [intOf]; omega) | (simp [intOf, W1]; omega)
          · obtain rfl : j = n := by omega
            have T1 : b1 = true := by
              rw [← hb1]
              exact ends_true HN.out (fun h => (HE.out h).1)
            have T2 : b2 = true := by
              rw [← hb2]
              exact ends_true HN.out (fun h => (HE.out h).2.1)
            subst T1 T2
            clear hb1 hb2
            go_wp2
            go_ret
            exact ⟨rfl, BF.out⟩
  · go_enter Try.func6, Try.ntmps6
    obtain ⟨l, hle⟩ : ∃ l, L.take 100 = l := ⟨_, rfl⟩
    have hlen : l.length = 100 := by rw [← hle, List.length_take]; omega
    have HN := Lib.hid hlen
    have HL : Hid (∀ v ∈ l, I64 v) := Lib.hid (fun v hv => hl v (by rw [← hle] at hv; exact List.mem_of_mem_take hv))
    have HR : Hid (Row w w.heap.size A .i64 l) := Lib.hid (by rw [← hle]; exact hrow.take _)
    have hmm : 100 ≤ 100 := by omega
    clear hle hlen hl hrow hn
    go_wp2_with (first
      | (go_at_call 14
         (with_reducible refine (works _).mono ?_)
         rintro e w1 ⟨rfl, hb1⟩
         have BW := Lib.hid hb1
         have HR1 := Lib.hid (HR.out.same hb1)
         clear hb1))
    go_loopw [4] (fun i wr => ∃ k : Nat, i = .int .i64 ((k : Int) - 1) ∧ k ≤ 100 ∧ wr.heap[w1.heap.size]? = some (.cells #[.int .i64 (ofR (l.drop k)).n, .int .i64 (ofR (l.drop k)).hi, .int .u64 (ofR (l.drop k)).lo, .int .i64 (ofR (l.drop k)).mn, .int .i64 (ofR (l.drop k)).mx] 24 (0, 0)) ∧ Below w1.heap.size w1 wr) (fun i _ => (intOf i + 1).toNat)
    case atStart =>
      refine ⟨100, by go_num, Nat.le_refl _, ?_, by go_grown⟩
      rw [List.drop_of_length_le (by rw [HN.out]; exact Nat.le_refl _)]
      exact World.alloc_heap_new w1 _
    case round =>
      obtain ⟨k, rfl, hk, hc, hb⟩ := hrel
      have HB := Lib.hid hb
      have hz : w1.heap.size < wr.heap.size := (Array.getElem?_eq_some_iff.1 hc).1
      cases k with
      | succ k =>
        have hx : ((k + 1 : Nat) : Int) - 1 = (k : Int) := by omega
        rw [hx]
        have hjl : k < l.length := by rw [HN.out]; omega
        obtain ⟨o, ho⟩ : ∃ o, ofR (l.drop (k + 1)) = o := ⟨_, rfl⟩
        rw [ho] at hc
        have hstep := ofR_drop l k hjl
        rw [ho] at hstep
        have hok : o.ok := by rw [← ho]; exact ofR_ok _ (fun x hx => HL.out x (List.mem_of_mem_drop hx))
        obtain ⟨ad, rfl, hab, hcell⟩ := row_at (HR1.out.same (hb.mono BW.out.size)) k hjl
        have hv := HL.out _ (List.getElem_mem hjl)
        obtain ⟨v, hvv⟩ : ∃ v, l[k] = v := ⟨_, rfl⟩
        rw [hvv] at hstep hcell hv
        clear hvv hb
        obtain ⟨m2, hm2⟩ : ∃ m2, ofR (l.drop k) = m2 := ⟨_, rfl⟩
        rw [hm2] at hstep
        replace hm2 := Lib.hid hm2
        have Q1 := fun w => one_any v hv w
        have Q2 := fun w => merge_any (oneM v) o (oneM_ok hv) hok w
        rw [hstep] at Q2
        obtain ⟨o1, ho1⟩ : ∃ o1, oneM v = o1 := ⟨_, rfl⟩
        simp only [ho1] at Q1 Q2
        replace Q1 := Lib.hid Q1
        replace Q2 := Lib.hid Q2
        clear ho ho1 hstep hok hv
        have hq0 : (0 : Int) ≤ (k : Int) := by omega
        have hq1 : (k : Int) < (100 : Int) := by omega
        have hs : Hid (Below wr.heap.size wr wr.drew) := Lib.hid (by go_grown)
        have HX : Hid (∀ w', Below wr.heap.size wr w' → w'.cell? ⟨w1.heap.size, 0, none⟩ = some (.int .i64 o.n) ∧ w'.cell? ⟨w1.heap.size, 1, none⟩ = some (.int .i64 o.hi) ∧ w'.cell? ⟨w1.heap.size, 2, none⟩ = some (.int .u64 o.lo) ∧ w'.cell? ⟨w1.heap.size, 3, none⟩ = some (.int .i64 o.mn) ∧ w'.cell? ⟨w1.heap.size, 4, none⟩ = some (.int .i64 o.mx) ∧ w'.cell? (ad.add k) = some (.int .i64 v) ∧ w'.frozen? ⟨w1.heap.size, 0, none⟩ = false ∧ w'.frozen? ⟨w1.heap.size, 1, none⟩ = false ∧ w'.frozen? ⟨w1.heap.size, 2, none⟩ = false ∧ w'.frozen? ⟨w1.heap.size, 3, none⟩ = false ∧ w'.frozen? ⟨w1.heap.size, 4, none⟩ = false) := Lib.hid (fun w' h => by
          obtain ⟨c0, c1, c2, c3, c4⟩ := (accAt_of hc).same (W' := w') (h.block _ hz)
          have hf : ∀ i, w'.frozen? ⟨w1.heap.size, i, none⟩ = false := fun i => by simp [World.frozen?, h.block _ hz, hc]
          refine ⟨c0, c1, c2, c3, c4, ?_, hf 0, hf 1, hf 2, hf 3, hf 4⟩
          rw [← hcell]
          exact cell_block (by rw [add_blk]; exact h.block _ (by have := BW.out.size; omega)))
        go_wp2_with fail
        obtain ⟨c0, c1, c2, c3, c4, hcell, f0, f1, f2, f3, f4⟩ := HX.out _ hs.out
        go_region_with (first
          | (go_at_call 8
             (with_reducible refine (Q1.out _).mono ?_)
             rintro e w2 ⟨rfl, hb1⟩
             have hs := Lib.hid (hs.out.trans (hb1.mono hs.out.size))
             clear hb1
             clear c0 c1 c2 c3 c4 hcell f0 f1 f2 f3 f4
             obtain ⟨c0, c1, c2, c3, c4, hcell, f0, f1, f2, f3, f4⟩ := HX.out _ hs.out)
          | (go_at_call 10
             (with_reducible refine (Q2.out _).mono ?_)
             rintro e w2 ⟨rfl, hb1⟩
             have hs := Lib.hid (hs.out.trans (hb1.mono hs.out.size))
             clear hb1
             clear c0 c1 c2 c3 c4 hcell f0 f1 f2 f3 f4
             obtain ⟨c0, c1, c2, c3, c4, hcell, f0, f1, f2, f3, f4⟩ := HX.out _ hs.out))
        all_goals go_wp2
        all_goals go_roundw
        all_goals first
          | exact ⟨k, by go_num, by omega, by rw [hm2.out]; exact stored_acc m2 ((hs.out.block _ hz).trans hc), stored_below (by omega) (HB.out.trans (hs.out.mono HB.out.size))⟩
          | (simp [intOf]; done)
          | (simp [intOf]; omega)
      | zero =>
        have hx : ((0 : Nat) : Int) - 1 = (-1 : Int) := by omega
        rw [hx]
        obtain ⟨o, ho⟩ : ∃ o, ofR l = o := ⟨_, rfl⟩
        have hok : o.ok := by rw [← ho]; exact ofR_ok _ HL.out
        obtain ⟨hn, hends⟩ := ofR_ends l (by rw [HN.out]; omega)
        rw [ho] at hn hends
        rw [HN.out] at hn
        rw [List.drop_zero, ho] at hc
        have HE := Lib.hid hends
        have HX : Hid (∀ w', Below wr.heap.size wr w' → w'.cell? ⟨w1.heap.size, 0, none⟩ = some (.int .i64 o.n) ∧ w'.cell? ⟨w1.heap.size, 1, none⟩ = some (.int .i64 o.hi) ∧ w'.cell? ⟨w1.heap.size, 2, none⟩ = some (.int .u64 o.lo) ∧ w'.cell? ⟨w1.heap.size, 3, none⟩ = some (.int .i64 o.mn) ∧ w'.cell? ⟨w1.heap.size, 4, none⟩ = some (.int .i64 o.mx)) := Lib.hid (fun w' h => by
          obtain ⟨c0, c1, c2, c3, c4⟩ := (accAt_of hc).same (W' := w') (h.block _ hz)
          exact ⟨c0, c1, c2, c3, c4⟩)
        have HO := Lib.hid hok.lo
        have Q0 := fun w => result_any o 0 HO.out w
        have Q2 := fun w => result_any o 2 HO.out w
        have Q3 := fun w => result_any o 3 HO.out w
        unfold Tells at Q0 Q2 Q3
        simp only [res_0, res_2, res_3] at Q0 Q2 Q3
        rw [hn] at Q0
        obtain ⟨mn, hmn⟩ : ∃ mn, o.mn = mn := ⟨_, rfl⟩
        obtain ⟨mx, hmx⟩ : ∃ mx, o.mx = mx := ⟨_, rfl⟩
        simp only [hmn] at Q2
        simp only [hmx] at Q3
        rw [hmn, hmx] at HE
        clear hmn hmx
        replace Q0 := Lib.hid Q0
        replace Q2 := Lib.hid Q2
        replace Q3 := Lib.hid Q3
        have HC := Lib.hid hc
        clear ho hok hn hends hb hc
        have hs : Hid (Below wr.heap.size wr wr) := Lib.hid (Below.refl _ _)
        obtain ⟨c0, c1, c2, c3, c4⟩ := HX.out _ hs.out
        go_wp2_with (first
          | (go_at_call 12
             (first | (with_reducible refine (Q2.out _).mono ?_) | (with_reducible refine (Q3.out _).mono ?_) | (with_reducible refine (Q0.out _).mono ?_))
             rintro e w2 ⟨rfl, hb1⟩
             have hs := Lib.hid (hs.out.trans (hb1.mono hs.out.size))
             clear hb1
             clear c0 c1 c2 c3 c4
             obtain ⟨c0, c1, c2, c3, c4⟩ := HX.out _ hs.out))
        have BF : Hid (Below w.heap.size w w2) := Lib.hid (BW.out.trans ((HB.out.trans (hs.out.mono HB.out.size)).mono BW.out.size))
        have HR2 : Hid (Row w2 w.heap.size A .i64 l) := Lib.hid (HR.out.same BF.out)
        clear c0 c1 c2 c3 c4 HX HC HO Q0 Q2 Q3
        rename World => wz
        go_loopw [11, 12, 13] (fun s t i wq => ∃ j : Nat, i = .int .i64 j ∧ j ≤ 100 ∧ s = .bool (decide (l = [] ∨ mn ∈ l.take j)) ∧ t = .bool (decide (l = [] ∨ mx ∈ l.take j)) ∧ wq = wz) (fun _ _ i _ => 100 - (intOf i).toNat)
        case atStart =>
          refine ⟨0, rfl, Nat.zero_le _, ?_, ?_, rfl⟩
          · exact start_ok HN.out mn
          · exact start_ok HN.out mx
        case round =>
          obtain ⟨j, rfl, hj, rfl, rfl, rfl⟩ := hrel
          obtain ⟨b1, hb1⟩ : ∃ b, decide (l = [] ∨ mn ∈ l.take j) = b := ⟨_, rfl⟩
          obtain ⟨b2, hb2⟩ : ∃ b, decide (l = [] ∨ mx ∈ l.take j) = b := ⟨_, rfl⟩
          rw [hb1, hb2]
          by_cases hlt : j < 100
          · have hjl : j < l.length := by rw [HN.out]; exact hlt
            have N1 := hits l j hjl mn
            have N2 := hits l j hjl mx
            rw [hb1] at N1
            rw [hb2] at N2
            obtain ⟨ad, rfl, hab, hcell⟩ := row_at HR2.out j hjl
            obtain ⟨-, -, hbd⟩ := HE.out (by intro e; rw [e] at hjl; simp at hjl)
            obtain ⟨h1, h2⟩ := hbd _ (List.getElem_mem hjl)
            obtain ⟨v, hvv⟩ : ∃ v, l[j] = v := ⟨_, rfl⟩
            rw [hvv] at hcell h1 h2 N1 N2
            replace N1 := Lib.hid N1
            replace N2 := Lib.hid N2
            have hq0 : (0 : Int) ≤ (j : Int) := by omega
            have hq1 : (j : Int) < (100 : Int) := by omega
            have hn1 : ¬ v < mn := by omega
            have hn2 : ¬ mx < v := by omega
            have W1 : IntKind.i64.wrap ((j : Int) + 1) = (j : Int) + 1 := IntWalk.i64_in _ (by omega)
            clear hvv hb1 hb2 hbd
            by_cases e1 : v = mn <;> by_cases e2 : v = mx <;> cases b1 <;> cases b2 <;>
            · try subst e1
              try subst e2
              go_wp2
              go_roundw
              case rel =>
                refine ⟨j + 1, by go_num, by omega, ?_, ?_, by first | rfl | trivial⟩
                · rw [N1.out]; first | rfl | (simp; done) | (simp [e1]; done) | (simp; omega)
                · rw [N2.out]; first | rfl | (simp; done) | (simp [e2]; done) | (simp; omega)
              case measure => first | (simp [intOf]; done) | (simp [intOf]; omega) | (simp [intOf, W1]; omega)
          · obtain rfl : j = 100 := by omega
            have T1 : b1 = true := by
              rw [← hb1]
              exact ends_true HN.out (fun h => (HE.out h).1)
            have T2 : b2 = true := by
              rw [← hb2]
              exact ends_true HN.out (fun h => (HE.out h).2.1)
            subst T1 T2
            clear hb1 hb2
            go_wp2
            go_ret
            exact ⟨rfl, BF.out⟩
end Go.Proofs.Ytlkekcmphbpfbaa
