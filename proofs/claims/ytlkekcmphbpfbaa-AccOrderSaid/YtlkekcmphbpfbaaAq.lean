/-
  The walk of AccOrder.
-/
import Derived.Test.YtlkekcmphbpfbaaAp
import Derived.Deep.DeepCutAuto
namespace Go.Proofs.Ytlkekcmphbpfbaa
open Go Go.RowKit Go.Lib

set_option maxRecDepth 100000 in
set_option maxHeartbeats 3200000 in
theorem order_any (L : List Int) (A : Option Addr) (cp : Nat) (hl : ∀ v ∈ L, I64 v) (hm : cp ≤ maxLen) (hc : L.length ≤ cp) (w : World) (hrow : Row w w.heap.size A .i64 L)
    (D : List Int) (B : Option Addr) (cq : Nat) (hd : ∀ v ∈ D, 0 ≤ v ∧ v ≤ 255) (hdm : D.length ≤ maxLen) (hdrow : Row w w.heap.size B .u8 D) :
    Calls Try.prog 5 #[.slice A L.length cp, .slice B D.length cq] w fun e w' => e = .returned (.bool true) ∧ Below w.heap.size w w' := by
  obtain ⟨n, hn⟩ : ∃ n, L.length = n := ⟨_, rfl⟩
  obtain ⟨q, hq⟩ : ∃ q, D.length = q := ⟨_, rfl⟩
  rw [hn] at hc ⊢
  rw [hq] at hdm ⊢
  have HQ := Lib.hid hq
  have HD := Lib.hid hd
  have HDM := Lib.hid hdm
  have HDR := Lib.hid hdrow
  obtain ⟨m, hmn⟩ : ∃ m, min n 100 = m := ⟨_, rfl⟩
  have hm1 : m ≤ n := by omega
  have hmm : m ≤ 100 := by omega
  obtain ⟨l, hle⟩ : ∃ l, L.take m = l := ⟨_, rfl⟩
  have hlen : l.length = m := by rw [← hle, List.length_take]; omega
  have HN := Lib.hid hlen
  have HL : Hid (∀ v ∈ l, I64 v) := Lib.hid (fun v hv => hl v (by rw [← hle] at hv; exact List.mem_of_mem_take hv))
  have HR : Hid (Row w w.heap.size A .i64 l) := Lib.hid (by rw [← hle]; exact hrow.take _)
  have HMN := Lib.hid hmn
  have HC := Lib.hid hc
  have HM := Lib.hid hm
  clear hq hd hdm hdrow hle hlen hl hrow hn hmn hm1
  clear hc hm
  have HI : (if (100 : Int) < (n : Int) then (100 : Int) else (n : Int)) = (m : Int) := by have := HMN.out; split <;> omega
  have hmc : m ≤ cp := by have := HMN.out; have := HC.out; omega
  go_enter Try.func5, Try.ntmps5
  go_wp2_with (first
  | (go_at_call 14
     (with_reducible refine (works _).mono ?_)
     rintro e w1 ⟨rfl, hb1⟩
     have BW := Lib.hid hb1
     have HR1 := Lib.hid (HR.out.same hb1)
     have HDR1 := Lib.hid (HDR.out.same hb1)
     clear hb1))
  obtain ⟨i0, hi, hz0, hz1, hz2⟩ := info_parts info24
  have KI := Lib.hid hi
  have KZ0 := Lib.hid hz0
  have KZ1 := Lib.hid hz1
  have KZ2 := Lib.hid hz2
  have HI' := Lib.hid HI
  clear hi hz0 hz1 hz2 HI
  go_loopw [5, 7, 8, 9] (fun pv t7 t8 i wr => ∃ (j : Nat) (H Lo : Int), i = .int .i64 j ∧ j ≤ m ∧ t7 = .int .i64 H ∧ t8 = .int .i64 Lo ∧ H * 4294967296 + Lo = (l.take j).sum ∧ (-((j : Int) * 2147483648) ≤ H ∧ H ≤ (j : Int) * 2147483648) ∧ (0 ≤ Lo ∧ Lo ≤ (j : Int) * 4294967296) ∧ wr.ownsRow (w1.heap.size + 1) 24 5 pv j (cellsA ((l.take j).map oneM)) ∧ wr.heap[w1.heap.size]? = some (.cells #[.int .i64 (ofM (l.take j)).n, .int .i64 (ofM (l.take j)).hi, .int .u64 (ofM (l.take j)).lo, .int .i64 (ofM (l.take j)).mn, .int .i64 (ofM (l.take j)).mx] 24 (0, 0)) ∧ Below w1.heap.size w1 wr) (fun _ _ _ i _ => m - (intOf i).toNat)
  case atStart =>
    exact ⟨0, 0, 0, rfl, Nat.zero_le _, rfl, rfl, by simp, by simp, by simp, World.ownsRow_nil _ _ _ _, World.alloc_heap_new w1 _, by go_grown⟩
  case round =>
    obtain ⟨j, H, Lo, rfl, hj, rfl, rfl, hsum, hH, hLo, hown, hc, hb⟩ := hrel
    have HB := Lib.hid hb
    have OW := Lib.hid hown
    have hz : w1.heap.size < wr.heap.size := (Array.getElem?_eq_some_iff.1 hc).1
    by_cases hlt : j < m
    ·
      have hjl : j < l.length := by rw [HN.out]; exact hlt
      obtain ⟨o, ho⟩ : ∃ o, ofM (l.take j) = o := ⟨_, rfl⟩
      rw [ho] at hc
      have hstep := ofM_take l j hjl
      rw [ho] at hstep
      have hok : o.ok := by rw [← ho]; exact ofM_ok _ (fun x hx => HL.out x (List.mem_of_mem_take hx))
      obtain ⟨ad, rfl, hab, hcell⟩ := row_at (HR1.out.same (hb.mono BW.out.size)) j hjl
      have hv := HL.out _ (List.getElem_mem hjl)
      have htk := List.take_succ_eq_append_getElem hjl
      obtain ⟨v, hvv⟩ : ∃ v, l[j] = v := ⟨_, rfl⟩
      rw [hvv] at hstep hcell hv htk
      have hsum2 : (l.take (j + 1)).sum = (l.take j).sum + v := by rw [htk, List.sum_append]; simp
      have hpart : cellsA ((l.take (j + 1)).map oneM) = cellsA ((l.take j).map oneM) ++ (oneM v).cells := by rw [htk, List.map_append, List.map_singleton, cellsA_snoc]
      clear hvv hb htk hown
      obtain ⟨m2, hm2⟩ : ∃ m2, ofM (l.take (j + 1)) = m2 := ⟨_, rfl⟩
      rw [hm2] at hstep
      replace hm2 := Lib.hid hm2
      have Q1 := fun w => one_any v hv w
      have Q2 := fun w => merge_any o (oneM v) hok (oneM_ok hv) w
      rw [hstep] at Q2
      obtain ⟨o1, ho1⟩ : ∃ o1, oneM v = o1 := ⟨_, rfl⟩
      simp only [ho1] at Q1 Q2 hpart
      replace Q1 := Lib.hid Q1
      replace Q2 := Lib.hid Q2
      have HP := Lib.hid hpart
      have HS := Lib.hid hsum
      have HS2 := Lib.hid hsum2
      have HV := Lib.hid hv
      have HHB := Lib.hid hH
      have HLB := Lib.hid hLo
      obtain ⟨cs, hcs⟩ : ∃ cs, cellsA ((l.take j).map oneM) = cs := ⟨_, rfl⟩
      rw [hcs] at OW HP
      unfold I64 at hv
      clear ho ho1 hstep hok hpart hsum hsum2 hcs
      have hq0 : (0 : Int) ≤ (j : Int) := by omega
      have hq1 : (j : Int) < (m : Int) := by omega
      have HX : Hid (∀ w', Below (w1.heap.size + 1) wr w' → w'.cell? ⟨w1.heap.size, 0, none⟩ = some (.int .i64 o.n) ∧ w'.cell? ⟨w1.heap.size, 1, none⟩ = some (.int .i64 o.hi) ∧ w'.cell? ⟨w1.heap.size, 2, none⟩ = some (.int .u64 o.lo) ∧ w'.cell? ⟨w1.heap.size, 3, none⟩ = some (.int .i64 o.mn) ∧ w'.cell? ⟨w1.heap.size, 4, none⟩ = some (.int .i64 o.mx) ∧ w'.cell? (ad.add j) = some (.int .i64 v) ∧ w'.frozen? ⟨w1.heap.size, 0, none⟩ = false ∧ w'.frozen? ⟨w1.heap.size, 1, none⟩ = false ∧ w'.frozen? ⟨w1.heap.size, 2, none⟩ = false ∧ w'.frozen? ⟨w1.heap.size, 3, none⟩ = false ∧ w'.frozen? ⟨w1.heap.size, 4, none⟩ = false) := Lib.hid (fun w' h => by
        obtain ⟨c0, c1, c2, c3, c4⟩ := (accAt_of hc).same (W' := w') (h.block _ (by omega))
        have hf : ∀ i, w'.frozen? ⟨w1.heap.size, i, none⟩ = false := fun i => by simp [World.frozen?, h.block _ (Nat.lt_succ_self _), hc]
        refine ⟨c0, c1, c2, c3, c4, ?_, hf 0, hf 1, hf 2, hf 3, hf 4⟩
        rw [← hcell]
        exact cell_block (by rw [add_blk]; exact h.block _ (by have := BW.out.size; omega)))
      go_wp2_with (first
        | (go_at_call 8
           (with_reducible refine (Q1.out _).mono ?_)
           rintro e w2 ⟨rfl, hb2⟩
           have OW2 := Lib.hid (own_below OW.out hb2)
           have B2 := Lib.hid hb2
           clear hb2)
        | (at_builtin
           refine wpList_append_lies _ rfl _ _ 35 rfl (w1.heap.size + 1) 24 i0 _ 5 40 Try.underlying35 KI.out KZ0.out KZ1.out KZ2.out rfl (by decide) _ j _ rfl (OW2.out.alloc _) ⟨w2.heap.size, 0, none⟩ 1 1 o1.cells rfl rfl (newsA w2 o1 24) (fun u hu => oneCellsA [o1] u (by simpa [cellsA] using hu)) (by omega) (by unfold maxLen; omega) (by omega) (by have := B2.out.size; simp; omega) _ rfl ?_
           intro g cap2 w3 hown3 hgrow hat hg3
           have B3 : Hid (Below (w1.heap.size + 1) wr w3) := Lib.hid (((B2.out.mono hz).alloc (Nat.le_trans hz B2.out.size) _).grown hgrow (by have := B2.out.size; simp; omega) (fun k e => (own_lt OW2.out e).1))
           have PS := Lib.hid (own_below hown3 (Below.drew (Below.refl _ _)))
           have hs : Hid (Below (w1.heap.size + 1) wr w3.drew) := Lib.hid B3.out.drew
           clear hown3 hgrow hat))
      have HZ : Hid (w1.heap.size + 1 ≤ wr.heap.size) := Lib.hid hz
      obtain ⟨c0, c1, c2, c3, c4, hcell, f0, f1, f2, f3, f4⟩ := HX.out _ hs.out
      go_region_with (first
        | (go_at_call 8
           (with_reducible refine (Q1.out _).mono ?_)
           rintro e w4 ⟨rfl, hb1⟩
           have PS := Lib.hid (own_below PS.out hb1)
           have hs := Lib.hid (hs.out.trans (hb1.mono (Nat.le_trans HZ.out hs.out.size)))
           clear hb1
           clear c0 c1 c2 c3 c4 hcell f0 f1 f2 f3 f4
           obtain ⟨c0, c1, c2, c3, c4, hcell, f0, f1, f2, f3, f4⟩ := HX.out _ hs.out)
        | (go_at_call 10
           (with_reducible refine (Q2.out _).mono ?_)
           rintro e w4 ⟨rfl, hb1⟩
           have PS := Lib.hid (own_below PS.out hb1)
           have hs := Lib.hid (hs.out.trans (hb1.mono (Nat.le_trans HZ.out hs.out.size)))
           clear hb1
           clear c0 c1 c2 c3 c4 hcell f0 f1 f2 f3 f4
           obtain ⟨c0, c1, c2, c3, c4, hcell, f0, f1, f2, f3, f4⟩ := HX.out _ hs.out))
      all_goals
        obtain ⟨w5, hw5⟩ : ∃ w5, stored w4 w1.heap.size m2 = w5 := ⟨_, rfl⟩
        have F5 : Hid (w5.heap[w1.heap.size]? = some (.cells #[.int .i64 m2.n, .int .i64 m2.hi, .int .u64 m2.lo, .int .i64 m2.mn, .int .i64 m2.mx] 24 (0, 0))) := Lib.hid (by rw [← hw5]; exact stored_acc m2 ((hs.out.block _ (Nat.lt_succ_self _)).trans hc))
        have PS5 : Hid (w5.ownsRow (w1.heap.size + 1) 24 5 (.slice (some ⟨g, 0, none⟩) (j + 1) cap2) (j + 1) (cs ++ o1.cells)) := Lib.hid (by rw [← hw5]; exact stored_own PS.out (Nat.lt_succ_self _))
        have B5 : Hid (Below w1.heap.size w1 w5) := Lib.hid (by rw [← hw5]; exact stored_below (Nat.le_refl _) (HB.out.trans (hs.out.mono (Nat.le_succ _))))
        have h5 : w5.cell? (ad.add j) = some (.int .i64 v) := by
          rw [← hcell, ← hw5]
          exact cell_block (stored_else (by rw [add_blk]; have := BW.out.size; omega))
        unfold stored at hw5
        rw [hw5]
        clear hw5
        clear c0 c1 c2 c3 c4 hcell f0 f1 f2 f3 f4 hs PS
        go_wp2
      all_goals go_roundw
      all_goals first
        | exact ⟨j + 1, H + v / 4294967296, Lo + v % 4294967296, by go_num, by omega, rfl, lo_step (by have := HLB.out; omega), by have := HS.out; have := HS2.out; omega, by have := HHB.out; have := HV.out; unfold I64 at this; omega, by have := HLB.out; omega, by rw [HP.out]; exact PS5.out, by rw [hm2.out]; exact F5.out, B5.out⟩
        | (simp [intOf]; done)
        | (simp [intOf]; omega)
    · obtain rfl : m = j := by omega
      have hst : l.take m = l := List.take_of_length_le (by rw [HN.out]; exact Nat.le_refl _)
      rw [hst] at hsum hown hc
      obtain ⟨o, ho⟩ : ∃ o, ofM l = o := ⟨_, rfl⟩
      rw [ho] at hc
      have HO := Lib.hid ho
      have HS := Lib.hid hsum
      have OWN := Lib.hid hown
      have HCO := Lib.hid hc
      have HHB := Lib.hid hH
      have HLB := Lib.hid hLo
      clear hst ho hsum hown hc hH hLo hb OW
      rename World => wa
      go_wp2_with fail
      go_loopw [5, 10] (fun pv i wr => ∃ (P : List Tot) (j : Nat), i = .int .i64 j ∧ j + P.length = m ∧ (∀ t ∈ P, t.good) ∧ tot P = tot (l.map single) ∧ wr.ownsRow (w1.heap.size + 1) 24 5 pv P.length (cellsA (P.map Tot.acc)) ∧ wr.heap[w1.heap.size]? = some (.cells #[.int .i64 o.n, .int .i64 o.hi, .int .u64 o.lo, .int .i64 o.mn, .int .i64 o.mx] 24 (0, 0)) ∧ Below w1.heap.size w1 wr) (fun _ i _ => m - (intOf i).toNat)
      case atStart =>
        refine ⟨l.map single, 0, rfl, by simp [HN.out], singles_good HL.out, rfl, ?_, HCO.out, HB.out⟩
        rw [List.length_map, HN.out, List.map_map, map_single HL.out]
        exact OWN.out
      case round =>
        obtain ⟨P, j, rfl, hjp, hgood, htot, hown, hc, hb⟩ := hrel
        have HB2 := Lib.hid hb
        have HG := Lib.hid hgood
        have HT := Lib.hid htot
        have hz : w1.heap.size < wr.heap.size := (Array.getElem?_eq_some_iff.1 hc).1
        obtain ⟨pl, hpl⟩ : ∃ pl, P.length = pl := ⟨_, rfl⟩
        by_cases hp : 1 < pl
        · have hne : P.map Tot.acc ≠ [] := by intro e; have := congrArg List.length e; simp at this; rw [this] at hpl; simp at hpl; omega
          obtain ⟨g, cap, hv, hg1, hg2, hcap1, hcap2, hin, hfr, hall⟩ := own_form (l := P.map Tot.acc) (by rw [List.length_map]; exact hown) hne
          rw [List.length_map, hpl] at hv hcap1
          subst hv
          rw [hpl] at hown hjp
          by_cases hq0 : q = 0
          · subst hq0
            have hkl : 0 + 2 ≤ pl := by omega
            have hj0 : (0 : Int) ≤ (j : Int) := by omega
            have hp1 : (1 : Int) < (pl : Int) := by omega
            have hp3 : (1 : Int) ≤ (pl : Int) := by omega
            have E7 : IntKind.i64.wrap 1 = 1 := by decide
            go_wp2_with fail
            obtain ⟨p, a, b, pt, hPs, hpk⟩ := split_at P 0 (by omega)
            have ha : (P.map Tot.acc)[0]? = some a.acc := by rw [hPs, ← hpk]; simp
            have hb' : (P.map Tot.acc)[0 + 1]? = some b.acc := by rw [hPs, ← hpk]; simp
            obtain ⟨x, hx⟩ : ∃ x, a.acc = x := ⟨_, rfl⟩
            obtain ⟨y, hy⟩ : ∃ y, b.acc = y := ⟨_, rfl⟩
            rw [hx] at ha
            rw [hy] at hb'
            have HXA := hin 0 x ha
            have HYA := hin (0 + 1) y hb'
            have hk1 : 0 + 1 = 1 := rfl
            replace HYA : AccIn wr g 5 y := HYA
            have hk2 : (1 : Int) < (pl : Int) := by omega
            have hk3 : (0 : Int) < (pl : Int) := by omega
            have hk4 : (0 : Int) ≤ (1 : Int) := by omega
            have hk5 : (0 : Int) ≤ (0 : Int) := by omega
            have hk6 : 1 < pl := by omega
            have hk7 : 0 < pl := by omega
            have hk10 : 1 ≤ pl := by omega
            have hk11 : 0 ≤ pl := by omega
            have hk8 : (0 : Int) + 1 < (pl : Int) := by omega
            have hk9 : (0 : Int) ≤ (0 : Int) + 1 := by omega
            have HK1 := Lib.hid hk1
            clear hk1
            have HS20 : Hid (∀ w', Below wr.heap.size wr w' → w'.cell? ⟨g, 0, none⟩ = some (.int .i64 x.n) ∧ w'.cell? ⟨g, 1, none⟩ = some (.int .i64 x.hi) ∧ w'.cell? ⟨g, 2, none⟩ = some (.int .u64 x.lo) ∧ w'.cell? ⟨g, 3, none⟩ = some (.int .i64 x.mn) ∧ w'.cell? ⟨g, 4, none⟩ = some (.int .i64 x.mx) ∧ w'.cell? ⟨g, 5, none⟩ = some (.int .i64 y.n) ∧ w'.cell? ⟨g, 6, none⟩ = some (.int .i64 y.hi) ∧ w'.cell? ⟨g, 7, none⟩ = some (.int .u64 y.lo) ∧ w'.cell? ⟨g, 8, none⟩ = some (.int .i64 y.mn) ∧ w'.cell? ⟨g, 9, none⟩ = some (.int .i64 y.mx)) := Lib.hid (fun w' h => by
              have p := HXA.same (W' := w') (h.block _ hg2)
              have q := HYA.same (W' := w') (h.block _ hg2)
              exact ⟨p.c0, p.c1, p.c2, p.c3, p.c4, q.c0, q.c1, q.c2, q.c3, q.c4⟩)
            have hall' := hall
            clear hall hfr hin
            obtain ⟨s0, s1, s2, s3, s4, t0, t1, t2, t3, t4⟩ := HS20.out _ (Below.drew (Below.refl _ _))
            obtain ⟨y0, y1, y2, y3, y4, z0, z1, z2, z3, z4⟩ := HS20.out wr (Below.refl _ _)
            have hcap3 : ¬ cap = 1 := by omega
            have hcap4 : 0 ≤ cap := by omega
            have hcap5 : 1 ≤ cap := by omega
            obtain ⟨olds, holds⟩ : ∃ olds, cellsA (p.map Tot.acc) = olds := ⟨_, rfl⟩
            obtain ⟨news, hnews⟩ : ∃ news, cellsA ((b :: pt).map Tot.acc) = news := ⟨_, rfl⟩
            have HALL : Hid (∀ w', Below wr.heap.size wr w' → (∀ b, (some (⟨g, 0, none⟩ : Addr)) = some b → ∀ j u, olds[j]? = some u → w'.cell? (b.add j) = some u) ∧ (∀ j u, news[j]? = some u → w'.cell? ((⟨g, 5, none⟩ : Addr).add j) = some u)) := Lib.hid (by
              rw [← holds, ← hnews]
              intro w' hw'
              exact ⟨fun b e => by cases e; exact (parts_lie HK1.out hPs hpk hg2 hall' w' hw').1, (parts_lie HK1.out hPs hpk hg2 hall' w' hw').2⟩)
            have HOL : Hid (olds.length = 0 * 5) := Lib.hid (by rw [← holds, cellsA_len, List.length_map, hpk])
            have HNL : Hid (news.length = (pl - 1) * 5) := Lib.hid (by rw [← hnews, cellsA_len, List.length_map]; have := congrArg List.length hPs; simp only [List.length_append, List.length_cons, hpl, hpk] at this; have := HK1.out; simp only [List.length_cons]; omega)
            have HN1 : Hid (∀ u ∈ news, u.oneCell' = true) := Lib.hid (by rw [← hnews]; exact oneCellsA _)
            obtain ⟨pl1, hpl1⟩ : ∃ pl1, 0 + (pl - 1) = pl1 := ⟨_, rfl⟩
            have hkp1 : 0 < pl1 := by omega
            have hkp2 : (0 : Int) < (pl1 : Int) := by omega
            have HPLJ : Hid (pl1 + 1 = pl) := Lib.hid (by have := HK1.out; omega)
            have HPL1 := Lib.hid hpl1
            have HKY : Hid (((p ++ b :: pt).map Tot.acc)[0]? = some y) := Lib.hid (by rw [← hpk, ← hy]; simp)
            have HGP : ∀ t ∈ p ++ a :: b :: pt, t.good := by rw [← hPs]; exact HG.out
            have hga := HGP a (by simp)
            have hgb := HGP b (by simp)
            have hnn : a.n + b.n ≤ 1000 := by
              have h1 := tot_pair a b pt p HGP
              rw [← hPs, HT.out, (tot_singles l).1, HN.out] at h1
              omega
            obtain ⟨c, hc0⟩ : ∃ c, a.join b = c := ⟨_, rfl⟩
            have HGC : Hid (∀ t ∈ p ++ c :: pt, t.good) := Lib.hid (by
              intro t ht
              simp only [List.mem_append, List.mem_cons] at ht
              rcases ht with ht | rfl | ht
              · exact HGP t (by simp [ht])
              · rw [← hc0]; exact join_good hga hgb
              · exact HGP t (by simp [ht]))
            have HTC : Hid (tot (p ++ c :: pt) = tot (l.map single)) := Lib.hid (by rw [← hc0, tot_merge, ← hPs]; exact HT.out)
            have hja := join_acc hga hgb hnn
            have hjb := join_acc hgb hga (by omega)
            rw [join_comm b a] at hjb
            rw [hc0, hx, hy] at hja hjb
            have hxo : x.ok := by rw [← hx]; exact acc_ok hga (by have := hgb.n1; omega)
            have hyo : y.ok := by rw [← hy]; exact acc_ok hgb (by have := hga.n1; omega)
            have M1 := fun w => merge_any x y hxo hyo w
            have M2 := fun w => merge_any y x hyo hxo w
            simp only [hja] at M1
            simp only [hjb] at M2
            have HLC : Hid ((p ++ c :: pt).length = pl1) := Lib.hid (by have := congrArg List.length hPs; simp only [List.length_append, List.length_cons, hpl, hpk] at this; have := HK1.out; simp only [List.length_append, List.length_cons, hpk]; omega)
            replace M1 := Lib.hid M1
            replace M2 := Lib.hid M2
            have HPK := Lib.hid hpk
            clear hpl1 HGP hga hgb hnn hc0 hja hjb hxo hyo
            have HNEWS : Hid (olds ++ news = cellsA ((p ++ b :: pt).map Tot.acc)) := Lib.hid (by rw [← holds, ← hnews, ← cellsA_app, ← List.map_append])
            have HLEN5 : Hid (((p ++ b :: pt).map Tot.acc).length = pl1) := Lib.hid (by rw [← HPL1.out]; have := congrArg List.length hPs; simp only [List.length_append, List.length_cons, hpl, hpk] at this; have := HK1.out; simp only [List.length_map, List.length_append, List.length_cons, hpk]; omega)
            have HNE5 : Hid ((p ++ b :: pt).map Tot.acc ≠ []) := Lib.hid (by simp)
            have HNO : Hid ((some (⟨g, 0, none⟩ : Addr)) = none → 0 = 0 ∧ 0 = 0) := Lib.hid (fun e => by cases e)
            have HF1 : Hid (0 < 0 + (pl - 1)) := Lib.hid (by omega)
            have HF2 : Hid (0 + (pl - 1) ≤ maxLen) := Lib.hid (by unfold maxLen; omega)
            have HF3 : Hid ((0 + (pl - 1)) * 40 ≤ 140737488355328) := Lib.hid (by omega)
            have E8 : (j : Int).tmod 2 = ((j % 2 : Nat) : Int) := rfl
            obtain ⟨par, hpar⟩ : ∃ par, j % 2 = par := ⟨_, rfl⟩
            rw [hpar] at E8
            have hp2 : par = 0 ∨ par = 1 := by omega
            clear hpar
            go_region
            all_goals rcases hp2 with rfl | rfl
            all_goals go_wp2
            all_goals first
              | (obtain ⟨W, hW⟩ : ∃ W, ((wr.alloc (.cells #[.int .i64 x.n, .int .i64 x.hi, .int .u64 x.lo, .int .i64 x.mn, .int .i64 x.mx] 24)).alloc (.cells #[.int .i64 y.n, .int .i64 y.hi, .int .u64 y.lo, .int .i64 y.mn, .int .i64 y.mx] 24)).drew = W := ⟨_, rfl⟩
                 have hW0 : Hid (W.heap[wr.heap.size]? = some (.cells #[.int .i64 x.n, .int .i64 x.hi, .int .u64 x.lo, .int .i64 x.mn, .int .i64 x.mx] 24 (0, 0))) := Lib.hid (by rw [← hW]; exact two_new0 _ _ _)
                 have hW1 : Hid (W.heap[wr.heap.size + 1]? = some (.cells #[.int .i64 y.n, .int .i64 y.hi, .int .u64 y.lo, .int .i64 y.mn, .int .i64 y.mx] 24 (0, 0))) := Lib.hid (by rw [← hW]; exact two_new1 _ _ _)
                 have hWB : Hid (Below wr.heap.size wr W) := Lib.hid (by rw [← hW]; go_grown)
                 have hWS : Hid (W.heap.size = wr.heap.size + 2) := Lib.hid (by rw [← hW]; simp [World.drew])
                 rw [hW]
                 clear hW)
              | (obtain ⟨W, hW⟩ : ∃ W, ((wr.alloc (.cells #[.int .i64 y.n, .int .i64 y.hi, .int .u64 y.lo, .int .i64 y.mn, .int .i64 y.mx] 24)).alloc (.cells #[.int .i64 x.n, .int .i64 x.hi, .int .u64 x.lo, .int .i64 x.mn, .int .i64 x.mx] 24)).drew = W := ⟨_, rfl⟩
                 have hW0 : Hid (W.heap[wr.heap.size]? = some (.cells #[.int .i64 y.n, .int .i64 y.hi, .int .u64 y.lo, .int .i64 y.mn, .int .i64 y.mx] 24 (0, 0))) := Lib.hid (by rw [← hW]; exact two_new0 _ _ _)
                 have hW1 : Hid (W.heap[wr.heap.size + 1]? = some (.cells #[.int .i64 x.n, .int .i64 x.hi, .int .u64 x.lo, .int .i64 x.mn, .int .i64 x.mx] 24 (0, 0))) := Lib.hid (by rw [← hW]; exact two_new1 _ _ _)
                 have hWB : Hid (Below wr.heap.size wr W) := Lib.hid (by rw [← hW]; go_grown)
                 have hWS : Hid (W.heap.size = wr.heap.size + 2) := Lib.hid (by rw [← hW]; simp [World.drew])
                 rw [hW]
                 clear hW)
            all_goals
              obtain ⟨u0, u1⟩ := HALL.out W.drew hWB.out.drew
              go_region_law (first
                | (refine step_append_grows rfl (.tmp 96) (.tmp 100) 35 rfl 24 i0 _ 5 40 Try.underlying35 KI.out KZ0.out KZ1.out KZ2.out rfl (by decide) (some ⟨g, 0, none⟩) 0 0 olds (by simp [Act.eval, Act.put]) (fun e => by cases e) HOL.out u0 ⟨g, 5, none⟩ (pl - 1) (cap - 1) news (by simp [Act.eval, Act.put]) HNL.out u1 HN1.out HF1.out HF2.out HF3.out ?_
                   intro v' w5 hown5 hgrow5
                   rw [HPL1.out, HNEWS.out] at hown5
                   obtain ⟨g5, cap5, hv5, hgl5, hgs5, hc5a, hc5b, hin5, hfr5, -⟩ := own_form (l := (p ++ b :: pt).map Tot.acc) (by rw [HLEN5.out]; exact hown5) HNE5.out
                   rw [HLEN5.out] at hv5
                   subst hv5))
            all_goals
              have e0 := hgrow5.block wr.heap.size (show wr.heap.size < W.heap.size by rw [hWS.out]; omega) (by simp)
              have e1 := hgrow5.block (wr.heap.size + 1) (show wr.heap.size + 1 < W.heap.size by rw [hWS.out]; omega) (by simp)
              obtain ⟨b0, b1, b2, b3, b4⟩ := accAt_of (e0.trans hW0.out)
              obtain ⟨d0, d1, d2, d3, d4⟩ := accAt_of (e1.trans hW1.out)
              have B5 : Hid (Below wr.heap.size wr w5) := Lib.hid (hWB.out.drew.grown hgrow5 (Nat.le_trans (Nat.le_add_right _ 2) (Nat.le_of_eq hWS.out.symm)) (fun 0 e => by cases e))
              have GS5 := Lib.hid hgs5
              have GL5 : Hid (wr.heap.size + 2 ≤ g5) := Lib.hid (by rw [← hWS.out]; exact hgl5)
              have PS5 := Lib.hid hown5
              have IN5 : Hid (AccIn w5 g5 0 y) := Lib.hid (hin5 0 y HKY.out)
              have FR5 := Lib.hid hfr5
              clear e0 e1 hgrow5 hown5 hin5 hfr5 hgs5 hgl5 hc5a hc5b u0 u1
              clear s0 s1 s2 s3 s4 t0 t1 t2 t3 t4 y0 y1 y2 y3 y4 z0 z1 z2 z3 z4
              go_wp2_with (first
                | (go_at_call 10
                   (first | (with_reducible refine (M1.out _).mono ?_) | (with_reducible refine (M2.out _).mono ?_))
                   rintro e w6 ⟨rfl, hb6⟩
                   have B6 := Lib.hid hb6
                   have rr := IN5.out.same (hb6.block _ GS5.out)
                   have r0 : w6.cell? ⟨g5, 0, none⟩ = some (.int .i64 y.n) := rr.c0
                   have r1 : w6.cell? ⟨g5, 1, none⟩ = some (.int .i64 y.hi) := rr.c1
                   have r2 : w6.cell? ⟨g5, 2, none⟩ = some (.int .u64 y.lo) := rr.c2
                   have r3 : w6.cell? ⟨g5, 3, none⟩ = some (.int .i64 y.mn) := rr.c3
                   have r4 : w6.cell? ⟨g5, 4, none⟩ = some (.int .i64 y.mx) := rr.c4
                   clear rr
                   have fr : ∀ i, w6.frozen? ⟨g5, i, none⟩ = false := fun i => (frozen_same (hb6.block _ GS5.out)).trans (FR5.out i)
                   have fr0 := fr 0
                   have fr1 := fr 1
                   have fr2 := fr 2
                   have fr3 := fr 3
                   have fr4 := fr 4
                   clear fr hb6))
            all_goals go_roundw
            all_goals first
              | exact ⟨p ++ c :: pt, j + 1, by go_num, by rw [HLC.out]; have := HPLJ.out; omega, HGC.out, HTC.out,
                  merged_row0 (own_base (own_below PS5.out B6.out) (Nat.le_trans hz (Nat.le_trans (Nat.le_add_right _ 2) (Nat.le_of_eq hWS.out.symm)))) HLEN5.out HPK.out,
                  (stored_else (by have := GL5.out; omega)).trans ((B6.out.block _ (Nat.lt_of_lt_of_le hz B5.out.size)).trans ((B5.out.block _ hz).trans hc)),
                  stored_below (by have := GL5.out; omega) (HB2.out.trans ((B5.out.trans (B6.out.mono B5.out.size)).mono (Nat.le_of_lt hz)))⟩
              | (simp [intOf]; done)
              | (simp [intOf]; omega)
          · obtain ⟨bd, hB, hbb, hbc⟩ := row_at (HDR1.out.same (hb.mono BW.out.size)) (j % q) (by rw [HQ.out]; exact Nat.mod_lt _ (by omega))
            subst hB
            have hcv := HD.out _ (List.getElem_mem (show j % q < D.length by rw [HQ.out]; exact Nat.mod_lt _ (by omega)))
            obtain ⟨c, hcc⟩ : ∃ c, D[j % q]'(by rw [HQ.out]; exact Nat.mod_lt _ (by omega)) = c := ⟨_, rfl⟩
            rw [hcc] at hbc hcv
            clear hcc
            obtain ⟨cn, rfl⟩ := Int.eq_ofNat_of_zero_le hcv.1
            obtain ⟨k, hk⟩ : ∃ k, cn % (pl - 1) = k := ⟨_, rfl⟩
            have hkl : k + 2 ≤ pl := by have := Nat.mod_lt cn (show 0 < pl - 1 by omega); omega
            have E1 : (j : Int).tmod (q : Int) = ((j % q : Nat) : Int) := rfl
            have E2 : (cn : Int).tmod ((pl : Int) - 1) = (k : Int) := by
              have : ((pl : Int) - 1) = ((pl - 1 : Nat) : Int) := by omega
              rw [this, ← hk]; rfl
            have hqq : (0 : Int) < (q : Int) := by omega
            have hjq : j % q < q := Nat.mod_lt _ (by omega)
            have hj0 : (0 : Int) ≤ (j : Int) := by omega
            have hp1 : (1 : Int) < (pl : Int) := by omega
            obtain ⟨r, hr⟩ : ∃ r, j % q = r := ⟨_, rfl⟩
            rw [hr] at hbc E1 hjq
            have hrq : (r : Int) < (q : Int) := by omega
            clear hk hr
            go_wp2_with fail
            obtain ⟨p, a, b, pt, hPs, hpk⟩ := split_at P k (by omega)
            have ha : (P.map Tot.acc)[k]? = some a.acc := by rw [hPs, ← hpk]; simp
            have hb' : (P.map Tot.acc)[k + 1]? = some b.acc := by rw [hPs, ← hpk]; simp
            obtain ⟨x, hx⟩ : ∃ x, a.acc = x := ⟨_, rfl⟩
            obtain ⟨y, hy⟩ : ∃ y, b.acc = y := ⟨_, rfl⟩
            rw [hx] at ha
            rw [hy] at hb'
            have HXA := hin k x ha
            have HYA := hin (k + 1) y hb'
            obtain ⟨k1, hk1⟩ : ∃ k1, k + 1 = k1 := ⟨_, rfl⟩
            rw [hk1] at HYA hb'
            have E3 : IntKind.i64.wrap ((k : Int) + 1) = (k1 : Int) := by rw [IntWalk.i64_in _ (by omega)]; omega
            have E4 : (k : Int) + 1 = (k1 : Int) := by omega
            have hk2 : (k1 : Int) < (pl : Int) := by omega
            have hk3 : (k : Int) < (pl : Int) := by omega
            have hk4 : (0 : Int) ≤ (k1 : Int) := by omega
            have hk5 : (0 : Int) ≤ (k : Int) := by omega
            have hk6 : k1 < pl := by omega
            have hk7 : k < pl := by omega
            have hk10 : k1 ≤ pl := by omega
            have hk11 : k ≤ pl := by omega
            have hk8 : (k : Int) + 1 < (pl : Int) := by omega
            have hk9 : (0 : Int) ≤ (k : Int) + 1 := by omega
            have HK1 := Lib.hid hk1
            clear hk1
            have HS20 : Hid (∀ w', Below wr.heap.size wr w' → w'.cell? ⟨g, k * 5, none⟩ = some (.int .i64 x.n) ∧ w'.cell? ⟨g, k * 5 + 1, none⟩ = some (.int .i64 x.hi) ∧ w'.cell? ⟨g, k * 5 + 2, none⟩ = some (.int .u64 x.lo) ∧ w'.cell? ⟨g, k * 5 + 3, none⟩ = some (.int .i64 x.mn) ∧ w'.cell? ⟨g, k * 5 + 4, none⟩ = some (.int .i64 x.mx) ∧ w'.cell? ⟨g, k1 * 5, none⟩ = some (.int .i64 y.n) ∧ w'.cell? ⟨g, k1 * 5 + 1, none⟩ = some (.int .i64 y.hi) ∧ w'.cell? ⟨g, k1 * 5 + 2, none⟩ = some (.int .u64 y.lo) ∧ w'.cell? ⟨g, k1 * 5 + 3, none⟩ = some (.int .i64 y.mn) ∧ w'.cell? ⟨g, k1 * 5 + 4, none⟩ = some (.int .i64 y.mx)) := Lib.hid (fun w' h => by
              have p := HXA.same (W' := w') (h.block _ hg2)
              have q := HYA.same (W' := w') (h.block _ hg2)
              exact ⟨p.c0, p.c1, p.c2, p.c3, p.c4, q.c0, q.c1, q.c2, q.c3, q.c4⟩)
            have hall' := hall
            clear hall hfr hin
            have E7 : IntKind.i64.wrap (k1 : Int) = (k1 : Int) := by rw [← E4]; rw [E3, E4]
            obtain ⟨s0, s1, s2, s3, s4, t0, t1, t2, t3, t4⟩ := HS20.out _ (Below.drew (Below.refl _ _))
            obtain ⟨y0, y1, y2, y3, y4, z0, z1, z2, z3, z4⟩ := HS20.out wr (Below.refl _ _)
            have hcap3 : ¬ cap = k1 := by omega
            have hcap4 : k ≤ cap := by omega
            have hcap5 : k1 ≤ cap := by omega
            obtain ⟨olds, holds⟩ : ∃ olds, cellsA (p.map Tot.acc) = olds := ⟨_, rfl⟩
            obtain ⟨news, hnews⟩ : ∃ news, cellsA ((b :: pt).map Tot.acc) = news := ⟨_, rfl⟩
            have HALL : Hid (∀ w', Below wr.heap.size wr w' → (∀ b, (some (⟨g, 0, none⟩ : Addr)) = some b → ∀ j u, olds[j]? = some u → w'.cell? (b.add j) = some u) ∧ (∀ j u, news[j]? = some u → w'.cell? ((⟨g, k1 * 5, none⟩ : Addr).add j) = some u)) := Lib.hid (by
              rw [← holds, ← hnews]
              intro w' hw'
              exact ⟨fun b e => by cases e; exact (parts_lie HK1.out hPs hpk hg2 hall' w' hw').1, (parts_lie HK1.out hPs hpk hg2 hall' w' hw').2⟩)
            have HOL : Hid (olds.length = k * 5) := Lib.hid (by rw [← holds, cellsA_len, List.length_map, hpk])
            have HNL : Hid (news.length = (pl - k1) * 5) := Lib.hid (by rw [← hnews, cellsA_len, List.length_map]; have := congrArg List.length hPs; simp only [List.length_append, List.length_cons, hpl, hpk] at this; have := HK1.out; simp only [List.length_cons]; omega)
            have HN1 : Hid (∀ u ∈ news, u.oneCell' = true) := Lib.hid (by rw [← hnews]; exact oneCellsA _)
            obtain ⟨pl1, hpl1⟩ : ∃ pl1, k + (pl - k1) = pl1 := ⟨_, rfl⟩
            have hkp1 : k < pl1 := by omega
            have hkp2 : (k : Int) < (pl1 : Int) := by omega
            have HPLJ : Hid (pl1 + 1 = pl) := Lib.hid (by have := HK1.out; omega)
            have HPL1 := Lib.hid hpl1
            have HKY : Hid (((p ++ b :: pt).map Tot.acc)[k]? = some y) := Lib.hid (by rw [← hpk, ← hy]; simp)
            have HGP : ∀ t ∈ p ++ a :: b :: pt, t.good := by rw [← hPs]; exact HG.out
            have hga := HGP a (by simp)
            have hgb := HGP b (by simp)
            have hnn : a.n + b.n ≤ 1000 := by
              have h1 := tot_pair a b pt p HGP
              rw [← hPs, HT.out, (tot_singles l).1, HN.out] at h1
              omega
            obtain ⟨c, hc0⟩ : ∃ c, a.join b = c := ⟨_, rfl⟩
            have HGC : Hid (∀ t ∈ p ++ c :: pt, t.good) := Lib.hid (by
              intro t ht
              simp only [List.mem_append, List.mem_cons] at ht
              rcases ht with ht | rfl | ht
              · exact HGP t (by simp [ht])
              · rw [← hc0]; exact join_good hga hgb
              · exact HGP t (by simp [ht]))
            have HTC : Hid (tot (p ++ c :: pt) = tot (l.map single)) := Lib.hid (by rw [← hc0, tot_merge, ← hPs]; exact HT.out)
            have hja := join_acc hga hgb hnn
            have hjb := join_acc hgb hga (by omega)
            rw [join_comm b a] at hjb
            rw [hc0, hx, hy] at hja hjb
            have hxo : x.ok := by rw [← hx]; exact acc_ok hga (by have := hgb.n1; omega)
            have hyo : y.ok := by rw [← hy]; exact acc_ok hgb (by have := hga.n1; omega)
            have M1 := fun w => merge_any x y hxo hyo w
            have M2 := fun w => merge_any y x hyo hxo w
            simp only [hja] at M1
            simp only [hjb] at M2
            have HLC : Hid ((p ++ c :: pt).length = pl1) := Lib.hid (by have := congrArg List.length hPs; simp only [List.length_append, List.length_cons, hpl, hpk] at this; have := HK1.out; simp only [List.length_append, List.length_cons, hpk]; omega)
            replace M1 := Lib.hid M1
            replace M2 := Lib.hid M2
            have HPK := Lib.hid hpk
            clear hpl1 HGP hga hgb hnn hc0 hja hjb hxo hyo
            have HNEWS : Hid (olds ++ news = cellsA ((p ++ b :: pt).map Tot.acc)) := Lib.hid (by rw [← holds, ← hnews, ← cellsA_app, ← List.map_append])
            have HLEN5 : Hid (((p ++ b :: pt).map Tot.acc).length = pl1) := Lib.hid (by rw [← HPL1.out]; have := congrArg List.length hPs; simp only [List.length_append, List.length_cons, hpl, hpk] at this; have := HK1.out; simp only [List.length_map, List.length_append, List.length_cons, hpk]; omega)
            have HNE5 : Hid ((p ++ b :: pt).map Tot.acc ≠ []) := Lib.hid (by simp)
            have HNO : Hid ((some (⟨g, 0, none⟩ : Addr)) = none → k = 0 ∧ k = 0) := Lib.hid (fun e => by cases e)
            have HF1 : Hid (k < k + (pl - k1)) := Lib.hid (by omega)
            have HF2 : Hid (k + (pl - k1) ≤ maxLen) := Lib.hid (by unfold maxLen; omega)
            have HF3 : Hid ((k + (pl - k1)) * 40 ≤ 140737488355328) := Lib.hid (by omega)
            have E8 : (j : Int).tmod 2 = ((j % 2 : Nat) : Int) := rfl
            obtain ⟨par, hpar⟩ : ∃ par, j % 2 = par := ⟨_, rfl⟩
            rw [hpar] at E8
            have hp2 : par = 0 ∨ par = 1 := by omega
            clear hpar
            go_region
            all_goals rcases hp2 with rfl | rfl
            all_goals go_wp2
            all_goals first
              | (obtain ⟨W, hW⟩ : ∃ W, ((wr.alloc (.cells #[.int .i64 x.n, .int .i64 x.hi, .int .u64 x.lo, .int .i64 x.mn, .int .i64 x.mx] 24)).alloc (.cells #[.int .i64 y.n, .int .i64 y.hi, .int .u64 y.lo, .int .i64 y.mn, .int .i64 y.mx] 24)).drew = W := ⟨_, rfl⟩
                 have hW0 : Hid (W.heap[wr.heap.size]? = some (.cells #[.int .i64 x.n, .int .i64 x.hi, .int .u64 x.lo, .int .i64 x.mn, .int .i64 x.mx] 24 (0, 0))) := Lib.hid (by rw [← hW]; exact two_new0 _ _ _)
                 have hW1 : Hid (W.heap[wr.heap.size + 1]? = some (.cells #[.int .i64 y.n, .int .i64 y.hi, .int .u64 y.lo, .int .i64 y.mn, .int .i64 y.mx] 24 (0, 0))) := Lib.hid (by rw [← hW]; exact two_new1 _ _ _)
                 have hWB : Hid (Below wr.heap.size wr W) := Lib.hid (by rw [← hW]; go_grown)
                 have hWS : Hid (W.heap.size = wr.heap.size + 2) := Lib.hid (by rw [← hW]; simp [World.drew])
                 rw [hW]
                 clear hW)
              | (obtain ⟨W, hW⟩ : ∃ W, ((wr.alloc (.cells #[.int .i64 y.n, .int .i64 y.hi, .int .u64 y.lo, .int .i64 y.mn, .int .i64 y.mx] 24)).alloc (.cells #[.int .i64 x.n, .int .i64 x.hi, .int .u64 x.lo, .int .i64 x.mn, .int .i64 x.mx] 24)).drew = W := ⟨_, rfl⟩
                 have hW0 : Hid (W.heap[wr.heap.size]? = some (.cells #[.int .i64 y.n, .int .i64 y.hi, .int .u64 y.lo, .int .i64 y.mn, .int .i64 y.mx] 24 (0, 0))) := Lib.hid (by rw [← hW]; exact two_new0 _ _ _)
                 have hW1 : Hid (W.heap[wr.heap.size + 1]? = some (.cells #[.int .i64 x.n, .int .i64 x.hi, .int .u64 x.lo, .int .i64 x.mn, .int .i64 x.mx] 24 (0, 0))) := Lib.hid (by rw [← hW]; exact two_new1 _ _ _)
                 have hWB : Hid (Below wr.heap.size wr W) := Lib.hid (by rw [← hW]; go_grown)
                 have hWS : Hid (W.heap.size = wr.heap.size + 2) := Lib.hid (by rw [← hW]; simp [World.drew])
                 rw [hW]
                 clear hW)
            all_goals
              obtain ⟨u0, u1⟩ := HALL.out W.drew hWB.out.drew
              go_region_law (first
                | (refine step_append_grows rfl (.tmp 96) (.tmp 100) 35 rfl 24 i0 _ 5 40 Try.underlying35 KI.out KZ0.out KZ1.out KZ2.out rfl (by decide) (some ⟨g, 0, none⟩) k k olds (by simp [Act.eval, Act.put]) HNO.out HOL.out u0 ⟨g, k1 * 5, none⟩ (pl - k1) (cap - k1) news (by simp [Act.eval, Act.put]) HNL.out u1 HN1.out HF1.out HF2.out HF3.out ?_
                   intro v' w5 hown5 hgrow5
                   rw [HPL1.out, HNEWS.out] at hown5
                   obtain ⟨g5, cap5, hv5, hgl5, hgs5, hc5a, hc5b, hin5, hfr5, -⟩ := own_form (l := (p ++ b :: pt).map Tot.acc) (by rw [HLEN5.out]; exact hown5) HNE5.out
                   rw [HLEN5.out] at hv5
                   subst hv5))
            all_goals
              have e0 := hgrow5.block wr.heap.size (show wr.heap.size < W.heap.size by rw [hWS.out]; omega) (by simp)
              have e1 := hgrow5.block (wr.heap.size + 1) (show wr.heap.size + 1 < W.heap.size by rw [hWS.out]; omega) (by simp)
              obtain ⟨b0, b1, b2, b3, b4⟩ := accAt_of (e0.trans hW0.out)
              obtain ⟨d0, d1, d2, d3, d4⟩ := accAt_of (e1.trans hW1.out)
              have B5 : Hid (Below wr.heap.size wr w5) := Lib.hid (hWB.out.drew.grown hgrow5 (Nat.le_trans (Nat.le_add_right _ 2) (Nat.le_of_eq hWS.out.symm)) (fun k e => by cases e))
              have GS5 := Lib.hid hgs5
              have GL5 : Hid (wr.heap.size + 2 ≤ g5) := Lib.hid (by rw [← hWS.out]; exact hgl5)
              have PS5 := Lib.hid hown5
              have IN5 := Lib.hid (hin5 k y HKY.out)
              have FR5 := Lib.hid hfr5
              clear e0 e1 hgrow5 hown5 hin5 hfr5 hgs5 hgl5 hc5a hc5b u0 u1
              clear s0 s1 s2 s3 s4 t0 t1 t2 t3 t4 y0 y1 y2 y3 y4 z0 z1 z2 z3 z4
              go_wp2_with (first
                | (go_at_call 10
                   (first | (with_reducible refine (M1.out _).mono ?_) | (with_reducible refine (M2.out _).mono ?_))
                   rintro e w6 ⟨rfl, hb6⟩
                   have B6 := Lib.hid hb6
                   obtain ⟨r0, r1, r2, r3, r4⟩ := IN5.out.same (hb6.block _ GS5.out)
                   have fr : ∀ i, w6.frozen? ⟨g5, i, none⟩ = false := fun i => (frozen_same (hb6.block _ GS5.out)).trans (FR5.out i)
                   have fr0 := fr (k * 5)
                   have fr1 := fr (k * 5 + 1)
                   have fr2 := fr (k * 5 + 2)
                   have fr3 := fr (k * 5 + 3)
                   have fr4 := fr (k * 5 + 4)
                   clear fr hb6))
            all_goals go_roundw
            all_goals first
              | exact ⟨p ++ c :: pt, j + 1, by go_num, by rw [HLC.out]; have := HPLJ.out; omega, HGC.out, HTC.out,
                  merged_row (own_base (own_below PS5.out B6.out) (Nat.le_trans hz (Nat.le_trans (Nat.le_add_right _ 2) (Nat.le_of_eq hWS.out.symm)))) HLEN5.out HPK.out,
                  (storedAt_else (by have := GL5.out; omega)).trans ((B6.out.block _ (Nat.lt_of_lt_of_le hz B5.out.size)).trans ((B5.out.block _ hz).trans hc)),
                  storedAt_below (by have := GL5.out; omega) (HB2.out.trans ((B5.out.trans (B6.out.mono B5.out.size)).mono (Nat.le_of_lt hz)))⟩
              | (simp [intOf]; done)
              | (simp [intOf]; omega)
        · by_cases hm0 : m = 0
          · have hl0 : l = [] := List.eq_nil_of_length_eq_zero (by rw [HN.out]; exact hm0)
            subst hl0
            have ho0 : o = ⟨0, 0, 0, 0, 0⟩ := HO.out.symm
            subst ho0
            subst hm0
            obtain ⟨c0, c1, c2, c3, c4⟩ := accAt_of (a := ⟨0, 0, 0, 0, 0⟩) hc
            have hg : Try.prog.eqGuardType Try.prog.depth 24 = false := guard24
            have E0 := fun w => acc_eq ⟨0, 0, 0, 0, 0⟩ w
            have hpl0 : pl = 0 := by omega
            clear hc hb hgood htot
            subst hpl0
            have hP0 : P = [] := List.eq_nil_of_length_eq_zero hpl
            subst hP0
            rcases hown.2 with ⟨rfl, _⟩ | ⟨g, cap, cur, rfl, _⟩
            all_goals
              clear hpl hjp hown
              go_wp2_with fail
              go_ret
              exact ⟨rfl, BW.out.trans (HB2.out.mono BW.out.size)⟩
          · have hne : P ≠ [] := by
              intro e
              subst e
              have h1 := congrArg Tot.n htot
              rw [(tot_singles l).1, HN.out] at h1
              simp [tot, unit] at h1
              omega
            obtain ⟨t, rfl⟩ : ∃ t, P = [t] := by
              match P, hne, hpl with
              | [t], _, _ => exact ⟨t, rfl⟩
              | _ :: _ :: _, _, h => simp at h; omega
            have hgt := hgood t (by simp)
            have ht : tot [t] = t := join_unit hgt
            have hto : t.acc = o := by
              rw [← HO.out, ofM_tot m l HN.out (by omega) (by intro e; subst e; have := HN.out; simp at this; omega) HL.out, ← htot, ht]
            have hmn : t.n = (m : Int) := by rw [← ht, htot, (tot_singles l).1, HN.out]
            have hms : t.s = l.sum := by rw [← ht, htot, (tot_singles l).2]
            obtain ⟨g, cap, hv, hg1, hg2, -, -, hin, -, -⟩ := own_form (l := [t].map Tot.acc) hown (by simp)
            have HIN := Lib.hid (hin 0 o (by rw [← hto]; rfl))
            simp only [List.map_cons, List.map_nil, List.length_cons, List.length_nil] at hv
            subst hv
            have hb1 := hgt.s1
            have hb2 := hgt.s2
            have hh := HHB.out
            have hl2 := HLB.out
            have hss := HS.out
            rw [hmn, hms] at hb1 hb2
            rw [← hss] at hb1 hb2
            obtain ⟨H2, hH2⟩ : ∃ H2, H + Lo / 4294967296 = H2 := ⟨_, rfl⟩
            obtain ⟨L2, hL2⟩ : ∃ L2, Lo % 4294967296 = L2 := ⟨_, rfl⟩
            have hL2b : 0 ≤ L2 ∧ L2 < 4294967296 := by omega
            have hSum : l.sum = H2 * 4294967296 + L2 := by omega
            have hHb : -1000000000000 ≤ H2 ∧ H2 ≤ 1000000000000 := by omega
            have hHa : -1000000000000 ≤ H ∧ H ≤ 1000000000000 := by omega
            have hLa : 0 ≤ Lo ∧ Lo ≤ 1000000000000 := by omega
            have EA : bits .and .i64 Lo 4294967295 = L2 := by rw [and32, hL2]
            have hfit := sum_fits l.sum H2 L2 (m : Int) t.mn t.mx hSum hL2b (by omega)
            have hoe : o = Tot.acc ⟨(m : Int), l.sum, t.mn, t.mx⟩ := by rw [← hto, ← hmn, ← hms]
            rw [← hoe] at hfit
            have hol := (acc_ok hgt (by omega)).lo
            rw [hto] at hol
            have hon : o.n = (m : Int) := by rw [hoe]; rfl
            have Q1 := fun w => result_any o 1 hol w
            unfold Tells at Q1
            rw [hfit, hSum] at Q1
            replace Q1 := Lib.hid Q1
            have HOE := Lib.hid hoe
            have BF := Lib.hid (BW.out.trans (HB2.out.mono BW.out.size))
            have hne0 : ¬ (m : Int) = 0 := by omega
            have hpl1 : pl = 1 := by have := hpl; simp at this; omega
            obtain ⟨on, oh, ol, om, ox⟩ := o
            dsimp only at hon
            subst hon
            have E0 := fun w => acc_eq ⟨(m : Int), oh, ol, om, ox⟩ w
            have hg : Try.prog.eqGuardType Try.prog.depth 24 = false := guard24
            have HX : Hid (∀ w', Below wr.heap.size wr w' → w'.cell? ⟨w1.heap.size, 0, none⟩ = some (.int .i64 m) ∧ w'.cell? ⟨w1.heap.size, 1, none⟩ = some (.int .i64 oh) ∧ w'.cell? ⟨w1.heap.size, 2, none⟩ = some (.int .u64 ol) ∧ w'.cell? ⟨w1.heap.size, 3, none⟩ = some (.int .i64 om) ∧ w'.cell? ⟨w1.heap.size, 4, none⟩ = some (.int .i64 ox) ∧ w'.cell? ⟨g, 0, none⟩ = some (.int .i64 m) ∧ w'.cell? ⟨g, 1, none⟩ = some (.int .i64 oh) ∧ w'.cell? ⟨g, 2, none⟩ = some (.int .u64 ol) ∧ w'.cell? ⟨g, 3, none⟩ = some (.int .i64 om) ∧ w'.cell? ⟨g, 4, none⟩ = some (.int .i64 ox)) := Lib.hid (fun w' h => by
              obtain ⟨c0, c1, c2, c3, c4⟩ := (accAt_of (a := ⟨(m : Int), oh, ol, om, ox⟩) hc).same (W' := w') (h.block _ hz)
              obtain ⟨d0, d1, d2, d3, d4⟩ := HIN.out.same (W' := w') (h.block _ hg2)
              exact ⟨c0, c1, c2, c3, c4, d0, d1, d2, d3, d4⟩)
            obtain ⟨c0, c1, c2, c3, c4, d0, d1, d2, d3, d4⟩ := HX.out wr (Below.refl _ _)
            clear hc hb hown hgood htot hne hpl hjp hgt ht hto hmn hms hg1 hg2 hb1 hb2 hh hl2 hss hL2 hSum hfit hoe hol
            subst hpl1
            unfold AccD.v at Q1 E0
            dsimp only at Q1 E0
            have hsh : wrap64 (H2 * 4294967296) = wrap64 (H2 * 4294967296) := rfl
            by_cases hf : -2147483648 ≤ H2 ∧ H2 < 2147483648
            · rw [if_pos hf] at Q1
              obtain ⟨hf1, hf2⟩ := hf
              have W1 : wrap64 (H2 * 4294967296) = H2 * 4294967296 := by unfold wrap64; omega
              have W2 : wrap64 (H2 * 4294967296 + L2) = H2 * 4294967296 + L2 := by unfold wrap64; omega
              go_wp2_with (first
                | (go_at_call 12
                   (with_reducible refine (Q1.out _).mono ?_)
                   rintro e w2 ⟨rfl, hb2⟩
                   have B2 := Lib.hid hb2
                   clear c0 c1 c2 c3 c4 d0 d1 d2 d3 d4
                   obtain ⟨c0, c1, c2, c3, c4, d0, d1, d2, d3, d4⟩ := HX.out _ hb2
                   clear hb2))
              go_quiet (fail)
              go_wp2_with fail
              go_ret
              exact ⟨rfl, BF.out.trans ((below_drewN B2.out _).mono BF.out.size)⟩
            · rw [if_neg hf] at Q1
              have hf' : ¬ (-2147483648 : Int) ≤ H2 ∨ (-2147483648 ≤ H2 ∧ ¬ H2 < 2147483648) := by omega
              clear hf
              rcases hf' with hf1 | ⟨hf1, hf2⟩
              all_goals
                go_wp2_with (first
                  | (go_at_call 12
                     (with_reducible refine (Q1.out _).mono ?_)
                     rintro e w2 ⟨rfl, hb2⟩
                     have B2 := Lib.hid hb2
                     clear c0 c1 c2 c3 c4 d0 d1 d2 d3 d4
                     obtain ⟨c0, c1, c2, c3, c4, d0, d1, d2, d3, d4⟩ := HX.out _ hb2
                     clear hb2))
                go_quiet (fail)
                go_wp2_with fail
                go_ret
                exact ⟨rfl, BF.out.trans ((below_drewN B2.out _).mono BF.out.size)⟩
end Go.Proofs.Ytlkekcmphbpfbaa
