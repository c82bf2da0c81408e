/-
  The reference's reader: its faults, and its numbers.
-/
import Derived.Test.YtllkflbkndfdeaaDoorEvBi
namespace Go.Proofs.YtllkflbkndfdeaaDoor
open Go Go.RowKit Go.Lib

/-- What a method of the reference's reader comes to. -/
def FEnd (b : Nat) (v : Value) (x k g : Nat) (s : ByteArray) (w : World) (e : Ending) (w' : World) : Prop :=
  Off g w w' ∧ e = .returned (.tuple #[v, .agg #[.int .i64 b, .int .i64 (if b = 0 then 0 else k : Nat)]]) ∧ Rdr w' g s x
abbrev none36 (w : World) : World := w.alloc (.cells #[.int .i64 0, .int .i64 0] 36)

theorem fault_any (s : ByteArray) (k g : Nat) (c : Int) (w : World) (h : Rdr w g s k) : Calls Tryd.prog 36 #[.pointer (some ⟨g, 0, none⟩), .int .i64 c] w fun e w' => e = .returned (.agg #[.int .i64 c, .int .i64 k]) ∧ w' = w.alloc (.cells #[.int .i64 c, .int .i64 k] 36) := by
  have hc1 := h.c1
  have hlt := h.lt
  have h2 : ∀ o, (w.alloc o).cell? ⟨g, 1, none⟩ = some (.int .i64 k) := fun o => by rw [World.cell?_alloc_lt _ _ _ h.lt]; exact h.c1
  clear h
  go_enter Tryd.func36, Tryd.ntmps36
  go_wp2
  exact bodyPost_ret (v := .agg #[.int .i64 c, .int .i64 k]) (by simp [results, Tryd.results36, go_sem]) rfl ⟨rfl, rfl⟩

theorem res_two {W : World} {b : Nat} {u v : Value} (x y : Value) (h0 : W.cell? ⟨b, 0, none⟩ = some u) (h1 : W.cell? ⟨b, 1, none⟩ = some v) :
    (W.setCell ⟨b, 0, none⟩ x).cell? ⟨b, 0, none⟩ = some x ∧ ((W.setCell ⟨b, 0, none⟩ x).setCell ⟨b, 1, none⟩ y).cell? ⟨b, 1, none⟩ = some y := by
  have h2 : (W.setCell ⟨b, 0, none⟩ x).cell? ⟨b, 1, none⟩ = some v := by
    rw [World.cell?_setCell_other _ _ _ _ (by simp)]
    exact h1
  exact ⟨World.cell?_setCell_same _ _ _ h0, World.cell?_setCell_same _ _ _ h2⟩
theorem good_end {k g x : Nat} {s : ByteArray} {w w' : World} {v v' : Value} {bd x' : Nat} (h : bd = 0 ∧ v = v' ∧ x = x') (ho : Off g w w') (hr : Rdr w' g s x') : FEnd bd v x k g s w (.returned (.tuple #[v', .agg #[.int .i64 0, .int .i64 0]])) w' := by
  obtain ⟨rfl, rfl, rfl⟩ := h
  exact ⟨ho, rfl, hr⟩
/-- The world behind a number that was read. -/
theorem good_world {w w2 : World} {g k x : Nat} {s : ByteArray} (n : Nat) (hO : Off g w w2) (hR : Rdr w2 g s k) (hne : w.heap.size ≠ g) (u v : Value) :
    Off g w ((((w2.drewN n).setCell ⟨g, 1, none⟩ (.int .i64 (x : Nat))).setCell ⟨w.heap.size, 0, none⟩ u).setCell ⟨w.heap.size, 1, none⟩ v) ∧ Rdr ((((w2.drewN n).setCell ⟨g, 1, none⟩ (.int .i64 (x : Nat))).setCell ⟨w.heap.size, 0, none⟩ u).setCell ⟨w.heap.size, 1, none⟩ v) g s x :=
  ⟨(((hO.drewN _).set 1 _).setOwn (Nat.le_refl _) _).setOwn (Nat.le_refl _) _, (((hR.drewN _).set x).other (show w.heap.size ≠ g from hne) _).other (show w.heap.size ≠ g from hne) _⟩
theorem bad_end {b k g : Nat} {s : ByteArray} {w w' : World} {v : Value} {bd x : Nat} {v' : Value} (h : bd = b ∧ v = v' ∧ x = k) (hb : b ≠ 0) (ho : Off g w w') (hr : Rdr w' g s k) : FEnd bd v x k g s w (.returned (.tuple #[v', .agg #[.int .i64 b, .int .i64 k]])) w' := by
  obtain ⟨rfl, rfl, rfl⟩ := h
  refine ⟨ho, ?_, hr⟩
  rw [if_neg hb]

set_option maxRecDepth 100000 in
set_option maxHeartbeats 3200000 in
theorem ref_U_any (s : ByteArray) (k g : Nat) (w : World) (hs : s.size ≤ 140737488355328) (hk : k ≤ s.size) (h : Rdr w g s k) : Calls Tryd.prog 10 #[.pointer (some ⟨g, 0, none⟩)] w (FEnd (bad s k) (.int .u64 (num s k)) (nxt s k) k g s w) := by
  have H := Lib.hid h
  have hlt := h.lt
  have d0 : ∀ o, (w.alloc o).cell? ⟨g, 0, none⟩ = some (.string s) := fun o => (h.alloc o).c0
  have d1 : ∀ o, (w.alloc o).cell? ⟨g, 1, none⟩ = some (.int .i64 k) := fun o => (h.alloc o).c1
  have f1 : ∀ o, (w.alloc o).frozen? ⟨g, 1, none⟩ = false := fun o => (h.alloc o).f1
  clear h
  obtain ⟨M, hM⟩ : ∃ M, M = k + runAt s k := ⟨_, rfl⟩
  have hkM : k ≤ M := by omega
  have hMs : M ≤ s.size := by rw [hM]; exact run_le hk
  have IN := Lib.hid (show ∀ L, k ≤ L → L < M → L < s.size ∧ 128 ≤ bt s L from fun L h1 h2 => by
    have := inRun (s := s) (k := k) (j := L - k) (by omega)
    rw [show k + (L - k) = L by omega] at this
    exact this)
  have EN := Lib.hid (show ¬ (M < s.size ∧ 128 ≤ bt s M) by rw [hM]; exact run_end s k)
  have HM := Lib.hid hM
  clear hM
  go_enter Tryd.func10, Tryd.ntmps10
  go_upto_block 0 with (fail)
  go_cut [4] (fun i wx => i = .int .i64 M ∧ wx = none36 w)
  case first =>
    go_wp2_with fail
    go_loopw [4] (fun i wr => wr = none36 w ∧ ∃ L : Nat, i = .int .i64 L ∧ k ≤ L ∧ L ≤ M) (fun i _ => M - (Lib.intOf i).toNat)
    case atStart => exact ⟨rfl, k, rfl, Nat.le_refl _, hkM⟩
    case round =>
      obtain ⟨rfl, L, rfl, hL1, hL2⟩ := hrel
      by_cases hlt2 : L < M
      · obtain ⟨h1, h2⟩ := IN.out L hL1 hlt2
        rw [← bt_get s L h1] at h2
        have hq : (L : Int) < (s.size : Int) := by omega
        have hq2 : (128 : Int) ≤ (s[L].toNat : Int) := by omega
        clear h2
        go_wp2
        go_roundw
        case rel => exact ⟨(by first | trivial | rfl), L + 1, by go_num, by omega, by omega⟩
        case measure => simp [Lib.intOf]; omega
      · obtain rfl : L = M := by omega
        by_cases h1 : L < s.size
        · have h2 : (s[L].toNat : Int) < 128 := by have := EN.out; rw [bt_get _ _ h1]; omega
          have hq : (L : Int) < (s.size : Int) := by omega
          go_wp2
          go_meet
          exact ⟨rfl, (by first | trivial | rfl)⟩
        · have hq : ¬ (L : Int) < (s.size : Int) := by omega
          have hq2 : decide ((L : Int) < (s.size : Int)) = false := decide_eq_false hq
          go_wp2
          go_meet
          exact ⟨rfl, (by first | trivial | rfl)⟩
  case rest =>
    clear IN EN
    obtain ⟨rfl, rfl⟩ := hcut
    have F := fun c => Lib.hid (fault_any s k g c (none36 w) (H.out.alloc _))
    by_cases h3 : M = s.size
    · have hb : bad s k = 3 := by unfold bad; rw [if_pos (by have := HM.out; omega)]
      have HB := Lib.hid (show bad s k = 3 ∧ Value.int .u64 (num s k) = .int .u64 0 ∧ nxt s k = k from ⟨hb, by unfold num; rw [if_neg (by omega)]; rfl, nxt_stays (by omega)⟩)
      have hq : (s.size : Int) ≤ (M : Int) := by omega
      clear hb
      go_wp2_with (go_at_call 36; (with_reducible refine (F 3).out.mono ?_); rintro e w5 ⟨rfl, rfl⟩)
      exact bodyPost_ret (v := .tuple #[.int .u64 0, .agg #[.int .i64 3, .int .i64 k]]) (by simp [results, Tryd.results10, go_sem]) rfl (bad_end (b := 3) HB.out (by omega) ((Off.refl _ _).alloc _ |>.alloc _) ((H.out.alloc _).alloc _))
    · have hq : ¬ (s.size : Int) ≤ (M : Int) := by omega
      have hks : k < s.size := by omega
      have hj : (k : Int) < (s.size : Int) := by omega
      have hj0 : (0 : Int) ≤ (k : Int) := by omega
      have hbb : (s[k].toNat : Int) = (bt s k : Int) := by rw [bt_get s k hks]
      have HBB := Lib.hid hbb
      clear hbb
      obtain ⟨b, hbe⟩ : ∃ b, b = bt s k := ⟨_, rfl⟩
      have HBE := Lib.hid hbe
      by_cases h5 : b = 128
      · have h5' : ((s[k].toNat : Int) == 128) = true := by rw [HBB.out, ← hbe, h5]; rfl
        have hb : bad s k = 5 := by
          unfold bad
          rw [if_neg (by have := HM.out; omega), if_pos (by omega)]
        have HB := Lib.hid (show bad s k = 5 ∧ Value.int .u64 (num s k) = .int .u64 0 ∧ nxt s k = k from ⟨hb, by unfold num; rw [if_neg (by omega)]; rfl, nxt_stays (by omega)⟩)
        clear hb hbe h5 F
        go_wp2
        go_quiet (fail)
        have F5 := Lib.hid (fault_any s k g 5 ((none36 w).drewN nq) ((H.out.alloc _).drewN _))
        go_wp2_with (go_at_call 36; (with_reducible refine F5.out.mono ?_); rintro e w5 ⟨rfl, rfl⟩)
        exact bodyPost_ret (v := .tuple #[.int .u64 0, .agg #[.int .i64 5, .int .i64 k]]) (by simp [results, Tryd.results10, go_sem]) rfl (bad_end (b := 5) HB.out (by omega) (((((Off.refl _ _).alloc _).drewN _).setOwn (Nat.le_refl _) _).setOwn (Nat.le_refl _) _ |>.alloc _) (((((H.out.alloc _).drewN _).other (show w.heap.size ≠ g by omega) _).other (show w.heap.size ≠ g by omega) _).alloc _))
      · have h5' : ((s[k].toNat : Int) == 128) = false := by rw [HBB.out, ← hbe]; simp; omega
        have H5 := Lib.hid (show bt s k ≠ 128 by omega)
        have hms : M < s.size := by omega
        clear h5 hbe
        go_wp2
        go_quiet (fail)
        obtain ⟨w2, hw2⟩ : ∃ w2, w2 = (none36 w).drewN nq := ⟨_, rfl⟩
        have HO2 := Lib.hid (show Off g w w2 by rw [hw2]; exact ((Off.refl _ _).alloc _).drewN _)
        have hR2 : Rdr w2 g s k := by rw [hw2]; exact (H.out.alloc _).drewN _
        have HR2 := Lib.hid hR2
        have e0 := hR2.c0
        have e1 := hR2.c1
        have e6 := hR2.f1
        have e2 : w2.cell? ⟨w.heap.size, 0, none⟩ = some (.int .i64 0) := by rw [hw2]; simp
        have e3 : w2.cell? ⟨w.heap.size, 1, none⟩ = some (.int .i64 0) := by rw [hw2]; simp
        have e4 : w2.frozen? ⟨w.heap.size, 0, none⟩ = false := by rw [hw2]; simp
        have e5 : w2.frozen? ⟨w.heap.size, 1, none⟩ = false := by rw [hw2]; simp
        have hz : w.heap.size < w2.heap.size := by rw [hw2]; simp
        have g2 : ∀ n o, ((w2.drewN n).alloc o).cell? ⟨w.heap.size, 0, none⟩ = some (.int .i64 0) := fun n o => by rw [World.cell?_alloc_lt _ _ _ (by simpa using hz)]; simpa using e2
        have g3 : ∀ n o, ((w2.drewN n).alloc o).cell? ⟨w.heap.size, 1, none⟩ = some (.int .i64 0) := fun n o => by rw [World.cell?_alloc_lt _ _ _ (by simpa using hz)]; simpa using e3
        have g4 : ∀ n o, ((w2.drewN n).alloc o).frozen? ⟨w.heap.size, 0, none⟩ = false := fun n o => by rw [World.frozen?_alloc_old _ _ _ (by simp; omega)]; simpa using e4
        have g5 : ∀ n o, ((w2.drewN n).alloc o).frozen? ⟨w.heap.size, 1, none⟩ = false := fun n o => by rw [World.frozen?_alloc_old _ _ _ (by simp; omega)]; simpa using e5
        rw [← hw2]
        have hm1 : (0 : Int) ≤ (M : Int) + 1 - (k : Int) := by omega
        have W1 : IntKind.i64.wrap ((M : Int) + 1 - (k : Int)) = (M : Int) + 1 - (k : Int) := IntWalk.i64_in _ (by omega)
        clear hR2 hw2 d0 d1 f1
        go_wp2
        have hrun : runAt s k = M - k := by have := HM.out; omega
        have hbs : (s[k].toNat : Int) = (bt s k : Int) := HBB.out
        have hbig : ((10 : Int) < (M : Int) + 1 - (k : Int) ∨ ((M : Int) + 1 - (k : Int) = 10 ∧ (129 : Int) < (bt s k : Int))) ∨ (((M : Int) + 1 - (k : Int) = 10 ∧ (bt s k : Int) ≤ 129) ∨ (M : Int) + 1 - (k : Int) < 10) := by omega
        rcases hbig with hbig | hbig
        · have hb : bad s k = 4 := by
            unfold bad
            rw [if_neg (by omega), if_neg H5.out, if_pos (by omega)]
          have HB := Lib.hid (show bad s k = 4 ∧ Value.int .u64 (num s k) = .int .u64 0 ∧ nxt s k = k from ⟨hb, by unfold num; rw [if_neg (by omega)]; rfl, nxt_stays (by omega)⟩)
          clear hb hrun
          rcases hbig with h6 | ⟨h6, h7⟩
          · have q1 : decide ((10 : Int) < (M : Int) + 1 - (k : Int)) = true := decide_eq_true h6
            clear h6 hbs
            go_quiet (fail)
            have F4 := Lib.hid (fault_any s k g 4 (w2.drewN nq) (HR2.out.drewN _))
            go_wp2_with (go_at_call 36; (with_reducible refine F4.out.mono ?_); rintro e w5 ⟨rfl, rfl⟩)
            refine bodyPost_ret (v := .tuple #[.int .u64 0, .agg #[.int .i64 4, .int .i64 k]]) ?_ rfl ?_
            · have r := res_two (.int .i64 4) (.int .i64 k) (g2 nq (.cells #[.int .i64 4, .int .i64 k] 36)) (g3 nq _)
              simp [results, Tryd.results10, go_sem, r.1, r.2]
            · exact bad_end (b := 4) HB.out (by omega) ((((HO2.out.drewN _).alloc _).setOwn (Nat.le_refl _) _).setOwn (Nat.le_refl _) _) ((((HR2.out.drewN _).alloc _).other (show w.heap.size ≠ g by omega) _).other (show w.heap.size ≠ g by omega) _)
          · have q1 : decide ((10 : Int) < (M : Int) + 1 - (k : Int)) = false := decide_eq_false (by omega)
            have q2 : ((M : Int) + 1 - (k : Int) == 10) = true := by simp; omega
            have q3 : decide ((129 : Int) < (s[k].toNat : Int)) = true := by rw [hbs]; exact decide_eq_true h7
            clear h6 h7 hbs
            go_quiet (fail)
            have F4 := Lib.hid (fault_any s k g 4 (w2.drewN nq) (HR2.out.drewN _))
            go_wp2_with (go_at_call 36; (with_reducible refine F4.out.mono ?_); rintro e w5 ⟨rfl, rfl⟩)
            refine bodyPost_ret (v := .tuple #[.int .u64 0, .agg #[.int .i64 4, .int .i64 k]]) ?_ rfl ?_
            · have r := res_two (.int .i64 4) (.int .i64 k) (g2 nq (.cells #[.int .i64 4, .int .i64 k] 36)) (g3 nq _)
              simp [results, Tryd.results10, go_sem, r.1, r.2]
            · exact bad_end (b := 4) HB.out (by omega) ((((HO2.out.drewN _).alloc _).setOwn (Nat.le_refl _) _).setOwn (Nat.le_refl _) _) ((((HR2.out.drewN _).alloc _).other (show w.heap.size ≠ g by omega) _).other (show w.heap.size ≠ g by omega) _)
        · have hb : bad s k = 0 := by
            unfold bad
            rw [if_neg (by omega), if_neg H5.out, if_neg (by omega)]
          have hn : num s k = val s k (M + 1 - k) := by rw [num, if_pos hb, hrun, show M - k + 1 = M + 1 - k by omega]
          have hx : nxt s k = M + 1 := by rw [nxt, if_pos hb]; omega
          have HB := Lib.hid (show bad s k = 0 ∧ num s k = val s k (M + 1 - k) ∧ nxt s k = M + 1 from ⟨hb, hn, hx⟩)
          have HV := Lib.hid (show ∀ j, j ≤ M + 1 - k → val s k j < 18446744073709551616 from fun j hj => Nat.lt_of_le_of_lt (val_mono s k j _ hj) (hn ▸ num_lt s k))
          clear hb hn hx hrun
          have q1 : decide ((10 : Int) < (M : Int) + 1 - (k : Int)) = false := decide_eq_false (by omega)
          rcases hbig with ⟨h6, h7⟩ | h6
          · have q2 : ((M : Int) + 1 - (k : Int) == 10) = true := by simp; omega
            have q3 : decide ((129 : Int) < (s[k].toNat : Int)) = false := by rw [hbs]; exact decide_eq_false (by omega)
            clear h6 h7 hbs
            go_quiet (fail)
            go_wp2
            go_loop [6, 7] (fun n i => ∃ L : Nat, k ≤ L ∧ L ≤ M + 1 ∧ n = .int .u64 (val s k (L - k)) ∧ i = .int .i64 L) (fun _ i => M + 1 - (Lib.intOf i).toNat)
            case atStart => exact ⟨k, Nat.le_refl _, by omega, by rw [Nat.sub_self]; rfl, rfl⟩
            case round =>
              obtain ⟨L, hL1, hL2, rfl, rfl⟩ := hrel
              by_cases hLM : L ≤ M
              · have p1 : (L : Int) ≤ (M : Int) := by omega
                have p2 : (L : Int) < (s.size : Int) := by omega
                have hLs : L < s.size := by omega
                have v1 := HV.out (L - k) (by omega)
                have v2 := HV.out (L - k + 1) (by omega)
                rw [val, show k + (L - k) = L by omega] at v2
                have E := Lib.hid (bt_get s L hLs)
                have hu := UInt8.toNat_lt s[L]
                obtain ⟨v, hv⟩ : ∃ v, v = val s k (L - k) := ⟨_, rfl⟩
                have HVV := Lib.hid hv
                rw [← bt_get s L hLs, ← hv] at v2
                rw [← hv] at v1 ⊢
                have W2 : IntKind.u64.wrap ((v : Int) * 128) = (v : Int) * 128 := IntWalk.u64_in _ (by omega)
                have W3 : IntKind.u64.wrap ((v : Int) * 128 + (s[L].toNat : Int) % 128) = (v : Int) * 128 + (s[L].toNat : Int) % 128 := IntWalk.u64_in _ (by omega)
                clear hv
                go_wp2
                go_round
                case rel => exact ⟨L + 1, by omega, by omega, by rw [show L + 1 - k = L - k + 1 by omega, val, show k + (L - k) = L by omega, ← HVV.out, ← E.out]; go_num, by go_num⟩
                case measure => simp [Lib.intOf]; omega
              · obtain rfl : L = M + 1 := by omega
                have p1 : ¬ ((M + 1 : Nat) : Int) ≤ (M : Int) := by omega
                go_wp2
                have hM1 : (M : Int) + 1 = ((M + 1 : Nat) : Int) := by omega
                obtain ⟨G1, G2⟩ := good_world (x := M + 1) nq HO2.out HR2.out (show w.heap.size ≠ g by omega) (.int .i64 0) (.int .i64 0)
                rw [hM1]
                refine bodyPost_ret (v := .tuple #[.int .u64 (val s k (M + 1 - k)), .agg #[.int .i64 0, .int .i64 0]]) ?_ rfl ?_
                · have r := res_two (.int .i64 0) (.int .i64 0) (W := (w2.drewN nq).setCell ⟨g, 1, none⟩ (.int .i64 ((M : Int) + 1))) (b := w.heap.size) (u := .int .i64 0) (v := .int .i64 0) (by rw [World.cell?_setCell_other _ _ _ _ (by simp)]; simpa using e2) (by rw [World.cell?_setCell_other _ _ _ _ (by simp)]; simpa using e3)
                  simp [results, Tryd.results10, go_sem, r.1, r.2]
                · exact good_end ⟨HB.out.1, by rw [HB.out.2.1], HB.out.2.2⟩ G1 G2
          · have q2 : ((M : Int) + 1 - (k : Int) == 10) = false := by simp; omega
            clear h6 hbs
            go_quiet (fail)
            go_wp2
            go_loop [6, 7] (fun n i => ∃ L : Nat, k ≤ L ∧ L ≤ M + 1 ∧ n = .int .u64 (val s k (L - k)) ∧ i = .int .i64 L) (fun _ i => M + 1 - (Lib.intOf i).toNat)
            case atStart => exact ⟨k, Nat.le_refl _, by omega, by rw [Nat.sub_self]; rfl, rfl⟩
            case round =>
              obtain ⟨L, hL1, hL2, rfl, rfl⟩ := hrel
              by_cases hLM : L ≤ M
              · have p1 : (L : Int) ≤ (M : Int) := by omega
                have p2 : (L : Int) < (s.size : Int) := by omega
                have hLs : L < s.size := by omega
                have v1 := HV.out (L - k) (by omega)
                have v2 := HV.out (L - k + 1) (by omega)
                rw [val, show k + (L - k) = L by omega] at v2
                have E := Lib.hid (bt_get s L hLs)
                have hu := UInt8.toNat_lt s[L]
                obtain ⟨v, hv⟩ : ∃ v, v = val s k (L - k) := ⟨_, rfl⟩
                have HVV := Lib.hid hv
                rw [← bt_get s L hLs, ← hv] at v2
                rw [← hv] at v1 ⊢
                have W2 : IntKind.u64.wrap ((v : Int) * 128) = (v : Int) * 128 := IntWalk.u64_in _ (by omega)
                have W3 : IntKind.u64.wrap ((v : Int) * 128 + (s[L].toNat : Int) % 128) = (v : Int) * 128 + (s[L].toNat : Int) % 128 := IntWalk.u64_in _ (by omega)
                clear hv
                go_wp2
                go_round
                case rel => exact ⟨L + 1, by omega, by omega, by rw [show L + 1 - k = L - k + 1 by omega, val, show k + (L - k) = L by omega, ← HVV.out, ← E.out]; go_num, by go_num⟩
                case measure => simp [Lib.intOf]; omega
              · obtain rfl : L = M + 1 := by omega
                have p1 : ¬ ((M + 1 : Nat) : Int) ≤ (M : Int) := by omega
                go_wp2
                have hM1 : (M : Int) + 1 = ((M + 1 : Nat) : Int) := by omega
                obtain ⟨G1, G2⟩ := good_world (x := M + 1) nq HO2.out HR2.out (show w.heap.size ≠ g by omega) (.int .i64 0) (.int .i64 0)
                rw [hM1]
                refine bodyPost_ret (v := .tuple #[.int .u64 (val s k (M + 1 - k)), .agg #[.int .i64 0, .int .i64 0]]) ?_ rfl ?_
                · have r := res_two (.int .i64 0) (.int .i64 0) (W := (w2.drewN nq).setCell ⟨g, 1, none⟩ (.int .i64 ((M : Int) + 1))) (b := w.heap.size) (u := .int .i64 0) (v := .int .i64 0) (by rw [World.cell?_setCell_other _ _ _ _ (by simp)]; simpa using e2) (by rw [World.cell?_setCell_other _ _ _ _ (by simp)]; simpa using e3)
                  simp [results, Tryd.results10, go_sem, r.1, r.2]
                · exact good_end ⟨HB.out.1, by rw [HB.out.2.1], HB.out.2.2⟩ G1 G2
end Go.Proofs.YtllkflbkndfdeaaDoor
