/-
  The reference's reader: whole numbers, bytes, truths, its end.
-/
import Derived.Test.YtllkflbkndfdeaaDoorEvCa
namespace Go.Proofs.YtllkflbkndfdeaaDoor
open Go Go.RowKit Go.Lib

theorem whole_any (n : Nat) (w : World) (hn : n < 18446744073709551616) : Calls Tryd.prog 41 #[.int .u64 n] w fun e w' => e = .returned (.int .i64 (whole n)) ∧ w' = w := by
  by_cases h : n % 2 = 0
  · have e : whole n = ((n / 2 : Nat) : Int) := by unfold whole; rw [if_pos h]
    have hq : ((n : Int) % 2 == 0) = true := by simp; omega
    have hW : IntKind.i64.wrap ((n : Int) / 2) = (n : Int) / 2 := IntWalk.i64_in _ (by omega)
    rw [e]
    go_enter Tryd.func41, Tryd.ntmps41
    go_wp2
    go_ret
    exact ⟨by simp, rfl⟩
  · have e : whole n = -((n / 2 : Nat) : Int) - 1 := by unfold whole; rw [if_neg h]
    have hq : ((n : Int) % 2 == 0) = false := by simp; omega
    have hW : IntKind.i64.wrap ((n : Int) / 2) = (n : Int) / 2 := IntWalk.i64_in _ (by omega)
    have hW2 : IntKind.i64.wrap (-((n : Int) / 2)) = -((n : Int) / 2) := IntWalk.i64_in _ (by omega)
    have hW3 : IntKind.i64.wrap (-((n : Int) / 2) - 1) = -((n : Int) / 2) - 1 := IntWalk.i64_in _ (by omega)
    rw [e]
    go_enter Tryd.func41, Tryd.ntmps41
    go_wp2
    go_ret
    exact ⟨by simp, rfl⟩

/-- The cells of the result's variable, behind a call that left all but the reader's block alone. -/
theorem kept36 {w w1 : World} {g : Nat} (ho : Off g (none36 w) w1) (hg : g < w.heap.size) : w.heap.size < w1.heap.size ∧ (∀ n, (w1.drewN n).cell? ⟨w.heap.size, 0, none⟩ = some (.int .i64 0) ∧ (w1.drewN n).cell? ⟨w.heap.size, 1, none⟩ = some (.int .i64 0) ∧ (w1.drewN n).frozen? ⟨w.heap.size, 0, none⟩ = false ∧ (w1.drewN n).frozen? ⟨w.heap.size, 1, none⟩ = false) ∧
    ∀ n o, ((w1.drewN n).alloc o).cell? ⟨w.heap.size, 0, none⟩ = some (.int .i64 0) ∧ ((w1.drewN n).alloc o).cell? ⟨w.heap.size, 1, none⟩ = some (.int .i64 0) ∧ ((w1.drewN n).alloc o).frozen? ⟨w.heap.size, 0, none⟩ = false ∧ ((w1.drewN n).alloc o).frozen? ⟨w.heap.size, 1, none⟩ = false := by
  have hz : w.heap.size < w1.heap.size := by
    have := ho.size
    simp at this
    omega
  have h0 : w1.cell? ⟨w.heap.size, 0, none⟩ = some (.int .i64 0) := by
    rw [ho.cell (p := ⟨w.heap.size, 0, none⟩) (by simp) (by show w.heap.size ≠ g; omega)]; simp
  have h1 : w1.cell? ⟨w.heap.size, 1, none⟩ = some (.int .i64 0) := by
    rw [ho.cell (p := ⟨w.heap.size, 1, none⟩) (by simp) (by show w.heap.size ≠ g; omega)]; simp
  have h2 : w1.frozen? ⟨w.heap.size, 0, none⟩ = false := by
    rw [ho.frozen (p := ⟨w.heap.size, 0, none⟩) (by simp) (by show w.heap.size ≠ g; omega)]; simp
  have h3 : w1.frozen? ⟨w.heap.size, 1, none⟩ = false := by
    rw [ho.frozen (p := ⟨w.heap.size, 1, none⟩) (by simp) (by show w.heap.size ≠ g; omega)]; simp
  refine ⟨hz, fun n => ⟨by simpa using h0, by simpa using h1, by simpa using h2, by simpa using h3⟩, fun n o => ⟨?_, ?_, ?_, ?_⟩⟩
  · rw [World.cell?_alloc_lt _ _ _ (by simpa using hz)]; simpa using h0
  · rw [World.cell?_alloc_lt _ _ _ (by simpa using hz)]; simpa using h1
  · rw [World.frozen?_alloc_old _ _ _ (by simp; omega)]; simpa using h2
  · rw [World.frozen?_alloc_old _ _ _ (by simp; omega)]; simpa using h3
/-- The world behind the result's store. -/
theorem end_world {w w4 : World} {g x : Nat} {s : ByteArray} (hO : Off g w w4) (hR : Rdr w4 g s x) (hg : g < w.heap.size) (u v : Value) :
    Off g w ((w4.setCell ⟨w.heap.size, 0, none⟩ u).setCell ⟨w.heap.size, 1, none⟩ v).drew ∧ Rdr ((w4.setCell ⟨w.heap.size, 0, none⟩ u).setCell ⟨w.heap.size, 1, none⟩ v).drew g s x :=
  ⟨((hO.setOwn (Nat.le_refl _) _).setOwn (Nat.le_refl _) _).drewN 1, ((hR.other (show w.heap.size ≠ g by omega) _).other (show w.heap.size ≠ g by omega) _).drewN 1⟩
theorem bad_cases (s : ByteArray) (k : Nat) : (bad s k = 0) ∨ (bad s k ≠ 0 ∧ num s k = 0 ∧ nxt s k = k ∧ bad s k ≤ 5) := by
  by_cases h : bad s k = 0
  · exact .inl h
  · refine .inr ⟨h, by unfold num; rw [if_neg h], nxt_stays h, ?_⟩
    unfold bad
    split
    · omega
    split
    · omega
    split <;> omega

set_option maxRecDepth 100000 in
set_option maxHeartbeats 1600000 in
theorem ref_I_any (s : ByteArray) (k g : Nat) (w : World) (hs : s.size ≤ 140737488355328) (hk : k ≤ s.size) (h : Rdr w g s k) : Calls Tryd.prog 13 #[.pointer (some ⟨g, 0, none⟩)] w (FEnd (bad s k) (.int .i64 (whole (num s k))) (nxt s k) k g s w) := by
  have hlt := h.lt
  have K := Lib.hid (ref_U_any s k g (none36 w) hs hk (h.alloc _))
  clear h
  have hn := num_lt s k
  obtain ⟨n, hne⟩ : ∃ n, n = num s k := ⟨_, rfl⟩
  obtain ⟨c, hce⟩ : ∃ c, c = bad s k := ⟨_, rfl⟩
  rcases bad_cases s k with hb | ⟨hb, hb0, hbx, _⟩
  · rw [← hne] at hn
    have K1 : Hid (Calls Tryd.prog 10 #[.pointer (some ⟨g, 0, none⟩)] (none36 w) fun e w' => e = .returned (.tuple #[.int .u64 n, .agg #[.int .i64 0, .int .i64 0]]) ∧ Off g (none36 w) w' ∧ Rdr w' g s (nxt s k)) := Lib.hid (K.out.mono fun e w' ⟨h1, h2, h3⟩ => ⟨by rw [h2, hb, ← hne]; rfl, h1, h3⟩)
    have HB := Lib.hid (show bad s k = 0 ∧ Value.int .i64 (whole (num s k)) = .int .i64 (whole n) ∧ nxt s k = nxt s k from ⟨hb, by rw [hne], rfl⟩)
    clear K hb hce hne
    go_enter Tryd.func13, Tryd.ntmps13
    go_wp2_with (go_at_call 10; (with_reducible refine K1.out.mono ?_); rintro e w1 ⟨rfl, ho, hr⟩)
    obtain ⟨hz, _, hk36⟩ := kept36 ho hlt
    have j0 : (w1.alloc (.cells #[.int .i64 0, .int .i64 0] 36)).cell? ⟨w.heap.size, 0, none⟩ = some (.int .i64 0) := (hk36 0 _).1
    have j1 : (w1.alloc (.cells #[.int .i64 0, .int .i64 0] 36)).cell? ⟨w.heap.size, 1, none⟩ = some (.int .i64 0) := (hk36 0 _).2.1
    have j2 : (w1.alloc (.cells #[.int .i64 0, .int .i64 0] 36)).frozen? ⟨w.heap.size, 0, none⟩ = false := (hk36 0 _).2.2.1
    have j3 : (w1.alloc (.cells #[.int .i64 0, .int .i64 0] 36)).frozen? ⟨w.heap.size, 1, none⟩ = false := (hk36 0 _).2.2.2
    have l0 : (w1.alloc (.cells #[.int .i64 0, .int .i64 0] 36)).cell? ⟨w1.heap.size, 0, none⟩ = some (.int .i64 0) := by simp
    have l1 : (w1.alloc (.cells #[.int .i64 0, .int .i64 0] 36)).cell? ⟨w1.heap.size, 1, none⟩ = some (.int .i64 0) := by simp
    have HR := Lib.hid (hr.alloc (.cells #[.int .i64 0, .int .i64 0] 36))
    have HO := Lib.hid ((((Off.refl g w).alloc _).trans ho).alloc (.cells #[.int .i64 0, .int .i64 0] 36))
    obtain ⟨w4, hw4⟩ : ∃ w4, w4 = w1.alloc (.cells #[.int .i64 0, .int .i64 0] 36) := ⟨_, rfl⟩
    rw [← hw4] at j0 j1 j2 j3 l0 l1 HR HO ⊢
    obtain ⟨b4, hb4⟩ : ∃ b4, b4 = w1.heap.size := ⟨_, rfl⟩
    rw [← hb4] at l0 l1 ⊢
    clear hw4 hb4 ho hr hk36 hz
    go_region_with (go_at_call 41; (with_reducible refine (whole_any n _ hn).mono ?_); rintro e w2 ⟨rfl, rfl⟩)
    all_goals
      go_wp2
      have r := res_two (.int .i64 0) (.int .i64 0) j0 j1
      obtain ⟨G1, G2⟩ := end_world HO.out HR.out hlt (.int .i64 0) (.int .i64 0)
      refine bodyPost_ret (v := .tuple #[.int .i64 (whole n), .agg #[.int .i64 0, .int .i64 0]]) ?_ rfl ?_
      · simp [results, Tryd.results13, go_sem, r.1, r.2]
      · exact good_end ⟨HB.out.1, HB.out.2.1, rfl⟩ G1 G2
  · have K1 : Hid (Calls Tryd.prog 10 #[.pointer (some ⟨g, 0, none⟩)] (none36 w) fun e w' => e = .returned (.tuple #[.int .u64 0, .agg #[.int .i64 c, .int .i64 k]]) ∧ Off g (none36 w) w' ∧ Rdr w' g s k) := Lib.hid (K.out.mono fun e w' ⟨h1, h2, h3⟩ => ⟨by rw [h2, hb0, ← hce, if_neg (by omega)]; rfl, h1, by rw [hbx] at h3; exact h3⟩)
    have HB := Lib.hid (show bad s k = c ∧ Value.int .i64 (whole (num s k)) = .int .i64 0 ∧ nxt s k = k from ⟨hce.symm, by rw [hb0]; rfl, hbx⟩)
    have hcc : ((c : Int) == 0) = false := by simp; omega
    have hcn : ((c : Int) != 0) = true := by simp; omega
    have hc0 := Lib.hid (show c ≠ 0 by omega)
    clear K hb hce hne hn hb0 hbx
    go_enter Tryd.func13, Tryd.ntmps13
    go_wp2_with (go_at_call 10; (with_reducible refine K1.out.mono ?_); rintro e w1 ⟨rfl, ho, hr⟩)
    obtain ⟨hz, _, hk36⟩ := kept36 ho hlt
    have j0 : (w1.alloc (.cells #[.int .i64 c, .int .i64 k] 36)).cell? ⟨w.heap.size, 0, none⟩ = some (.int .i64 0) := (hk36 0 _).1
    have j1 : (w1.alloc (.cells #[.int .i64 c, .int .i64 k] 36)).cell? ⟨w.heap.size, 1, none⟩ = some (.int .i64 0) := (hk36 0 _).2.1
    have j2 : (w1.alloc (.cells #[.int .i64 c, .int .i64 k] 36)).frozen? ⟨w.heap.size, 0, none⟩ = false := (hk36 0 _).2.2.1
    have j3 : (w1.alloc (.cells #[.int .i64 c, .int .i64 k] 36)).frozen? ⟨w.heap.size, 1, none⟩ = false := (hk36 0 _).2.2.2
    have l0 : (w1.alloc (.cells #[.int .i64 c, .int .i64 k] 36)).cell? ⟨w1.heap.size, 0, none⟩ = some (.int .i64 c) := by simp
    have l1 : (w1.alloc (.cells #[.int .i64 c, .int .i64 k] 36)).cell? ⟨w1.heap.size, 1, none⟩ = some (.int .i64 k) := by simp
    have HR := Lib.hid (hr.alloc (.cells #[.int .i64 c, .int .i64 k] 36))
    have HO := Lib.hid ((((Off.refl g w).alloc _).trans ho).alloc (.cells #[.int .i64 c, .int .i64 k] 36))
    obtain ⟨w4, hw4⟩ : ∃ w4, w4 = w1.alloc (.cells #[.int .i64 c, .int .i64 k] 36) := ⟨_, rfl⟩
    rw [← hw4] at j0 j1 j2 j3 l0 l1 HR HO ⊢
    obtain ⟨b4, hb4⟩ : ∃ b4, b4 = w1.heap.size := ⟨_, rfl⟩
    rw [← hb4] at l0 l1 ⊢
    clear hw4 hb4 ho hr hk36 hz
    go_region
    all_goals
      go_wp2
      have r := res_two (.int .i64 c) (.int .i64 k) j0 j1
      obtain ⟨G1, G2⟩ := end_world HO.out HR.out hlt (.int .i64 c) (.int .i64 k)
      refine bodyPost_ret (v := .tuple #[.int .i64 0, .agg #[.int .i64 c, .int .i64 k]]) ?_ rfl ?_
      · simp [results, Tryd.results13, go_sem, r.1, r.2]
      · exact bad_end HB.out hc0.out G1 G2

/-- What stands behind the consumed byte: all cells that the last store and the reads ask for. -/
theorem ate {w : World} {g k : Nat} {s : ByteArray} (h : Rdr w g s k) (n : Nat) : ∃ W, W = ((none36 w).drewN n).setCell ⟨g, 1, none⟩ (.int .i64 ((k : Int) + 1)) ∧ Rdr W g s (k + 1) ∧ Off g w W ∧ W.cell? ⟨w.heap.size, 0, none⟩ = some (.int .i64 0) ∧ W.cell? ⟨w.heap.size, 1, none⟩ = some (.int .i64 0) ∧ W.frozen? ⟨w.heap.size, 0, none⟩ = false ∧ W.frozen? ⟨w.heap.size, 1, none⟩ = false := by
  have hlt := h.lt
  have hne0 : (⟨g, 1, none⟩ : Addr) ≠ ⟨w.heap.size, 0, none⟩ := by simp
  have hne1 : (⟨g, 1, none⟩ : Addr) ≠ ⟨w.heap.size, 1, none⟩ := by simp only [ne_eq, Addr.mk.injEq, and_true]; omega
  refine ⟨_, rfl, ((h.alloc _).drewN n).set (k + 1), (((Off.refl g w).alloc _).drewN n).set 1 _, ?_, ?_, ?_, ?_⟩
  · rw [World.cell?_setCell_other _ _ _ _ hne0]; simp
  · rw [World.cell?_setCell_other _ _ _ _ hne1]; simp
  · simp
  · simp

set_option maxRecDepth 100000 in
set_option maxHeartbeats 1600000 in
theorem ref_Byte_any (s : ByteArray) (k g : Nat) (w : World) (hs : s.size ≤ 140737488355328) (hk : k ≤ s.size) (h : Rdr w g s k) : Calls Tryd.prog 15 #[.pointer (some ⟨g, 0, none⟩)] w (FEnd (badB s k) (octV s k) (nxtB s k) k g s w) := by
  have H := Lib.hid h
  have hlt := h.lt
  have d0 : ∀ o, (w.alloc o).cell? ⟨g, 0, none⟩ = some (.string s) := fun o => (h.alloc o).c0
  have d1 : ∀ o, (w.alloc o).cell? ⟨g, 1, none⟩ = some (.int .i64 k) := fun o => (h.alloc o).c1
  have f1 : ∀ o, (w.alloc o).frozen? ⟨g, 1, none⟩ = false := fun o => (h.alloc o).f1
  clear h
  by_cases hk2 : k = s.size
  · have hb : badB s k = 3 := by unfold badB; rw [if_pos (by omega)]
    have hbt : bt s k = 0 := by unfold bt; rw [List.getD_eq_getElem?_getD, List.getElem?_eq_none (by subst hk2; simp)]; rfl
    have HB := Lib.hid (show badB s k = 3 ∧ octV s k = .int .u8 0 ∧ nxtB s k = k from ⟨hb, by unfold octV; rw [hbt]; rfl, by unfold nxtB; rw [if_pos (by omega)]⟩)
    have hq : decide (s.size ≤ k) = true := decide_eq_true (by omega)
    clear hb hbt hk2
    go_enter Tryd.func15, Tryd.ntmps15
    go_wp2
    go_quiet (fail)
    have F3 := Lib.hid (fault_any s k g 3 ((none36 w).drewN nq) ((H.out.alloc _).drewN _))
    go_wp2_with (go_at_call 36; (with_reducible refine F3.out.mono ?_); rintro e w5 ⟨rfl, rfl⟩)
    exact bodyPost_ret (v := .tuple #[.int .u8 0, .agg #[.int .i64 3, .int .i64 k]]) (by simp [results, Tryd.results15, go_sem]) rfl (bad_end (b := 3) HB.out (by omega) (((((Off.refl _ _).alloc _).drewN _).setOwn (Nat.le_refl _) _).setOwn (Nat.le_refl _) _ |>.alloc _) (((((H.out.alloc _).drewN _).other (show w.heap.size ≠ g by omega) _).other (show w.heap.size ≠ g by omega) _).alloc _))
  · have hb : badB s k = 0 := by unfold badB; rw [if_neg (by omega)]
    have hx : nxtB s k = k + 1 := by unfold nxtB; rw [if_neg (by omega)]
    have hks : k < s.size := by omega
    have E := Lib.hid (bt_get s k hks)
    have HB := Lib.hid (show badB s k = 0 ∧ octV s k = .int .u8 (s[k].toNat : Int) ∧ nxtB s k = k + 1 from ⟨hb, by unfold octV; rw [E.out], hx⟩)
    have hq : decide (s.size ≤ k) = false := decide_eq_false (by omega)
    have hj : (k : Int) < (s.size : Int) := by omega
    have hj0 : (0 : Int) ≤ (k : Int) := by omega
    have A := fun n => Lib.hid (ate H.out n)
    clear hb hx hk2
    go_enter Tryd.func15, Tryd.ntmps15
    go_wp2
    go_quiet (fail)
    go_wp2
    obtain ⟨W, hWe, hR, hO, j0, j1, j2, j3⟩ := (A nq).out
    rw [← hWe]
    have e0 := hR.c0
    have e1 : W.cell? ⟨g, 1, none⟩ = some (.int .i64 ((k : Int) + 1)) := hR.c1
    have W1 : IntKind.i64.wrap ((k : Int) + 1 - 1) = (k : Int) := by rw [IntWalk.i64_in _ (by omega)]; omega
    have HR := Lib.hid hR
    have HO := Lib.hid hO
    clear hWe A d0 d1 f1 hR hO
    go_region
    all_goals
      go_wp2
      have r := res_two (.int .i64 0) (.int .i64 0) j0 j1
      obtain ⟨G1, G2⟩ := end_world HO.out HR.out hlt (.int .i64 0) (.int .i64 0)
      refine bodyPost_ret (v := .tuple #[.int .u8 (s[k].toNat : Int), .agg #[.int .i64 0, .int .i64 0]]) ?_ rfl ?_
      · simp [results, Tryd.results15, go_sem, r.1, r.2]
      · exact good_end HB.out G1 G2

/-- Where the reference stands behind a truth. -/
def nxtR (s : ByteArray) (k : Nat) : Nat := if badT s k = 0 then k + 1 else k
theorem nxtR_bad {s : ByteArray} {k : Nat} (h : badT s k ≠ 0) : nxtR s k = k := by unfold nxtR; rw [if_neg h]
theorem nxtR_ok {s : ByteArray} {k : Nat} (h : badT s k = 0) : nxtR s k = k + 1 := by unfold nxtR; rw [if_pos h]
theorem bt_past (s : ByteArray) (k : Nat) (h : s.size ≤ k) : bt s k = 0 := by
  unfold bt
  rw [List.getD_eq_getElem?_getD, List.getElem?_eq_none (by simpa using h)]
  rfl

set_option maxRecDepth 100000 in
set_option maxHeartbeats 3200000 in
theorem ref_Bool_any (s : ByteArray) (k g : Nat) (w : World) (hs : s.size ≤ 140737488355328) (hk : k ≤ s.size) (h : Rdr w g s k) : Calls Tryd.prog 17 #[.pointer (some ⟨g, 0, none⟩)] w (FEnd (badT s k) (truV s k) (nxtR s k) k g s w) := by
  have H := Lib.hid h
  have hlt := h.lt
  have d0 : ∀ o, (w.alloc o).cell? ⟨g, 0, none⟩ = some (.string s) := fun o => (h.alloc o).c0
  have d1 : ∀ o, (w.alloc o).cell? ⟨g, 1, none⟩ = some (.int .i64 k) := fun o => (h.alloc o).c1
  have f1 : ∀ o, (w.alloc o).frozen? ⟨g, 1, none⟩ = false := fun o => (h.alloc o).f1
  clear h
  by_cases hk2 : k = s.size
  · have hb : badT s k = 3 := by unfold badT; rw [if_pos (by omega)]
    have hbt := bt_past s k (by omega)
    have HB := Lib.hid (show badT s k = 3 ∧ truV s k = .bool false ∧ nxtR s k = k from ⟨hb, by unfold truV; rw [hbt]; rfl, nxtR_bad (by omega)⟩)
    have hq : decide (s.size ≤ k) = true := decide_eq_true (by omega)
    clear hb hbt hk2
    go_enter Tryd.func17, Tryd.ntmps17
    go_wp2
    go_quiet (fail)
    have F3 := Lib.hid (fault_any s k g 3 ((none36 w).drewN nq) ((H.out.alloc _).drewN _))
    go_wp2_with (go_at_call 36; (with_reducible refine F3.out.mono ?_); rintro e w5 ⟨rfl, rfl⟩)
    exact bodyPost_ret (v := .tuple #[.bool false, .agg #[.int .i64 3, .int .i64 k]]) (by simp [results, Tryd.results17, go_sem]) rfl (bad_end (b := 3) HB.out (by omega) (((((Off.refl _ _).alloc _).drewN _).setOwn (Nat.le_refl _) _).setOwn (Nat.le_refl _) _ |>.alloc _) (((((H.out.alloc _).drewN _).other (show w.heap.size ≠ g by omega) _).other (show w.heap.size ≠ g by omega) _).alloc _))
  · have hks : k < s.size := by omega
    have E := Lib.hid (bt_get s k hks)
    have hq : decide (s.size ≤ k) = false := decide_eq_false (by omega)
    have hj : (k : Int) < (s.size : Int) := by omega
    have hj0 : (0 : Int) ≤ (k : Int) := by omega
    by_cases h1 : 1 < bt s k
    · have hb : badT s k = 5 := by unfold badT; rw [if_neg (by omega), if_pos h1]
      have HB := Lib.hid (show badT s k = 5 ∧ truV s k = .bool false ∧ nxtR s k = k from ⟨hb, by unfold truV; rw [decide_eq_false (by omega)], nxtR_bad (by omega)⟩)
      have hq2 : decide ((1 : Int) < (s[k].toNat : Int)) = true := decide_eq_true (by have := E.out; omega)
      clear hb h1 hk2
      go_enter Tryd.func17, Tryd.ntmps17
      go_wp2
      go_quiet (fail)
      obtain ⟨n1, hn1⟩ : ∃ n1, n1 = nq := ⟨_, rfl⟩
      subst hn1
      go_wp2
      go_quiet (fail)
      have F5 := Lib.hid (fault_any s k g 5 ((none36 w).drewN (n1 + nq)) ((H.out.alloc _).drewN _))
      go_wp2_with (go_at_call 36; (with_reducible refine F5.out.mono ?_); rintro e w5 ⟨rfl, rfl⟩)
      exact bodyPost_ret (v := .tuple #[.bool false, .agg #[.int .i64 5, .int .i64 k]]) (by simp [results, Tryd.results17, go_sem]) rfl (bad_end (b := 5) HB.out (by omega) (((((Off.refl _ _).alloc _).drewN _).setOwn (Nat.le_refl _) _).setOwn (Nat.le_refl _) _ |>.alloc _) (((((H.out.alloc _).drewN _).other (show w.heap.size ≠ g by omega) _).other (show w.heap.size ≠ g by omega) _).alloc _))
    · have hb : badT s k = 0 := by unfold badT; rw [if_neg (by omega), if_neg h1]
      have HB := Lib.hid (show badT s k = 0 ∧ truV s k = .bool ((s[k].toNat : Int) == 1) ∧ nxtR s k = k + 1 from ⟨hb, by unfold truV; rw [← E.out]; congr 1; rw [Bool.eq_iff_iff]; simp; omega, nxtR_ok hb⟩)
      have hq2 : decide ((1 : Int) < (s[k].toNat : Int)) = false := decide_eq_false (by have := E.out; omega)
      have A := fun n => Lib.hid (ate H.out n)
      clear hb h1 hk2
      go_enter Tryd.func17, Tryd.ntmps17
      go_wp2
      go_quiet (fail)
      obtain ⟨n1, hn1⟩ : ∃ n1, n1 = nq := ⟨_, rfl⟩
      subst hn1
      go_wp2
      go_quiet (fail)
      go_wp2
      obtain ⟨W, hWe, hR, hO, j0, j1, j2, j3⟩ := (A (n1 + nq)).out
      rw [← hWe]
      have e0 := hR.c0
      have e1 : W.cell? ⟨g, 1, none⟩ = some (.int .i64 ((k : Int) + 1)) := hR.c1
      have W1 : IntKind.i64.wrap ((k : Int) + 1 - 1) = (k : Int) := by rw [IntWalk.i64_in _ (by omega)]; omega
      have HR := Lib.hid hR
      have HO := Lib.hid hO
      clear hWe A d0 d1 f1 hR hO
      go_region
      all_goals
        go_wp2
        have r := res_two (.int .i64 0) (.int .i64 0) j0 j1
        obtain ⟨G1, G2⟩ := end_world HO.out HR.out hlt (.int .i64 0) (.int .i64 0)
        refine bodyPost_ret (v := .tuple #[.bool ((s[k].toNat : Int) == 1), .agg #[.int .i64 0, .int .i64 0]]) ?_ rfl ?_
        · simp [results, Tryd.results17, go_sem, r.1, r.2]
        · exact good_end HB.out G1 G2

theorem ref_End_any (s : ByteArray) (k g : Nat) (w : World) (h : Rdr w g s k) : Calls Tryd.prog 23 #[.pointer (some ⟨g, 0, none⟩)] w fun e w' => e = .returned (.agg #[.int .i64 (if k < s.size then 4 else 0 : Nat), .int .i64 (if k < s.size then k else 0 : Nat)]) ∧ Off g w w' ∧ Rdr w' g s k := by
  have H := Lib.hid h
  have hlt := h.lt
  have d0 : ∀ o, (w.alloc o).cell? ⟨g, 0, none⟩ = some (.string s) := fun o => (h.alloc o).c0
  have d1 : ∀ o, (w.alloc o).cell? ⟨g, 1, none⟩ = some (.int .i64 k) := fun o => (h.alloc o).c1
  clear h
  by_cases hk2 : k < s.size
  · have hq : decide (k < s.size) = true := decide_eq_true hk2
    rw [if_pos hk2, if_pos hk2]
    clear hk2
    go_enter Tryd.func23, Tryd.ntmps23
    go_wp2
    go_quiet (fail)
    have F3 := Lib.hid (fault_any s k g 4 ((none36 w).drewN nq) ((H.out.alloc _).drewN _))
    go_wp2_with (go_at_call 36; (with_reducible refine F3.out.mono ?_); rintro e w5 ⟨rfl, rfl⟩)
    exact bodyPost_ret (v := .agg #[.int .i64 4, .int .i64 k]) (by simp [results, Tryd.results23, go_sem]) rfl ⟨rfl, ((((Off.refl _ _).alloc _).drewN _).setOwn (Nat.le_refl _) _).setOwn (Nat.le_refl _) _ |>.alloc _, ((((H.out.alloc _).drewN _).other (show w.heap.size ≠ g by omega) _).other (show w.heap.size ≠ g by omega) _).alloc _⟩
  · have hq : decide (k < s.size) = false := decide_eq_false hk2
    rw [if_neg hk2, if_neg hk2]
    clear hk2
    go_enter Tryd.func23, Tryd.ntmps23
    go_wp2
    go_quiet (fail)
    go_wp2
    exact bodyPost_ret (v := .agg #[.int .i64 0, .int .i64 0]) (by simp [results, Tryd.results23, go_sem]) rfl ⟨rfl, ((((Off.refl _ _).alloc _).drewN _).setOwn (Nat.le_refl _) _).setOwn (Nat.le_refl _) _, (((H.out.alloc _).drewN _).other (show w.heap.size ≠ g by omega) _).other (show w.heap.size ≠ g by omega) _⟩
end Go.Proofs.YtllkflbkndfdeaaDoor
