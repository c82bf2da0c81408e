/-
  The reference's reader: texts.
-/
import Derived.Test.YtllkflbkndfdeaaDoorEvCb
namespace Go.Proofs.YtllkflbkndfdeaaDoor
open Go Go.RowKit Go.Lib

def txtR (s : ByteArray) (k : Nat) (most : Int) : Value := if badX s k most = 0 then txtV s k else .string ⟨#[]⟩
def nxtXR (s : ByteArray) (k : Nat) (most : Int) : Nat := if badX s k most = 0 then nxtX s k else k
theorem badX_R {s : ByteArray} {k : Nat} {most : Int} {b : Nat} (h : badX s k most = b) (hb : b ≠ 0) : badX s k most = b ∧ txtR s k most = .string ⟨#[]⟩ ∧ nxtXR s k most = k :=
  ⟨h, by unfold txtR; rw [if_neg (by omega)], by unfold nxtXR; rw [if_neg (by omega)]⟩
theorem goodX_R {s : ByteArray} {k : Nat} {most : Int} (h : badX s k most = 0) : badX s k most = 0 ∧ txtR s k most = txtV s k ∧ nxtXR s k most = nxtX s k :=
  ⟨h, by unfold txtR; rw [if_pos h], by unfold nxtXR; rw [if_pos h]⟩
/-- A reader's block beside the one that moved. -/
theorem Rdr.off {w w' : World} {g q : Nat} {s : ByteArray} {a : Nat} (h : Rdr w g s a) (ho : Off q w w') (hne : g ≠ q) : Rdr w' g s a :=
  ⟨(ho.cell (p := ⟨g, 0, none⟩) h.lt hne).trans h.c0, (ho.cell (p := ⟨g, 1, none⟩) h.lt hne).trans h.c1, (ho.frozen (p := ⟨g, 1, none⟩) h.lt hne).trans h.f1, Nat.lt_of_lt_of_le h.lt ho.size⟩
/-- What moved a block that is new moved nothing that was there. -/
theorem Off.new {g q : Nat} {w w1 w' : World} (h : Off g w w1) (ho : Off q w1 w') (hq : w.heap.size ≤ q) : Off g w w' :=
  ⟨ho.os.trans h.os, ho.tape.trans h.tape, ho.output.trans h.output, Nat.le_trans h.size ho.size, fun k hk hg => (ho.block k (Nat.lt_of_lt_of_le hk h.size) (by omega)).trans (h.block k hk hg)⟩
/-- The result's variable, at its block. -/
structure Var2 (w : World) (b : Nat) (x y : Value) : Prop where
  c0 : w.cell? ⟨b, 0, none⟩ = some x
  c1 : w.cell? ⟨b, 1, none⟩ = some y
  f0 : w.frozen? ⟨b, 0, none⟩ = false
  f1 : w.frozen? ⟨b, 1, none⟩ = false
  lt : b < w.heap.size
theorem Var2.alloc {w : World} {b : Nat} {x y : Value} (h : Var2 w b x y) (o : Obj) : Var2 (w.alloc o) b x y :=
  ⟨by rw [World.cell?_alloc_lt _ _ _ h.lt]; exact h.c0, by rw [World.cell?_alloc_lt _ _ _ h.lt]; exact h.c1, by rw [World.frozen?_alloc_old _ _ _ (Nat.ne_of_lt h.lt)]; exact h.f0, by rw [World.frozen?_alloc_old _ _ _ (Nat.ne_of_lt h.lt)]; exact h.f1, by simp; have := h.lt; omega⟩
theorem Var2.drewN {w : World} {b : Nat} {x y : Value} (h : Var2 w b x y) (n : Nat) : Var2 (w.drewN n) b x y := by
  induction n with
  | zero => exact h
  | succ n ih => exact ⟨ih.c0, ih.c1, ih.f0, ih.f1, ih.lt⟩
theorem Var2.off {w w' : World} {b q : Nat} {x y : Value} (h : Var2 w b x y) (ho : Off q w w') (hne : b ≠ q) : Var2 w' b x y :=
  ⟨(ho.cell (p := ⟨b, 0, none⟩) h.lt hne).trans h.c0, (ho.cell (p := ⟨b, 1, none⟩) h.lt hne).trans h.c1, (ho.frozen (p := ⟨b, 0, none⟩) h.lt hne).trans h.f0, (ho.frozen (p := ⟨b, 1, none⟩) h.lt hne).trans h.f1, Nat.lt_of_lt_of_le h.lt ho.size⟩
theorem Var2.other {w : World} {b : Nat} {x y : Value} (h : Var2 w b x y) {q : Addr} (hq : q.block ≠ b) (u : Value) : Var2 (w.setCell q u) b x y := by
  have h0 : q ≠ ⟨b, 0, none⟩ := by rintro rfl; exact hq rfl
  have h1 : q ≠ ⟨b, 1, none⟩ := by rintro rfl; exact hq rfl
  refine ⟨?_, ?_, ?_, ?_, ?_⟩
  · rw [World.cell?_setCell_other _ _ _ _ h0]; exact h.c0
  · rw [World.cell?_setCell_other _ _ _ _ h1]; exact h.c1
  · simpa using h.f0
  · simpa using h.f1
  · simpa [World.setCell] using h.lt
theorem var2_new (w : World) (x y : Value) (t : TypeId) : Var2 (w.alloc (.cells #[x, y] t)) w.heap.size x y := ⟨by simp, by simp, by simp, by simp, by simp⟩

theorem end_world0 {w w4 : World} {g x : Nat} {s : ByteArray} (hO : Off g w w4) (hR : Rdr w4 g s x) (hg : g < w.heap.size) (u v : Value) :
    Off g w ((w4.setCell ⟨w.heap.size, 0, none⟩ u).setCell ⟨w.heap.size, 1, none⟩ v) ∧ Rdr ((w4.setCell ⟨w.heap.size, 0, none⟩ u).setCell ⟨w.heap.size, 1, none⟩ v) g s x :=
  ⟨(hO.setOwn (Nat.le_refl _) _).setOwn (Nat.le_refl _) _, (hR.other (show w.heap.size ≠ g by omega) _).other (show w.heap.size ≠ g by omega) _⟩

set_option maxRecDepth 100000 in
set_option maxHeartbeats 3200000 in
theorem ref_Text_any (s : ByteArray) (k g : Nat) (most : Int) (w : World) (hm1 : -9223372036854775808 ≤ most) (hm2 : most ≤ 9223372036854775807) (hs : s.size ≤ 140737488355328) (hk : k ≤ s.size) (h : Rdr w g s k) :
    Calls Tryd.prog 19 #[.pointer (some ⟨g, 0, none⟩), .int .i64 most] w (FEnd (badX s k most) (txtR s k most) (nxtXR s k most) k g s w) := by
  have H := Lib.hid h
  have hlt := h.lt
  have d0 : ∀ o, (w.alloc o).cell? ⟨g, 0, none⟩ = some (.string s) := fun o => (h.alloc o).c0
  have d1 : ∀ o, (w.alloc o).cell? ⟨g, 1, none⟩ = some (.int .i64 k) := fun o => (h.alloc o).c1
  clear h
  by_cases h1 : most < 0
  · have HB := Lib.hid (badX_R (s := s) (k := k) (most := most) (b := 2) (by unfold badX; rw [if_pos h1]) (by omega))
    have F2 := Lib.hid (fault_any s k g 2 (none36 w) (H.out.alloc _))
    go_enter Tryd.func19, Tryd.ntmps19
    go_wp2_with (go_at_call 36; (with_reducible refine F2.out.mono ?_); rintro e w5 ⟨rfl, rfl⟩)
    exact bodyPost_ret (v := .tuple #[.string ⟨#[]⟩, .agg #[.int .i64 2, .int .i64 k]]) (by simp [results, Tryd.results19, go_sem]) rfl (bad_end (b := 2) HB.out (by omega) (((Off.refl _ _).alloc _).alloc _) ((H.out.alloc _).alloc _))
  · have hm0 : (0 : Int) ≤ most := by omega
    go_enter Tryd.func19, Tryd.ntmps19
    go_wp2
    go_region
    have V1 : Var2 (((w.alloc (.cells #[.int .i64 0, .int .i64 0] 36)).alloc (.cells #[.string s, .int .i64 k] 27)).drewN 1) w.heap.size (.int .i64 0) (.int .i64 0) := ((var2_new w _ _ 36).alloc _).drewN 1
    have R1 : Rdr (((w.alloc (.cells #[.int .i64 0, .int .i64 0] 36)).alloc (.cells #[.string s, .int .i64 k] 27)).drewN 1) g s k := ((H.out.alloc _).alloc _).drewN 1
    have Q1 : Rdr (((w.alloc (.cells #[.int .i64 0, .int .i64 0] 36)).alloc (.cells #[.string s, .int .i64 k] 27)).drewN 1) (w.heap.size + 1) s k := Rdr.drewN ⟨by simp, by simp, by simp, by simp⟩ 1
    have O1 : Off g w (((w.alloc (.cells #[.int .i64 0, .int .i64 0] 36)).alloc (.cells #[.string s, .int .i64 k] 27)).drewN 1) := ((((Off.refl g w).alloc _).alloc _).drewN 1)
    obtain ⟨w1, hw1⟩ : ∃ w1, w1 = ((w.alloc (.cells #[.int .i64 0, .int .i64 0] 36)).alloc (.cells #[.string s, .int .i64 k] 27)).drewN 1 := ⟨_, rfl⟩
    rw [← hw1] at V1 R1 Q1 O1
    rw [show ((w.alloc (.cells #[.int .i64 0, .int .i64 0] 36)).alloc (.cells #[.string s, .int .i64 k] 27)).drew = w1 from hw1.symm]
    clear hw1 d0 d1
    have K := Lib.hid (ref_U_any s k (w.heap.size + 1) w1 hs hk Q1)
    have HV1 := Lib.hid V1
    have HR1 := Lib.hid R1
    have HO1 := Lib.hid O1
    clear V1 R1 Q1 O1
    have hn := num_lt s k
    obtain ⟨n, hne⟩ : ∃ n, n = num s k := ⟨_, rfl⟩
    obtain ⟨c, hce⟩ : ∃ c, c = bad s k := ⟨_, rfl⟩
    rcases bad_cases s k with hb | ⟨hb, hb0, hbx, _⟩
    · have hx := nxt_le (s := s) hk
      obtain ⟨x, hxx⟩ : ∃ x, x = nxt s k := ⟨_, rfl⟩
      have K1 : Hid (Calls Tryd.prog 10 #[.pointer (some ⟨w.heap.size + 1, 0, none⟩)] w1 fun e w' => e = .returned (.tuple #[.int .u64 n, .agg #[.int .i64 0, .int .i64 0]]) ∧ Off (w.heap.size + 1) w1 w' ∧ Rdr w' (w.heap.size + 1) s x) := Lib.hid (K.out.mono fun e w' ⟨h1, h2, h3⟩ => ⟨by rw [h2, hb, ← hne]; rfl, h1, by rw [hxx]; exact h3⟩)
      have HX : Hid (badX s k most = if most < (n : Int) then 4 else if s.size < x + n then 3 else 0) := Lib.hid (by unfold badX; rw [if_neg (by omega), if_neg (by omega), hne, hxx])
      have HV : Hid (txtV s k = .string (s.extract x (x + n)) ∧ nxtX s k = x + n) := Lib.hid ⟨by unfold txtV; rw [hne, hxx], by unfold nxtX; rw [hne, hxx]⟩
      rw [← hne] at hn
      rw [← hxx] at hx
      clear K hb hce hne hxx
      have W0 : IntKind.u64.wrap most = most := IntWalk.u64_in _ (by omega)
      have FA := fun c W hW => fault_any s k g c W hW
      have HFA := Lib.hid FA
      clear FA
      go_upto_region 5 with (go_at_call 10; (with_reducible refine K1.out.mono ?_); rintro e w2 ⟨rfl, ho, hq2⟩)
      have V2 := (HV1.out.off ho (by omega)).alloc (.cells #[.int .i64 0, .int .i64 0] 36)
      have V8 := var2_new w2 (.int .i64 0) (.int .i64 0) 36
      have R2 := (HR1.out.off ho (by omega)).alloc (.cells #[.int .i64 0, .int .i64 0] 36)
      have HO2 := Lib.hid ((HO1.out.new ho (by omega)).alloc (.cells #[.int .i64 0, .int .i64 0] 36))
      have Q2 := hq2.alloc (.cells #[.int .i64 0, .int .i64 0] 36)
      obtain ⟨w3, hw3⟩ : ∃ w3, w3 = w2.alloc (.cells #[.int .i64 0, .int .i64 0] 36) := ⟨_, rfl⟩
      obtain ⟨b8, hb8⟩ : ∃ b8, b8 = w2.heap.size := ⟨_, rfl⟩
      rw [← hw3] at V2 V8 HO2 R2 Q2 ⊢
      rw [← hb8] at V8 ⊢
      have l0 := V8.c0
      have j0 : ∀ o n, ((w3.drewN n).alloc o).cell? ⟨w.heap.size, 0, none⟩ = some (.int .i64 0) := fun o n => ((V2.drewN n).alloc o).c0
      have j1 : ∀ o n, ((w3.drewN n).alloc o).cell? ⟨w.heap.size, 1, none⟩ = some (.int .i64 0) := fun o n => ((V2.drewN n).alloc o).c1
      have j2 : ∀ o n, ((w3.drewN n).alloc o).frozen? ⟨w.heap.size, 0, none⟩ = false := fun o n => ((V2.drewN n).alloc o).f0
      have j3 : ∀ o n, ((w3.drewN n).alloc o).frozen? ⟨w.heap.size, 1, none⟩ = false := fun o n => ((V2.drewN n).alloc o).f1
      have p0 : ∀ o, (w3.alloc o).cell? ⟨w.heap.size, 0, none⟩ = some (.int .i64 0) := fun o => (V2.alloc o).c0
      have p1 : ∀ o, (w3.alloc o).cell? ⟨w.heap.size, 1, none⟩ = some (.int .i64 0) := fun o => (V2.alloc o).c1
      have p2 : ∀ o, (w3.alloc o).frozen? ⟨w.heap.size, 0, none⟩ = false := fun o => (V2.alloc o).f0
      have p3 : ∀ o, (w3.alloc o).frozen? ⟨w.heap.size, 1, none⟩ = false := fun o => (V2.alloc o).f1
      have g0 := R2.c0
      have g1 := R2.c1
      have q0 := Q2.c0
      have q1 := Q2.c1
      have HR2 := Lib.hid R2
      have HV2 := Lib.hid V2
      have HQ2 := Lib.hid Q2
      clear hw3 hb8 V2 V8 ho hq2 K1 HV1 HR1 HO1 R2 Q2
      by_cases h4 : most < (n : Int)
      · have HB := Lib.hid (badX_R (s := s) (k := k) (most := most) (b := 4) (by rw [HX.out, if_pos h4]) (by omega))
        clear HX HV
        go_wp2_with (go_at_call 36; (with_reducible refine (HFA.out 4 _ HR2.out).mono ?_); rintro e w5 ⟨rfl, rfl⟩)
        refine bodyPost_ret (v := .tuple #[.string ⟨#[]⟩, .agg #[.int .i64 4, .int .i64 k]]) ?_ rfl ?_
        · have r := res_two (.int .i64 4) (.int .i64 k) (p0 (.cells #[.int .i64 4, .int .i64 k] 36)) (p1 _)
          simp [results, Tryd.results19, go_sem, r.1, r.2]
        · obtain ⟨G1, G2⟩ := end_world0 (HO2.out.alloc (.cells #[.int .i64 4, .int .i64 k] 36)) (HR2.out.alloc _) hlt (.int .i64 4) (.int .i64 k)
          exact bad_end (b := 4) HB.out (by omega) G1 G2
      · have W1 : IntKind.i64.wrap ((s.size : Int) - (x : Int)) = (s.size : Int) - (x : Int) := IntWalk.i64_in _ (by omega)
        have W3 : IntKind.u64.wrap ((s.size : Int) - (x : Int)) = (s.size : Int) - (x : Int) := IntWalk.u64_in _ (by omega)
        by_cases h3 : s.size < x + n
        · have HB := Lib.hid (badX_R (s := s) (k := k) (most := most) (b := 3) (by rw [HX.out, if_neg h4, if_pos h3]) (by omega))
          have hq : decide ((s.size : Int) - (x : Int) < (n : Int)) = true := decide_eq_true (by omega)
          clear HX HV h3
          go_wp2
          go_quiet (fail)
          go_wp2_with (go_at_call 36; (with_reducible refine (HFA.out 3 _ (HR2.out.drewN nq)).mono ?_); rintro e w5 ⟨rfl, rfl⟩)
          refine bodyPost_ret (v := .tuple #[.string ⟨#[]⟩, .agg #[.int .i64 3, .int .i64 k]]) ?_ rfl ?_
          · have r := res_two (.int .i64 3) (.int .i64 k) (j0 (.cells #[.int .i64 3, .int .i64 k] 36) nq) (j1 _ nq)
            simp [results, Tryd.results19, go_sem, r.1, r.2]
          · obtain ⟨G1, G2⟩ := end_world0 ((HO2.out.drewN nq).alloc (.cells #[.int .i64 3, .int .i64 k] 36)) ((HR2.out.drewN nq).alloc _) hlt (.int .i64 3) (.int .i64 k)
            exact bad_end (b := 3) HB.out (by omega) G1 G2
        · have HB := Lib.hid (goodX_R (s := s) (k := k) (most := most) (by rw [HX.out, if_neg h4, if_neg h3]))
          have hq : decide ((s.size : Int) - (x : Int) < (n : Int)) = false := decide_eq_false (by omega)
          clear HX
          go_wp2
          go_quiet (fail)
          go_wp2
          have X1 : IntKind.i64.wrap (n : Int) = (n : Int) := IntWalk.i64_in _ (by omega)
          have X2 : IntKind.i64.wrap ((x : Int) + (n : Int)) = (x : Int) + (n : Int) := IntWalk.i64_in _ (by omega)
          have b1 : (0 : Int) ≤ (x : Int) := by omega
          have b2 : (x : Int) ≤ (x : Int) + (n : Int) := by omega
          have b3 : (x : Int) + (n : Int) ≤ (s.size : Int) := by omega
          have t0 : ∀ m v, ((w3.drewN m).setCell ⟨g, 1, none⟩ v).cell? ⟨w.heap.size, 0, none⟩ = some (.int .i64 0) := fun m v => ((HV2.out.drewN m).other (show g ≠ w.heap.size by omega) v).c0
          have t1 : ∀ m v, ((w3.drewN m).setCell ⟨g, 1, none⟩ v).cell? ⟨w.heap.size, 1, none⟩ = some (.int .i64 0) := fun m v => ((HV2.out.drewN m).other (show g ≠ w.heap.size by omega) v).c1
          have t2 := HV2.out.f0
          have t3 := HV2.out.f1
          have t4 := HR2.out.f1
          obtain ⟨n1, hn1⟩ : ∃ n1, n1 = nq := ⟨_, rfl⟩
          subst hn1
          go_quiet (fail)
          go_wp2
          refine bodyPost_ret (v := .tuple #[.string (s.extract x (x + n)), .agg #[.int .i64 0, .int .i64 0]]) ?_ rfl ?_
          · have r := res_two (.int .i64 0) (.int .i64 0) (t0 (n1 + nq) (.int .i64 ((x : Int) + (n : Int)))) (t1 (n1 + nq) _)
            simp [results, Tryd.results19, go_sem, r.1, r.2]
          · obtain ⟨G1, G2⟩ := end_world0 ((HO2.out.drewN (n1 + nq)).set 1 (.int .i64 ((x + n : Nat) : Int))) ((HR2.out.drewN (n1 + nq)).set (x + n)) hlt (.int .i64 0) (.int .i64 0)
            have hcast : (x : Int) + (n : Int) = ((x + n : Nat) : Int) := by omega
            rw [hcast]
            exact good_end ⟨HB.out.1, by rw [HB.out.2.1]; exact HV.out.1, by rw [HB.out.2.2]; exact HV.out.2⟩ G1 G2
    · have K1 : Hid (Calls Tryd.prog 10 #[.pointer (some ⟨w.heap.size + 1, 0, none⟩)] w1 fun e w' => e = .returned (.tuple #[.int .u64 0, .agg #[.int .i64 c, .int .i64 k]]) ∧ Off (w.heap.size + 1) w1 w') := Lib.hid (K.out.mono fun e w' ⟨h1, h2, h3⟩ => ⟨by rw [h2, hb0, ← hce, if_neg (by omega)]; rfl, h1⟩)
      have HB := Lib.hid (badX_R (s := s) (k := k) (most := most) (b := c) (by unfold badX; rw [if_neg (by omega), if_pos hb, hce]) (by omega))
      have hcn : ((c : Int) != 0) = true := by simp; omega
      have hc0 := Lib.hid (show c ≠ 0 by omega)
      clear K hb hce hne hn hb0 hbx
      go_wp2_with (go_at_call 10; (with_reducible refine K1.out.mono ?_); rintro e w2 ⟨rfl, ho⟩)
      have V2 := (HV1.out.off ho (by omega)).alloc (.cells #[.int .i64 c, .int .i64 k] 36)
      have V8 := var2_new w2 (.int .i64 c) (.int .i64 k) 36
      have HR2 := Lib.hid ((HR1.out.off ho (by omega)).alloc (.cells #[.int .i64 c, .int .i64 k] 36))
      have HO2 := Lib.hid ((HO1.out.new ho (by omega)).alloc (.cells #[.int .i64 c, .int .i64 k] 36))
      obtain ⟨w3, hw3⟩ : ∃ w3, w3 = w2.alloc (.cells #[.int .i64 c, .int .i64 k] 36) := ⟨_, rfl⟩
      obtain ⟨b8, hb8⟩ : ∃ b8, b8 = w2.heap.size := ⟨_, rfl⟩
      rw [← hw3] at V2 V8 HR2 HO2 ⊢
      rw [← hb8] at V8 ⊢
      have j0 := V2.c0
      have j1 := V2.c1
      have j2 := V2.f0
      have j3 := V2.f1
      have l0 := V8.c0
      have l1 := V8.c1
      clear hw3 hb8 V2 V8 ho
      go_region
      all_goals
        go_wp2
        have r := res_two (.int .i64 c) (.int .i64 k) j0 j1
        obtain ⟨G1, G2⟩ := end_world HO2.out HR2.out hlt (.int .i64 c) (.int .i64 k)
        refine bodyPost_ret (v := .tuple #[.string ⟨#[]⟩, .agg #[.int .i64 c, .int .i64 k]]) ?_ rfl ?_
        · simp [results, Tryd.results19, go_sem, r.1, r.2]
        · exact bad_end HB.out hc0.out G1 G2
end Go.Proofs.YtllkflbkndfdeaaDoor
