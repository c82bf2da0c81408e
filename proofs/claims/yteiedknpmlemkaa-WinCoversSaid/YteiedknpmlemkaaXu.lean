/-
  The walk of WinCovers.
-/
import Derived.Test.YteiedknpmlemkaaXf
import Derived.Test.YteiedknpmlemkaaXt
namespace Go.Proofs.Yteiedknpmlemkaa
open Go Go.RowKit Go.Lib Go.Shelf

/-- A kind in its box. -/
structure KindAt (W : World) (g : Nat) (a b c : Int) : Prop where
  h : W.heap[g]? = some (.cells #[.int .u8 a, .int .u32 b, .int .u8 c] 26 (0, 0))
theorem KindAt.c0 {W : World} {g : Nat} {a b c : Int} (h : KindAt W g a b c) : W.cell? ⟨g, 0, none⟩ = some (.int .u8 a) := by simp [World.cell?, h.h]
theorem KindAt.c1 {W : World} {g : Nat} {a b c : Int} (h : KindAt W g a b c) : W.cell? ⟨g, 1, none⟩ = some (.int .u32 b) := by simp [World.cell?, h.h]
theorem KindAt.c2 {W : World} {g : Nat} {a b c : Int} (h : KindAt W g a b c) : W.cell? ⟨g, 2, none⟩ = some (.int .u8 c) := by simp [World.cell?, h.h]
theorem KindAt.f0 {W : World} {g : Nat} {a b c : Int} (h : KindAt W g a b c) : W.frozen? ⟨g, 0, none⟩ = false := by simp [World.frozen?, h.h]
theorem win_0 (x y : Int) (w : World) : (Instr.index 34 (.agg #[.int .i64 x, .int .i64 y]) (.int .i64 0)).run Try.prog w = .ok (.int .i64 x) w := by kernel_rfl
theorem win_1 (x y : Int) (w : World) : (Instr.index 34 (.agg #[.int .i64 x, .int .i64 y]) (.int .i64 1)).run Try.prog w = .ok (.int .i64 y) w := by kernel_rfl
theorem has_yes (x y t : Int) (h : x ≤ t ∧ t < y) (W : World) : Calls Try.prog 20 #[.agg #[.int .i64 x, .int .i64 y], .int .i64 t] W fun e w' => e = .returned (.bool true) ∧ Below W.heap.size W w' :=
  (has_any (x, y) t W).mono fun e w' hh => ⟨by rw [hh.1]; simp [h.1, h.2], hh.2⟩
theorem has_no (x y t : Int) (h : ¬ (x ≤ t ∧ t < y)) (W : World) : Calls Try.prog 20 #[.agg #[.int .i64 x, .int .i64 y], .int .i64 t] W fun e w' => e = .returned (.bool false) ∧ Below W.heap.size W w' :=
  (has_any (x, y) t W).mono fun e w' hh => ⟨by
    rw [hh.1]
    congr 2
    by_cases h1 : x ≤ t
    · have h2 : ¬ t < y := fun q => h ⟨h1, q⟩
      simp [h2]
    · simp [h1], hh.2⟩

set_option maxRecDepth 100000 in
set_option maxHeartbeats 12800000 in
theorem covers_4 (q0 s v t : Int) (B : Int) (hB : 1 ≤ B) (hB2 : B ≤ 1073741824) (hq0 : 0 ≤ q0 ∧ q0 ≤ 255) (hs : 0 ≤ s ∧ s ≤ 4294967295) (hv : 0 ≤ v ∧ v ≤ 255) (hD : draftM ⟨q0 % 3, s, v⟩ = ⟨4, B, 0, 0⟩)
    (hOf : ∀ t, isT t → ofM ⟨4, B, 0, 0⟩ t = slideM 1 t B B) (w : World) :
    Calls Try.prog 5 #[.agg #[.int .u8 q0, .int .u32 s, .int .u8 v], .int .i64 t] w fun e w' => e = .returned (.bool true) ∧ Below w.heap.size w w' := by
  have t1 : q0.tmod 3 = q0 % 3 := Int.tmod_eq_emod_of_nonneg (by omega)
  have b1 : 0 ≤ q0 % 3 ∧ q0 % 3 ≤ 2 := by omega
  obtain ⟨q3, hq3⟩ : ∃ q3, q0 % 3 = q3 := ⟨_, rfl⟩
  rw [hq3] at t1 b1 hD
  obtain ⟨T, hT⟩ : ∃ T, t.tmod 1152921504606846977 = T := ⟨_, rfl⟩
  have hT1 : -1152921504606846977 < t.tmod 1152921504606846977 := Int.lt_tmod_of_pos _ (by omega)
  have hT2 : t.tmod 1152921504606846977 < 1152921504606846977 := Int.tmod_lt_of_pos _ (by omega)
  rw [hT] at hT1 hT2
  have hTT : isT T := by unfold isT; omega
  have HDr := Lib.hid hD
  have HT := Lib.hid hTT
  have HOK : Hid (KindD.ok ⟨q3, s, v⟩) := Lib.hid (by unfold KindD.ok; exact ⟨⟨b1.1, by dsimp only; omega⟩, hs, hv⟩)
  have HOF := Lib.hid hOf
  obtain ⟨W0, hW0⟩ : ∃ W0, w.alloc (.cells #[.int .u8 q0, .int .u32 s, .int .u8 v] 26) = W0 := ⟨_, rfl⟩
  have s0 : W0.heap.size = w.heap.size + 1 := by rw [← hW0]; simp
  have B0 : Below w.heap.size w W0 := by rw [← hW0]; exact (Below.refl _ _).alloc (Nat.le_refl _) _
  have K0 : Hid (KindAt W0 w.heap.size q0 s v) := Lib.hid ⟨by rw [← hW0]; exact World.alloc_heap_new w _⟩
  have HB0 := Lib.hid B0
  have hwt : IntKind.i64.wrap T = T := IntWalk.i64_in _ (by omega)
  clear B0 hD hq3 hTT hOf
  go_enter Try.func5, Try.ntmps5
  go_wp2_with (first
    | (go_at_call 16
       (with_reducible refine (works _).mono ?_)
       rintro e w1 ⟨rfl, p1⟩
       have hk1 : KindAt w1 w.heap.size q0 s v := ⟨(p1.block _ (by omega)).trans K0.out.h⟩
       have k0 := hk1.c0
       have k1 := hk1.c1
       have k2 := hk1.c2
       have kf := hk1.f0
       have HB1 := Lib.hid p1
       clear p1 hk1)
    | (go_at_call 8
       (with_reducible refine (drafted_any ⟨q3, s, v⟩ HOK.out _).mono ?_)
       rw [HDr.out]
       rintro e w2 ⟨rfl, p2⟩
       have HB2 : Hid (Below w.heap.size w1 w2) := Lib.hid (((Below.refl _ _).setCell (p := ⟨w.heap.size, 0, none⟩) (Nat.le_refl _) _).trans (p2.mono (by have := HB1.out.size; simp [World.setCell]; omega)))
       clear p2)
    | (go_at_call 10
       (with_reducible refine (of_any ⟨4, B, 0, 0⟩ T _).mono ?_)
       rw [HOF.out T HT.out]
       rintro e w5 ⟨v5, rfl, r1, r2, p5⟩
       have s4 : (w2.alloc (.cells #[.int .i64 4, .int .i64 B, .int .i64 0, .int .i64 0] 23)).heap.size = w2.heap.size + 1 := by simp
       have HO4 : Hid (OpAt (w2.alloc (.cells #[.int .i64 4, .int .i64 B, .int .i64 0, .int .i64 0] 23)) w2.heap.size ⟨4, B, 0, 0⟩) := Lib.hid (opAt_new w2 ⟨4, B, 0, 0⟩ 23)
       have HB4 : Hid (Below w.heap.size w (w2.alloc (.cells #[.int .i64 4, .int .i64 B, .int .i64 0, .int .i64 0] 23))) := Lib.hid ((HB0.out.trans ((HB1.out.mono (by omega)).trans HB2.out)).alloc (by have := HB0.out.size; have := HB1.out.size; have := HB2.out.size; omega) _)
       obtain ⟨A5, c5, hA5, hA6⟩ := wins_of_row r1
       rw [slideM_len] at hA5
       subst hA5
       have HL5 := Lib.hid hA6
       obtain ⟨o0, o1, o2, o3⟩ := HO4.out.same (W' := w5) (p5.block _ (by omega))
       dsimp only at o0 o1 o2 o3
       have HO5 : Hid (OpAt w5 w2.heap.size ⟨4, B, 0, 0⟩) := Lib.hid (HO4.out.same (p5.block _ (by omega)))
       have HB5 := Lib.hid (HB4.out.trans (p5.mono HB4.out.size))
       have hz5 : w2.heap.size < w5.heap.size := by have := p5.size; omega
       clear p5 r1 r2 hA6))
  have HQ : Hid (B = ((1 : Nat) : Int) * B) := Lib.hid (by simp)
  go_loopw [9] (fun i wr => ∃ k : Nat, k ≤ 1 ∧ i = .int .i64 k ∧ Below w5.heap.size w5 wr) (fun i _ => 1 - (intOf i).toNat)
  case atStart => first | exact ⟨0, Nat.zero_le _, rfl, Below.refl _ _⟩ | exact ⟨0, Nat.zero_le _, rfl, below_drewN (Below.refl _ _) _⟩
  case round =>
    rename World => wu
    obtain ⟨k, hk, rfl, hbu⟩ := hrel
    have HBU := Lib.hid hbu
    have hzu := hbu.size
    clear hbu
    by_cases hlt : k < 1
    · obtain ⟨g, hgA, hgl, hcs⟩ := HL5.out.resolve_left (by simp [slideM])
      subst hgA
      have G := grid_at HT.out hB2 hB HQ.out (Nat.le_refl _) k hlt
      have hcell := hcs k _ (slideM_get hlt)
      obtain ⟨x0, hx0⟩ : ∃ x0, flo T B - B + B + k * B = x0 := ⟨_, rfl⟩
      rw [hx0] at G hcell
      have HX0 := Lib.hid hx0
      obtain ⟨g1, g2, g3, g4, g5, g6, g7, g8, g9⟩ := G
      obtain ⟨y0, hy0⟩ : ∃ y0, x0 + B = y0 := ⟨_, rfl⟩
      rw [hy0] at g2 g8 g9 hcell
      have hwA : IntKind.i64.wrap (y0 - x0) = B := by rw [← hy0, show x0 + B - x0 = B by omega]; exact IntWalk.i64_in _ (by omega)
      have HY0 := Lib.hid hy0
      have HC := Lib.hid hcell
      have G8 := Lib.hid g8
      have G9 := Lib.hid g9
      have G4 := Lib.hid g4
      have G5 := Lib.hid g5
      clear hx0 hy0 hcell g8 g9 g4 g5
      obtain ⟨c0, c1⟩ := HC.out.same (W' := wu) (HBU.out.block _ hgl)
      dsimp only at c0 c1
      have hk0 : (0 : Int) ≤ (k : Int) := by omega
      have hk1 : (k : Int) < 1 := by omega
      obtain ⟨wa, hwa⟩ : ∃ wa, wu.alloc (.cells #[.int .i64 x0, .int .i64 y0] 34) = wa := ⟨_, rfl⟩
      have ba : Below wu.heap.size wu wa := by rw [← hwa]; exact (Below.refl _ _).alloc (Nat.le_refl _) _
      have sa : wa.heap.size = wu.heap.size + 1 := by rw [← hwa]; simp
      have ta : wa.heap[wu.heap.size]? = some (.cells #[.int .i64 x0, .int .i64 y0] 34 (0, 0)) := by rw [← hwa]; exact World.alloc_heap_new _ _
      have HTA := Lib.hid ta
      have z0 := cells_c0 ta
      have z1 := cells_c1 ta
      have HBA : Hid (Below w5.heap.size w5 wa) := Lib.hid (HBU.out.trans (ba.mono hzu))
      clear ba ta
      have HXX : Hid (∀ w', Below wa.heap.size wa w' → w'.cell? ⟨wu.heap.size, 0, none⟩ = some (.int .i64 x0) ∧ w'.cell? ⟨wu.heap.size, 1, none⟩ = some (.int .i64 y0) ∧ w'.cell? ⟨w2.heap.size, 1, none⟩ = some (.int .i64 B)) := Lib.hid (fun w' h => by
          have e6 : w'.heap[wu.heap.size]? = some (.cells #[.int .i64 x0, .int .i64 y0] 34 (0, 0)) := (h.block _ (by omega)).trans HTA.out
          have q6 : Below w5.heap.size w5 w' := HBA.out.trans (h.mono (by omega))
          exact ⟨cells_c0 e6, cells_c1 e6, (HO5.out.same (W' := w') (q6.block _ hz5)).c1⟩)
      go_wp2_with fail
      go_cut [84] from 54 (fun v wx => v = .bool false ∧ Below wa.heap.size wa wx)
      case first =>
        have HK0 : Hid (k = 0) := Lib.hid (by omega)
        refine Go.Ev.tab_region (P := Try.prog) (tab := raTab x0 y0 B T B 0 k 0 1 c5 g wu.heap.size w2.heap.size) (opsT := r16) (id := 16) (n := 166) (last := 30) (d := 84) (val := .bool false) (W := wa) (by kernel_rfl) (by kernel_rfl) (by kernel_rfl) (by kernel_rfl) (by rfl) (Below.refl _ _) ra_mono (ra_steps ?h16 HK0.out) (by kernel_rfl) rfl ?hQ
        case h16 =>
          exact { t10 := rfl, t1 := rfl, t9 := rfl, t6 := rfl, t7 := rfl, t5 := rfl, c0 := fun w' h => (HXX.out w' h).1, c1 := fun w' h => (HXX.out w' h).2.1, cA := fun w' h => (HXX.out w' h).2.2, call := fun w' _ => has_yes _ _ _ ⟨g1, g2⟩ _, wA := hwA }
        case hQ =>
          intro a9 w9 hd9 hs9 h84 ho9 hS9
          obtain ⟨tm, df⟩ := a9
          dsimp only at hd9 hs9 h84 ho9
          obtain ⟨u, e9, hu⟩ := frame_let 166 54 31 (t := tm) hs9 rfl (by decide) (fun i hi => ho9 i (within_of (lo := 54) (m := 31) (by kernel_rfl) hi))
          have hu84 := hu 84 (by omega) (by omega)
          rw [h84] at hu84
          have hu84 : u 84 = .bool false := by simpa using hu84.symm
          clear hu ho9 hs9 h84
          simp only [List.range', List.map, List.take, List.drop, List.append, List.cons_append, List.nil_append, Nat.reduceAdd] at e9
          rw [hu84] at e9
          subst e9 hd9
          go_wp2_with fail
          go_meet
          exact ⟨rfl, hS9⟩
      case rest =>
        obtain ⟨rfl, hbc⟩ := hcut
        rename World => wc
        have HBC := Lib.hid hbc
        clear hbc z0 z1 c0 c1
        obtain ⟨z0, z1, z2⟩ := HXX.out _ HBC.out
        obtain ⟨o0, o1, o2, o3⟩ := HO5.out.same (W' := wc) ((HBA.out.trans (HBC.out.mono (by omega))).block _ hz5)
        dsimp only at o0 o1 o2 o3
        obtain ⟨l0, hl0⟩ : ∃ l0, x0 - B = l0 := ⟨_, rfl⟩
        obtain ⟨l1, hl1⟩ : ∃ l1, y0 - B = l1 := ⟨_, rfl⟩
        obtain ⟨m0, hm0⟩ : ∃ m0, x0 + B = m0 := ⟨_, rfl⟩
        obtain ⟨m1, hm1⟩ : ∃ m1, y0 + B = m1 := ⟨_, rfl⟩
        obtain ⟨e1, he1⟩ : ∃ e1, y0 - 1 = e1 := ⟨_, rfl⟩
        have hy9 := HY0.out
        have wm0 : IntKind.i64.wrap (x0 - B) = l0 := by rw [IntWalk.i64_in _ (by omega)]; exact hl0
        have wm1 : IntKind.i64.wrap (y0 - B) = l1 := by rw [IntWalk.i64_in _ (by omega)]; exact hl1
        have wp0 : IntKind.i64.wrap (x0 + B) = m0 := by rw [IntWalk.i64_in _ (by omega)]; exact hm0
        have wp1 : IntKind.i64.wrap (y0 + B) = m1 := by rw [IntWalk.i64_in _ (by omega)]; exact hm1
        have we1 : IntKind.i64.wrap (y0 - 1) = e1 := by rw [IntWalk.i64_in _ (by omega)]; exact he1
        have HE1 := Lib.hid he1
        have HL0 := Lib.hid hl0
        have HL1 := Lib.hid hl1
        have HM0 := Lib.hid hm0
        have HM1 := Lib.hid hm1
        clear hl0 hl1 hm0 hm1 he1 hy9
        go_upto_region 20 with (fail)
        go_cut [9, 132] from 45 (fun s9 v wx => s9 = .int .i64 (k : Int) ∧ v = .bool false ∧ Below wa.heap.size wa wx)
        case first =>
          have HNO1 : Hid (¬ (l0 ≤ T ∧ T < l1)) := Lib.hid (by have := G4.out (by omega); have := HL0.out; have := HL1.out; have := HY0.out; omega)
          have HNO2 : Hid (¬ (m0 ≤ T ∧ T < m1)) := Lib.hid (by have := G5.out (by omega); have := HM0.out; omega)
          have hkz1 : ((k : Int) == 0) = true := by simp; omega
          have hkz2 : decide ((k : Int) = 0) = true := by simp; omega
          go_wp2_with (first
            | (go_at_call 20
               (with_reducible refine (has_no l0 l1 T HNO1.out _).mono ?_)
               rintro e w6 ⟨rfl, p6⟩
               have HBC := Lib.hid (HBC.out.trans (p6.mono HBC.out.size))
               clear p6 z0 z1 z2
               obtain ⟨z0, z1, z2⟩ := HXX.out _ HBC.out)
            | (go_at_call 20
               (with_reducible refine (has_no m0 m1 T HNO2.out _).mono ?_)
               rintro e w6 ⟨rfl, p6⟩
               have HBC := Lib.hid (HBC.out.trans (p6.mono HBC.out.size))
               clear p6 z0 z1 z2
               obtain ⟨z0, z1, z2⟩ := HXX.out _ HBC.out))
          go_meet
          exact ⟨by first | rfl | (congr 1; omega), rfl, HBC.out⟩
        case rest =>
        rename World => wc
        obtain ⟨rfl, rfl, hbq⟩ := hcut
        have HBC := Lib.hid hbq
        clear hbq z0 z1 z2 o0 o1 o2 o3
        obtain ⟨z0, z1, z2⟩ := HXX.out _ HBC.out
        obtain ⟨o0, o1, o2, o3⟩ := HO5.out.same (W' := wc) ((HBA.out.trans (HBC.out.mono (by omega))).block _ hz5)
        dsimp only at o0 o1 o2 o3
        go_wp2_with fail
        clear z0 z1 z2 o0 o1 o2 o3
        go_loopw [139] (fun i wr => ∃ j : Nat, j ≤ 2 ∧ i = .int .i64 j ∧ Below wa.heap.size wa wr) (fun i _ => 2 - (intOf i).toNat)
        case atStart => exact ⟨0, by omega, rfl, by assumption⟩
        case round =>
          rename World => wd
          obtain ⟨j2, hj2, rfl, hbd⟩ := hrel
          have HBD := Lib.hid hbd
          clear hbd
          have J0 := fun w => win_0 x0 e1 w
          have J1 := fun w => win_1 x0 e1 w
          obtain rfl | rfl | rfl : j2 = 0 ∨ j2 = 1 ∨ j2 = 2 := by omega
          · by_cases hlo : x0 < -1152921504606846976
            · go_wp2_with fail
              go_roundw
              case rel => exact ⟨0 + 1, by omega, by first | rfl | go_num, HBD.out⟩
              case measure => simp [intOf]
            · by_cases hhi : 1152921504606846976 < x0
              · have hhi2 : x0 > 1152921504606846976 := hhi
                go_wp2_with fail
                go_roundw
                case rel => exact ⟨0 + 1, by omega, by first | rfl | go_num, HBD.out⟩
                case measure => simp [intOf]
              · have HTT : Hid (isT x0) := Lib.hid (by unfold isT; omega)
                have hhi2 : ¬ x0 > 1152921504606846976 := hhi
                have HMEM : Hid ((x0, y0) ∈ slideM 1 x0 B B) := Lib.hid (G8.out HTT.out)
                obtain ⟨o0, o1, o2, o3⟩ := HO5.out.same (W' := wd) ((HBA.out.trans (HBD.out.mono (by omega))).block _ hz5)
                dsimp only at o0 o1 o2 o3
                go_wp2_with (go_at_call 10
                             (with_reducible refine (of_any ⟨4, B, 0, 0⟩ x0 _).mono ?_)
                             rw [HOF.out x0 HTT.out]
                             rintro e w7 ⟨v7, rfl, r1, r2, p7⟩
                             have hl7 := slideM_len 1 x0 B B
                             obtain ⟨L, hL⟩ : ∃ L, slideM 1 x0 B B = L := ⟨_, rfl⟩
                             rw [hL] at r1 hl7
                             obtain ⟨A7, c7, hA7, hA8⟩ := wins_of_row r1
                             rw [hl7] at hA7
                             subst hA7
                             have HL7 := Lib.hid hA8
                             have HLen := Lib.hid hl7
                             have HME := Lib.hid (hL ▸ HMEM.out)
                             have HB7 := Lib.hid (HBD.out.trans (p7.mono HBD.out.size))
                             clear r1 r2 p7 hA8 hL hl7)
                go_loopw [13, 152] (fun b i wr => ∃ j3 : Nat, j3 ≤ 1 ∧ i = .int .i64 j3 ∧ b = .bool (decide ((x0, y0) ∈ L.take j3)) ∧ Below w7.heap.size w7 wr) (fun _ i _ => 9 - (intOf i).toNat)
                case atStart => exact ⟨0, Nat.zero_le _, rfl, by simp, Below.refl _ _⟩
                case round =>
                  rename World => we
                  obtain ⟨j3, hj3, rfl, rfl, hbe⟩ := hrel
                  have HBE := Lib.hid hbe
                  by_cases hlt3 : j3 < 1
                  · obtain ⟨g7, hgA7, hgl7, hcs7⟩ := HL7.out.resolve_left (fun e => by have := HLen.out; rw [e] at this; have h0 : ([] : List Win).length = 0 := rfl; omega)
                    subst hgA7
                    obtain ⟨⟨v0, v1⟩, hv9⟩ : ∃ v, L[j3]? = some v := ⟨L[j3]'(by rw [HLen.out]; exact hlt3), List.getElem?_eq_getElem _⟩
                    obtain ⟨c0, c1⟩ := (hcs7 j3 _ hv9).same (W' := we) (hbe.block _ hgl7)
                    dsimp only at c0 c1
                    have ht9 : ∀ x : Win, decide (x ∈ L.take (j3 + 1)) = (decide (x ∈ L.take j3) || decide (v0 = x.1 ∧ v1 = x.2)) := fun x => by
                      have e9 : L.take (j3 + 1) = L.take j3 ++ [(v0, v1)] := by
                        have h9 := List.take_succ_eq_append_getElem (show j3 < L.length by rw [HLen.out]; exact hlt3)
                        rw [h9]
                        congr 2
                        have := List.getElem?_eq_getElem (show j3 < L.length by rw [HLen.out]; exact hlt3)
                        rw [hv9] at this
                        exact (Option.some.inj this).symm
                      rw [e9]
                      obtain ⟨x1, x2⟩ := x
                      by_cases h1 : (x1, x2) ∈ L.take j3
                      · simp [h1]
                      · by_cases h2 : v0 = x1 ∧ v1 = x2
                        · simp [h2.1, h2.2]
                        · have h3 : ¬ (x1 = v0 ∧ x2 = v1) := fun q => h2 ⟨q.1.symm, q.2.symm⟩
                          simp [h1, h2, h3]
                    have HT9 := Lib.hid (ht9 (x0, y0))
                    have k30 : (0 : Int) ≤ (j3 : Int) := by omega
                    have k31 : (j3 : Int) < 1 := by omega
                    obtain ⟨wf, hwf⟩ : ∃ wf, we.alloc (.cells #[.int .i64 v0, .int .i64 v1] 34) = wf := ⟨_, rfl⟩
                    have bf : Below we.heap.size we wf := by rw [← hwf]; exact (Below.refl _ _).alloc (Nat.le_refl _) _
                    have tf : wf.heap[we.heap.size]? = some (.cells #[.int .i64 v0, .int .i64 v1] 34 (0, 0)) := by rw [← hwf]; exact World.alloc_heap_new _ _
                    have a0 := cells_c0 tf
                    have a1 := cells_c1 tf
                    have HBF : Hid (Below w7.heap.size w7 wf) := Lib.hid (hbe.trans (bf.mono hbe.size))
                    obtain ⟨z0, z1, -⟩ := HXX.out wf (HB7.out.trans (HBF.out.mono HB7.out.size))
                    have W9 : IntKind.i64.wrap ((j3 : Int) + 1) = (j3 : Int) + 1 := IntWalk.i64_in _ (by omega)
                    have hG := guard34
                    have hE := win_eq
                    clear hv9 hcs7 ht9 bf tf hbe
                    by_cases hin : (x0, y0) ∈ L.take j3
                    · have hd9 : decide ((x0, y0) ∈ L.take j3) = true := by simpa using hin
                      have HR9 : Hid (decide ((x0, y0) ∈ L.take (j3 + 1)) = true) := Lib.hid (by rw [HT9.out, hd9]; rfl)
                      go_wp2_with fail
                      go_roundw
                      case rel => exact ⟨j3 + 1, by omega, by go_num, by rw [HR9.out], HBF.out⟩
                      case measure => simp [intOf]; omega
                    · have hd9 : decide ((x0, y0) ∈ L.take j3) = false := by simpa using hin
                      obtain ⟨be, hbe9⟩ : ∃ be : Bool, decide (v0 = x0 ∧ v1 = y0) = be := ⟨_, rfl⟩
                      have HR9 : Hid (decide ((x0, y0) ∈ L.take (j3 + 1)) = be) := Lib.hid (by rw [HT9.out, hd9]; exact hbe9)
                      have hE2 := fun w => win_eq v0 v1 x0 y0 w
                      rw [hbe9] at hE2
                      clear hE hbe9
                      go_wp2_with fail
                      go_roundw
                      case rel => exact ⟨j3 + 1, by omega, by go_num, by rw [HR9.out], HBF.out⟩
                      case measure => simp [intOf]; omega
                  · have hd9 : decide ((x0, y0) ∈ L.take j3) = true := by
                      rw [List.take_of_length_le (by rw [HLen.out]; omega)]
                      simpa using HME.out
                    have k31 : ¬ (j3 : Int) < 1 := by omega
                    go_wp2_with fail
                    go_roundw
                    case rel => exact ⟨0 + 1, by omega, by first | rfl | go_num, HB7.out.trans (HBE.out.mono HB7.out.size)⟩
                    case measure => simp [intOf]
          · by_cases hlo : e1 < -1152921504606846976
            · go_wp2_with fail
              go_roundw
              case rel => exact ⟨1 + 1, by omega, by first | rfl | go_num, HBD.out⟩
              case measure => simp [intOf]
            · by_cases hhi : 1152921504606846976 < e1
              · have hhi2 : e1 > 1152921504606846976 := hhi
                go_wp2_with fail
                go_roundw
                case rel => exact ⟨1 + 1, by omega, by first | rfl | go_num, HBD.out⟩
                case measure => simp [intOf]
              · have HTT : Hid (isT e1) := Lib.hid (by unfold isT; omega)
                have hhi2 : ¬ e1 > 1152921504606846976 := hhi
                have HMEM : Hid ((x0, y0) ∈ slideM 1 e1 B B) := Lib.hid (by have h := G9.out (by rw [HE1.out]; exact HTT.out); rw [HE1.out] at h; exact h)
                obtain ⟨o0, o1, o2, o3⟩ := HO5.out.same (W' := wd) ((HBA.out.trans (HBD.out.mono (by omega))).block _ hz5)
                dsimp only at o0 o1 o2 o3
                go_wp2_with (go_at_call 10
                             (with_reducible refine (of_any ⟨4, B, 0, 0⟩ e1 _).mono ?_)
                             rw [HOF.out e1 HTT.out]
                             rintro e w7 ⟨v7, rfl, r1, r2, p7⟩
                             have hl7 := slideM_len 1 e1 B B
                             obtain ⟨L, hL⟩ : ∃ L, slideM 1 e1 B B = L := ⟨_, rfl⟩
                             rw [hL] at r1 hl7
                             obtain ⟨A7, c7, hA7, hA8⟩ := wins_of_row r1
                             rw [hl7] at hA7
                             subst hA7
                             have HL7 := Lib.hid hA8
                             have HLen := Lib.hid hl7
                             have HME := Lib.hid (hL ▸ HMEM.out)
                             have HB7 := Lib.hid (HBD.out.trans (p7.mono HBD.out.size))
                             clear r1 r2 p7 hA8 hL hl7)
                go_loopw [13, 152] (fun b i wr => ∃ j3 : Nat, j3 ≤ 1 ∧ i = .int .i64 j3 ∧ b = .bool (decide ((x0, y0) ∈ L.take j3)) ∧ Below w7.heap.size w7 wr) (fun _ i _ => 9 - (intOf i).toNat)
                case atStart => exact ⟨0, Nat.zero_le _, rfl, by simp, Below.refl _ _⟩
                case round =>
                  rename World => we
                  obtain ⟨j3, hj3, rfl, rfl, hbe⟩ := hrel
                  have HBE := Lib.hid hbe
                  by_cases hlt3 : j3 < 1
                  · obtain ⟨g7, hgA7, hgl7, hcs7⟩ := HL7.out.resolve_left (fun e => by have := HLen.out; rw [e] at this; have h0 : ([] : List Win).length = 0 := rfl; omega)
                    subst hgA7
                    obtain ⟨⟨v0, v1⟩, hv9⟩ : ∃ v, L[j3]? = some v := ⟨L[j3]'(by rw [HLen.out]; exact hlt3), List.getElem?_eq_getElem _⟩
                    obtain ⟨c0, c1⟩ := (hcs7 j3 _ hv9).same (W' := we) (hbe.block _ hgl7)
                    dsimp only at c0 c1
                    have ht9 : ∀ x : Win, decide (x ∈ L.take (j3 + 1)) = (decide (x ∈ L.take j3) || decide (v0 = x.1 ∧ v1 = x.2)) := fun x => by
                      have e9 : L.take (j3 + 1) = L.take j3 ++ [(v0, v1)] := by
                        have h9 := List.take_succ_eq_append_getElem (show j3 < L.length by rw [HLen.out]; exact hlt3)
                        rw [h9]
                        congr 2
                        have := List.getElem?_eq_getElem (show j3 < L.length by rw [HLen.out]; exact hlt3)
                        rw [hv9] at this
                        exact (Option.some.inj this).symm
                      rw [e9]
                      obtain ⟨x1, x2⟩ := x
                      by_cases h1 : (x1, x2) ∈ L.take j3
                      · simp [h1]
                      · by_cases h2 : v0 = x1 ∧ v1 = x2
                        · simp [h2.1, h2.2]
                        · have h3 : ¬ (x1 = v0 ∧ x2 = v1) := fun q => h2 ⟨q.1.symm, q.2.symm⟩
                          simp [h1, h2, h3]
                    have HT9 := Lib.hid (ht9 (x0, y0))
                    have k30 : (0 : Int) ≤ (j3 : Int) := by omega
                    have k31 : (j3 : Int) < 1 := by omega
                    obtain ⟨wf, hwf⟩ : ∃ wf, we.alloc (.cells #[.int .i64 v0, .int .i64 v1] 34) = wf := ⟨_, rfl⟩
                    have bf : Below we.heap.size we wf := by rw [← hwf]; exact (Below.refl _ _).alloc (Nat.le_refl _) _
                    have tf : wf.heap[we.heap.size]? = some (.cells #[.int .i64 v0, .int .i64 v1] 34 (0, 0)) := by rw [← hwf]; exact World.alloc_heap_new _ _
                    have a0 := cells_c0 tf
                    have a1 := cells_c1 tf
                    have HBF : Hid (Below w7.heap.size w7 wf) := Lib.hid (hbe.trans (bf.mono hbe.size))
                    obtain ⟨z0, z1, -⟩ := HXX.out wf (HB7.out.trans (HBF.out.mono HB7.out.size))
                    have W9 : IntKind.i64.wrap ((j3 : Int) + 1) = (j3 : Int) + 1 := IntWalk.i64_in _ (by omega)
                    have hG := guard34
                    have hE := win_eq
                    clear hv9 hcs7 ht9 bf tf hbe
                    by_cases hin : (x0, y0) ∈ L.take j3
                    · have hd9 : decide ((x0, y0) ∈ L.take j3) = true := by simpa using hin
                      have HR9 : Hid (decide ((x0, y0) ∈ L.take (j3 + 1)) = true) := Lib.hid (by rw [HT9.out, hd9]; rfl)
                      go_wp2_with fail
                      go_roundw
                      case rel => exact ⟨j3 + 1, by omega, by go_num, by rw [HR9.out], HBF.out⟩
                      case measure => simp [intOf]; omega
                    · have hd9 : decide ((x0, y0) ∈ L.take j3) = false := by simpa using hin
                      obtain ⟨be, hbe9⟩ : ∃ be : Bool, decide (v0 = x0 ∧ v1 = y0) = be := ⟨_, rfl⟩
                      have HR9 : Hid (decide ((x0, y0) ∈ L.take (j3 + 1)) = be) := Lib.hid (by rw [HT9.out, hd9]; exact hbe9)
                      have hE2 := fun w => win_eq v0 v1 x0 y0 w
                      rw [hbe9] at hE2
                      clear hE hbe9
                      go_wp2_with fail
                      go_roundw
                      case rel => exact ⟨j3 + 1, by omega, by go_num, by rw [HR9.out], HBF.out⟩
                      case measure => simp [intOf]; omega
                  · have hd9 : decide ((x0, y0) ∈ L.take j3) = true := by
                      rw [List.take_of_length_le (by rw [HLen.out]; omega)]
                      simpa using HME.out
                    have k31 : ¬ (j3 : Int) < 1 := by omega
                    go_wp2_with fail
                    go_roundw
                    case rel => exact ⟨1 + 1, by omega, by first | rfl | go_num, HB7.out.trans (HBE.out.mono HB7.out.size)⟩
                    case measure => simp [intOf]
          · go_wp2_with fail
            go_roundw
            case rel => exact ⟨k + 1, by omega, by go_num, HBA.out.trans (HBD.out.mono (by omega))⟩
            case measure => simp [intOf]; omega
    · have hk1 : ¬ (k : Int) < 1 := by omega
      go_wp2_with fail
      go_ret
      exact ⟨rfl, HB5.out.trans (HBU.out.mono HB5.out.size)⟩
end Go.Proofs.Yteiedknpmlemkaa
