/-
  The walk of WinCovers.
-/
import Derived.Test.YteiedknpmlemkaaXu
namespace Go.Proofs.Yteiedknpmlemkaa
open Go Go.RowKit Go.Lib Go.Shelf


set_option maxRecDepth 100000 in
set_option maxHeartbeats 12800000 in
theorem covers_6 (q0 s v t a : Int) (ha : 1 ≤ a) (hB2 : a ≤ 1073741824) (hq0 : 0 ≤ q0 ∧ q0 ≤ 255) (hs : 0 ≤ s ∧ s ≤ 4294967295) (hv : 0 ≤ v ∧ v ≤ 255) (hD : draftM ⟨q0 % 3, s, v⟩ = ⟨6, a, 0, 0⟩)
    (hOf : ∀ t, isT t → ofM ⟨6, a, 0, 0⟩ t = [(t, t + a)]) (w : World) :
    Calls Try.prog 5 #[.agg #[.int .u8 q0, .int .u32 s, .int .u8 v], .int .i64 t] w fun e w' => e = .returned (.bool true) ∧ Below w.heap.size w w' := by
  have t1 : q0.tmod 3 = q0 % 3 := Int.tmod_eq_emod_of_nonneg (by omega)
  have b1 : 0 ≤ q0 % 3 ∧ q0 % 3 ≤ 2 := by omega
  obtain ⟨q3, hq3⟩ : ∃ q3, q0 % 3 = q3 := ⟨_, rfl⟩
  rw [hq3] at t1 b1 hD
  obtain ⟨T, hT⟩ : ∃ T, t.tmod 1152921504606846977 = T := ⟨_, rfl⟩
  have hT1 : -1152921504606846977 < t.tmod 1152921504606846977 := Int.lt_tmod_of_pos _ (by omega)
  have hT2 : t.tmod 1152921504606846977 < 1152921504606846977 := Int.tmod_lt_of_pos _ (by omega)
  rw [hT] at hT1 hT2
  have hTT : isT T := by unfold isT; omega
  have HDr := Lib.hid hD
  have HT := Lib.hid hTT
  have HOK : Hid (KindD.ok ⟨q3, s, v⟩) := Lib.hid (by unfold KindD.ok; exact ⟨⟨b1.1, by dsimp only; omega⟩, hs, hv⟩)
  have HOF := Lib.hid hOf
  obtain ⟨W0, hW0⟩ : ∃ W0, w.alloc (.cells #[.int .u8 q0, .int .u32 s, .int .u8 v] 26) = W0 := ⟨_, rfl⟩
  have s0 : W0.heap.size = w.heap.size + 1 := by rw [← hW0]; simp
  have B0 : Below w.heap.size w W0 := by rw [← hW0]; exact (Below.refl _ _).alloc (Nat.le_refl _) _
  have K0 : Hid (KindAt W0 w.heap.size q0 s v) := Lib.hid ⟨by rw [← hW0]; exact World.alloc_heap_new w _⟩
  have HB0 := Lib.hid B0
  have hwt : IntKind.i64.wrap T = T := IntWalk.i64_in _ (by omega)
  clear B0 hD hq3 hTT hOf
  go_enter Try.func5, Try.ntmps5
  go_wp2_with (first
    | (go_at_call 16
       (with_reducible refine (works _).mono ?_)
       rintro e w1 ⟨rfl, p1⟩
       have hk1 : KindAt w1 w.heap.size q0 s v := ⟨(p1.block _ (by omega)).trans K0.out.h⟩
       have k0 := hk1.c0
       have k1 := hk1.c1
       have k2 := hk1.c2
       have kf := hk1.f0
       have HB1 := Lib.hid p1
       clear p1 hk1)
    | (go_at_call 8
       (with_reducible refine (drafted_any ⟨q3, s, v⟩ HOK.out _).mono ?_)
       rw [HDr.out]
       rintro e w2 ⟨rfl, p2⟩
       have HB2 : Hid (Below w.heap.size w1 w2) := Lib.hid (((Below.refl _ _).setCell (p := ⟨w.heap.size, 0, none⟩) (Nat.le_refl _) _).trans (p2.mono (by have := HB1.out.size; simp [World.setCell]; omega)))
       clear p2)
    | (go_at_call 10
       (with_reducible refine (of_any ⟨6, a, 0, 0⟩ T _).mono ?_)
       rw [HOF.out T HT.out]
       rintro e w5 ⟨v5, rfl, r1, r2, p5⟩
       have s4 : (w2.alloc (.cells #[.int .i64 6, .int .i64 a, .int .i64 0, .int .i64 0] 23)).heap.size = w2.heap.size + 1 := by simp
       have HO4 : Hid (OpAt (w2.alloc (.cells #[.int .i64 6, .int .i64 a, .int .i64 0, .int .i64 0] 23)) w2.heap.size ⟨6, a, 0, 0⟩) := Lib.hid (opAt_new w2 ⟨6, a, 0, 0⟩ 23)
       have HB4 : Hid (Below w.heap.size w (w2.alloc (.cells #[.int .i64 6, .int .i64 a, .int .i64 0, .int .i64 0] 23))) := Lib.hid ((HB0.out.trans ((HB1.out.mono (by omega)).trans HB2.out)).alloc (by have := HB0.out.size; have := HB1.out.size; have := HB2.out.size; omega) _)
       obtain ⟨A5, c5, hA5, hA6⟩ := wins_of_row r1
       simp only [List.length_cons, List.length_nil, Nat.zero_add] at hA5
       subst hA5
       have HL5 := Lib.hid hA6
       obtain ⟨o0, o1, o2, o3⟩ := HO4.out.same (W' := w5) (p5.block _ (by omega))
       dsimp only at o0 o1 o2 o3
       have HO5 : Hid (OpAt w5 w2.heap.size ⟨6, a, 0, 0⟩) := Lib.hid (HO4.out.same (p5.block _ (by omega)))
       have HB5 := Lib.hid (HB4.out.trans (p5.mono HB4.out.size))
       have hz5 : w2.heap.size < w5.heap.size := by have := p5.size; omega
       clear p5 r1 r2 hA6))
  go_loopw [9] (fun i wr => ∃ k : Nat, k ≤ 1 ∧ i = .int .i64 k ∧ Below w5.heap.size w5 wr) (fun i _ => 1 - (intOf i).toNat)
  case atStart => exact ⟨0, Nat.zero_le _, rfl, Below.refl _ _⟩
  case round =>
    rename World => wu
    obtain ⟨k, hk, rfl, hbu⟩ := hrel
    have HBU := Lib.hid hbu
    have hzu := hbu.size
    clear hbu
    by_cases hlt : k < 1
    · obtain ⟨g, hgA, hgl, hcs⟩ := HL5.out.resolve_left (by simp)
      subst hgA
      have hcell := hcs k (T, T + a) (by rw [show k = 0 by omega]; rfl)
      obtain ⟨y0, hy0⟩ : ∃ y0, T + a = y0 := ⟨_, rfl⟩
      rw [hy0] at hcell
      have g1 : T ≤ T := Int.le_refl _
      have g2 : T < y0 := by omega
      have hwA : IntKind.i64.wrap (y0 - T) = a := by rw [← hy0, show T + a - T = a by omega]; exact IntWalk.i64_in _ (by omega)
      have HC := Lib.hid hcell
      clear hy0 hcell
      obtain ⟨c0, c1⟩ := HC.out.same (W' := wu) (HBU.out.block _ hgl)
      dsimp only at c0 c1
      have hk0 : (0 : Int) ≤ (k : Int) := by omega
      have hk1 : (k : Int) < 1 := by omega
      obtain ⟨wa, hwa⟩ : ∃ wa, wu.alloc (.cells #[.int .i64 T, .int .i64 y0] 34) = wa := ⟨_, rfl⟩
      have ba : Below wu.heap.size wu wa := by rw [← hwa]; exact (Below.refl _ _).alloc (Nat.le_refl _) _
      have sa : wa.heap.size = wu.heap.size + 1 := by rw [← hwa]; simp
      have ta : wa.heap[wu.heap.size]? = some (.cells #[.int .i64 T, .int .i64 y0] 34 (0, 0)) := by rw [← hwa]; exact World.alloc_heap_new _ _
      have HTA := Lib.hid ta
      have z0 := cells_c0 ta
      have z1 := cells_c1 ta
      have HBA : Hid (Below w5.heap.size w5 wa) := Lib.hid (HBU.out.trans (ba.mono hzu))
      clear ba ta
      have HXX : Hid (∀ w', Below wa.heap.size wa w' → w'.cell? ⟨wu.heap.size, 0, none⟩ = some (.int .i64 T) ∧ w'.cell? ⟨wu.heap.size, 1, none⟩ = some (.int .i64 y0) ∧ w'.cell? ⟨w2.heap.size, 1, none⟩ = some (.int .i64 a)) := Lib.hid (fun w' h => by
          have e6 : w'.heap[wu.heap.size]? = some (.cells #[.int .i64 T, .int .i64 y0] 34 (0, 0)) := (h.block _ (by omega)).trans HTA.out
          have q6 : Below w5.heap.size w5 w' := HBA.out.trans (h.mono (by omega))
          exact ⟨cells_c0 e6, cells_c1 e6, (HO5.out.same (W' := w') (q6.block _ hz5)).c1⟩)
      go_wp2_with fail
      go_cut [84] from 54 (fun v wx => v = .bool false ∧ Below wa.heap.size wa wx)
      case first =>
        have HK0 : Hid (k = 0) := Lib.hid (by omega)
        refine Go.Ev.tab_region (P := Try.prog) (tab := raTab T y0 a T a 0 k 0 1 c5 g wu.heap.size w2.heap.size) (opsT := r16) (id := 16) (n := 166) (last := 30) (d := 84) (val := .bool false) (W := wa) (by kernel_rfl) (by kernel_rfl) (by kernel_rfl) (by kernel_rfl) (by rfl) (Below.refl _ _) ra_mono (ra_steps ?h16 HK0.out) (by kernel_rfl) rfl ?hQ
        case h16 =>
          exact { t10 := rfl, t1 := rfl, t9 := rfl, t6 := rfl, t7 := rfl, t5 := rfl, c0 := fun w' h => (HXX.out w' h).1, c1 := fun w' h => (HXX.out w' h).2.1, cA := fun w' h => (HXX.out w' h).2.2, call := fun w' _ => has_yes _ _ _ ⟨g1, g2⟩ _, wA := hwA }
        case hQ =>
          intro a9 w9 hd9 hs9 h84 ho9 hS9
          obtain ⟨tm, df⟩ := a9
          dsimp only at hd9 hs9 h84 ho9
          obtain ⟨u, e9, hu⟩ := frame_let 166 54 31 (t := tm) hs9 rfl (by decide) (fun i hi => ho9 i (within_of (lo := 54) (m := 31) (by kernel_rfl) hi))
          have hu84 := hu 84 (by omega) (by omega)
          rw [h84] at hu84
          have hu84 : u 84 = .bool false := by simpa using hu84.symm
          clear hu ho9 hs9 h84
          simp only [List.range', List.map, List.take, List.drop, List.append, List.cons_append, List.nil_append, Nat.reduceAdd] at e9
          rw [hu84] at e9
          subst e9 hd9
          go_wp2_with fail
          go_meet
          exact ⟨rfl, hS9⟩
      case rest =>
        obtain ⟨rfl, hbc⟩ := hcut
        rename World => wc
        have HBC := Lib.hid hbc
        clear hbc z0 z1 c0 c1
        obtain ⟨z0, z1, z2⟩ := HXX.out _ HBC.out
        obtain ⟨o0, o1, o2, o3⟩ := HO5.out.same (W' := wc) ((HBA.out.trans (HBC.out.mono (by omega))).block _ hz5)
        dsimp only at o0 o1 o2 o3
        go_wp2_with fail
        go_ret
        exact ⟨rfl, HB5.out.trans ((HBA.out.trans (HBC.out.mono (by omega))).mono HB5.out.size)⟩
    · have hk1 : ¬ (k : Int) < 1 := by omega
      go_wp2_with fail
      go_ret
      exact ⟨rfl, HB5.out.trans (HBU.out.mono HB5.out.size)⟩
end Go.Proofs.Yteiedknpmlemkaa
