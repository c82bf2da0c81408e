/-
  The law NumsReads: its walk.
-/
import Derived.Test.YtllkflbkndfdeaaDoorEvCe
import Derived.Deep.CutBlock
namespace Go.Proofs.YtllkflbkndfdeaaDoor
open Go Go.RowKit Go.Lib

/-- Where both readers stand, round by round. -/
structure RS (w : World) (r q : Nat) (X : ByteArray) (o : Nat) (wr : World) : Prop where
  le : o ≤ X.size
  R : Rdr wr r X o
  Q : Rdr wr q X o
  B : Below w.heap.size w wr

theorem kept_g {w w' : World} {v : Value} (h : Below w.heap.size w w') (hg : w.cell? ⟨0, 0, none⟩ = some v) : w'.cell? ⟨0, 0, none⟩ = some v := by
  refine (h.cell (p := ⟨0, 0, none⟩) ?_).trans hg
  rcases Nat.eq_zero_or_pos w.heap.size with h0 | h0
  · simp [World.cell?, h0] at hg
  · exact h0

theorem drewN_heap (W : World) (n : Nat) : (W.drewN n).heap = W.heap := by
  induction n generalizing W with
  | zero => rfl
  | succ n ih => exact ih W.drew
theorem fcell_new (W : World) (n : Nat) (k : Nat) : FCell ((W.drewN n).alloc (.cells #[.int .i64 4, .int .i64 k] 36)) W.heap.size 4 k := by
  rw [show W.heap.size = (W.drewN n).heap.size by rw [drewN_heap]]
  generalize W.drewN n = V
  exact ⟨by simp, by simp, by simp⟩
/-- The end's two errors. -/
theorem end_both (X : ByteArray) (k r q : Nat) (hX : X.size ≤ 140737488355328) (hk : k ≤ X.size) : ∃ b g : Nat, g = (if b = 0 then 0 else k) ∧
    (∀ W, Rdr W r X k → Calls Tryd.prog 22 #[.pointer (some ⟨r, 0, none⟩)] W fun e w' => ∃ er, e = .returned er ∧ Below W.heap.size W w' ∧ Flt W.heap.size w' b k er) ∧
    (∀ W, Rdr W q X k → Calls Tryd.prog 23 #[.pointer (some ⟨q, 0, none⟩)] W fun e w' => e = .returned (.agg #[.int .i64 b, .int .i64 g]) ∧ Off q W w' ∧ Rdr w' q X k) := by
  by_cases h : k < X.size
  · refine ⟨4, k, rfl, fun W hW => ?_, fun W hW => ?_⟩
    · refine (end_bad X k r W hX h hW).mono ?_
      rintro e w' ⟨n, rfl, rfl⟩
      exact ⟨_, rfl, (below_drewN (Below.refl _ _) n).alloc (by rw [drewN_heap]; exact Nat.le_refl _) _, .inr ⟨by omega, W.heap.size, rfl, Nat.le_refl _, fcell_new W n k⟩⟩
    · have K := ref_End_any X k q W hW
      rw [if_pos h, if_pos h] at K
      exact K
  · obtain rfl : k = X.size := by omega
    refine ⟨0, 0, rfl, fun W hW => ?_, fun W hW => ?_⟩
    · refine (end_ok X r W hX hW).mono ?_
      rintro e w' ⟨rfl, n, rfl⟩
      exact ⟨_, rfl, below_drewN (Below.refl _ _) n, .inl ⟨rfl, rfl⟩⟩
    · have K := ref_End_any X X.size q W hW
      rw [if_neg h, if_neg h] at K
      exact K
theorem end_keeps {w W w' : World} {r q k : Nat} {X : ByteArray} (h : W.cell? ⟨q, 1, none⟩ = some (.int .i64 k) ∧ Rdr W r X k ∧ Rdr W q X k ∧ Below w.heap.size w W) (b : Below W.heap.size W w') : w'.cell? ⟨q, 1, none⟩ = some (.int .i64 k) ∧ Rdr w' r X k ∧ Rdr w' q X k ∧ Below w.heap.size w w' :=
  ⟨(h.2.2.1.below b).c1, h.2.1.below b, h.2.2.1.below b, h.2.2.2.trans (b.mono h.2.2.2.size)⟩
theorem refend_keeps {w W w' : World} {k : Nat} {X : ByteArray} (h : W.cell? ⟨w.heap.size + 1, 1, none⟩ = some (.int .i64 k) ∧ Rdr W w.heap.size X k ∧ Rdr W (w.heap.size + 1) X k ∧ Below w.heap.size w W) (o : Off (w.heap.size + 1) W w') (q : Rdr w' (w.heap.size + 1) X k) : w'.cell? ⟨w.heap.size + 1, 1, none⟩ = some (.int .i64 k) ∧ Rdr w' w.heap.size X k ∧ Rdr w' (w.heap.size + 1) X k ∧ Below w.heap.size w w' :=
  ⟨q.c1, h.2.1.off o (by omega), q, below_off h.2.2.2 o (by omega) h.2.2.2.size⟩
theorem is_fltg {B : Nat} {W : World} {b o g : Nat} {er : Value} (e : g = if b = 0 then 0 else o) (h : Flt B W b o er) (hg : W.cell? ⟨0, 0, none⟩ = some (.iface 122 (.agg #[.pointer (some ⟨1, 31, none⟩)]))) :
    Calls Tryd.prog 11 #[er, .agg #[.int .i64 b, .int .i64 g]] W fun e w' => e = .returned (.bool true) ∧ Below W.heap.size W w' := e ▸ is_flt h hg

set_option maxRecDepth 100000 in
set_option maxHeartbeats 6400000 in
theorem reads_walk (A : Option Addr) (cp : Nat) (l : List Int) (s : ByteArray) (w : World) (_ : cp ≤ 9223372036854775807) (hl : l.length ≤ cp) (hA : l = [] ∨ ∃ ad : Addr, A = some ad ∧ ad.block < w.heap.size ∧ ∀ j z, l[j]? = some z → w.cell? (ad.add j) = some (.int .i16 z))
    (hz : ∀ z ∈ l, -32768 ≤ z ∧ z < 32768) (hs : s.size ≤ 9223372036854775807) (hg : w.cell? ⟨0, 0, none⟩ = some (.iface 122 (.agg #[.pointer (some ⟨1, 31, none⟩)]))) (WK : ∀ W : World, W.cell? ⟨0, 0, none⟩ = some (.iface 122 (.agg #[.pointer (some ⟨1, 31, none⟩)])) → Calls Tryd.prog 24 #[] W fun e w' => e = .returned (.bool true) ∧ Below W.heap.size W w') :
    Calls Tryd.prog 3 #[.string s, .slice A l.length cp] w fun e w' => e = .returned (.bool true) ∧ Below w.heap.size w w' := by
  have HW := Lib.hid WK
  have HA := Lib.hid hA
  have HG := Lib.hid hg
  have HZ := Lib.hid hz
  clear WK hA hg hz
  have m1 : (0 : Int) ≤ min (s.size : Int) 300 := by omega
  have m2 : min (s.size : Int) 300 ≤ (s.size : Int) := by omega
  obtain ⟨X, hX⟩ : ∃ X, X = s.extract 0 (min (s.size : Int) 300).toNat := ⟨_, rfl⟩
  have hXs : X.size ≤ 140737488355328 := by rw [hX]; simp; omega
  have HN := Lib.hid (fun W => new_any X W)
  go_enter Tryd.func3, Tryd.ntmps3
  go_upto_region 2 with (fail)
  rw [← hX]
  clear hX m1 m2
  go_wp2_with (go_at_call 8; (with_reducible refine (HN.out w).mono ?_); rintro e w1 ⟨rfl, rfl⟩)
  go_loopw [7] (fun i wr => ∃ j o : Nat, i = .int .i64 j ∧ j ≤ l.length ∧ j ≤ 40 ∧ RS w w.heap.size (w.heap.size + 1) X o wr) (fun i _ => l.length - (Lib.intOf i).toNat)
  case atStart =>
    exact ⟨0, 0, rfl, Nat.zero_le _, Nat.zero_le _, ⟨Nat.zero_le _, (new_rdr X w).alloc _, ⟨by simp, by simp, by simp, by simp⟩, ((Below.refl _ _).alloc (Nat.le_refl _) _).alloc (by simp) _⟩⟩
  case round =>
    obtain ⟨j, o, rfl, hjl, hj40, hS⟩ := hrel
    obtain ⟨ho, hR, hQ, hB⟩ := hS
    have HB := Lib.hid hB
    have HR := Lib.hid hR
    have HQ := Lib.hid hQ
    have hrz := hR.lt
    have hqz := hQ.lt
    have hgr := Lib.hid ((hB.cell (p := ⟨0, 0, none⟩) (show 0 < w.heap.size by
      rcases Nat.eq_zero_or_pos w.heap.size with h0 | h0
      · have h1 := HG.out
        simp [World.cell?, h0] at h1
      · exact h0)).trans HG.out)
    clear hB hR hQ
    by_cases hj : j < l.length ∧ j < 40
    · obtain ⟨hj1, hj2⟩ := hj
      have hq1 : (j : Int) < (l.length : Int) := by omega
      have hq2 : (j : Int) < 40 := by omega
      rcases HA.out with h0 | ⟨ad, rfl, hga, hcl⟩
      · subst h0; simp at hj1
      have hzz := HZ.out _ (List.getElem_mem hj1)
      have hcj := hcl j _ (List.getElem?_eq_getElem hj1)
      obtain ⟨z, hze⟩ : ∃ z, z = l[j] := ⟨_, rfl⟩
      rw [← hze] at hzz hcj
      obtain ⟨hz1, hz2⟩ := hzz
      have cz : wr.cell? (ad.add j) = some (.int .i16 z) := (HB.out.cell (p := ad.add j) (by rw [blk_add]; exact hga)).trans hcj
      clear hze hcl hcj
      go_upto_block 2 with (fail)
      go_cut [8] (fun v wx => v = .bool true ∧ ∃ o', RS w w.heap.size (w.heap.size + 1) X o' wx)
      case first =>
        have hzk : z = 0 ∨ z = 1 ∨ z = 2 ∨ z = 3 ∨ (z ≠ 0 ∧ z ≠ 1 ∧ z ≠ 2 ∧ z ≠ 3) := by omega
        rcases hzk with hzk | hzk | hzk | hzk | hzk
        · subst hzk
          obtain ⟨b, x, v, ⟨n, rfl⟩, hx, P, R⟩ := both_U X o w.heap.size (w.heap.size + 1) hXs ho
          obtain ⟨g, hg⟩ : ∃ g : Nat, g = if b = 0 then 0 else o := ⟨_, rfl⟩
          rw [← hg] at R
          have HE := Lib.hid hg
          clear hg
          have HP := Lib.hid P
          have HRR := Lib.hid R
          clear P R
          go_wp2_with (first
            | (go_at_call 9
               (with_reducible refine (HP.out _ HR.out).mono ?_)
               rintro e w2 ⟨er, rfl, o2, r2, f2⟩
               have c2 : w2.cell? (ad.add j) = some (.int .i16 0) := (o2.cell (p := ad.add j) (by rw [blk_add]; omega) (by rw [blk_add]; omega)).trans cz
               have HO2 := Lib.hid o2
               have HR2 := Lib.hid r2
               have HF2 := Lib.hid f2
               clear o2 r2 f2)
            | (go_at_call 10
               (with_reducible refine (HRR.out _ (HQ.out.off HO2.out (by omega))).mono ?_)
               rintro e w3 ⟨rfl, o3, q3⟩
               have HO3 := Lib.hid o3
               have HQ3 := Lib.hid q3
               have HR3 := Lib.hid (HR2.out.off o3 (by omega))
               have HF3 := Lib.hid (HF2.out.off o3 hqz)
               have HB3 := Lib.hid (below_off (below_off HB.out HO2.out (Nat.le_refl _) HB.out.size) o3 (by omega) (Nat.le_trans HB.out.size HO2.out.size))
               clear o3 q3)
            | (go_at_call 11
               (with_reducible refine (is_fltg HE.out (HF3.out.alloc _) (kept_g (HB3.out.alloc HB3.out.size _) HG.out)).mono ?_)
               rintro e w4 ⟨rfl, b4⟩
               have HB4 := Lib.hid b4
               clear b4))
          go_meet
          exact ⟨rfl, x, hx, (HR3.out.alloc _).below HB4.out, (HQ3.out.alloc _).below HB4.out, (HB3.out.alloc HB3.out.size _).trans (HB4.out.mono (by have := HB3.out.size; simp; omega))⟩
        · subst hzk
          obtain ⟨b, x, v, ⟨n, rfl⟩, hx, P, R⟩ := both_I X o w.heap.size (w.heap.size + 1) hXs ho
          obtain ⟨g, hg⟩ : ∃ g : Nat, g = if b = 0 then 0 else o := ⟨_, rfl⟩
          rw [← hg] at R
          have HE := Lib.hid hg
          clear hg
          have HP := Lib.hid P
          have HRR := Lib.hid R
          clear P R
          go_wp2_with (first
            | (go_at_call 12
               (with_reducible refine (HP.out _ HR.out).mono ?_)
               rintro e w2 ⟨er, rfl, o2, r2, f2⟩
               have c2 : w2.cell? (ad.add j) = some (.int .i16 1) := (o2.cell (p := ad.add j) (by rw [blk_add]; omega) (by rw [blk_add]; omega)).trans cz
               have HO2 := Lib.hid o2
               have HR2 := Lib.hid r2
               have HF2 := Lib.hid f2
               clear o2 r2 f2)
            | (go_at_call 13
               (with_reducible refine (HRR.out _ (HQ.out.off HO2.out (by omega))).mono ?_)
               rintro e w3 ⟨rfl, o3, q3⟩
               have HO3 := Lib.hid o3
               have HQ3 := Lib.hid q3
               have HR3 := Lib.hid (HR2.out.off o3 (by omega))
               have HF3 := Lib.hid (HF2.out.off o3 hqz)
               have HB3 := Lib.hid (below_off (below_off HB.out HO2.out (Nat.le_refl _) HB.out.size) o3 (by omega) (Nat.le_trans HB.out.size HO2.out.size))
               clear o3 q3)
            | (go_at_call 11
               (with_reducible refine (is_fltg HE.out (HF3.out.alloc _) (kept_g (HB3.out.alloc HB3.out.size _) HG.out)).mono ?_)
               rintro e w4 ⟨rfl, b4⟩
               have HB4 := Lib.hid b4
               clear b4))
          go_meet
          exact ⟨rfl, x, hx, (HR3.out.alloc _).below HB4.out, (HQ3.out.alloc _).below HB4.out, (HB3.out.alloc HB3.out.size _).trans (HB4.out.mono (by have := HB3.out.size; simp; omega))⟩
        · subst hzk
          obtain ⟨b, x, v, ⟨n, rfl⟩, hx, P, R⟩ := both_B X o w.heap.size (w.heap.size + 1) hXs ho
          obtain ⟨g, hg⟩ : ∃ g : Nat, g = if b = 0 then 0 else o := ⟨_, rfl⟩
          rw [← hg] at R
          have HE := Lib.hid hg
          clear hg
          have HP := Lib.hid P
          have HRR := Lib.hid R
          clear P R
          go_wp2_with (first
            | (go_at_call 14
               (with_reducible refine (HP.out _ HR.out).mono ?_)
               rintro e w2 ⟨er, rfl, o2, r2, f2⟩
               have c2 : w2.cell? (ad.add j) = some (.int .i16 2) := (o2.cell (p := ad.add j) (by rw [blk_add]; omega) (by rw [blk_add]; omega)).trans cz
               have HO2 := Lib.hid o2
               have HR2 := Lib.hid r2
               have HF2 := Lib.hid f2
               clear o2 r2 f2)
            | (go_at_call 15
               (with_reducible refine (HRR.out _ (HQ.out.off HO2.out (by omega))).mono ?_)
               rintro e w3 ⟨rfl, o3, q3⟩
               have HO3 := Lib.hid o3
               have HQ3 := Lib.hid q3
               have HR3 := Lib.hid (HR2.out.off o3 (by omega))
               have HF3 := Lib.hid (HF2.out.off o3 hqz)
               have HB3 := Lib.hid (below_off (below_off HB.out HO2.out (Nat.le_refl _) HB.out.size) o3 (by omega) (Nat.le_trans HB.out.size HO2.out.size))
               clear o3 q3)
            | (go_at_call 11
               (with_reducible refine (is_fltg HE.out (HF3.out.alloc _) (kept_g (HB3.out.alloc HB3.out.size _) HG.out)).mono ?_)
               rintro e w4 ⟨rfl, b4⟩
               have HB4 := Lib.hid b4
               clear b4))
          go_meet
          exact ⟨rfl, x, hx, (HR3.out.alloc _).below HB4.out, (HQ3.out.alloc _).below HB4.out, (HB3.out.alloc HB3.out.size _).trans (HB4.out.mono (by have := HB3.out.size; simp; omega))⟩
        · subst hzk
          obtain ⟨b, x, v, ⟨n, rfl⟩, hx, P, R⟩ := both_T X o w.heap.size (w.heap.size + 1) hXs ho
          obtain ⟨g, hg⟩ : ∃ g : Nat, g = if b = 0 then 0 else o := ⟨_, rfl⟩
          rw [← hg] at R
          have HE := Lib.hid hg
          clear hg
          have HP := Lib.hid P
          have HRR := Lib.hid R
          clear P R
          go_wp2_with (first
            | (go_at_call 16
               (with_reducible refine (HP.out _ HR.out).mono ?_)
               rintro e w2 ⟨er, rfl, o2, r2, f2⟩
               have c2 : w2.cell? (ad.add j) = some (.int .i16 3) := (o2.cell (p := ad.add j) (by rw [blk_add]; omega) (by rw [blk_add]; omega)).trans cz
               have HO2 := Lib.hid o2
               have HR2 := Lib.hid r2
               have HF2 := Lib.hid f2
               clear o2 r2 f2)
            | (go_at_call 17
               (with_reducible refine (HRR.out _ (HQ.out.off HO2.out (by omega))).mono ?_)
               rintro e w3 ⟨rfl, o3, q3⟩
               have HO3 := Lib.hid o3
               have HQ3 := Lib.hid q3
               have HR3 := Lib.hid (HR2.out.off o3 (by omega))
               have HF3 := Lib.hid (HF2.out.off o3 hqz)
               have HB3 := Lib.hid (below_off (below_off HB.out HO2.out (Nat.le_refl _) HB.out.size) o3 (by omega) (Nat.le_trans HB.out.size HO2.out.size))
               clear o3 q3)
            | (go_at_call 11
               (with_reducible refine (is_fltg HE.out (HF3.out.alloc _) (kept_g (HB3.out.alloc HB3.out.size _) HG.out)).mono ?_)
               rintro e w4 ⟨rfl, b4⟩
               have HB4 := Lib.hid b4
               clear b4))
          go_meet
          exact ⟨rfl, x, hx, (HR3.out.alloc _).below HB4.out, (HQ3.out.alloc _).below HB4.out, (HB3.out.alloc HB3.out.size _).trans (HB4.out.mono (by have := HB3.out.size; simp; omega))⟩
        · obtain ⟨k0, k1, k2, k3⟩ := hzk
          have e0 : (z == 0) = false := by simpa using k0
          have e1 : (z == 1) = false := by simpa using k1
          have e2 : (z == 2) = false := by simpa using k2
          have e3 : (z == 3) = false := by simpa using k3
          have E1 : IntKind.i64.wrap z = z := IntWalk.i64_in _ (by omega)
          have E2 : IntKind.i64.wrap (z - 4) = z - 4 := IntWalk.i64_in _ (by omega)
          clear k0 k1 k2 k3
          obtain ⟨b, x, v, ⟨n, rfl⟩, hx, P, R⟩ := both_X X o w.heap.size (w.heap.size + 1) z hXs ho hz1 hz2
          obtain ⟨g, hg⟩ : ∃ g : Nat, g = if b = 0 then 0 else o := ⟨_, rfl⟩
          rw [← hg] at R
          have HE := Lib.hid hg
          clear hg
          have HP := Lib.hid P
          have HRR := Lib.hid R
          clear P R
          go_wp2_with (first
            | (go_at_call 18
               (with_reducible refine (HP.out _ HR.out).mono ?_)
               rintro e w2 ⟨er, rfl, o2, r2, f2⟩
               have c2 : w2.cell? (ad.add j) = some (.int .i16 z) := (o2.cell (p := ad.add j) (by rw [blk_add]; omega) (by rw [blk_add]; omega)).trans cz
               have HO2 := Lib.hid o2
               have HR2 := Lib.hid r2
               have HF2 := Lib.hid f2
               clear o2 r2 f2)
            | (go_at_call 19
               (with_reducible refine (HRR.out _ (HQ.out.off HO2.out (by omega))).mono ?_)
               rintro e w3 ⟨rfl, o3, q3⟩
               have HO3 := Lib.hid o3
               have HQ3 := Lib.hid q3
               have HR3 := Lib.hid (HR2.out.off o3 (by omega))
               have HF3 := Lib.hid (HF2.out.off o3 hqz)
               have HB3 := Lib.hid (below_off (below_off HB.out HO2.out (Nat.le_refl _) HB.out.size) o3 (by omega) (Nat.le_trans HB.out.size HO2.out.size))
               clear o3 q3)
            | (go_at_call 11
               (with_reducible refine (is_fltg HE.out (HF3.out.alloc _) (kept_g (HB3.out.alloc HB3.out.size _) HG.out)).mono ?_)
               rintro e w4 ⟨rfl, b4⟩
               have HB4 := Lib.hid b4
               clear b4))
          go_meet
          exact ⟨rfl, x, hx, (HR3.out.alloc _).below HB4.out, (HQ3.out.alloc _).below HB4.out, (HB3.out.alloc HB3.out.size _).trans (HB4.out.mono (by have := HB3.out.size; simp; omega))⟩
      case rest =>
        clear cz HQ HR HB hrz hqz hgr
        obtain ⟨rfl, o2, hS2⟩ := hcut
        obtain ⟨ho2, r2, q2, b2⟩ := hS2
        obtain ⟨b, g, hg, E22, E23⟩ := end_both X o2 w.heap.size (w.heap.size + 1) hXs ho2
        have HE := Lib.hid hg
        have H22 := Lib.hid E22
        have H23 := Lib.hid E23
        clear hg E22 E23
        have W1 : IntKind.i64.wrap ((X.size : Int) - (o2 : Int)) = (X.size : Int) - (o2 : Int) := IntWalk.i64_in _ (by omega)
        have W2 : IntKind.i64.wrap ((j : Int) + 1) = (j : Int) + 1 := IntWalk.i64_in _ (by omega)
        have HLQ := Lib.hid (fun n => show w.heap.size + 1 < (wc.drewN n).heap.size by rw [drewN_heap]; exact q2.lt)
        go_upto_region 29 with (fail)
        go_region_held3 (fun w' => w'.cell? ⟨w.heap.size + 1, 1, none⟩ = some (.int .i64 (o2 : Int)) ∧ Rdr w' w.heap.size X o2 ∧ Rdr w' (w.heap.size + 1) X o2 ∧ Below w.heap.size w w')
          (first | assumption | (exact ⟨(Rdr.drewN q2 1).c1, Rdr.drewN r2 _, Rdr.drewN q2 _, below_drewN b2 _⟩) | (have hs := ‹_ ∧ Rdr _ w.heap.size X o2 ∧ Rdr _ (w.heap.size + 1) X o2 ∧ Below w.heap.size w _›; exact ⟨(Rdr.drewN hs.2.2.1 _).c1, Rdr.drewN hs.2.1 _, Rdr.drewN hs.2.2.1 _, below_drewN hs.2.2.2 _⟩))
          (first
            | (go_at_call 20
               (with_reducible refine (place_any X o2 w.heap.size _ (‹_ ∧ Rdr _ w.heap.size X o2 ∧ Rdr _ (w.heap.size + 1) X o2 ∧ Below w.heap.size w _›).2.1).mono ?_)
               rintro e w5 ⟨rfl, rfl⟩)
            | (go_at_call 21
               (with_reducible refine (left_any X o2 w.heap.size _ hXs ho2 (‹_ ∧ Rdr _ w.heap.size X o2 ∧ Rdr _ (w.heap.size + 1) X o2 ∧ Below w.heap.size w _›).2.1).mono ?_)
               rintro e w5 ⟨rfl, n5, rfl⟩)
            | (go_at_call 22
               (with_reducible refine (H22.out _ (‹_ ∧ Rdr _ w.heap.size X o2 ∧ Rdr _ (w.heap.size + 1) X o2 ∧ Below w.heap.size w _›).2.1).mono ?_)
               rintro e w6 ⟨er, rfl, bl, fl⟩
               have hs6 := end_keeps (‹_ ∧ Rdr _ w.heap.size X o2 ∧ Rdr _ (w.heap.size + 1) X o2 ∧ Below w.heap.size w _›) bl)
            | (go_at_call 23
               (with_reducible refine (H23.out _ (‹_ ∧ Rdr _ w.heap.size X o2 ∧ Rdr _ (w.heap.size + 1) X o2 ∧ Below w.heap.size w _›).2.2.1).mono ?_)
               rintro e w7 ⟨rfl, of, q7⟩
               have hs7 := refend_keeps (‹_ ∧ Rdr _ w.heap.size X o2 ∧ Rdr _ (w.heap.size + 1) X o2 ∧ Below w.heap.size w _›) of q7
               have fl7 := fl.off of (HLQ.out _))
            | (go_at_call 11
               (with_reducible refine (is_fltg HE.out fl7 (kept_g hs7.2.2.2 HG.out)).mono ?_)
               rintro e w8 ⟨rfl, bl8⟩
               have hs8 := end_keeps (‹_ ∧ Rdr _ w.heap.size X o2 ∧ Rdr _ (w.heap.size + 1) X o2 ∧ Below w.heap.size w _›) bl8))
        have HS8 := Lib.hid (show RS w w.heap.size (w.heap.size + 1) X o2 w8 from ⟨ho2, hs8.2.1, hs8.2.2.1, hs8.2.2.2⟩)
        clear hs8 hs7 hs6 fl fl7 bl of q7 bl8 r2 q2 b2 HLQ HE H22 H23
        go_wp2
        go_roundw
        case rel => exact ⟨j + 1, o2, by go_num, by omega, by omega, HS8.out⟩
        case measure => simp [Lib.intOf]; omega
    · have HW9 := Lib.hid (HW.out wr hgr.out)
      clear HW hrz hqz HR HQ
      rcases Nat.lt_or_ge j l.length with h1 | h1
      · have hq1 : (j : Int) < (l.length : Int) := by omega
        have hq2 : ¬ (j : Int) < 40 := by omega
        have hq3 : decide ((j : Int) < 40) = false := decide_eq_false hq2
        go_wp2_with (go_at_call 24; (with_reducible refine HW9.out.mono ?_); rintro e w9 ⟨rfl, b9⟩)
        go_ret
        exact ⟨rfl, HB.out.trans (b9.mono HB.out.size)⟩
      · have hq1 : ¬ (j : Int) < (l.length : Int) := by omega
        have hq3 : decide ((j : Int) < (l.length : Int)) = false := decide_eq_false hq1
        go_wp2_with (go_at_call 24; (with_reducible refine HW9.out.mono ?_); rintro e w9 ⟨rfl, b9⟩)
        go_ret
        exact ⟨rfl, HB.out.trans (b9.mono HB.out.size)⟩
end Go.Proofs.YtllkflbkndfdeaaDoor
