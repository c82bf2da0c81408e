/-
  The walk of AccTells.
-/
import Derived.Test.YtlkekcmphbpfbaaAf
namespace Go.Proofs.Ytlkekcmphbpfbaa
open Go Go.RowKit Go.Lib

set_option maxRecDepth 100000 in
set_option maxHeartbeats 3200000 in
theorem tells_any (a b : AccD) (v : Int) (ha : a.ok) (hb : b.ok) (hv : I64 v) (w : World) : Calls Try.prog 3 #[a.v, b.v, .int .i64 v] w fun e w' => e = .returned (.bool true) ∧ Below w.heap.size w w' := by
  have HX : Hid (∀ w', Below (w.heap.size + 2) ((w.alloc (.cells #[.int .i64 a.n, .int .i64 a.hi, .int .u64 a.lo, .int .i64 a.mn, .int .i64 a.mx] 24)).alloc (.cells #[.int .i64 b.n, .int .i64 b.hi, .int .u64 b.lo, .int .i64 b.mn, .int .i64 b.mx] 24)) w' → w'.cell? ⟨w.heap.size, 0, none⟩ = some (.int .i64 a.n) ∧ w'.cell? ⟨w.heap.size, 1, none⟩ = some (.int .i64 a.hi) ∧ w'.cell? ⟨w.heap.size, 2, none⟩ = some (.int .u64 a.lo) ∧ w'.cell? ⟨w.heap.size, 3, none⟩ = some (.int .i64 a.mn) ∧ w'.cell? ⟨w.heap.size, 4, none⟩ = some (.int .i64 a.mx) ∧ w'.cell? ⟨w.heap.size + 1, 0, none⟩ = some (.int .i64 b.n) ∧ w'.cell? ⟨w.heap.size + 1, 1, none⟩ = some (.int .i64 b.hi) ∧ w'.cell? ⟨w.heap.size + 1, 2, none⟩ = some (.int .u64 b.lo) ∧ w'.cell? ⟨w.heap.size + 1, 3, none⟩ = some (.int .i64 b.mn) ∧ w'.cell? ⟨w.heap.size + 1, 4, none⟩ = some (.int .i64 b.mx)) := Lib.hid (fun w' h => by
    have h1 : w'.heap[w.heap.size]? = some (.cells #[.int .i64 a.n, .int .i64 a.hi, .int .u64 a.lo, .int .i64 a.mn, .int .i64 a.mx] 24 (0, 0)) := (h.block _ (by omega)).trans (by rw [Below.heap_alloc _ _ _ (by simp)]; exact World.alloc_heap_new w _)
    have h2 : w'.heap[w.heap.size + 1]? = some (.cells #[.int .i64 b.n, .int .i64 b.hi, .int .u64 b.lo, .int .i64 b.mn, .int .i64 b.mx] 24 (0, 0)) := (h.block _ (by omega)).trans (by simpa using World.alloc_heap_new (w.alloc (.cells #[.int .i64 a.n, .int .i64 a.hi, .int .u64 a.lo, .int .i64 a.mn, .int .i64 a.mx] 24)) (.cells #[.int .i64 b.n, .int .i64 b.hi, .int .u64 b.lo, .int .i64 b.mn, .int .i64 b.mx] 24))
    have p := accAt_of h1
    have q := accAt_of h2
    exact ⟨p.c0, p.c1, p.c2, p.c3, p.c4, q.c0, q.c1, q.c2, q.c3, q.c4⟩)
  have BW : Hid (Below w.heap.size w ((w.alloc (.cells #[.int .i64 a.n, .int .i64 a.hi, .int .u64 a.lo, .int .i64 a.mn, .int .i64 a.mx] 24)).alloc (.cells #[.int .i64 b.n, .int .i64 b.hi, .int .u64 b.lo, .int .i64 b.mn, .int .i64 b.mx] 24))) := Lib.hid (by go_grown)
  have HZ : Hid (w.heap.size + 2 ≤ ((w.alloc (.cells #[.int .i64 a.n, .int .i64 a.hi, .int .u64 a.lo, .int .i64 a.mn, .int .i64 a.mx] 24)).alloc (.cells #[.int .i64 b.n, .int .i64 b.hi, .int .u64 b.lo, .int .i64 b.mn, .int .i64 b.mx] 24)).heap.size) := Lib.hid (by simp)
  have HA := Lib.hid ha
  have HB := Lib.hid hb
  have HV := Lib.hid hv
  have HO : Hid (oneM v).ok := Lib.hid (oneM_ok hv)
  have ON := fun w => one_any v hv w
  have RN := fun w => rone_any v hv w
  clear ha hb hv
  obtain ⟨o, ho⟩ : ∃ o, oneM v = o := ⟨_, rfl⟩
  rw [ho] at HO
  simp only [ho] at ON RN
  clear ho
  have M1 := fun w => merge_any a b HA.out HB.out w
  have M2 := fun w => merge_any a o HA.out HO.out w
  have R1 := fun w => rmerge_any a b HA.out HB.out w
  have R2 := fun w => rmerge_any a o HA.out HO.out w
  obtain ⟨m, hm⟩ : ∃ m, mergeM a b = m := ⟨_, rfl⟩
  obtain ⟨m2, hm2⟩ : ∃ m2, mergeM a o = m2 := ⟨_, rfl⟩
  simp only [hm, hm2] at M1 M2 R1 R2
  clear hm hm2
  replace ON := Lib.hid ON
  replace RN := Lib.hid RN
  replace M1 := Lib.hid M1
  replace M2 := Lib.hid M2
  replace R1 := Lib.hid R1
  replace R2 := Lib.hid R2
  have hg : Try.prog.eqGuardType Try.prog.depth 24 = false := guard24
  have E0 := fun w => acc_eq o w
  have E1 := fun w => acc_eq m w
  have E2 := fun w => acc_eq m2 w
  have hs : Hid (Below (w.heap.size + 2) ((w.alloc (.cells #[.int .i64 a.n, .int .i64 a.hi, .int .u64 a.lo, .int .i64 a.mn, .int .i64 a.mx] 24)).alloc (.cells #[.int .i64 b.n, .int .i64 b.hi, .int .u64 b.lo, .int .i64 b.mn, .int .i64 b.mx] 24)) ((w.alloc (.cells #[.int .i64 a.n, .int .i64 a.hi, .int .u64 a.lo, .int .i64 a.mn, .int .i64 a.mx] 24)).alloc (.cells #[.int .i64 b.n, .int .i64 b.hi, .int .u64 b.lo, .int .i64 b.mn, .int .i64 b.mx] 24)).drew) := Lib.hid (by go_grown)
  go_enter Try.func3, Try.ntmps3
  go_wp2_with fail
  go_region_held3 (fun w' => w'.cell? ⟨w.heap.size, 0, none⟩ = some (.int .i64 a.n) ∧ w'.cell? ⟨w.heap.size, 1, none⟩ = some (.int .i64 a.hi) ∧ w'.cell? ⟨w.heap.size, 2, none⟩ = some (.int .u64 a.lo) ∧ w'.cell? ⟨w.heap.size, 3, none⟩ = some (.int .i64 a.mn) ∧ w'.cell? ⟨w.heap.size, 4, none⟩ = some (.int .i64 a.mx) ∧ w'.cell? ⟨w.heap.size + 1, 0, none⟩ = some (.int .i64 b.n) ∧ w'.cell? ⟨w.heap.size + 1, 1, none⟩ = some (.int .i64 b.hi) ∧ w'.cell? ⟨w.heap.size + 1, 2, none⟩ = some (.int .u64 b.lo) ∧ w'.cell? ⟨w.heap.size + 1, 3, none⟩ = some (.int .i64 b.mn) ∧ w'.cell? ⟨w.heap.size + 1, 4, none⟩ = some (.int .i64 b.mx))
    (first | assumption | (exact HX.out _ hs.out))
    (first
      | (go_at_call 8
         (with_reducible refine (ON.out _).mono ?_)
         rintro e w1 ⟨rfl, hb1⟩
         replace hs := Lib.hid (hs.out.trans (hb1.mono (Nat.le_trans HZ.out hs.out.size)))
         clear hb1)
      | (go_at_call 9
         (with_reducible refine (RN.out _).mono ?_)
         rintro e w1 ⟨rfl, hb1⟩
         replace hs := Lib.hid (hs.out.trans (hb1.mono (Nat.le_trans HZ.out hs.out.size)))
         clear hb1)
      | (go_at_call 10
         (first | (with_reducible refine (M1.out _).mono ?_) | (with_reducible refine (M2.out _).mono ?_))
         rintro e w1 ⟨rfl, hb1⟩
         replace hs := Lib.hid (hs.out.trans (hb1.mono (Nat.le_trans HZ.out hs.out.size)))
         clear hb1)
      | (go_at_call 11
         (first | (with_reducible refine (R1.out _).mono ?_) | (with_reducible refine (R2.out _).mono ?_))
         rintro e w1 ⟨rfl, hb1⟩
         replace hs := Lib.hid (hs.out.trans (hb1.mono (Nat.le_trans HZ.out hs.out.size)))
         clear hb1))
  replace HA := Lib.hid HA.out.lo
  replace HB := Lib.hid HB.out.lo
  clear HO M1 M2 R1 R2 E0 E1 E2 ON RN hg
  go_wp2_with fail
  go_loopw [7] (fun i wr => ∃ j : Nat, i = .int .i64 ((j : Int) - 2) ∧ j ≤ 8 ∧ Below (w.heap.size + 2) ((w.alloc (.cells #[.int .i64 a.n, .int .i64 a.hi, .int .u64 a.lo, .int .i64 a.mn, .int .i64 a.mx] 24)).alloc (.cells #[.int .i64 b.n, .int .i64 b.hi, .int .u64 b.lo, .int .i64 b.mn, .int .i64 b.mx] 24)) wr) (fun i _ => (6 - intOf i).toNat)
  case atStart => exact ⟨0, rfl, by omega, hs.out⟩
  case round =>
    obtain ⟨j, rfl, hj, hbr⟩ := hrel
    replace hs := Lib.hid hbr
    obtain ⟨c0, c1, c2, c3, c4, d0, d1, d2, d3, d4⟩ := HX.out _ hbr
    clear hbr
    by_cases hj8 : j < 8
    ·
      obtain ⟨Q1, Q2⟩ : Hid (∀ w, Calls Try.prog 12 #[a.v, .int .i64 ((j : Int) - 2)] w fun e w' => e = .returned (Tells a ((j : Int) - 2)) ∧ Below w.heap.size w w') ∧ Hid (∀ w, Calls Try.prog 13 #[a.v, .int .i64 ((j : Int) - 2)] w fun e w' => e = .returned (Tells a ((j : Int) - 2)) ∧ Below w.heap.size w w') := ⟨Lib.hid (fun w => result_any a ((j : Int) - 2) HA.out w), Lib.hid (fun w => rresult_any a ((j : Int) - 2) HA.out w)⟩
      unfold Tells at Q1 Q2
      obtain ⟨x, hx⟩ : ∃ x, resM a ((j : Int) - 2) = x := ⟨_, rfl⟩
      simp only [hx] at Q1 Q2
      clear hx
      go_wp2_with (first
        | (go_at_call 12
           (with_reducible refine (Q1.out _).mono ?_)
           rintro e w1 ⟨rfl, hb1⟩
           replace hs := Lib.hid (hs.out.trans (hb1.mono (Nat.le_trans HZ.out hs.out.size)))
           clear hb1 c0 c1 c2 c3 c4 d0 d1 d2 d3 d4
           obtain ⟨c0, c1, c2, c3, c4, d0, d1, d2, d3, d4⟩ := HX.out _ hs.out)
        | (go_at_call 13
           (with_reducible refine (Q2.out _).mono ?_)
           rintro e w1 ⟨rfl, hb1⟩
           replace hs := Lib.hid (hs.out.trans (hb1.mono (Nat.le_trans HZ.out hs.out.size)))
           clear hb1 c0 c1 c2 c3 c4 d0 d1 d2 d3 d4))
      go_roundw
      case rel =>
        refine ⟨j + 1, ?_, by omega, hs.out⟩
        go_num
      case measure => simp [intOf]; omega
    · obtain rfl : j = 8 := by omega
      obtain ⟨Q1, Q2⟩ : Hid (∀ w, Calls Try.prog 12 #[b.v, .int .i64 v] w fun e w' => e = .returned (Tells b v) ∧ Below w.heap.size w w') ∧ Hid (∀ w, Calls Try.prog 13 #[b.v, .int .i64 v] w fun e w' => e = .returned (Tells b v) ∧ Below w.heap.size w w') := ⟨Lib.hid (fun w => result_any b v HB.out w), Lib.hid (fun w => rresult_any b v HB.out w)⟩
      unfold Tells at Q1 Q2
      obtain ⟨x, hx⟩ : ∃ x, resM b v = x := ⟨_, rfl⟩
      simp only [hx] at Q1 Q2
      clear hx
      go_wp2_with (first
        | (go_at_call 12
           (with_reducible refine (Q1.out _).mono ?_)
           rintro e w1 ⟨rfl, hb1⟩
           replace hs := Lib.hid (hs.out.trans (hb1.mono (Nat.le_trans HZ.out hs.out.size)))
           clear hb1 c0 c1 c2 c3 c4 d0 d1 d2 d3 d4
           obtain ⟨c0, c1, c2, c3, c4, d0, d1, d2, d3, d4⟩ := HX.out _ hs.out)
        | (go_at_call 13
           (with_reducible refine (Q2.out _).mono ?_)
           rintro e w1 ⟨rfl, hb1⟩
           replace hs := Lib.hid (hs.out.trans (hb1.mono (Nat.le_trans HZ.out hs.out.size)))
           clear hb1 c0 c1 c2 c3 c4 d0 d1 d2 d3 d4)
        | (go_at_call 14
           (with_reducible refine (works _).mono ?_)
           rintro e w1 ⟨rfl, hb1⟩
           replace hs := Lib.hid (hs.out.trans (hb1.mono (Nat.le_trans HZ.out hs.out.size)))
           clear hb1))
      go_ret
      exact ⟨rfl, BW.out.trans (hs.out.mono (by omega))⟩
end Go.Proofs.Ytlkekcmphbpfbaa
