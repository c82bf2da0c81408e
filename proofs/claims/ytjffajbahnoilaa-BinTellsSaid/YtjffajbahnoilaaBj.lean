/-
  BinTells, walked.
-/
import Derived.Test.YtjffajbahnoilaaBi
namespace Go.Proofs.Ytjffajbahnoilaa
open Go Go.RowKit Go.Lib

theorem firstM_8 (a : Int) : ∃ x0 x1 x2 x3 x4 x5 x6 x7, firstM a = [x0, x1, x2, x3, x4, x5, x6, x7] := by
  unfold firstM
  split
  · exact ⟨_, _, _, _, _, _, _, _, rfl⟩
  · exact ⟨_, _, _, _, _, _, _, _, rfl⟩

theorem guard26 : Try.prog.eqGuardType Try.prog.depth 26 = false := by kernel_rfl
theorem info3s : (Try.prog.info? 3).isSome = true := by kernel_rfl
theorem info3 : ∃ i, Try.prog.info? 3 = some i := Option.isSome_iff_exists.1 info3s
theorem cells3 : Try.prog.cellsOf 3 = 1 := by kernel_rfl
theorem arr26 : Try.prog.underlying 26 = some (.array 8 3) := by kernel_rfl
theorem part3 (xs : Array Value) (off : Nat) (x : Int) (hv : xs[off]? = some (.int .i64 x)) (w : World) : (part 3 xs off).run Try.prog w = .ok (.int .i64 x) w := by
  simp [part, isAgg, run_underlying Try.underlying3, hv]
theorem arr_eq (a0 a1 a2 a3 a4 a5 a6 a7 : Int) (w : World) : (Op.equalIn 10000 26 (.agg #[.int .i64 a0, .int .i64 a1, .int .i64 a2, .int .i64 a3, .int .i64 a4, .int .i64 a5, .int .i64 a6, .int .i64 a7]) (.agg #[.int .i64 a0, .int .i64 a1, .int .i64 a2, .int .i64 a3, .int .i64 a4, .int .i64 a5, .int .i64 a6, .int .i64 a7])).run Try.prog w = .ok true w := by
  obtain ⟨i, hi⟩ := info3
  obtain ⟨n, hn⟩ : ∃ n, n = 9999 := ⟨_, rfl⟩
  rw [run_equalIn_array w 9999 _ _ arr26 hi, cells3]
  have p0 := fun w => part3 #[.int .i64 a0, .int .i64 a1, .int .i64 a2, .int .i64 a3, .int .i64 a4, .int .i64 a5, .int .i64 a6, .int .i64 a7] 0 a0 rfl w
  have p1 := fun w => part3 #[.int .i64 a0, .int .i64 a1, .int .i64 a2, .int .i64 a3, .int .i64 a4, .int .i64 a5, .int .i64 a6, .int .i64 a7] 1 a1 rfl w
  have p2 := fun w => part3 #[.int .i64 a0, .int .i64 a1, .int .i64 a2, .int .i64 a3, .int .i64 a4, .int .i64 a5, .int .i64 a6, .int .i64 a7] 2 a2 rfl w
  have p3 := fun w => part3 #[.int .i64 a0, .int .i64 a1, .int .i64 a2, .int .i64 a3, .int .i64 a4, .int .i64 a5, .int .i64 a6, .int .i64 a7] 3 a3 rfl w
  have p4 := fun w => part3 #[.int .i64 a0, .int .i64 a1, .int .i64 a2, .int .i64 a3, .int .i64 a4, .int .i64 a5, .int .i64 a6, .int .i64 a7] 4 a4 rfl w
  have p5 := fun w => part3 #[.int .i64 a0, .int .i64 a1, .int .i64 a2, .int .i64 a3, .int .i64 a4, .int .i64 a5, .int .i64 a6, .int .i64 a7] 5 a5 rfl w
  have p6 := fun w => part3 #[.int .i64 a0, .int .i64 a1, .int .i64 a2, .int .i64 a3, .int .i64 a4, .int .i64 a5, .int .i64 a6, .int .i64 a7] 6 a6 rfl w
  have p7 := fun w => part3 #[.int .i64 a0, .int .i64 a1, .int .i64 a2, .int .i64 a3, .int .i64 a4, .int .i64 a5, .int .i64 a6, .int .i64 a7] 7 a7 rfl w
  have e : ∀ (a b : Int) w, (Op.equalIn 9999 3 (.int .i64 a) (.int .i64 b)).run Try.prog w = .ok (a == b) w := fun a b w => by rw [run_equalIn_int w 9998 3 .i64 .i64 _ _ Try.underlying3]
  simp [Op.eqItems, List.range_succ, p0, p1, p2, p3, p4, p5, p6, p7, e]

theorem Row.take {W : World} {B : Nat} {A : Option Addr} {k : IntKind} {l : List Int} (h : Row W B A k l) (n : Nat) : Row W B A k (l.take n) := by
  rcases h with rfl | ⟨ad, rfl, h1, h2⟩
  · exact .inl (by simp)
  · refine .inr ⟨ad, rfl, h1, fun j z hj => h2 j z ?_⟩
    rw [List.getElem?_take] at hj
    split at hj
    · exact hj
    · cases hj

theorem below_drewN {n : Nat} {W W' : World} (h : Below n W W') (k : Nat) : Below n W (W'.drewN k) := ⟨h.os, h.tape, h.output, h.size, h.block⟩
theorem two_new (w : World) (a b : Value) : (w.alloc (.cells #[a, b] 24)).heap[w.heap.size]? = some (.cells #[a, b] 24 (0, 0)) := World.alloc_heap_new w _

set_option maxRecDepth 100000 in
set_option maxHeartbeats 3200000 in
theorem tells_any (key : Nat) (hk : key < 4294967296) (a : Int) (A B : Option Addr) (c1 c2 : Nat) (l m : List Int) (hc : c1 ≤ maxLen ∧ l.length ≤ c1 ∧ c2 ≤ maxLen ∧ m.length ≤ c2) (w : World)
    (h1 : Row w w.heap.size A .i64 l) (h2 : Row w w.heap.size B .i64 m) :
    Calls Try.prog 3 #[.int .u32 key, .int .i64 a, .agg #[.slice A l.length c1, .slice B m.length c2]] w fun e w' => e = .returned (.bool true) ∧ Below w.heap.size w w' := by
  obtain ⟨n, hn⟩ : ∃ n, l.length = n := ⟨_, rfl⟩
  obtain ⟨q, hq⟩ : ∃ q, m.length = q := ⟨_, rfl⟩
  rw [hn, hq] at hc ⊢
  obtain ⟨n1, hn1⟩ : ∃ n1 : Nat, (if 50 < n then 50 else n) = n1 := ⟨_, rfl⟩
  obtain ⟨q1, hq1⟩ : ∃ q1 : Nat, (if 50 < q then 50 else q) = q1 := ⟨_, rfl⟩
  have hn2 : n1 ≤ n ∧ n1 ≤ 50 := by rw [← hn1]; split <;> omega
  have hq2 : q1 ≤ q ∧ q1 ≤ 50 := by rw [← hq1]; split <;> omega
  have e1 : (if (50 : Int) < (n : Int) then (50 : Int) else (n : Int)) = (n1 : Int) := by rw [← hn1]; split <;> split <;> omega
  have e2 : (if (50 : Int) < (q : Int) then (50 : Int) else (q : Int)) = (q1 : Int) := by rw [← hq1]; split <;> split <;> omega
  have lt1 : (l.take n1).length = n1 := by rw [List.length_take]; omega
  have lt2 : (m.take q1).length = q1 := by rw [List.length_take]; omega
  obtain ⟨W1, hW1⟩ : ∃ W1, w.alloc (.cells #[.slice A n c1, .slice B q c2] 24) = W1 := ⟨_, rfl⟩
  have s1 : W1.heap.size = w.heap.size + 1 := by rw [← hW1]; simp
  have b1 : Below w.heap.size w W1 := by rw [← hW1]; exact (Below.refl _ _).alloc (Nat.le_refl _) _
  have g1 : W1.heap[w.heap.size]? = some (.cells #[.slice A n c1, .slice B q c2] 24 (0, 0)) := by rw [← hW1]; exact two_new _ _ _
  have HR1 := Lib.hid (h1.take n1)
  have HR2 := Lib.hid (h2.take q1)
  have HL1 := Lib.hid lt1
  have HL2 := Lib.hid lt2
  have HB1 := Lib.hid b1
  have HX1 : Hid (∀ w', Below W1.heap.size W1 w' → w'.cell? ⟨w.heap.size, 0, none⟩ = some (.slice A n c1) ∧ w'.cell? ⟨w.heap.size, 1, none⟩ = some (.slice B q c2) ∧ Below W1.heap.size W1 w') := Lib.hid (fun w' h => by
    have g2 := (h.block w.heap.size (by omega)).trans g1
    exact ⟨by rw [Ev.cell_of_block g2]; rfl, by rw [Ev.cell_of_block g2]; rfl, h⟩)
  have i0 : (0 : Int) ≤ (n1 : Int) := by omega
  have i1 : (n1 : Int) ≤ (c1 : Int) := by omega
  have i2 : (0 : Int) ≤ (q1 : Int) := by omega
  have i3 : (q1 : Int) ≤ (c2 : Int) := by omega
  have HC := Lib.hid hc
  have HN2 := Lib.hid hn2
  have HQ2 := Lib.hid hq2
  clear hn hq hn1 hq1 lt1 lt2 h1 h2 b1 g1
  go_enter Try.func3, Try.ntmps3
  go_wp2
  obtain ⟨d1, d2, -⟩ := HX1.out W1 (Below.refl _ _)
  go_quiet (fail)
  clear d1 d2
  have HBD : Hid (∀ k, Below W1.heap.size W1 (W1.drewN k)) := Lib.hid (fun k => below_drewN (Below.refl _ _) k)
  have HK := Lib.hid hk
  go_wp2
  go_loopw [9] (fun i wr => ∃ j : Nat, i = .int .u32 j ∧ j ≤ 40 ∧ Below W1.heap.size W1 wr) (fun i _ => 40 - (intOf i).toNat)
  case atStart => exact ⟨0, rfl, by omega, HBD.out _⟩
  case round =>
    rename World => wu
    obtain ⟨j, rfl, hj, hbr⟩ := hrel
    have BR := Lib.hid hbr
    clear hbr
    by_cases hlt : j < 40
    · have W1' : IntKind.u32.wrap ((j : Int) + 1) = (j : Int) + 1 := IntWalk.u32_in _ (by omega)
      obtain ⟨y, hy⟩ : ∃ y : Int, IntKind.u32.wrap ((key : Int) + (j : Int)) = y := ⟨_, rfl⟩
      have hy2 : 0 ≤ y ∧ y < 4294967296 := by rw [← hy, IntKind.wrap_u32]; omega
      have hy3 : ((key : Int) + (j : Int)) % 4294967296 = y := by rw [← hy, IntKind.wrap_u32]
      have hj2 : (j : Int) < 40 := by omega
      have HY2 := Lib.hid hy2
      have P1 := fun w => Lib.hid (of_any y HY2.out w)
      have P2 := fun w => Lib.hid (rof_any y HY2.out w)
      have P3 := fun w => Lib.hid (of_any (j : Int) (by omega) w)
      have P4 := fun w => Lib.hid (rof_any (j : Int) (by omega) w)
      obtain ⟨z, hz⟩ : ∃ z, ofM y = z := ⟨_, rfl⟩
      obtain ⟨z2, hz2⟩ : ∃ z, ofM (j : Int) = z := ⟨_, rfl⟩
      rw [hz] at P1 P2
      rw [hz2] at P3 P4
      clear hz hz2
      go_wp2_with (first
        | (go_at_call 6
           (with_reducible refine (P1 _).out.mono ?_)
           rintro e w1 ⟨rfl, rfl⟩)
        | (go_at_call 6
           (with_reducible refine (P3 _).out.mono ?_)
           rintro e w1 ⟨rfl, rfl⟩)
        | (go_at_call 7
           (with_reducible refine (P2 _).out.mono ?_)
           rintro e w1 ⟨rfl, rfl⟩)
        | (go_at_call 7
           (with_reducible refine (P4 _).out.mono ?_)
           rintro e w1 ⟨rfl, rfl⟩))
      go_roundw
      case rel => exact ⟨j + 1, by go_num, by omega, BR.out⟩
      case measure => simp [intOf]; omega
    · obtain rfl : j = 40 := by omega
      obtain ⟨x0, x1, x2, x3, x4, x5, x6, x7, hx⟩ := firstM_8 a
      obtain ⟨y0, y1, y2, y3, y4, y5, y6, y7, hy⟩ := firstM_8 (a.tmod 5)
      have hG := guard26
      have hE := arr_eq
      have P8 := fun w => first_any a w
      have P9 := fun w => rfirst_any a w
      have P8' := fun w => first_any (a.tmod 5) w
      have P9' := fun w => rfirst_any (a.tmod 5) w
      rw [hx] at P8 P9
      rw [hy] at P8' P9'
      simp only [arr, List.map_cons, List.map_nil] at P8 P9 P8' P9'
      have P8 := Lib.hid P8
      have P9 := Lib.hid P9
      have P8' := Lib.hid P8'
      have P9' := Lib.hid P9'
      obtain ⟨k, hk⟩ : ∃ k, (if q1 = 0 then 0 else n1) = k := ⟨_, rfl⟩
      obtain ⟨L, hL⟩ : ∃ L, (if q1 = 0 then [] else turnL (m.take q1) q1 n1) = L := ⟨_, rfl⟩
      have hLk : L.length = k := by
        rw [← hL, ← hk]
        split
        · rfl
        · exact turnL_len _ _ _
      have hkm : k ≤ maxLen := by
        rw [← hk]
        have := HN2.out
        unfold maxLen
        split <;> omega
      have HLk := Lib.hid hLk
      have HKM := Lib.hid hkm
      obtain ⟨r, hr⟩ : ∃ r, risM (-1) (l.take n1) = r := ⟨_, rfl⟩
      have hs0 := s1
      have QW : Hid (∀ W', Below W1.heap.size W1 W' → Below w.heap.size w W') := Lib.hid (fun W' h => HB1.out.trans (h.mono (by omega)))
      have P11 : Hid (∀ W', Below W1.heap.size W1 W' → Calls Try.prog 11 #[.slice A n1 c1, .slice B q1 c2] W' (Tells W' k L)) := Lib.hid (fun W' h => by
        have := tells_turns A B n1 c1 q1 c2 (m.take q1) HL2.out (by have := HQ2.out; unfold maxLen; omega) HN2.out.2 w.heap.size W' (QW.out W' h).size (HR2.out.below (QW.out W' h) (Nat.le_refl _))
        rw [hk, hL] at this; exact this)
      have P12 : Hid (∀ W', Below W1.heap.size W1 W' → Calls Try.prog 12 #[.slice A n1 c1, .slice B q1 c2] W' (Tells W' k L)) := Lib.hid (fun W' h => by
        have := tells_rturns A B n1 c1 q1 c2 (m.take q1) HL2.out (by have := HQ2.out; unfold maxLen; omega) HN2.out.2 w.heap.size W' (QW.out W' h).size (HR2.out.below (QW.out W' h) (Nat.le_refl _))
        rw [hk, hL] at this; exact this)
      have P13 : Hid (∀ W', Below W1.heap.size W1 W' → Calls Try.prog 13 #[.slice A n1 c1] W' fun e w' => e = .returned (.bool r) ∧ Below W'.heap.size W' w') := Lib.hid (fun W' h => by
        have := rising_any A c1 n1 (l.take n1) HL1.out (by have := HN2.out; unfold maxLen; omega) w.heap.size W' (HR1.out.below (QW.out W' h) (Nat.le_refl _))
        rw [hr] at this; exact this)
      have P14 : Hid (∀ W', Below W1.heap.size W1 W' → Calls Try.prog 14 #[.slice A n1 c1] W' fun e w' => e = .returned (.bool r) ∧ Below W'.heap.size W' w') := Lib.hid (fun W' h => by
        have := rrising_any A c1 n1 (l.take n1) HL1.out (by have := HN2.out; unfold maxLen; omega) w.heap.size W' (HR1.out.below (QW.out W' h) (Nat.le_refl _))
        rw [hr] at this; exact this)
      clear hx hy hk hL hLk hkm hr hs0
      go_wp2_with (first
        | (go_at_call 8
           (with_reducible refine (P8.out _).mono ?_)
           rintro e w1 ⟨rfl, hb⟩
           have BR := Lib.hid (BR.out.trans (hb.mono BR.out.size))
           clear hb)
        | (go_at_call 8
           (with_reducible refine (P8'.out _).mono ?_)
           rintro e w1 ⟨rfl, hb⟩
           have BR := Lib.hid (BR.out.trans (hb.mono BR.out.size))
           clear hb)
        | (go_at_call 9
           (with_reducible refine (P9.out _).mono ?_)
           rintro e w1 ⟨rfl, hb⟩
           have BR := Lib.hid (BR.out.trans (hb.mono BR.out.size))
           clear hb)
        | (go_at_call 9
           (with_reducible refine (P9'.out _).mono ?_)
           rintro e w1 ⟨rfl, hb⟩
           have BR := Lib.hid (BR.out.trans (hb.mono BR.out.size))
           clear hb)
        | (go_at_call 11
           (with_reducible refine (P11.out _ BR.out).mono ?_)
           rintro e w5 ⟨A1, d1, rfl, r1, hb⟩
           have BR := Lib.hid (BR.out.trans (hb.mono BR.out.size))
           have R1 := Lib.hid r1
           clear hb r1)
        | (go_at_call 12
           (with_reducible refine (P12.out _ BR.out).mono ?_)
           rintro e w6 ⟨A2, d2, rfl, r2, hb⟩
           have BR := Lib.hid (BR.out.trans (hb.mono BR.out.size))
           have R1 := Lib.hid (R1.out.below hb hb.size)
           have R2 := Lib.hid r2
           clear hb r2)
        | (go_at_call 10
           (with_reducible refine (ints_any A1 A2 d1 d2 k L HLk.out HKM.out w6.heap.size _ R1.out R2.out).mono ?_)
           rintro e w7 ⟨rfl, hb⟩
           have BR := Lib.hid (BR.out.trans (hb.mono BR.out.size))
           clear hb)
        | (go_at_call 13
           (with_reducible refine (P13.out _ BR.out).mono ?_)
           rintro e w8 ⟨rfl, hb⟩
           have BR := Lib.hid (BR.out.trans (hb.mono BR.out.size))
           clear hb)
        | (go_at_call 14
           (with_reducible refine (P14.out _ BR.out).mono ?_)
           rintro e w8 ⟨rfl, hb⟩
           have BR := Lib.hid (BR.out.trans (hb.mono BR.out.size))
           clear hb)
        | (go_at_call 15
           (with_reducible refine (works _).mono ?_)
           rintro e w9 ⟨rfl, hb⟩
           have BR := Lib.hid (BR.out.trans (hb.mono BR.out.size))
           clear hb))
      go_ret
      exact ⟨rfl, QW.out _ BR.out⟩
end Go.Proofs.Ytjffajbahnoilaa
