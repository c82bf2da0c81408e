/-
  Cells that count; BinEven, walked.
-/
import Derived.Test.YtjffajbahnoilaaBi
import Derived.Test.YtjffajbahnoilaaBn
namespace Go.Proofs.Ytjffajbahnoilaa
open Go Go.RowKit Go.Lib

/-- N cells, each of them how often f told it. -/
def cellsC (f : Nat → Nat) (j N : Nat) : List Value := (List.range N).map (fun i => Value.int .i64 (cnt f j i))
/-- Such a block. -/
def Cnt (W : World) (g : Nat) (t : TypeId) (f : Nat → Nat) (j N : Nat) : Prop := W.heap[g]? = some (.cells (cellsC f j N).toArray t (0, 0))
theorem Cnt.get {W : World} {g : Nat} {t : TypeId} {f : Nat → Nat} {j N : Nat} (h : Cnt W g t f j N) {x : Nat} (hx : x < N) : W.cell? ⟨g, x, none⟩ = some (.int .i64 (cnt f j x)) := by
  rw [Ev.cell_of_block h]
  simp [cellsC, hx]
theorem Cnt.froz {W : World} {g : Nat} {t : TypeId} {f : Nat → Nat} {j N : Nat} (h : Cnt W g t f j N) (x : Nat) : W.frozen? ⟨g, x, none⟩ = false := by
  have h' : W.heap[g]? = _ := h
  simp [World.frozen?, h']
theorem Cnt.step {W : World} {g : Nat} {t : TypeId} {f : Nat → Nat} {j N x : Nat} (h : Cnt W g t f j N) (hf : f j = x) (hx : x < N) {c : Int} (hc : (cnt f j x : Int) = c) : Cnt (W.setCell ⟨g, x, none⟩ (.int .i64 (c + 1))) g t f (j + 1) N := by
  have h' : W.heap[g]? = _ := h
  unfold Cnt
  have e : (cellsC f j N).set x (.int .i64 (c + 1)) = cellsC f (j + 1) N := by
    refine List.ext_getElem? fun k => ?_
    rw [List.getElem?_set]
    by_cases hk : x = k
    · subst hk
      simp [cellsC, hx, cnt, hf, ← hc]
    · rw [if_neg hk]
      by_cases hkN : k < N
      · have : ¬ f j = k := by omega
        simp [cellsC, hkN, cnt, this]
      · simp [cellsC, hkN]
  rw [← e]
  simp [World.setCell, Array.getElem?_modify, h']
theorem Cnt.below {W W' : World} {g n : Nat} {t : TypeId} {f : Nat → Nat} {j N : Nat} (h : Cnt W g t f j N) (hb : Below n W W') (hg : g < n) : Cnt W' g t f j N := (hb.block g hg).trans h
theorem Cnt.other {W : World} {g : Nat} {t : TypeId} {f : Nat → Nat} {j N : Nat} (h : Cnt W g t f j N) {a : Addr} (v : Value) (ha : g ≠ a.block) : Cnt (W.setCell a v) g t f j N := (Below.heap_setCell _ _ _ _ ha).trans h

theorem firstM_own (w : Nat) (h : 1 ≤ w ∧ w ≤ 3) : firstM (w : Int) = [((own1 w 0 : Nat) : Int), ((own1 w 1 : Nat) : Int), ((own1 w 2 : Nat) : Int), ((own1 w 3 : Nat) : Int), ((own1 w 4 : Nat) : Int), ((own1 w 5 : Nat) : Int), ((own1 w 6 : Nat) : Int), ((own1 w 7 : Nat) : Int)] := by
  unfold firstM firstL own1
  rw [if_pos (by omega)]
  simp [List.range_succ]
/-- Who has the bins, as cells. -/
def Fst (W : World) (g w : Nat) : Prop := W.heap[g]? = some (.cells ((List.range 8).map (fun b => Value.int .i64 (own1 w b))).toArray 26 (0, 0))
theorem Fst.get {W : World} {g w : Nat} (h : Fst W g w) {x : Nat} (hx : x < 8) : W.cell? ⟨g, x, none⟩ = some (.int .i64 (own1 w x)) := by
  rw [Ev.cell_of_block h]
  simp [hx]
theorem Fst.below {W W' : World} {g n w : Nat} (h : Fst W g w) (hb : Below n W W') (hg : g < n) : Fst W' g w := (hb.block g hg).trans h
theorem Fst.other {W : World} {g w : Nat} (h : Fst W g w) {a : Addr} (v : Value) (ha : g ≠ a.block) : Fst (W.setCell a v) g w := (Below.heap_setCell _ _ _ _ ha).trans h

/-- Who has each, as cells of a list. -/
def Lst (W : World) (g n w : Nat) : Prop := W.heap[g]? = some (.cells ((List.range n).map (fun b => Value.int .i64 (own1 w b))).toArray 3 (0, 0))
theorem Lst.get {W : World} {g n w : Nat} (h : Lst W g n w) {x : Nat} (hx : x < n) : W.cell? ⟨g, x, none⟩ = some (.int .i64 (own1 w x)) := by
  rw [Ev.cell_of_block h]
  simp [hx]
theorem Lst.other {W : World} {g n w : Nat} (h : Lst W g n w) {a : Addr} (v : Value) (ha : g ≠ a.block) : Lst (W.setCell a v) g n w := (Below.heap_setCell _ _ _ _ ha).trans h
/-- The workers from 1 on. -/
def wsl (j : Nat) : List Int := (List.range j).map (fun (k : Nat) => 1 + (k : Int))
theorem wsl_len (j : Nat) : (wsl j).length = j := by simp [wsl]
theorem wsl_succ (j : Nat) : (wsl (j + 1)).map (Value.int .i64) = (wsl j).map (Value.int .i64) ++ [.int .i64 ((j : Int) + 1)] := by
  simp [wsl, List.range_succ, Int.add_comm]
theorem turn_own (w k : Nat) (hw : 0 < w) : turn (wsl w) w k = .int .i64 (own1 w k) := by
  unfold turn own1
  have h := Nat.mod_lt k hw
  congr 1
  rw [List.getD_eq_getElem?_getD, List.getElem?_eq_getElem (by rw [wsl_len]; exact h)]
  simp [wsl]

theorem ofM_bn (key k : Nat) : ofM (((key : Int) + (k : Int)) % 4294967296) = (bn key k : Int) := by
  unfold ofM bn
  omega

set_option maxRecDepth 100000 in
set_option maxHeartbeats 3200000 in
theorem even_any (key a m : Nat) (hk : key < 4294967296) (ha : a < 256) (hm : m < 256) (w : World) :
    Calls Try.prog 4 #[.int .u32 key, .int .u8 a, .int .u8 m] w fun e w' => e = .returned (.bool true) ∧ Below w.heap.size w w' := by
  have HK := Lib.hid hk
  have HA := Lib.hid ha
  have HM := Lib.hid hm
  clear hk ha hm
  go_enter Try.func4, Try.ntmps4
  go_wp2_with (go_at_call 15
               (with_reducible refine (works _).mono ?_)
               rintro e w1 ⟨rfl, hb⟩
               have HB1 := Lib.hid hb
               clear hb)
  obtain ⟨W2, hW2⟩ : ∃ W2, w1.alloc (.cells #[.int .i64 0, .int .i64 0, .int .i64 0, .int .i64 0, .int .i64 0, .int .i64 0, .int .i64 0, .int .i64 0] 26) = W2 := ⟨_, rfl⟩
  have C2 : Cnt W2 w1.heap.size 26 (bn key) 0 8 := by rw [← hW2]; exact World.alloc_heap_new w1 _
  have b2 : Below w1.heap.size w1 W2 := by rw [← hW2]; exact (Below.refl _ _).alloc (Nat.le_refl _) _
  have s2 : w1.heap.size < W2.heap.size := by rw [← hW2]; simp
  have HC2 := Lib.hid C2
  have HB2 := Lib.hid b2
  have HS2 := Lib.hid s2
  rw [hW2]
  clear C2 b2 hW2 s2
  go_loopw [8] (fun i wr => ∃ j : Nat, i = .int .u32 j ∧ j ≤ 64 ∧ Cnt wr w1.heap.size 26 (bn key) j 8 ∧ Below w1.heap.size w1 wr ∧ w1.heap.size < wr.heap.size) (fun i _ => 64 - (intOf i).toNat)
  case atStart => exact ⟨0, rfl, by omega, HC2.out, HB2.out, HS2.out⟩
  case round =>
    rename World => wu
    obtain ⟨j, rfl, hj, hc, hb, hz⟩ := hrel
    have BR := Lib.hid hb
    have CR := Lib.hid hc
    have ZR := Lib.hid hz
    clear hb hz
    by_cases hlt : j < 64
    · have W1' : IntKind.u32.wrap ((j : Int) + 1) = (j : Int) + 1 := IntWalk.u32_in _ (by omega)
      obtain ⟨y, hy⟩ : ∃ y : Int, ((key : Int) + (j : Int)) % 4294967296 = y := ⟨_, rfl⟩
      have hy2 : 0 ≤ y ∧ y < 4294967296 := by rw [← hy]; omega
      have hj2 : (j : Int) < 64 := by omega
      obtain ⟨x, hx⟩ : ∃ x, bn key j = x := ⟨_, rfl⟩
      have hx8 : x < 8 := by rw [← hx]; exact bn_lt _ _
      have HX := Lib.hid hx
      have HY2 := Lib.hid hy2
      have P1 := fun w => of_any y hy2 w
      rw [← hy, ofM_bn, hx, hy] at P1
      have P1 := Lib.hid P1
      have i0 : ¬ (x : Int) < 0 := by omega
      have i7 : ¬ (x : Int) > 7 := by omega
      have i8 : (0 : Int) ≤ (x : Int) := by omega
      have i9 : (x : Int) < 8 := by omega
      obtain ⟨c, hcx⟩ : ∃ c : Int, (cnt (bn key) j x : Int) = c := ⟨_, rfl⟩
      have hcb : 0 ≤ c ∧ c ≤ 64 := by
        have := cnt_le (bn key) j x
        omega
      have d0 := hc.get hx8
      rw [hcx] at d0
      have f0 := hc.froz x
      have W2' : IntKind.i64.wrap (c + 1) = c + 1 := IntWalk.i64_in _ (by omega)
      have HCX := Lib.hid hcx
      have HX8 := Lib.hid hx8
      clear hx hy2 hcx hc
      go_wp2_with (go_at_call 6
                   (with_reducible refine (P1.out _).mono ?_)
                   rintro e w3 ⟨rfl, rfl⟩)
      go_roundw
      case rel => exact ⟨j + 1, by go_num, by omega, CR.out.step HX.out HX8.out HCX.out, BR.out.setCell (p := ⟨w1.heap.size, x, none⟩) (Nat.le_refl _) _, by simpa [World.setCell] using ZR.out⟩
      case measure => simp [intOf]; omega
    · obtain rfl : j = 64 := by omega
      go_wp2
      go_loopw [10] (fun i wr => ∃ j : Nat, i = .int .i64 j ∧ j ≤ 8 ∧ wr = wu) (fun i _ => 8 - (intOf i).toNat)
      case atStart => exact ⟨0, rfl, by omega, rfl⟩
      case round =>
        obtain ⟨j, rfl, hj, rfl⟩ := hrel
        by_cases hlt : j < 8
        · have W1' : IntKind.i64.wrap ((j : Int) + 1) = (j : Int) + 1 := IntWalk.i64_in _ (by omega)
          obtain ⟨c, hcx⟩ : ∃ c : Int, (cnt (bn key) 64 j : Int) = c := ⟨_, rfl⟩
          have hcb := bn_even key j hlt
          have d0 := hc.get hlt
          rw [hcx] at d0
          have i0 : ¬ c < 5 := by omega
          have i7 : ¬ c > 11 := by omega
          have i8 : (0 : Int) ≤ (j : Int) := by omega
          have i9 : (j : Int) < 8 := by omega
          clear hcx hcb
          go_wp2
          go_roundw
          case rel => exact ⟨j + 1, by go_num, by omega, by first | rfl | trivial⟩
          case measure => simp [intOf]; omega
        · obtain rfl : j = 8 := by omega
          obtain ⟨r, hr⟩ : ∃ r : Nat, a % 3 = r := ⟨_, rfl⟩
          have hr3 : r < 3 := by omega
          have ht : (a : Int).tmod 3 = (r : Int) := by rw [Int.tmod_eq_emod_of_nonneg (by omega)]; omega
          obtain ⟨wk, hwk⟩ : ∃ wk : Nat, 1 + r = wk := ⟨_, rfl⟩
          have hw3 : 1 ≤ wk ∧ wk ≤ 3 := by omega
          have W3' : IntKind.i64.wrap (1 + (r : Int)) = (wk : Int) := by rw [IntWalk.i64_in _ (by omega)]; omega
          have W4' : IntKind.u8.wrap (r : Int) = (r : Int) := IntWalk.u8_in _ (by omega)
          have P8 := fun w => first_any (wk : Int) w
          rw [firstM_own wk hw3] at P8
          simp only [arr, List.map_cons, List.map_nil] at P8
          obtain ⟨z0, hz0⟩ : ∃ z : Int, ((own1 wk 0 : Nat) : Int) = z := ⟨_, rfl⟩
          obtain ⟨z1, hz1⟩ : ∃ z : Int, ((own1 wk 1 : Nat) : Int) = z := ⟨_, rfl⟩
          obtain ⟨z2, hz2⟩ : ∃ z : Int, ((own1 wk 2 : Nat) : Int) = z := ⟨_, rfl⟩
          obtain ⟨z3, hz3⟩ : ∃ z : Int, ((own1 wk 3 : Nat) : Int) = z := ⟨_, rfl⟩
          obtain ⟨z4, hz4⟩ : ∃ z : Int, ((own1 wk 4 : Nat) : Int) = z := ⟨_, rfl⟩
          obtain ⟨z5, hz5⟩ : ∃ z : Int, ((own1 wk 5 : Nat) : Int) = z := ⟨_, rfl⟩
          obtain ⟨z6, hz6⟩ : ∃ z : Int, ((own1 wk 6 : Nat) : Int) = z := ⟨_, rfl⟩
          obtain ⟨z7, hz7⟩ : ∃ z : Int, ((own1 wk 7 : Nat) : Int) = z := ⟨_, rfl⟩
          rw [hz0, hz1, hz2, hz3, hz4, hz5, hz6, hz7] at P8
          have P8 := Lib.hid P8
          have HZ : Hid (#[Value.int .i64 z0, .int .i64 z1, .int .i64 z2, .int .i64 z3, .int .i64 z4, .int .i64 z5, .int .i64 z6, .int .i64 z7] = ((List.range 8).map (fun b => Value.int .i64 (own1 wk b))).toArray) := Lib.hid (by
            subst hz0 hz1 hz2 hz3 hz4 hz5 hz6 hz7; rfl)
          have HW3 := Lib.hid hw3
          clear hz0 hz1 hz2 hz3 hz4 hz5 hz6 hz7 hr hwk hc CR hw3
          go_wp2_with (go_at_call 8
                       (with_reducible refine (P8.out _).mono ?_)
                       rintro e w3 ⟨rfl, hb⟩
                       have HB3 := Lib.hid hb
                       clear hb)
          obtain ⟨W4, hW4⟩ : ∃ W4, w3.alloc (.cells #[.int .i64 z0, .int .i64 z1, .int .i64 z2, .int .i64 z3, .int .i64 z4, .int .i64 z5, .int .i64 z6, .int .i64 z7] 26) = W4 := ⟨_, rfl⟩
          have hb3 := HB3.out
          simp only [World.size_alloc] at hb3
          have s3 := hb3.size
          simp only [World.size_alloc] at s3
          have C4 : Cnt W4 wr.heap.size 33 (own1 wk) 0 4 := by
            unfold Cnt
            rw [← hW4, Below.heap_alloc _ _ _ (by omega), hb3.block _ (by omega)]
            exact World.alloc_heap_new wr _
          have F4 : Fst W4 w3.heap.size wk := by
            unfold Fst
            rw [← hW4, ← HZ.out]
            exact World.alloc_heap_new w3 _
          have b4 : Below w.heap.size w W4 := by
            rw [← hW4]
            have h1 := HB1.out.trans (BR.out.mono HB1.out.size)
            exact ((h1.alloc h1.size _).trans (hb3.mono (by have := h1.size; omega))).alloc (by have := h1.size; omega) _
          have s4 : W4.heap.size = w3.heap.size + 1 := by rw [← hW4]; simp
          have HC4 := Lib.hid C4
          have HF4 := Lib.hid F4
          have HB4 := Lib.hid b4
          have HLT := Lib.hid s3
          have HS4 := Lib.hid s4
          have HWR := Lib.hid (HB1.out.trans (BR.out.mono HB1.out.size)).size
          rw [hW4]
          clear hb3 s3 C4 F4 b4 hW4 s4 HZ P8 HB3 ZR HC2 HB2 HS2
          go_loopw [14] (fun i wr' => ∃ j : Nat, i = .int .i64 j ∧ j ≤ 8 ∧ Cnt wr' wr.heap.size 33 (own1 wk) j 4 ∧ Fst wr' w3.heap.size wk ∧ Below w.heap.size w wr' ∧ w3.heap.size < wr'.heap.size) (fun i _ => 8 - (intOf i).toNat)
          case atStart => exact ⟨0, rfl, by omega, HC4.out, HF4.out, HB4.out, by have := HS4.out; omega⟩
          case round =>
            rename World => wx
            obtain ⟨j, rfl, hj, hc, hf, hb, hz⟩ := hrel
            have CR := Lib.hid hc
            have FR := Lib.hid hf
            have BX := Lib.hid hb
            have ZX := Lib.hid hz
            clear hb hz
            by_cases hlt : j < 8
            · have W1' : IntKind.i64.wrap ((j : Int) + 1) = (j : Int) + 1 := IntWalk.i64_in _ (by omega)
              have d1 := hf.get hlt
              obtain ⟨x, hx⟩ : ∃ x, own1 wk j = x := ⟨_, rfl⟩
              have hx1 : 1 ≤ x ∧ x ≤ wk := by
                have := HW3.out
                rw [← hx]; unfold own1
                have := Nat.mod_lt j (show 0 < wk by omega)
                omega
              have hx4 : x < 4 := by have := HW3.out; omega
              rw [hx] at d1
              have HX := Lib.hid hx
              obtain ⟨c, hcx⟩ : ∃ c : Int, (cnt (own1 wk) j x : Int) = c := ⟨_, rfl⟩
              have hcb : 0 ≤ c ∧ c ≤ 8 := by
                have := cnt_le (own1 wk) j x
                omega
              have d0 := hc.get hx4
              rw [hcx] at d0
              have f0 := hc.froz x
              have i0 : ¬ (x : Int) < 1 := by omega
              have i7 : ¬ (x : Int) > (wk : Int) := by omega
              have i8 : (0 : Int) ≤ (x : Int) := by omega
              have i9 : (x : Int) < 4 := by omega
              have i10 : (0 : Int) ≤ (j : Int) := by omega
              have i11 : (j : Int) < 8 := by omega
              have W2' : IntKind.i64.wrap (c + 1) = c + 1 := IntWalk.i64_in _ (by omega)
              have HCX := Lib.hid hcx
              have HX4 := Lib.hid hx4
              clear hx hcx hc hf hcb hx1 hx4
              go_wp2
              go_roundw
              case rel => exact ⟨j + 1, by go_num, by omega, CR.out.step HX.out HX4.out HCX.out, FR.out.other _ (by have := HLT.out; show w3.heap.size ≠ wr.heap.size; omega), BX.out.setCell (p := ⟨wr.heap.size, x, none⟩) HWR.out _, by simpa [World.setCell] using ZX.out⟩
              case measure => simp [intOf]; omega
            · have hj8 : j = 8 := by omega
              have i12 : ¬ (j : Int) < 8 := by omega
              rw [hj8] at CR
              clear hlt hj hj8
              obtain ⟨nn, hnn⟩ : ∃ nn : Nat, m % 30 = nn := ⟨_, rfl⟩
              have hn30 : nn < 30 := by omega
              have ht2 : (m : Int).tmod 30 = (nn : Int) := by rw [Int.tmod_eq_emod_of_nonneg (by omega)]; omega
              have W5' : IntKind.u8.wrap (nn : Int) = (nn : Int) := IntWalk.u8_in _ (by omega)
              have hmk := fun w => make_int nn (by omega) w
              have HN30 := Lib.hid hn30
              clear hnn hc hf
              go_wp2
              obtain ⟨W5, hW5⟩ : ∃ W5, (wx.alloc (.cells #[.int .i64 0, .int .i64 0, .int .i64 0, .int .i64 0] 33)).alloc (.cells (madeCells #[.int .i64 0] nn) 3) = W5 := ⟨_, rfl⟩
              have zx := ZX.out
              have hlt3 := HLT.out
              have s5 : W5.heap.size = wx.heap.size + 2 := by rw [← hW5]; simp
              have T5 : Cnt W5 wx.heap.size 33 (own1 wk) 0 4 := by
                unfold Cnt
                rw [← hW5, Below.heap_alloc _ _ _ (by simp)]
                exact World.alloc_heap_new wx _
              have bx5 : Below wx.heap.size wx W5 := by rw [← hW5]; exact ((Below.refl _ _).alloc (Nat.le_refl _) _).alloc (by simp) _
              have C5 : Cnt W5 wr.heap.size 33 (own1 wk) 8 4 := CR.out.below bx5 (by omega)
              have b5 : Below w.heap.size w W5 := BX.out.trans (bx5.mono BX.out.size)
              have HT5 := Lib.hid T5
              have HC5 := Lib.hid C5
              have HB5 := Lib.hid b5
              have HS5 := Lib.hid s5
              obtain ⟨i0, hi, hz0, hz1, hz2⟩ := info_parts int_info
              have HI := Lib.hid hi
              have HZ0 := Lib.hid hz0
              have HZ1 := Lib.hid hz1
              have HZ2 := Lib.hid hz2
              rw [hW5]
              clear s5 T5 bx5 C5 b5 hW5 hi hz0 hz1 hz2 CR FR zx
              go_loopw [17, 18] (fun u i wr' => ∃ j : Nat, i = .int .i64 ((j : Int) + 1) ∧ j ≤ wk ∧ wr'.ownsRow W5.heap.size 3 1 u j ((wsl j).map (Value.int .i64)) ∧ Below W5.heap.size W5 wr') (fun _ i _ => 9 - (intOf i).toNat)
              case atStart => exact ⟨0, rfl, by omega, World.ownsRow_nil _ _ _ _, Below.refl _ _⟩
              case round =>
                rename World => wy
                obtain ⟨j, rfl, hj, hown, hb⟩ := hrel
                by_cases hlt : j < wk
                · have hw3 := HW3.out
                  have W1' : IntKind.i64.wrap ((j : Int) + 1 + 1) = (j : Int) + 1 + 1 := IntWalk.i64_in _ (by omega)
                  have i7 : (j : Int) + 1 ≤ (wk : Int) := by omega
                  have hsz := hb.size
                  have HB := Lib.hid hb
                  have HO := Lib.hid hown
                  have HLT := Lib.hid hlt
                  have HJ3 : Hid (j < 3) := Lib.hid (by omega)
                  clear hb hown hw3
                  go_wp2_with (at_builtin
                               refine wpList_append_one _ rfl (.tmp 95) _ 23 rfl W5.heap.size 3 i0 _ 1 8 Try.underlying23 HI.out HZ0.out HZ1.out HZ2.out rfl (by decide) _ j _ rfl (HO.out.alloc _) ⟨wy.heap.size, 0, none⟩ 1 1 [.int .i64 ((j : Int) + 1)] rfl rfl (news1 wy _ 3) (one1 _) (by omega) (by have := HJ3.out; unfold maxLen; omega) (by have := HJ3.out; omega) (by simp; omega) ?_
                               intro ga ca w6 own6 grow6 hat6 hga
                               have hb6 : Below W5.heap.size W5 w6 := (HB.out.alloc (by omega) _).grown grow6 (by simp; omega) (fun g e => by have := (own_lt HO.out e).1; omega)
                               have HB6 := Lib.hid hb6
                               have HO6 := Lib.hid own6
                               clear hb6 own6 grow6 hat6 hga)
                  go_roundw
                  case rel => exact ⟨j + 1, by go_num, by omega, by rw [wsl_succ]; exact HO6.out, HB6.out⟩
                  case measure => have := HW3.out; simp [intOf]; omega
                · obtain rfl : j = wk := by omega
                  have hv : ∃ ad c, u17 = .slice (some ad) j c ∧ ad.block < wy.heap.size ∧ (∀ k z, (wsl j)[k]? = some z → wy.cell? (ad.add k) = some (.int .i64 z)) := by
                    have hw3 := HW3.out
                    rcases hown.2 with ⟨h1, h0⟩ | ⟨g, cap, cur, rfl, _⟩
                    · omega
                    · rcases row_of_own hown (wsl_len _) with h | ⟨ad, e, h1, h2⟩
                      · have := wsl_len j
                        rw [h] at this
                        simp at this
                        omega
                      · cases e
                        exact ⟨_, cap, rfl, h1, h2⟩
                  obtain ⟨ad, c, rfl, h1, h2⟩ := hv
                  have P11 := turns_any (some ⟨wx.heap.size + 1, 0, none⟩) nn nn ad (wsl j) j c (wsl_len _) (by have := HW3.out; omega) (by have := HW3.out; unfold maxLen; omega) (by have := HN30.out; omega) wy h1 h2
                  have P11 := Lib.hid P11
                  have i7 : ¬ (j : Int) + 1 ≤ (j : Int) := by omega
                  have HB := Lib.hid hb
                  clear hown h1 h2 hb
                  go_wp2_with (go_at_call 11
                               (with_reducible refine P11.out.mono ?_)
                               rintro e w6 ⟨gl, rfl, l1, l2, l3, l4⟩
                               have L1 := Lib.hid l1
                               have L2 := Lib.hid l2
                               have L3 := Lib.hid l3
                               have L4 := Lib.hid l4
                               clear l1 l2 l3 l4)
                  obtain ⟨E1, hE1⟩ : ∃ E, w6 = E := ⟨_, rfl⟩
                  have l4 := L4.out
                  have hb := HB.out
                  have hs5 := HS5.out
                  have hz1 := hb.size
                  have hzx := ZX.out
                  have hlt9 := HLT.out
                  have T6 : Cnt w6 wx.heap.size 33 (own1 j) 0 4 := (HT5.out.below hb (by omega)).below l4 (by omega)
                  have C6 : Cnt w6 wr.heap.size 33 (own1 j) 8 4 := (HC5.out.below hb (by omega)).below l4 (by omega)
                  have l6 : Lst w6 gl nn j := by
                    have h := L3.out
                    unfold Lst
                    rw [h]
                    congr 3
                    refine List.map_congr_left fun k _ => turn_own j k (by have := HW3.out; omega)
                  have b6 : Below w.heap.size w w6 := HB5.out.trans ((hb.mono HB5.out.size).trans (l4.mono (by have := HB5.out.size; omega)))
                  have hgl : wx.heap.size < gl := by have := L1.out; omega
                  have HT6 := Lib.hid T6
                  have HC6 := Lib.hid C6
                  have HL6 := Lib.hid l6
                  have HB6 := Lib.hid b6
                  have HGL := Lib.hid hgl
                  clear hE1 l4 hb hs5 hz1 hzx hlt9 T6 C6 l6 b6 hgl L1 L2 L3 L4 P11
                  go_loopw [20] (fun i wr' => ∃ k : Nat, i = .int .i64 k ∧ k ≤ nn ∧ Cnt wr' wx.heap.size 33 (own1 j) k 4 ∧ Cnt wr' wr.heap.size 33 (own1 j) 8 4 ∧ Lst wr' gl nn j ∧ Below w.heap.size w wr') (fun i _ => 30 - (intOf i).toNat)
                  case atStart => exact ⟨0, rfl, by omega, HT6.out, HC6.out, HL6.out, HB6.out⟩
                  case round =>
                    rename World => wz
                    obtain ⟨k, rfl, hk, ht, hc, hl, hb⟩ := hrel
                    have TR := Lib.hid ht
                    have CR := Lib.hid hc
                    have LR := Lib.hid hl
                    have BR := Lib.hid hb
                    by_cases hlt : k < nn
                    · have hn30 := HN30.out
                      have W1' : IntKind.i64.wrap ((k : Int) + 1) = (k : Int) + 1 := IntWalk.i64_in _ (by omega)
                      have d1 := hl.get hlt
                      obtain ⟨x, hx⟩ : ∃ x, own1 j k = x := ⟨_, rfl⟩
                      have hx1 : 1 ≤ x ∧ x ≤ j := by
                        have := HW3.out
                        rw [← hx]; unfold own1
                        have := Nat.mod_lt k (show 0 < j by omega)
                        omega
                      have hx4 : x < 4 := by have := HW3.out; omega
                      rw [hx] at d1
                      have HX := Lib.hid hx
                      obtain ⟨c, hcx⟩ : ∃ c : Int, (cnt (own1 j) k x : Int) = c := ⟨_, rfl⟩
                      have hcb : 0 ≤ c ∧ c ≤ 30 := by
                        have := cnt_le (own1 j) k x
                        omega
                      have d0 := ht.get hx4
                      rw [hcx] at d0
                      have f0 := ht.froz x
                      have i8 : (0 : Int) ≤ (x : Int) := by omega
                      have i9 : (x : Int) < 4 := by omega
                      have i10 : (0 : Int) ≤ (k : Int) := by omega
                      have i11 : (k : Int) < (nn : Int) := by omega
                      have t4 : (x : Int).tmod 4 = (x : Int) := by rw [Int.tmod_eq_emod_of_nonneg (by omega)]; omega
                      have W2' : IntKind.i64.wrap (c + 1) = c + 1 := IntWalk.i64_in _ (by omega)
                      have HCX := Lib.hid hcx
                      have HX4 := Lib.hid hx4
                      clear hx hcx ht hc hl hb hcb hx1 hx4 hn30
                      go_wp2
                      go_roundw
                      case rel => exact ⟨k + 1, by go_num, by omega, TR.out.step HX.out HX4.out HCX.out, CR.out.other _ (by have := HLT.out; have := ZX.out; show wr.heap.size ≠ wx.heap.size; omega), LR.out.other _ (by have := HGL.out; show gl ≠ wx.heap.size; omega), BR.out.setCell (p := ⟨wx.heap.size, x, none⟩) (by have := HB5.out; show w.heap.size ≤ wx.heap.size; exact BX.out.size) _⟩
                      case measure => have := HN30.out; simp [intOf]; omega
                    · have hkn : k = nn := by omega
                      have i12 : ¬ (k : Int) < (nn : Int) := by omega
                      rw [hkn] at ht
                      have HTE := Lib.hid ht
                      clear ht hc hl hb hkn hk hlt TR LR
                      go_wp2
                      go_loopw [21] (fun i wr' => ∃ I : Nat, i = .int .i64 I ∧ 1 ≤ I ∧ I ≤ j + 1 ∧ wr'.heap = wz.heap ∧ Below w.heap.size w wr') (fun i _ => 9 - (intOf i).toNat)
                      case atStart => exact ⟨1, rfl, by omega, by omega, rfl, BR.out⟩
                      case round =>
                        rename World => wo
                        obtain ⟨I, rfl, hI1, hI2, hh, hb⟩ := hrel
                        have HH := Lib.hid hh
                        have HBO := Lib.hid hb
                        clear hh hb
                        by_cases hltI : I ≤ j
                        · have i13 : (I : Int) ≤ (j : Int) := by omega
                          have hI3 : I < 4 := by have := HW3.out; omega
                          have W6' : IntKind.i64.wrap ((I : Int) + 1) = (I : Int) + 1 := IntWalk.i64_in _ (by omega)
                          go_wp2
                          go_loopw [22] (fun i wr' => ∃ K : Nat, i = .int .i64 K ∧ 1 ≤ K ∧ K ≤ j + 1 ∧ wr'.heap = wz.heap ∧ Below w.heap.size w wr') (fun i _ => 9 - (intOf i).toNat)
                          case atStart => exact ⟨1, rfl, by omega, by omega, HH.out, HBO.out⟩
                          case round =>
                            rename World => wp
                            obtain ⟨K, rfl, hK1, hK2, hh, hb⟩ := hrel
                            by_cases hltK : K ≤ j
                            · have i14 : (K : Int) ≤ (j : Int) := by omega
                              have hK3 : K < 4 := by have := HW3.out; omega
                              have W7' : IntKind.i64.wrap ((K : Int) + 1) = (K : Int) + 1 := IntWalk.i64_in _ (by omega)
                              have e1 := own_even j 8 I K HW3.out (by omega) ⟨hI1, hltI⟩ ⟨hK1, hltK⟩
                              have e2 := own_even j nn I K HW3.out HN30.out ⟨hI1, hltI⟩ ⟨hK1, hltK⟩
                              have m1 := cnt_le (own1 j) 8 I
                              have m2 := cnt_le (own1 j) 8 K
                              have m3 := cnt_le (own1 j) nn I
                              have m4 := cnt_le (own1 j) nn K
                              have d0 := (cell_heapEq hh _).trans (CR.out.get hI3)
                              have d1 := (cell_heapEq hh _).trans (CR.out.get hK3)
                              have d2 := (cell_heapEq hh _).trans (HTE.out.get hI3)
                              have d3 := (cell_heapEq hh _).trans (HTE.out.get hK3)
                              obtain ⟨c0, h0⟩ : ∃ c : Int, (cnt (own1 j) 8 I : Int) = c := ⟨_, rfl⟩
                              obtain ⟨c1, h1⟩ : ∃ c : Int, (cnt (own1 j) 8 K : Int) = c := ⟨_, rfl⟩
                              obtain ⟨c2, h2⟩ : ∃ c : Int, (cnt (own1 j) nn I : Int) = c := ⟨_, rfl⟩
                              obtain ⟨c3, h3⟩ : ∃ c : Int, (cnt (own1 j) nn K : Int) = c := ⟨_, rfl⟩
                              rw [h0] at d0
                              rw [h1] at d1
                              rw [h2] at d2
                              rw [h3] at d3
                              have hn30 := HN30.out
                              have W8' : IntKind.i64.wrap (c1 + 1) = c1 + 1 := IntWalk.i64_in _ (by omega)
                              have W9' : IntKind.i64.wrap (c3 + 1) = c3 + 1 := IntWalk.i64_in _ (by omega)
                              have q1 : decide (c0 > c1 + 1) = false := by simp; omega
                              have q2 : decide (c2 > c3 + 1) = false := by simp; omega
                              have i15 : (0 : Int) ≤ (I : Int) := by omega
                              have i16 : (I : Int) < 4 := by omega
                              have i17 : (0 : Int) ≤ (K : Int) := by omega
                              have i18 : (K : Int) < 4 := by omega
                              have HHP := Lib.hid hh
                              have HBP := Lib.hid hb
                              clear e1 e2 m1 m2 m3 m4 h0 h1 h2 h3 hn30 hh hb
                              go_wp2
                              go_quiet (fail)
                              go_wp2
                              go_roundw
                              case rel => exact ⟨K + 1, by go_num, by omega, by omega, by simpa using HHP.out, ⟨HBP.out.os, HBP.out.tape, HBP.out.output, HBP.out.size, HBP.out.block⟩⟩
                              case measure => have := HW3.out; simp [intOf]; omega
                            · have i14 : ¬ (K : Int) ≤ (j : Int) := by omega
                              have HHP := Lib.hid hh
                              have HBP := Lib.hid hb
                              clear hh hb
                              go_wp2
                              go_roundw
                              case rel => exact ⟨I + 1, by go_num, by omega, by omega, HHP.out, HBP.out⟩
                              case measure => have := HW3.out; simp [intOf]; omega
                        · have i13 : ¬ (I : Int) ≤ (j : Int) := by omega
                          go_wp2
                          go_ret
                          exact ⟨rfl, HBO.out⟩
end Go.Proofs.Ytjffajbahnoilaa
