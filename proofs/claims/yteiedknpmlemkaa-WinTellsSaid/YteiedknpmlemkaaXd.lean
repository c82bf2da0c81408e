/-
  The walk of WinTells.
-/
import Derived.Test.YteiedknpmlemkaaXc
namespace Go.Proofs.Yteiedknpmlemkaa
open Go Go.RowKit Go.Lib Go.Shelf

theorem ofM_len (o : OpD) (t : Int) : (ofM o t).length ≤ 4 := by
  unfold ofM
  split
  · rename_i h
    split
    · simp
    · rename_i h6
      split
      · rename_i h5
        rw [slideM_len]
        have hf : fitsM (kindRow o.kind).2.2.1 o.a o.b = true := by
          have ok := h.1
          unfold allowsM at ok
          simp only [Bool.and_eq_true] at ok
          exact ok.2
        rw [h5] at hf
        exact (slide_q (fits64 (by simpa [kindRow] using hf))).2
      · simp
  · simp

theorem two_0 (x y : OpD) (w : World) : (Instr.index 29 (.agg #[.int .i64 x.kind, .int .i64 x.a, .int .i64 x.b, .int .i64 x.agg, .int .i64 y.kind, .int .i64 y.a, .int .i64 y.b, .int .i64 y.agg]) (.int .i64 0)).run Try.prog w = .ok (.agg #[.int .i64 x.kind, .int .i64 x.a, .int .i64 x.b, .int .i64 x.agg]) w := by kernel_rfl
theorem two_1 (x y : OpD) (w : World) : (Instr.index 29 (.agg #[.int .i64 x.kind, .int .i64 x.a, .int .i64 x.b, .int .i64 x.agg, .int .i64 y.kind, .int .i64 y.a, .int .i64 y.b, .int .i64 y.agg]) (.int .i64 1)).run Try.prog w = .ok (.agg #[.int .i64 y.kind, .int .i64 y.a, .int .i64 y.b, .int .i64 y.agg]) w := by kernel_rfl
theorem three_0 (x y z : Int) (w : World) : (Instr.index 30 (.agg #[.int .i64 x, .int .i64 y, .int .i64 z]) (.int .i64 0)).run Try.prog w = .ok (.int .i64 x) w := by kernel_rfl
theorem three_1 (x y z : Int) (w : World) : (Instr.index 30 (.agg #[.int .i64 x, .int .i64 y, .int .i64 z]) (.int .i64 1)).run Try.prog w = .ok (.int .i64 y) w := by kernel_rfl
theorem three_2 (x y z : Int) (w : World) : (Instr.index 30 (.agg #[.int .i64 x, .int .i64 y, .int .i64 z]) (.int .i64 2)).run Try.prog w = .ok (.int .i64 z) w := by kernel_rfl

theorem two_boxes (w : World) (a b c d : Int) : ((w.alloc (.cells #[.int .i64 a, .int .i64 b] 34)).alloc (.cells #[.int .i64 c, .int .i64 d] 34)).heap[w.heap.size]? = some (.cells #[.int .i64 a, .int .i64 b] 34 (0, 0)) ∧
    ((w.alloc (.cells #[.int .i64 a, .int .i64 b] 34)).alloc (.cells #[.int .i64 c, .int .i64 d] 34)).heap[w.heap.size + 1]? = some (.cells #[.int .i64 c, .int .i64 d] 34 (0, 0)) := by
  refine ⟨(Below.heap_alloc _ _ _ (by simp)).trans (World.alloc_heap_new w _), ?_⟩
  have := World.alloc_heap_new (w.alloc (.cells #[.int .i64 a, .int .i64 b] 34)) (.cells #[.int .i64 c, .int .i64 d] 34)
  simpa using this

/-- What comes in, boxed. -/
structure Boxes (W : World) (g : Nat) (o : OpD) (x : KindD) (t0 t1 t2 t3 : Int) : Prop where
  op : OpAt W g o
  k0 : W.cell? ⟨g + 1, 0, none⟩ = some (.int .u8 x.what)
  k1 : W.cell? ⟨g + 1, 1, none⟩ = some (.int .u32 x.size)
  k2 : W.cell? ⟨g + 1, 2, none⟩ = some (.int .u8 x.over)
  t0 : W.cell? ⟨g + 1 + 1, 0, none⟩ = some (.int .i64 t0)
  t1 : W.cell? ⟨g + 1 + 1, 1, none⟩ = some (.int .i64 t1)
  t2 : W.cell? ⟨g + 1 + 1, 2, none⟩ = some (.int .i64 t2)
  t3 : W.cell? ⟨g + 1 + 1, 3, none⟩ = some (.int .i64 t3)
theorem Boxes.below {W W' : World} {g n : Nat} {o : OpD} {x : KindD} {t0 t1 t2 t3 : Int} (h : Boxes W g o x t0 t1 t2 t3) (hb : Below n W W') (hn : g + 1 + 1 < n) : Boxes W' g o x t0 t1 t2 t3 :=
  ⟨h.op.same (hb.block _ (by omega)), (cell_heap (hb.block _ (by omega))).trans h.k0, (cell_heap (hb.block _ (by omega))).trans h.k1, (cell_heap (hb.block _ (by omega))).trans h.k2,
    (cell_heap (hb.block _ (by omega))).trans h.t0, (cell_heap (hb.block _ (by omega))).trans h.t1, (cell_heap (hb.block _ (by omega))).trans h.t2, (cell_heap (hb.block _ (by omega))).trans h.t3⟩
theorem boxes_new (w : World) (o : OpD) (x : KindD) (t0 t1 t2 t3 : Int) :
    Boxes (((w.alloc (.cells #[.int .i64 o.kind, .int .i64 o.a, .int .i64 o.b, .int .i64 o.agg] 23)).alloc (.cells #[.int .u8 x.what, .int .u32 x.size, .int .u8 x.over] 26)).alloc (.cells #[.int .i64 t0, .int .i64 t1, .int .i64 t2, .int .i64 t3] 27)) w.heap.size o x t0 t1 t2 t3 := by
  obtain ⟨W1, h1⟩ : ∃ W1, w.alloc (.cells #[.int .i64 o.kind, .int .i64 o.a, .int .i64 o.b, .int .i64 o.agg] 23) = W1 := ⟨_, rfl⟩
  obtain ⟨W2, h2⟩ : ∃ W2, W1.alloc (.cells #[.int .u8 x.what, .int .u32 x.size, .int .u8 x.over] 26) = W2 := ⟨_, rfl⟩
  have s1 : W1.heap.size = w.heap.size + 1 := by rw [← h1]; simp
  have s2 : W2.heap.size = w.heap.size + 1 + 1 := by rw [← h2]; simp [s1]
  rw [h1, h2]
  have o1 : OpAt W1 w.heap.size o := by rw [← h1]; exact opAt_new w o 23
  have e2 : W2.heap[w.heap.size + 1]? = some (.cells #[.int .u8 x.what, .int .u32 x.size, .int .u8 x.over] 26) := by rw [← h2, ← s1]; exact World.alloc_heap_new _ _
  have e3 : (W2.alloc (.cells #[.int .i64 t0, .int .i64 t1, .int .i64 t2, .int .i64 t3] 27)).heap[w.heap.size + 1 + 1]? = some (.cells #[.int .i64 t0, .int .i64 t1, .int .i64 t2, .int .i64 t3] 27) := by rw [← s2]; exact World.alloc_heap_new _ _
  have e2' : (W2.alloc (.cells #[.int .i64 t0, .int .i64 t1, .int .i64 t2, .int .i64 t3] 27)).heap[w.heap.size + 1]? = some (.cells #[.int .u8 x.what, .int .u32 x.size, .int .u8 x.over] 26) := (Below.heap_alloc _ _ _ (by omega)).trans e2
  refine ⟨o1.same ((Below.heap_alloc _ _ _ (by omega)).trans (by rw [← h2]; exact Below.heap_alloc _ _ _ (by omega))), ?_, ?_, ?_, ?_, ?_, ?_, ?_⟩ <;> (simp only [World.cell?, e2', e3]; rfl)

set_option maxRecDepth 100000 in
set_option maxHeartbeats 6400000 in
theorem tells_any (o : OpD) (x : KindD) (ok : x.ok) (t0 t1 t2 t3 : Int) (w : World) :
    Calls Try.prog 3 #[o.val, x.val, .agg #[.int .i64 t0, .int .i64 t1, .int .i64 t2, .int .i64 t3]] w fun e w' => e = .returned (.bool true) ∧ Below w.heap.size w w' := by
  obtain ⟨W3, hW3⟩ : ∃ W3, (((w.alloc (.cells #[.int .i64 o.kind, .int .i64 o.a, .int .i64 o.b, .int .i64 o.agg] 23)).alloc (.cells #[.int .u8 x.what, .int .u32 x.size, .int .u8 x.over] 26)).alloc (.cells #[.int .i64 t0, .int .i64 t1, .int .i64 t2, .int .i64 t3] 27)) = W3 := ⟨_, rfl⟩
  have s3 : W3.heap.size = w.heap.size + 1 + 1 + 1 := by rw [← hW3]; simp
  have hB3 : Boxes W3 w.heap.size o x t0 t1 t2 t3 := by rw [← hW3]; exact boxes_new w o x t0 t1 t2 t3
  have b3 : Below w.heap.size w W3 := by rw [← hW3]; exact (((Below.refl _ _).alloc (Nat.le_refl _) _).alloc (by simp) _).alloc (by simp; omega) _
  have HB3 := Lib.hid b3
  have HBX := Lib.hid hB3
  have HX1 : Hid (∀ w', Below W3.heap.size W3 w' → w'.cell? ⟨w.heap.size, 0, none⟩ = some (.int .i64 o.kind) ∧ w'.cell? ⟨w.heap.size, 1, none⟩ = some (.int .i64 o.a) ∧ w'.cell? ⟨w.heap.size, 2, none⟩ = some (.int .i64 o.b) ∧ w'.cell? ⟨w.heap.size, 3, none⟩ = some (.int .i64 o.agg) ∧ w'.cell? ⟨w.heap.size + 1, 0, none⟩ = some (.int .u8 x.what) ∧ w'.cell? ⟨w.heap.size + 1, 1, none⟩ = some (.int .u32 x.size) ∧ w'.cell? ⟨w.heap.size + 1, 2, none⟩ = some (.int .u8 x.over) ∧ Below W3.heap.size W3 w') := Lib.hid (fun w' h => by
    have q := hB3.below h (by omega)
    exact ⟨q.op.c0, q.op.c1, q.op.c2, q.op.c3, q.k0, q.k1, q.k2, h⟩)
  have HOK := Lib.hid ok
  clear ok b3 hB3
  unfold OpD.val KindD.val
  go_enter Try.func3, Try.ntmps3
  go_wp2_with fail
  go_region_held3 (fun w' => w'.cell? ⟨w.heap.size, 0, none⟩ = some (.int .i64 o.kind) ∧ w'.cell? ⟨w.heap.size, 1, none⟩ = some (.int .i64 o.a) ∧ w'.cell? ⟨w.heap.size, 2, none⟩ = some (.int .i64 o.b) ∧ w'.cell? ⟨w.heap.size, 3, none⟩ = some (.int .i64 o.agg) ∧ w'.cell? ⟨w.heap.size + 1, 0, none⟩ = some (.int .u8 x.what) ∧ w'.cell? ⟨w.heap.size + 1, 1, none⟩ = some (.int .u32 x.size) ∧ w'.cell? ⟨w.heap.size + 1, 2, none⟩ = some (.int .u8 x.over) ∧ Below W3.heap.size W3 w')
    (first | assumption | (exact HX1.out _ ((Below.refl _ _).drew)) | (exact HX1.out _ hs1))
    (first
      | (go_at_call 8
         (with_reducible refine (drafted_any x HOK.out _).mono ?_)
         rintro e w1 ⟨rfl, hb1⟩
         have hs1 : Below W3.heap.size W3 w1 := (Below.refl _ _).drew.trans (hb1.mono (by simp))
         clear hb1))
  obtain ⟨o2, ho2⟩ : ∃ o2, draftM x = o2 := ⟨_, rfl⟩
  rw [ho2]
  have BB := Lib.hid hs1
  have I0 := fun w => two_0 o o2 w
  have I1 := fun w => two_1 o o2 w
  clear hs1 ho2
  go_wp2_with fail
  go_loopw [17] (fun i wr => ∃ j : Nat, i = .int .i64 j ∧ j ≤ 2 ∧ Below W3.heap.size W3 wr) (fun i _ => 2 - (intOf i).toNat)
  case atStart => exact ⟨0, rfl, by omega, BB.out⟩
  case round =>
    rename World => wu
    obtain ⟨j, rfl, hj, hbr⟩ := hrel
    have BR := Lib.hid hbr
    have hBr := HBX.out.below hbr (by omega)
    obtain ⟨-, -, -, -, r0, r1, r2, r3⟩ := hBr
    clear hbr
    obtain rfl | rfl | rfl : j = 0 ∨ j = 1 ∨ j = 2 := by omega
    · obtain ⟨W8, hW8⟩ : ∃ W8, wu.alloc (.cells #[.int .i64 o.kind, .int .i64 o.a, .int .i64 o.b, .int .i64 o.agg] 23) = W8 := ⟨_, rfl⟩
      have s8 : W8.heap.size = wu.heap.size + 1 := by rw [← hW8]; simp
      have b8 : Below wu.heap.size wu W8 := by rw [← hW8]; exact (Below.refl _ _).alloc (Nat.le_refl _) _
      have O8 : OpAt W8 wu.heap.size o := by rw [← hW8]; exact opAt_new wu o 23
      have hbs := BR.out.size
      obtain ⟨-, -, -, -, r0, r1, r2, r3⟩ := HBX.out.below (BR.out.trans (b8.mono hbs)) (by omega)
      have HO8 := Lib.hid O8
      have HB8 := Lib.hid b8
      have J0 := fun w => three_0 t0 (t1.tmod 1000) (t2.tmod 1152921504606846978) w
      have J1 := fun w => three_1 t0 (t1.tmod 1000) (t2.tmod 1152921504606846978) w
      have J2 := fun w => three_2 t0 (t1.tmod 1000) (t2.tmod 1152921504606846978) w
      clear O8 b8
      go_wp2_with fail
      go_loopw [29] (fun i wr => ∃ m : Nat, i = .int .i64 m ∧ m ≤ 3 ∧ Below W8.heap.size W8 wr) (fun i _ => 3 - (intOf i).toNat)
      case atStart => exact ⟨0, rfl, by omega, Below.refl _ _⟩
      case round =>
        obtain ⟨m, rfl, hm, hbq⟩ := hrel
        have HX : Hid (∀ w', Below wr.heap.size wr w' → w'.cell? ⟨wu.heap.size, 0, none⟩ = some (.int .i64 o.kind) ∧ w'.cell? ⟨wu.heap.size, 1, none⟩ = some (.int .i64 o.a) ∧ w'.cell? ⟨wu.heap.size, 2, none⟩ = some (.int .i64 o.b) ∧ w'.cell? ⟨wu.heap.size, 3, none⟩ = some (.int .i64 o.agg) ∧ Below wr.heap.size wr w') := Lib.hid (fun w' h => by
          have hz := hbq.size
          have q := HO8.out.same (W' := w') ((h.block _ (by omega)).trans (hbq.block _ (by omega)))
          exact ⟨q.c0, q.c1, q.c2, q.c3, h⟩)
        have BQ := Lib.hid hbq
        clear hbq
        obtain rfl | rfl | rfl | rfl : m = 0 ∨ m = 1 ∨ m = 2 ∨ m = 3 := by omega
        · go_wp2_with fail
          go_region_held3 (fun w' => w'.cell? ⟨wu.heap.size, 0, none⟩ = some (.int .i64 o.kind) ∧ w'.cell? ⟨wu.heap.size, 1, none⟩ = some (.int .i64 o.a) ∧ w'.cell? ⟨wu.heap.size, 2, none⟩ = some (.int .i64 o.b) ∧ w'.cell? ⟨wu.heap.size, 3, none⟩ = some (.int .i64 o.agg) ∧ Below wr.heap.size wr w')
            (first | assumption | (exact HX.out _ ((Below.refl _ _).drew)) | (exact HX.out _ hs2) | (exact HX.out _ hs1) | (exact HX.out _ hs3))
            (first
              | (go_at_call 10
                 (with_reducible refine (of_any o _ _).mono ?_)
                 rintro e w1 ⟨v1, rfl, p1, p2, p3⟩
                 have hs1 : Below wr.heap.size wr w1 := (Below.refl _ _).drew.trans (p3.mono (by simp))
                 obtain ⟨A1, c1, hA1, hA2⟩ := wins_of_row p1
                 subst hA1
                 have HW1 : Hid (Wins w1 w1.heap.size (.slice A1 _ c1) _) := Lib.hid ⟨A1, c1, rfl, hA2⟩
                 clear p1 p2 p3 hA2)
              | (go_at_call 11
                 (with_reducible refine (rof_any o _ _).mono ?_)
                 rintro e w2 ⟨v2, rfl, p1, p2, p3⟩
                 have hs2 : Below wr.heap.size wr w2 := hs1.trans (p3.mono (by have := hs1.size; simp at this ⊢; omega))
                 obtain ⟨A2, c2, hA1, hA2⟩ := wins_of_row p1
                 subst hA1
                 have HW2 : Hid (Wins w2 w2.heap.size (.slice A2 _ c2) _) := Lib.hid ⟨A2, c2, rfl, hA2⟩
                 have HW3 := Lib.hid ((HW1.out.below p3).mono p3.size)
                 clear p1 p2 p3 hA2)
              | (go_at_call 9
                 (with_reducible refine (same_yes _ A1 A2 c1 c2 w2.heap.size _ HW3.out HW2.out (Nat.le_trans (ofM_len o _) (by omega))).mono ?_)
                 rintro e w3 ⟨rfl, p3⟩
                 have hs3 : Below wr.heap.size wr w3 := hs2.trans (p3.mono hs2.size)
                 clear p3))
          go_wp2_with fail
          go_roundw
          case rel => exact ⟨_, _, _, _, _, _, _, _, _, _, _, _, _, _, ⟨1, rfl, by omega, BQ.out.trans (hs3.mono BQ.out.size)⟩, rfl⟩
          case measure => simp [intOf]
        · go_wp2_with fail
          go_region_held3 (fun w' => w'.cell? ⟨wu.heap.size, 0, none⟩ = some (.int .i64 o.kind) ∧ w'.cell? ⟨wu.heap.size, 1, none⟩ = some (.int .i64 o.a) ∧ w'.cell? ⟨wu.heap.size, 2, none⟩ = some (.int .i64 o.b) ∧ w'.cell? ⟨wu.heap.size, 3, none⟩ = some (.int .i64 o.agg) ∧ Below wr.heap.size wr w')
            (first | assumption | (exact HX.out _ ((Below.refl _ _).drew)) | (exact HX.out _ hs2) | (exact HX.out _ hs1) | (exact HX.out _ hs3))
            (first
              | (go_at_call 10
                 (with_reducible refine (of_any o _ _).mono ?_)
                 rintro e w1 ⟨v1, rfl, p1, p2, p3⟩
                 have hs1 : Below wr.heap.size wr w1 := (Below.refl _ _).drew.trans (p3.mono (by simp))
                 obtain ⟨A1, c1, hA1, hA2⟩ := wins_of_row p1
                 subst hA1
                 have HW1 : Hid (Wins w1 w1.heap.size (.slice A1 _ c1) _) := Lib.hid ⟨A1, c1, rfl, hA2⟩
                 clear p1 p2 p3 hA2)
              | (go_at_call 11
                 (with_reducible refine (rof_any o _ _).mono ?_)
                 rintro e w2 ⟨v2, rfl, p1, p2, p3⟩
                 have hs2 : Below wr.heap.size wr w2 := hs1.trans (p3.mono (by have := hs1.size; simp at this ⊢; omega))
                 obtain ⟨A2, c2, hA1, hA2⟩ := wins_of_row p1
                 subst hA1
                 have HW2 : Hid (Wins w2 w2.heap.size (.slice A2 _ c2) _) := Lib.hid ⟨A2, c2, rfl, hA2⟩
                 have HW3 := Lib.hid ((HW1.out.below p3).mono p3.size)
                 clear p1 p2 p3 hA2)
              | (go_at_call 9
                 (with_reducible refine (same_yes _ A1 A2 c1 c2 w2.heap.size _ HW3.out HW2.out (Nat.le_trans (ofM_len o _) (by omega))).mono ?_)
                 rintro e w3 ⟨rfl, p3⟩
                 have hs3 : Below wr.heap.size wr w3 := hs2.trans (p3.mono hs2.size)
                 clear p3))
          go_wp2_with fail
          go_roundw
          case rel => exact ⟨_, _, _, _, _, _, _, _, _, _, _, _, _, _, ⟨2, rfl, by omega, BQ.out.trans (hs3.mono BQ.out.size)⟩, rfl⟩
          case measure => simp [intOf]
        · go_wp2_with fail
          go_region_held3 (fun w' => w'.cell? ⟨wu.heap.size, 0, none⟩ = some (.int .i64 o.kind) ∧ w'.cell? ⟨wu.heap.size, 1, none⟩ = some (.int .i64 o.a) ∧ w'.cell? ⟨wu.heap.size, 2, none⟩ = some (.int .i64 o.b) ∧ w'.cell? ⟨wu.heap.size, 3, none⟩ = some (.int .i64 o.agg) ∧ Below wr.heap.size wr w')
            (first | assumption | (exact HX.out _ ((Below.refl _ _).drew)) | (exact HX.out _ hs2) | (exact HX.out _ hs1) | (exact HX.out _ hs3))
            (first
              | (go_at_call 10
                 (with_reducible refine (of_any o _ _).mono ?_)
                 rintro e w1 ⟨v1, rfl, p1, p2, p3⟩
                 have hs1 : Below wr.heap.size wr w1 := (Below.refl _ _).drew.trans (p3.mono (by simp))
                 obtain ⟨A1, c1, hA1, hA2⟩ := wins_of_row p1
                 subst hA1
                 have HW1 : Hid (Wins w1 w1.heap.size (.slice A1 _ c1) _) := Lib.hid ⟨A1, c1, rfl, hA2⟩
                 clear p1 p2 p3 hA2)
              | (go_at_call 11
                 (with_reducible refine (rof_any o _ _).mono ?_)
                 rintro e w2 ⟨v2, rfl, p1, p2, p3⟩
                 have hs2 : Below wr.heap.size wr w2 := hs1.trans (p3.mono (by have := hs1.size; simp at this ⊢; omega))
                 obtain ⟨A2, c2, hA1, hA2⟩ := wins_of_row p1
                 subst hA1
                 have HW2 : Hid (Wins w2 w2.heap.size (.slice A2 _ c2) _) := Lib.hid ⟨A2, c2, rfl, hA2⟩
                 have HW3 := Lib.hid ((HW1.out.below p3).mono p3.size)
                 clear p1 p2 p3 hA2)
              | (go_at_call 9
                 (with_reducible refine (same_yes _ A1 A2 c1 c2 w2.heap.size _ HW3.out HW2.out (Nat.le_trans (ofM_len o _) (by omega))).mono ?_)
                 rintro e w3 ⟨rfl, p3⟩
                 have hs3 : Below wr.heap.size wr w3 := hs2.trans (p3.mono hs2.size)
                 clear p3))
          go_wp2_with fail
          go_roundw
          case rel => exact ⟨_, _, _, _, _, _, _, _, _, _, _, _, _, _, ⟨3, rfl, by omega, BQ.out.trans (hs3.mono BQ.out.size)⟩, rfl⟩
          case measure => simp [intOf]
        · go_wp2_with fail
          go_roundw
          case rel => exact ⟨1, by go_num, by omega, BR.out.trans ((HB8.out.trans (BQ.out.mono (by omega))).mono hbs)⟩
          case measure => simp [intOf]
    · obtain ⟨W8, hW8⟩ : ∃ W8, wu.alloc (.cells #[.int .i64 o2.kind, .int .i64 o2.a, .int .i64 o2.b, .int .i64 o2.agg] 23) = W8 := ⟨_, rfl⟩
      have s8 : W8.heap.size = wu.heap.size + 1 := by rw [← hW8]; simp
      have b8 : Below wu.heap.size wu W8 := by rw [← hW8]; exact (Below.refl _ _).alloc (Nat.le_refl _) _
      have O8 : OpAt W8 wu.heap.size o2 := by rw [← hW8]; exact opAt_new wu o2 23
      have hbs := BR.out.size
      obtain ⟨-, -, -, -, r0, r1, r2, r3⟩ := HBX.out.below (BR.out.trans (b8.mono hbs)) (by omega)
      have HO8 := Lib.hid O8
      have HB8 := Lib.hid b8
      have J0 := fun w => three_0 t0 (t1.tmod 1000) (t2.tmod 1152921504606846978) w
      have J1 := fun w => three_1 t0 (t1.tmod 1000) (t2.tmod 1152921504606846978) w
      have J2 := fun w => three_2 t0 (t1.tmod 1000) (t2.tmod 1152921504606846978) w
      clear O8 b8
      go_wp2_with fail
      go_loopw [29] (fun i wr => ∃ m : Nat, i = .int .i64 m ∧ m ≤ 3 ∧ Below W8.heap.size W8 wr) (fun i _ => 3 - (intOf i).toNat)
      case atStart => exact ⟨0, rfl, by omega, Below.refl _ _⟩
      case round =>
        obtain ⟨m, rfl, hm, hbq⟩ := hrel
        have HX : Hid (∀ w', Below wr.heap.size wr w' → w'.cell? ⟨wu.heap.size, 0, none⟩ = some (.int .i64 o2.kind) ∧ w'.cell? ⟨wu.heap.size, 1, none⟩ = some (.int .i64 o2.a) ∧ w'.cell? ⟨wu.heap.size, 2, none⟩ = some (.int .i64 o2.b) ∧ w'.cell? ⟨wu.heap.size, 3, none⟩ = some (.int .i64 o2.agg) ∧ Below wr.heap.size wr w') := Lib.hid (fun w' h => by
          have hz := hbq.size
          have q := HO8.out.same (W' := w') ((h.block _ (by omega)).trans (hbq.block _ (by omega)))
          exact ⟨q.c0, q.c1, q.c2, q.c3, h⟩)
        have BQ := Lib.hid hbq
        clear hbq
        obtain rfl | rfl | rfl | rfl : m = 0 ∨ m = 1 ∨ m = 2 ∨ m = 3 := by omega
        · go_wp2_with fail
          go_region_held3 (fun w' => w'.cell? ⟨wu.heap.size, 0, none⟩ = some (.int .i64 o2.kind) ∧ w'.cell? ⟨wu.heap.size, 1, none⟩ = some (.int .i64 o2.a) ∧ w'.cell? ⟨wu.heap.size, 2, none⟩ = some (.int .i64 o2.b) ∧ w'.cell? ⟨wu.heap.size, 3, none⟩ = some (.int .i64 o2.agg) ∧ Below wr.heap.size wr w')
            (first | assumption | (exact HX.out _ ((Below.refl _ _).drew)) | (exact HX.out _ hs2) | (exact HX.out _ hs1) | (exact HX.out _ hs3))
            (first
              | (go_at_call 10
                 (with_reducible refine (of_any o2 _ _).mono ?_)
                 rintro e w1 ⟨v1, rfl, p1, p2, p3⟩
                 have hs1 : Below wr.heap.size wr w1 := (Below.refl _ _).drew.trans (p3.mono (by simp))
                 obtain ⟨A1, c1, hA1, hA2⟩ := wins_of_row p1
                 subst hA1
                 have HW1 : Hid (Wins w1 w1.heap.size (.slice A1 _ c1) _) := Lib.hid ⟨A1, c1, rfl, hA2⟩
                 clear p1 p2 p3 hA2)
              | (go_at_call 11
                 (with_reducible refine (rof_any o2 _ _).mono ?_)
                 rintro e w2 ⟨v2, rfl, p1, p2, p3⟩
                 have hs2 : Below wr.heap.size wr w2 := hs1.trans (p3.mono (by have := hs1.size; simp at this ⊢; omega))
                 obtain ⟨A2, c2, hA1, hA2⟩ := wins_of_row p1
                 subst hA1
                 have HW2 : Hid (Wins w2 w2.heap.size (.slice A2 _ c2) _) := Lib.hid ⟨A2, c2, rfl, hA2⟩
                 have HW3 := Lib.hid ((HW1.out.below p3).mono p3.size)
                 clear p1 p2 p3 hA2)
              | (go_at_call 9
                 (with_reducible refine (same_yes _ A1 A2 c1 c2 w2.heap.size _ HW3.out HW2.out (Nat.le_trans (ofM_len o2 _) (by omega))).mono ?_)
                 rintro e w3 ⟨rfl, p3⟩
                 have hs3 : Below wr.heap.size wr w3 := hs2.trans (p3.mono hs2.size)
                 clear p3))
          go_wp2_with fail
          go_roundw
          case rel => exact ⟨_, _, _, _, _, _, _, _, _, _, _, _, _, _, ⟨1, rfl, by omega, BQ.out.trans (hs3.mono BQ.out.size)⟩, rfl⟩
          case measure => simp [intOf]
        · go_wp2_with fail
          go_region_held3 (fun w' => w'.cell? ⟨wu.heap.size, 0, none⟩ = some (.int .i64 o2.kind) ∧ w'.cell? ⟨wu.heap.size, 1, none⟩ = some (.int .i64 o2.a) ∧ w'.cell? ⟨wu.heap.size, 2, none⟩ = some (.int .i64 o2.b) ∧ w'.cell? ⟨wu.heap.size, 3, none⟩ = some (.int .i64 o2.agg) ∧ Below wr.heap.size wr w')
            (first | assumption | (exact HX.out _ ((Below.refl _ _).drew)) | (exact HX.out _ hs2) | (exact HX.out _ hs1) | (exact HX.out _ hs3))
            (first
              | (go_at_call 10
                 (with_reducible refine (of_any o2 _ _).mono ?_)
                 rintro e w1 ⟨v1, rfl, p1, p2, p3⟩
                 have hs1 : Below wr.heap.size wr w1 := (Below.refl _ _).drew.trans (p3.mono (by simp))
                 obtain ⟨A1, c1, hA1, hA2⟩ := wins_of_row p1
                 subst hA1
                 have HW1 : Hid (Wins w1 w1.heap.size (.slice A1 _ c1) _) := Lib.hid ⟨A1, c1, rfl, hA2⟩
                 clear p1 p2 p3 hA2)
              | (go_at_call 11
                 (with_reducible refine (rof_any o2 _ _).mono ?_)
                 rintro e w2 ⟨v2, rfl, p1, p2, p3⟩
                 have hs2 : Below wr.heap.size wr w2 := hs1.trans (p3.mono (by have := hs1.size; simp at this ⊢; omega))
                 obtain ⟨A2, c2, hA1, hA2⟩ := wins_of_row p1
                 subst hA1
                 have HW2 : Hid (Wins w2 w2.heap.size (.slice A2 _ c2) _) := Lib.hid ⟨A2, c2, rfl, hA2⟩
                 have HW3 := Lib.hid ((HW1.out.below p3).mono p3.size)
                 clear p1 p2 p3 hA2)
              | (go_at_call 9
                 (with_reducible refine (same_yes _ A1 A2 c1 c2 w2.heap.size _ HW3.out HW2.out (Nat.le_trans (ofM_len o2 _) (by omega))).mono ?_)
                 rintro e w3 ⟨rfl, p3⟩
                 have hs3 : Below wr.heap.size wr w3 := hs2.trans (p3.mono hs2.size)
                 clear p3))
          go_wp2_with fail
          go_roundw
          case rel => exact ⟨_, _, _, _, _, _, _, _, _, _, _, _, _, _, ⟨2, rfl, by omega, BQ.out.trans (hs3.mono BQ.out.size)⟩, rfl⟩
          case measure => simp [intOf]
        · go_wp2_with fail
          go_region_held3 (fun w' => w'.cell? ⟨wu.heap.size, 0, none⟩ = some (.int .i64 o2.kind) ∧ w'.cell? ⟨wu.heap.size, 1, none⟩ = some (.int .i64 o2.a) ∧ w'.cell? ⟨wu.heap.size, 2, none⟩ = some (.int .i64 o2.b) ∧ w'.cell? ⟨wu.heap.size, 3, none⟩ = some (.int .i64 o2.agg) ∧ Below wr.heap.size wr w')
            (first | assumption | (exact HX.out _ ((Below.refl _ _).drew)) | (exact HX.out _ hs2) | (exact HX.out _ hs1) | (exact HX.out _ hs3))
            (first
              | (go_at_call 10
                 (with_reducible refine (of_any o2 _ _).mono ?_)
                 rintro e w1 ⟨v1, rfl, p1, p2, p3⟩
                 have hs1 : Below wr.heap.size wr w1 := (Below.refl _ _).drew.trans (p3.mono (by simp))
                 obtain ⟨A1, c1, hA1, hA2⟩ := wins_of_row p1
                 subst hA1
                 have HW1 : Hid (Wins w1 w1.heap.size (.slice A1 _ c1) _) := Lib.hid ⟨A1, c1, rfl, hA2⟩
                 clear p1 p2 p3 hA2)
              | (go_at_call 11
                 (with_reducible refine (rof_any o2 _ _).mono ?_)
                 rintro e w2 ⟨v2, rfl, p1, p2, p3⟩
                 have hs2 : Below wr.heap.size wr w2 := hs1.trans (p3.mono (by have := hs1.size; simp at this ⊢; omega))
                 obtain ⟨A2, c2, hA1, hA2⟩ := wins_of_row p1
                 subst hA1
                 have HW2 : Hid (Wins w2 w2.heap.size (.slice A2 _ c2) _) := Lib.hid ⟨A2, c2, rfl, hA2⟩
                 have HW3 := Lib.hid ((HW1.out.below p3).mono p3.size)
                 clear p1 p2 p3 hA2)
              | (go_at_call 9
                 (with_reducible refine (same_yes _ A1 A2 c1 c2 w2.heap.size _ HW3.out HW2.out (Nat.le_trans (ofM_len o2 _) (by omega))).mono ?_)
                 rintro e w3 ⟨rfl, p3⟩
                 have hs3 : Below wr.heap.size wr w3 := hs2.trans (p3.mono hs2.size)
                 clear p3))
          go_wp2_with fail
          go_roundw
          case rel => exact ⟨_, _, _, _, _, _, _, _, _, _, _, _, _, _, ⟨3, rfl, by omega, BQ.out.trans (hs3.mono BQ.out.size)⟩, rfl⟩
          case measure => simp [intOf]
        · go_wp2_with fail
          go_roundw
          case rel => exact ⟨2, by go_num, by omega, BR.out.trans ((HB8.out.trans (BQ.out.mono (by omega))).mono hbs)⟩
          case measure => simp [intOf]
    · have hbs := BR.out.size
      have hy1 : ∀ a b, Boxes (wu.alloc (.cells #[.int .i64 a, .int .i64 b] 34)) w.heap.size o x t0 t1 t2 t3 := fun a b => HBX.out.below (BR.out.trans (((Below.refl wu.heap.size wu).alloc (Nat.le_refl _) _).mono hbs)) (by omega)
      have hy2 : ∀ a b c d, Boxes ((wu.alloc (.cells #[.int .i64 a, .int .i64 b] 34)).alloc (.cells #[.int .i64 c, .int .i64 d] 34)) w.heap.size o x t0 t1 t2 t3 := fun a b c d => HBX.out.below (BR.out.trans ((((Below.refl wu.heap.size wu).alloc (Nat.le_refl _) _).alloc (by simp) _).mono hbs)) (by omega)
      have q0 := fun a b => (hy1 a b).t0
      have q1 := fun a b => (hy1 a b).t1
      have q2 := fun a b => (hy1 a b).t2
      have q3 := fun a b => (hy1 a b).t3
      have p0 := fun a b c d => (hy2 a b c d).t0
      have p1 := fun a b c d => (hy2 a b c d).t1
      have p2 := fun a b c d => (hy2 a b c d).t2
      have p3 := fun a b c d => (hy2 a b c d).t3
      clear hy1 hy2
      go_wp2_with fail
      go_cut [11, 12] from 42 (fun p q wx => ∃ g1 g2, p = .pointer (some ⟨g1, 0, none⟩) ∧ q = .pointer (some ⟨g2, 0, none⟩) ∧ wx.heap[g1]? = some (.cells #[.int .i64 t0, .int .i64 t1] 34 (0, 0)) ∧ wx.heap[g2]? = some (.cells #[.int .i64 t2, .int .i64 t3] 34 (0, 0)) ∧ Below wu.heap.size wu wx)
      case first =>
        go_region
        all_goals go_wp2_with fail
        all_goals go_meet
        all_goals (first
          | exact ⟨_, _, rfl, rfl, (two_boxes wu t0 t1 t2 t3).1, (two_boxes wu t0 t1 t2 t3).2, (((Below.refl wu.heap.size wu).alloc (Nat.le_refl _) _).alloc (by simp) _).drew⟩
          | exact ⟨_, _, rfl, rfl, (two_boxes wu t2 t3 t0 t1).2, (two_boxes wu t2 t3 t0 t1).1, (((Below.refl wu.heap.size wu).alloc (Nat.le_refl _) _).alloc (by simp) _).drew⟩)
      case rest =>
        clear q0 q1 q2 q3 p0 p1 p2 p3 r0 r1 r2 r3
        obtain ⟨g1, g2, rfl, rfl, hg1, hg2, hbc⟩ := hcut
        have HBC := Lib.hid hbc
        have HX : Hid (∀ w', Below wc.heap.size wc w' → w'.cell? ⟨g1, 0, none⟩ = some (.int .i64 t0) ∧ w'.cell? ⟨g1, 1, none⟩ = some (.int .i64 t1) ∧ w'.cell? ⟨g2, 0, none⟩ = some (.int .i64 t2) ∧ w'.cell? ⟨g2, 1, none⟩ = some (.int .i64 t3) ∧ Below wc.heap.size wc w') := Lib.hid (fun w' h => by
          have e1 := (h.block g1 (Array.getElem?_eq_some_iff.1 hg1).1).trans hg1
          have e2 := (h.block g2 (Array.getElem?_eq_some_iff.1 hg2).1).trans hg2
          exact ⟨cells_c0 e1, cells_c1 e1, cells_c0 e2, cells_c1 e2, h⟩)
        obtain ⟨β, hβ⟩ : ∃ β, meetM (t0, t1) (t2, t3) = β := ⟨_, rfl⟩
        obtain ⟨y, hy⟩ : ∃ y, joinM (t0, t1) (t2, t3) = y := ⟨_, rfl⟩
        obtain ⟨y0, y1⟩ := y
        have Hβ := Lib.hid hβ
        have HY := Lib.hid hy
        have hG := guard34
        have hE := win_eq
        clear hbc hg1 hg2 hβ hy
        go_wp2_with fail
        go_region_held3 (fun w' => w'.cell? ⟨g1, 0, none⟩ = some (.int .i64 t0) ∧ w'.cell? ⟨g1, 1, none⟩ = some (.int .i64 t1) ∧ w'.cell? ⟨g2, 0, none⟩ = some (.int .i64 t2) ∧ w'.cell? ⟨g2, 1, none⟩ = some (.int .i64 t3) ∧ Below wc.heap.size wc w')
          (first | assumption | (exact HX.out _ ((Below.refl _ _).drew)) | (exact HX.out _ hs5) | (exact HX.out _ hs4) | (exact HX.out _ hs3) | (exact HX.out _ hs2) | (exact HX.out _ hs1))
          (first
            | (go_at_call 12
               (with_reducible refine (meet_any (t0, t1) (t2, t3) _).mono ?_)
               rw [Hβ.out]
               rintro e w1 ⟨rfl, p1⟩
               have hs1 : Below wc.heap.size wc w1 := (Below.refl _ _).drew.trans (p1.mono (by simp))
               clear p1)
            | (go_at_call 13
               (with_reducible refine (rmeet_any (t0, t1) (t2, t3) _).mono ?_)
               rw [Hβ.out]
               rintro e w2 ⟨rfl, p1⟩
               have hs2 : Below wc.heap.size wc w2 := hs1.trans (p1.mono hs1.size)
               clear p1)
            | (go_at_call 14
               (with_reducible refine (join_any (t0, t1) (t2, t3) _).mono ?_)
               rw [HY.out]
               rintro e w3 ⟨rfl, p1⟩
               have hs3 : Below wc.heap.size wc w3 := hs2.trans (p1.mono hs2.size)
               clear p1)
            | (go_at_call 15
               (with_reducible refine (rjoin_any (t0, t1) (t2, t3) _).mono ?_)
               rw [HY.out]
               rintro e w4 ⟨rfl, p1⟩
               have hs4 : Below wc.heap.size wc w4 := hs3.trans (p1.mono hs3.size)
               clear p1)
            | (go_at_call 16
               (with_reducible refine (works _).mono ?_)
               rintro e w5 ⟨rfl, p1⟩
               have hs5 : Below wc.heap.size wc w5 := hs4.trans (p1.mono hs4.size)
               clear p1))
        go_wp2_with fail
        go_ret
        exact ⟨rfl, HB3.out.trans ((BR.out.trans ((HBC.out.trans (hs5.mono HBC.out.size)).mono hbs)).mono (by omega))⟩
end Go.Proofs.Yteiedknpmlemkaa
