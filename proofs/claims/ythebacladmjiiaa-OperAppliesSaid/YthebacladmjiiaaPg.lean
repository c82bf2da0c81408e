/-
  The reference's own operators: what one makes of a record; whether two lists are alike.
-/
import Derived.Test.YthebacladmjiiaaPd
import Derived.StillTailTactics
namespace Go.Proofs.Ythebacladmjiiaa
open Go Go.RowKit Go.Lib

theorem may_op (o : OpD) (w : World) : Calls Try.prog 22 #[o.val] w fun e w' => e = .returned (.bool (allowsM o)) ∧ Below w.heap.size w w' :=
  (may_any o w).mono fun e w' h => ⟨h.1, by rw [h.2]; exact ((Below.refl _ _).alloc (Nat.le_refl _) _).alloc (by simp) _⟩

/-- A list of records handed back. -/
abbrev Gives (w : World) (l : List RecD) (e : Ending) (w' : World) : Prop := ∃ A' c', e = .returned (.slice A' l.length c') ∧ Recs w' w'.heap.size (.slice A' l.length c') l ∧ Below w.heap.size w w'

theorem recs_new (w : World) (r : RecD) (t : TypeId) (n : Nat) (hn : w.heap.size = n) : Recs (w.alloc (.cells r.cells.toArray t)) (w.alloc (.cells r.cells.toArray t)).heap.size (.slice (some ⟨n, 0, none⟩) 1 1) [r] := by
  subst hn; exact recs_one w r t
theorem one_flag (o : OpD) (r : RecD) (h : r.err = true ∨ r.late = true) : oneM o r = [r] := by
  unfold oneM
  rw [if_pos (by rcases h with e | e; exact .inl e; exact .inr (.inl e))]
theorem one_class (o : OpD) (r : RecD) (h : (kindRow o.kind).1 ≠ 0) : oneM o r = [r] := by
  unfold oneM
  split
  · rfl
  · have : (kindRow o.kind).2.2.2 = 27 := by
      revert h
      unfold kindRow
      repeat' split
      all_goals simp
    rw [this]; rfl
theorem one_no (o : OpD) (r : RecD) (h : allowsM o = false) : oneM o r = [r] := by
  unfold oneM
  rw [if_pos (.inr (.inr h))]
theorem one_map (a b g : Int) (key time val side : Int) (h : allowsM ⟨0, a, b, g⟩ = true) : oneM ⟨0, a, b, g⟩ ⟨key, time, val, side, false, false⟩ = [⟨key, time, wrap64 (wrap64 (val * a) + b), side, false, false⟩] := by
  unfold oneM; rw [if_neg (by simp [h])]; simp [kindRow, resM]
theorem one_key (a b g : Int) (key time val side : Int) (h : allowsM ⟨1, a, b, g⟩ = true) : oneM ⟨1, a, b, g⟩ ⟨key, time, val, side, false, false⟩ = [⟨(key.tmod a + b) % 4294967296, time, val, side, false, false⟩] := by
  unfold oneM; rw [if_neg (by simp [h])]; simp [kindRow, resM]
theorem one_filter (a b g : Int) (key time val side : Int) (h : allowsM ⟨2, a, b, g⟩ = true) : oneM ⟨2, a, b, g⟩ ⟨key, time, val, side, false, false⟩ = if val % a = b then [⟨key, time, val, side, false, false⟩] else [] := by
  unfold oneM; rw [if_neg (by simp [h])]; simp [kindRow, resM]
theorem one_flat (a b g : Int) (key time val side : Int) (h : allowsM ⟨3, a, b, g⟩ = true) : oneM ⟨3, a, b, g⟩ ⟨key, time, val, side, false, false⟩ = copiesM a.toNat b ⟨key, time, val, side, false, false⟩ := by
  unfold oneM; rw [if_neg (by simp [h])]; simp [kindRow, resM]
theorem kinds_of (o : OpD) (h0 : (kindRow o.kind).1 = 0) : o.kind = 0 ∨ o.kind = 1 ∨ o.kind = 2 ∨ o.kind = 3 := by
  revert h0
  unfold kindRow
  repeat' split
  all_goals (first | omega | simp_all)

set_option maxRecDepth 100000 in
set_option maxHeartbeats 1600000 in
theorem oneA (k a b g key time val side : Int) (late : Bool) (w : World) : Calls Try.prog 24 #[.agg #[.int .i64 k, .int .i64 a, .int .i64 b, .int .i64 g], .agg #[.int .u32 key, .int .i64 time, .int .i64 val, .int .u8 side, .bool true, .bool late]] w (Gives w [⟨key, time, val, side, true, late⟩]) := by
  go_enter Try.func24, Try.ntmps24
  go_wp2_with fail
  go_ret
  refine ⟨_, _, rfl, recs_new _ ⟨key, time, val, side, true, late⟩ 36 _ (by simp), ?_⟩
  exact (((Below.refl _ _).alloc (Nat.le_refl _) _).alloc (by simp) _).alloc (by simp; omega) _
set_option maxRecDepth 100000 in
set_option maxHeartbeats 1600000 in
theorem oneB (k a b g key time val side : Int) (w : World) : Calls Try.prog 24 #[.agg #[.int .i64 k, .int .i64 a, .int .i64 b, .int .i64 g], .agg #[.int .u32 key, .int .i64 time, .int .i64 val, .int .u8 side, .bool false, .bool true]] w (Gives w [⟨key, time, val, side, false, true⟩]) := by
  go_enter Try.func24, Try.ntmps24
  go_wp2_with fail
  go_ret
  refine ⟨_, _, rfl, recs_new _ ⟨key, time, val, side, false, true⟩ 36 _ (by simp), ?_⟩
  exact (((Below.refl _ _).alloc (Nat.le_refl _) _).alloc (by simp) _).alloc (by simp; omega) _
set_option maxRecDepth 100000 in
set_option maxHeartbeats 1600000 in
theorem oneC (k a b g key time val side : Int) (h : (kindRow k).1 ≠ 0) (w : World) : Calls Try.prog 24 #[.agg #[.int .i64 k, .int .i64 a, .int .i64 b, .int .i64 g], .agg #[.int .u32 key, .int .i64 time, .int .i64 val, .int .u8 side, .bool false, .bool false]] w (Gives w [⟨key, time, val, side, false, false⟩]) := by
  obtain ⟨cl, hcl⟩ : ∃ cl, (kindRow k).1 = cl := ⟨_, rfl⟩
  rw [hcl] at h
  have HCL : Hid ((kindRow (OpD.kind ⟨k, a, b, g⟩)).1 = cl) := Lib.hid hcl
  clear hcl
  have HX : Hid (∀ w', Below (w.heap.size + 1 + 1) ((w.alloc (.cells #[.int .i64 k, .int .i64 a, .int .i64 b, .int .i64 g] 23)).alloc (.cells #[.int .u32 key, .int .i64 time, .int .i64 val, .int .u8 side, .bool false, .bool false] 36)) w' → w'.heap[w.heap.size]? = some (.cells #[.int .i64 k, .int .i64 a, .int .i64 b, .int .i64 g] 23 (0, 0)) ∧ w'.heap[w.heap.size + 1]? = some (.cells #[.int .u32 key, .int .i64 time, .int .i64 val, .int .u8 side, .bool false, .bool false] 36 (0, 0))) := Lib.hid (fun w' h => by
    constructor
    · rw [h.block _ (by omega), Below.heap_alloc _ _ _ (by simp)]
      exact World.alloc_heap_new w _
    · rw [h.block _ (by omega)]
      have := World.alloc_heap_new (w.alloc (.cells #[.int .i64 k, .int .i64 a, .int .i64 b, .int .i64 g] 23)) (.cells #[.int .u32 key, .int .i64 time, .int .i64 val, .int .u8 side, .bool false, .bool false] 36)
      simpa using this)
  have BW : Hid (Below w.heap.size w ((w.alloc (.cells #[.int .i64 k, .int .i64 a, .int .i64 b, .int .i64 g] 23)).alloc (.cells #[.int .u32 key, .int .i64 time, .int .i64 val, .int .u8 side, .bool false, .bool false] 36))) := Lib.hid (((Below.refl _ _).alloc (Nat.le_refl _) _).alloc (by simp) _)
  go_enter Try.func24, Try.ntmps24
  go_wp2_with (first
    | (go_at_call 12
       (with_reducible refine (rclass_op ⟨k, a, b, g⟩ _).mono ?_)
       rw [HCL.out]
       rintro e w1 ⟨rfl, hb1⟩
       have X1 : Hid (Below (w.heap.size + 1 + 1) ((w.alloc (.cells #[.int .i64 k, .int .i64 a, .int .i64 b, .int .i64 g] 23)).alloc (.cells #[.int .u32 key, .int .i64 time, .int .i64 val, .int .u8 side, .bool false, .bool false] 36)) w1) := Lib.hid (hb1.mono (by simp))
       obtain ⟨ho1, hr1⟩ := HX.out _ X1.out
       have o0 : w1.cell? ⟨w.heap.size, 0, none⟩ = some (.int .i64 k) := by simp only [World.cell?, ho1]; rfl
       have o1 : w1.cell? ⟨w.heap.size, 1, none⟩ = some (.int .i64 a) := by simp only [World.cell?, ho1]; rfl
       have o2 : w1.cell? ⟨w.heap.size, 2, none⟩ = some (.int .i64 b) := by simp only [World.cell?, ho1]; rfl
       have o3 : w1.cell? ⟨w.heap.size, 3, none⟩ = some (.int .i64 g) := by simp only [World.cell?, ho1]; rfl
       have r0 : w1.cell? ⟨w.heap.size + 1, 0, none⟩ = some (.int .u32 key) := by simp only [World.cell?, hr1]; rfl
       have r1 : w1.cell? ⟨w.heap.size + 1, 1, none⟩ = some (.int .i64 time) := by simp only [World.cell?, hr1]; rfl
       have r2 : w1.cell? ⟨w.heap.size + 1, 2, none⟩ = some (.int .i64 val) := by simp only [World.cell?, hr1]; rfl
       have r3 : w1.cell? ⟨w.heap.size + 1, 3, none⟩ = some (.int .u8 side) := by simp only [World.cell?, hr1]; rfl
       have r4 : w1.cell? ⟨w.heap.size + 1, 4, none⟩ = some (.bool false) := by simp only [World.cell?, hr1]; rfl
       have r5 : w1.cell? ⟨w.heap.size + 1, 5, none⟩ = some (.bool false) := by simp only [World.cell?, hr1]; rfl
       clear hb1 ho1 hr1))
  go_ret
  refine ⟨_, _, rfl, recs_new _ ⟨key, time, val, side, false, false⟩ 36 _ (by simp), ?_⟩
  exact (BW.out.trans (X1.out.mono (by omega))).alloc (by have := X1.out.size; simp at this; omega) _
set_option maxRecDepth 100000 in
set_option maxHeartbeats 1600000 in
theorem oneD (k a b g key time val side : Int) (h : (kindRow k).1 = 0) (ha : allowsM ⟨k, a, b, g⟩ = false) (w : World) : Calls Try.prog 24 #[.agg #[.int .i64 k, .int .i64 a, .int .i64 b, .int .i64 g], .agg #[.int .u32 key, .int .i64 time, .int .i64 val, .int .u8 side, .bool false, .bool false]] w (Gives w [⟨key, time, val, side, false, false⟩]) := by
  have HCL : Hid ((kindRow (OpD.kind ⟨k, a, b, g⟩)).1 = 0) := Lib.hid h
  have HAL := Lib.hid ha
  clear h ha
  have HX : Hid (∀ w', Below (w.heap.size + 1 + 1) ((w.alloc (.cells #[.int .i64 k, .int .i64 a, .int .i64 b, .int .i64 g] 23)).alloc (.cells #[.int .u32 key, .int .i64 time, .int .i64 val, .int .u8 side, .bool false, .bool false] 36)) w' → w'.heap[w.heap.size]? = some (.cells #[.int .i64 k, .int .i64 a, .int .i64 b, .int .i64 g] 23 (0, 0)) ∧ w'.heap[w.heap.size + 1]? = some (.cells #[.int .u32 key, .int .i64 time, .int .i64 val, .int .u8 side, .bool false, .bool false] 36 (0, 0))) := Lib.hid (fun w' h => by
    constructor
    · rw [h.block _ (by omega), Below.heap_alloc _ _ _ (by simp)]
      exact World.alloc_heap_new w _
    · rw [h.block _ (by omega)]
      have := World.alloc_heap_new (w.alloc (.cells #[.int .i64 k, .int .i64 a, .int .i64 b, .int .i64 g] 23)) (.cells #[.int .u32 key, .int .i64 time, .int .i64 val, .int .u8 side, .bool false, .bool false] 36)
      simpa using this)
  have BW : Hid (Below w.heap.size w ((w.alloc (.cells #[.int .i64 k, .int .i64 a, .int .i64 b, .int .i64 g] 23)).alloc (.cells #[.int .u32 key, .int .i64 time, .int .i64 val, .int .u8 side, .bool false, .bool false] 36))) := Lib.hid (((Below.refl _ _).alloc (Nat.le_refl _) _).alloc (by simp) _)
  go_enter Try.func24, Try.ntmps24
  go_wp2_with (first
    | (go_at_call 12
       (with_reducible refine (rclass_op ⟨k, a, b, g⟩ _).mono ?_)
       rw [HCL.out]
       rintro e w1 ⟨rfl, hb1⟩
       have X1 : Hid (Below (w.heap.size + 1 + 1) ((w.alloc (.cells #[.int .i64 k, .int .i64 a, .int .i64 b, .int .i64 g] 23)).alloc (.cells #[.int .u32 key, .int .i64 time, .int .i64 val, .int .u8 side, .bool false, .bool false] 36)) w1) := Lib.hid (hb1.mono (by simp))
       obtain ⟨ho1, hr1⟩ := HX.out _ X1.out
       have o0 : w1.cell? ⟨w.heap.size, 0, none⟩ = some (.int .i64 k) := by simp only [World.cell?, ho1]; rfl
       have o1 : w1.cell? ⟨w.heap.size, 1, none⟩ = some (.int .i64 a) := by simp only [World.cell?, ho1]; rfl
       have o2 : w1.cell? ⟨w.heap.size, 2, none⟩ = some (.int .i64 b) := by simp only [World.cell?, ho1]; rfl
       have o3 : w1.cell? ⟨w.heap.size, 3, none⟩ = some (.int .i64 g) := by simp only [World.cell?, ho1]; rfl
       have r0 : w1.cell? ⟨w.heap.size + 1, 0, none⟩ = some (.int .u32 key) := by simp only [World.cell?, hr1]; rfl
       have r1 : w1.cell? ⟨w.heap.size + 1, 1, none⟩ = some (.int .i64 time) := by simp only [World.cell?, hr1]; rfl
       have r2 : w1.cell? ⟨w.heap.size + 1, 2, none⟩ = some (.int .i64 val) := by simp only [World.cell?, hr1]; rfl
       have r3 : w1.cell? ⟨w.heap.size + 1, 3, none⟩ = some (.int .u8 side) := by simp only [World.cell?, hr1]; rfl
       have r4 : w1.cell? ⟨w.heap.size + 1, 4, none⟩ = some (.bool false) := by simp only [World.cell?, hr1]; rfl
       have r5 : w1.cell? ⟨w.heap.size + 1, 5, none⟩ = some (.bool false) := by simp only [World.cell?, hr1]; rfl
       clear hb1 ho1 hr1)
    | (go_at_call 22
       (with_reducible refine (may_op ⟨k, a, b, g⟩ _).mono ?_)
       rw [HAL.out]
       rintro e w2 ⟨rfl, hb2⟩
       have X2 : Hid (Below (w.heap.size + 1 + 1) ((w.alloc (.cells #[.int .i64 k, .int .i64 a, .int .i64 b, .int .i64 g] 23)).alloc (.cells #[.int .u32 key, .int .i64 time, .int .i64 val, .int .u8 side, .bool false, .bool false] 36)) w2) := Lib.hid (X1.out.trans (hb2.mono (by have := X1.out.size; simpa using this)))
       obtain ⟨ho2, hr2⟩ := HX.out _ X2.out
       clear o0 o1 o2 o3 r0 r1 r2 r3 r4 r5
       have o0 : w2.cell? ⟨w.heap.size, 0, none⟩ = some (.int .i64 k) := by simp only [World.cell?, ho2]; rfl
       have o1 : w2.cell? ⟨w.heap.size, 1, none⟩ = some (.int .i64 a) := by simp only [World.cell?, ho2]; rfl
       have o2 : w2.cell? ⟨w.heap.size, 2, none⟩ = some (.int .i64 b) := by simp only [World.cell?, ho2]; rfl
       have o3 : w2.cell? ⟨w.heap.size, 3, none⟩ = some (.int .i64 g) := by simp only [World.cell?, ho2]; rfl
       have r0 : w2.cell? ⟨w.heap.size + 1, 0, none⟩ = some (.int .u32 key) := by simp only [World.cell?, hr2]; rfl
       have r1 : w2.cell? ⟨w.heap.size + 1, 1, none⟩ = some (.int .i64 time) := by simp only [World.cell?, hr2]; rfl
       have r2 : w2.cell? ⟨w.heap.size + 1, 2, none⟩ = some (.int .i64 val) := by simp only [World.cell?, hr2]; rfl
       have r3 : w2.cell? ⟨w.heap.size + 1, 3, none⟩ = some (.int .u8 side) := by simp only [World.cell?, hr2]; rfl
       have r4 : w2.cell? ⟨w.heap.size + 1, 4, none⟩ = some (.bool false) := by simp only [World.cell?, hr2]; rfl
       have r5 : w2.cell? ⟨w.heap.size + 1, 5, none⟩ = some (.bool false) := by simp only [World.cell?, hr2]; rfl
       have f0 : w2.frozen? ⟨w.heap.size + 1, 0, none⟩ = false := by simp [World.frozen?, hr2]
       have f2 : w2.frozen? ⟨w.heap.size + 1, 2, none⟩ = false := by simp [World.frozen?, hr2]
       have Z2 : w.heap.size + 1 + 1 ≤ w2.heap.size := by have := X2.out.size; simpa using this
       have B2 : Hid (Below w.heap.size w w2) := Lib.hid (BW.out.trans (X2.out.mono (by omega)))
       clear hb2 ho2))
  go_ret
  refine ⟨_, _, rfl, recs_new _ ⟨key, time, val, side, false, false⟩ 36 _ (by simp), ?_⟩
  exact B2.out.alloc (by omega) _
set_option maxRecDepth 100000 in
set_option maxHeartbeats 1600000 in
theorem oneE (a b g key time val side : Int) (ha : allowsM ⟨0, a, b, g⟩ = true) (w : World) : Calls Try.prog 24 #[.agg #[.int .i64 0, .int .i64 a, .int .i64 b, .int .i64 g], .agg #[.int .u32 key, .int .i64 time, .int .i64 val, .int .u8 side, .bool false, .bool false]] w (Gives w [⟨key, time, wrap64 (wrap64 (val * a) + b), side, false, false⟩]) := by
  have HCL : Hid ((kindRow (OpD.kind ⟨0, a, b, g⟩)).1 = 0) := Lib.hid (by simp [kindRow])
  have HAL := Lib.hid ha
  have HX : Hid (∀ w', Below (w.heap.size + 1 + 1) ((w.alloc (.cells #[.int .i64 0, .int .i64 a, .int .i64 b, .int .i64 g] 23)).alloc (.cells #[.int .u32 key, .int .i64 time, .int .i64 val, .int .u8 side, .bool false, .bool false] 36)) w' → w'.heap[w.heap.size]? = some (.cells #[.int .i64 0, .int .i64 a, .int .i64 b, .int .i64 g] 23 (0, 0)) ∧ w'.heap[w.heap.size + 1]? = some (.cells #[.int .u32 key, .int .i64 time, .int .i64 val, .int .u8 side, .bool false, .bool false] 36 (0, 0))) := Lib.hid (fun w' h => by
    constructor
    · rw [h.block _ (by omega), Below.heap_alloc _ _ _ (by simp)]
      exact World.alloc_heap_new w _
    · rw [h.block _ (by omega)]
      have := World.alloc_heap_new (w.alloc (.cells #[.int .i64 0, .int .i64 a, .int .i64 b, .int .i64 g] 23)) (.cells #[.int .u32 key, .int .i64 time, .int .i64 val, .int .u8 side, .bool false, .bool false] 36)
      simpa using this)
  have BW : Hid (Below w.heap.size w ((w.alloc (.cells #[.int .i64 0, .int .i64 a, .int .i64 b, .int .i64 g] 23)).alloc (.cells #[.int .u32 key, .int .i64 time, .int .i64 val, .int .u8 side, .bool false, .bool false] 36))) := Lib.hid (((Below.refl _ _).alloc (Nat.le_refl _) _).alloc (by simp) _)
  clear ha
  go_enter Try.func24, Try.ntmps24
  go_wp2_with (first
    | (go_at_call 12
       (with_reducible refine (rclass_op ⟨0, a, b, g⟩ _).mono ?_)
       rw [HCL.out]
       rintro e w1 ⟨rfl, hb1⟩
       have X1 : Hid (Below (w.heap.size + 1 + 1) ((w.alloc (.cells #[.int .i64 0, .int .i64 a, .int .i64 b, .int .i64 g] 23)).alloc (.cells #[.int .u32 key, .int .i64 time, .int .i64 val, .int .u8 side, .bool false, .bool false] 36)) w1) := Lib.hid (hb1.mono (by simp))
       obtain ⟨ho1, hr1⟩ := HX.out _ X1.out
       have o0 : w1.cell? ⟨w.heap.size, 0, none⟩ = some (.int .i64 0) := by simp only [World.cell?, ho1]; rfl
       have o1 : w1.cell? ⟨w.heap.size, 1, none⟩ = some (.int .i64 a) := by simp only [World.cell?, ho1]; rfl
       have o2 : w1.cell? ⟨w.heap.size, 2, none⟩ = some (.int .i64 b) := by simp only [World.cell?, ho1]; rfl
       have o3 : w1.cell? ⟨w.heap.size, 3, none⟩ = some (.int .i64 g) := by simp only [World.cell?, ho1]; rfl
       have r0 : w1.cell? ⟨w.heap.size + 1, 0, none⟩ = some (.int .u32 key) := by simp only [World.cell?, hr1]; rfl
       have r1 : w1.cell? ⟨w.heap.size + 1, 1, none⟩ = some (.int .i64 time) := by simp only [World.cell?, hr1]; rfl
       have r2 : w1.cell? ⟨w.heap.size + 1, 2, none⟩ = some (.int .i64 val) := by simp only [World.cell?, hr1]; rfl
       have r3 : w1.cell? ⟨w.heap.size + 1, 3, none⟩ = some (.int .u8 side) := by simp only [World.cell?, hr1]; rfl
       have r4 : w1.cell? ⟨w.heap.size + 1, 4, none⟩ = some (.bool false) := by simp only [World.cell?, hr1]; rfl
       have r5 : w1.cell? ⟨w.heap.size + 1, 5, none⟩ = some (.bool false) := by simp only [World.cell?, hr1]; rfl
       clear hb1 ho1 hr1)
    | (go_at_call 22
       (with_reducible refine (may_op ⟨0, a, b, g⟩ _).mono ?_)
       rw [HAL.out]
       rintro e w2 ⟨rfl, hb2⟩
       have X2 : Hid (Below (w.heap.size + 1 + 1) ((w.alloc (.cells #[.int .i64 0, .int .i64 a, .int .i64 b, .int .i64 g] 23)).alloc (.cells #[.int .u32 key, .int .i64 time, .int .i64 val, .int .u8 side, .bool false, .bool false] 36)) w2) := Lib.hid (X1.out.trans (hb2.mono (by have := X1.out.size; simpa using this)))
       obtain ⟨ho2, hr2⟩ := HX.out _ X2.out
       clear o0 o1 o2 o3 r0 r1 r2 r3 r4 r5
       have o0 : w2.cell? ⟨w.heap.size, 0, none⟩ = some (.int .i64 0) := by simp only [World.cell?, ho2]; rfl
       have o1 : w2.cell? ⟨w.heap.size, 1, none⟩ = some (.int .i64 a) := by simp only [World.cell?, ho2]; rfl
       have o2 : w2.cell? ⟨w.heap.size, 2, none⟩ = some (.int .i64 b) := by simp only [World.cell?, ho2]; rfl
       have o3 : w2.cell? ⟨w.heap.size, 3, none⟩ = some (.int .i64 g) := by simp only [World.cell?, ho2]; rfl
       have r0 : w2.cell? ⟨w.heap.size + 1, 0, none⟩ = some (.int .u32 key) := by simp only [World.cell?, hr2]; rfl
       have r1 : w2.cell? ⟨w.heap.size + 1, 1, none⟩ = some (.int .i64 time) := by simp only [World.cell?, hr2]; rfl
       have r2 : w2.cell? ⟨w.heap.size + 1, 2, none⟩ = some (.int .i64 val) := by simp only [World.cell?, hr2]; rfl
       have r3 : w2.cell? ⟨w.heap.size + 1, 3, none⟩ = some (.int .u8 side) := by simp only [World.cell?, hr2]; rfl
       have r4 : w2.cell? ⟨w.heap.size + 1, 4, none⟩ = some (.bool false) := by simp only [World.cell?, hr2]; rfl
       have r5 : w2.cell? ⟨w.heap.size + 1, 5, none⟩ = some (.bool false) := by simp only [World.cell?, hr2]; rfl
       have f0 : w2.frozen? ⟨w.heap.size + 1, 0, none⟩ = false := by simp [World.frozen?, hr2]
       have f2 : w2.frozen? ⟨w.heap.size + 1, 2, none⟩ = false := by simp [World.frozen?, hr2]
       have Z2 : w.heap.size + 1 + 1 ≤ w2.heap.size := by have := X2.out.size; simpa using this
       have B2 : Hid (Below w.heap.size w w2) := Lib.hid (BW.out.trans (X2.out.mono (by omega)))
       clear hb2 ho2))
  go_ret
  refine ⟨_, _, rfl, recs_new _ ⟨key, time, wrap64 (wrap64 (val * a) + b), side, false, false⟩ 36 _ (by simp), ?_⟩
  exact (B2.out.setCell (p := ⟨w.heap.size + 1, 2, none⟩) (by simp) _).alloc (by simp; omega) _
set_option maxRecDepth 100000 in
set_option maxHeartbeats 1600000 in
theorem oneF (a b g key time val side : Int) (ha : allowsM ⟨1, a, b, g⟩ = true) (hk : 0 ≤ key ∧ key ≤ 4294967295) (w : World) : Calls Try.prog 24 #[.agg #[.int .i64 1, .int .i64 a, .int .i64 b, .int .i64 g], .agg #[.int .u32 key, .int .i64 time, .int .i64 val, .int .u8 side, .bool false, .bool false]] w (Gives w [⟨(key.tmod a + b) % 4294967296, time, val, side, false, false⟩]) := by
  have HCL : Hid ((kindRow (OpD.kind ⟨1, a, b, g⟩)).1 = 0) := Lib.hid (by simp [kindRow])
  have HAL := Lib.hid ha
  have HX : Hid (∀ w', Below (w.heap.size + 1 + 1) ((w.alloc (.cells #[.int .i64 1, .int .i64 a, .int .i64 b, .int .i64 g] 23)).alloc (.cells #[.int .u32 key, .int .i64 time, .int .i64 val, .int .u8 side, .bool false, .bool false] 36)) w' → w'.heap[w.heap.size]? = some (.cells #[.int .i64 1, .int .i64 a, .int .i64 b, .int .i64 g] 23 (0, 0)) ∧ w'.heap[w.heap.size + 1]? = some (.cells #[.int .u32 key, .int .i64 time, .int .i64 val, .int .u8 side, .bool false, .bool false] 36 (0, 0))) := Lib.hid (fun w' h => by
    constructor
    · rw [h.block _ (by omega), Below.heap_alloc _ _ _ (by simp)]
      exact World.alloc_heap_new w _
    · rw [h.block _ (by omega)]
      have := World.alloc_heap_new (w.alloc (.cells #[.int .i64 1, .int .i64 a, .int .i64 b, .int .i64 g] 23)) (.cells #[.int .u32 key, .int .i64 time, .int .i64 val, .int .u8 side, .bool false, .bool false] 36)
      simpa using this)
  have BW : Hid (Below w.heap.size w ((w.alloc (.cells #[.int .i64 1, .int .i64 a, .int .i64 b, .int .i64 g] 23)).alloc (.cells #[.int .u32 key, .int .i64 time, .int .i64 val, .int .u8 side, .bool false, .bool false] 36))) := Lib.hid (((Below.refl _ _).alloc (Nat.le_refl _) _).alloc (by simp) _)
  have hab : (1 ≤ a ∧ a ≤ 4294967295) ∧ 0 ≤ b ∧ b ≤ 4294967295 := by simp [allowsM, kindRow, fitsM] at ha; omega
  clear ha
  go_enter Try.func24, Try.ntmps24
  go_wp2_with (first
    | (go_at_call 12
       (with_reducible refine (rclass_op ⟨1, a, b, g⟩ _).mono ?_)
       rw [HCL.out]
       rintro e w1 ⟨rfl, hb1⟩
       have X1 : Hid (Below (w.heap.size + 1 + 1) ((w.alloc (.cells #[.int .i64 1, .int .i64 a, .int .i64 b, .int .i64 g] 23)).alloc (.cells #[.int .u32 key, .int .i64 time, .int .i64 val, .int .u8 side, .bool false, .bool false] 36)) w1) := Lib.hid (hb1.mono (by simp))
       obtain ⟨ho1, hr1⟩ := HX.out _ X1.out
       have o0 : w1.cell? ⟨w.heap.size, 0, none⟩ = some (.int .i64 1) := by simp only [World.cell?, ho1]; rfl
       have o1 : w1.cell? ⟨w.heap.size, 1, none⟩ = some (.int .i64 a) := by simp only [World.cell?, ho1]; rfl
       have o2 : w1.cell? ⟨w.heap.size, 2, none⟩ = some (.int .i64 b) := by simp only [World.cell?, ho1]; rfl
       have o3 : w1.cell? ⟨w.heap.size, 3, none⟩ = some (.int .i64 g) := by simp only [World.cell?, ho1]; rfl
       have r0 : w1.cell? ⟨w.heap.size + 1, 0, none⟩ = some (.int .u32 key) := by simp only [World.cell?, hr1]; rfl
       have r1 : w1.cell? ⟨w.heap.size + 1, 1, none⟩ = some (.int .i64 time) := by simp only [World.cell?, hr1]; rfl
       have r2 : w1.cell? ⟨w.heap.size + 1, 2, none⟩ = some (.int .i64 val) := by simp only [World.cell?, hr1]; rfl
       have r3 : w1.cell? ⟨w.heap.size + 1, 3, none⟩ = some (.int .u8 side) := by simp only [World.cell?, hr1]; rfl
       have r4 : w1.cell? ⟨w.heap.size + 1, 4, none⟩ = some (.bool false) := by simp only [World.cell?, hr1]; rfl
       have r5 : w1.cell? ⟨w.heap.size + 1, 5, none⟩ = some (.bool false) := by simp only [World.cell?, hr1]; rfl
       clear hb1 ho1 hr1)
    | (go_at_call 22
       (with_reducible refine (may_op ⟨1, a, b, g⟩ _).mono ?_)
       rw [HAL.out]
       rintro e w2 ⟨rfl, hb2⟩
       have X2 : Hid (Below (w.heap.size + 1 + 1) ((w.alloc (.cells #[.int .i64 1, .int .i64 a, .int .i64 b, .int .i64 g] 23)).alloc (.cells #[.int .u32 key, .int .i64 time, .int .i64 val, .int .u8 side, .bool false, .bool false] 36)) w2) := Lib.hid (X1.out.trans (hb2.mono (by have := X1.out.size; simpa using this)))
       obtain ⟨ho2, hr2⟩ := HX.out _ X2.out
       clear o0 o1 o2 o3 r0 r1 r2 r3 r4 r5
       have o0 : w2.cell? ⟨w.heap.size, 0, none⟩ = some (.int .i64 1) := by simp only [World.cell?, ho2]; rfl
       have o1 : w2.cell? ⟨w.heap.size, 1, none⟩ = some (.int .i64 a) := by simp only [World.cell?, ho2]; rfl
       have o2 : w2.cell? ⟨w.heap.size, 2, none⟩ = some (.int .i64 b) := by simp only [World.cell?, ho2]; rfl
       have o3 : w2.cell? ⟨w.heap.size, 3, none⟩ = some (.int .i64 g) := by simp only [World.cell?, ho2]; rfl
       have r0 : w2.cell? ⟨w.heap.size + 1, 0, none⟩ = some (.int .u32 key) := by simp only [World.cell?, hr2]; rfl
       have r1 : w2.cell? ⟨w.heap.size + 1, 1, none⟩ = some (.int .i64 time) := by simp only [World.cell?, hr2]; rfl
       have r2 : w2.cell? ⟨w.heap.size + 1, 2, none⟩ = some (.int .i64 val) := by simp only [World.cell?, hr2]; rfl
       have r3 : w2.cell? ⟨w.heap.size + 1, 3, none⟩ = some (.int .u8 side) := by simp only [World.cell?, hr2]; rfl
       have r4 : w2.cell? ⟨w.heap.size + 1, 4, none⟩ = some (.bool false) := by simp only [World.cell?, hr2]; rfl
       have r5 : w2.cell? ⟨w.heap.size + 1, 5, none⟩ = some (.bool false) := by simp only [World.cell?, hr2]; rfl
       have f0 : w2.frozen? ⟨w.heap.size + 1, 0, none⟩ = false := by simp [World.frozen?, hr2]
       have f2 : w2.frozen? ⟨w.heap.size + 1, 2, none⟩ = false := by simp [World.frozen?, hr2]
       have Z2 : w.heap.size + 1 + 1 ≤ w2.heap.size := by have := X2.out.size; simpa using this
       have B2 : Hid (Below w.heap.size w w2) := Lib.hid (BW.out.trans (X2.out.mono (by omega)))
       clear hb2 ho2))
  have U0 : IntKind.u64.wrap key = key := IntWalk.u64_in _ (by omega)
  have U1 : IntKind.u64.wrap a = a := IntWalk.u64_in _ (by omega)
  have U2 : IntKind.u64.wrap b = b := IntWalk.u64_in _ (by omega)
  have T0 : key.tmod a = key % a := Int.tmod_eq_emod_of_nonneg hk.1
  have nz' : a ≠ 0 := by omega
  have nz : (a == 0) = false := by simp; omega
  have hm : 0 ≤ key % a ∧ key % a < a := ⟨Int.emod_nonneg _ (by omega), Int.emod_lt_of_pos _ (by omega)⟩
  rw [T0]
  obtain ⟨m, hmm⟩ : ∃ m, key % a = m := ⟨_, rfl⟩
  rw [hmm] at hm T0 ⊢
  have U3 : IntKind.u64.wrap (m + b) = m + b := IntWalk.u64_in _ (by omega)
  have U4 : IntKind.u64.wrap m = m := IntWalk.u64_in _ (by omega)
  have T1 : (m + b).tmod 4294967296 = (m + b) % 4294967296 := Int.tmod_eq_emod_of_nonneg (by omega)
  have U5 : IntKind.u64.wrap ((m + b) % 4294967296) = (m + b) % 4294967296 := IntWalk.u64_in _ (by omega)
  have U6 : IntKind.u32.wrap ((m + b) % 4294967296) = (m + b) % 4294967296 := IntWalk.u32_in _ (by omega)
  clear hmm
  go_still_tail 14, (by kernel_rfl)
  change wpList _ _ _ _ _ w2.drew
  go_wp2_with fail
  go_ret
  rw [T0]
  refine ⟨_, _, rfl, (recs_new (w2.setCell ⟨w.heap.size + 1, 0, none⟩ (.int .u32 ((m + b) % 4294967296))) ⟨(m + b) % 4294967296, time, val, side, false, false⟩ 36 _ (by simp)).below ((Below.refl _ _).drew), ?_⟩
  exact ((B2.out.setCell (p := ⟨w.heap.size + 1, 0, none⟩) (by simp) _).alloc (by simp; omega) _).drew
set_option maxRecDepth 100000 in
set_option maxHeartbeats 1600000 in
theorem oneG (a b g key time val side : Int) (ha : allowsM ⟨2, a, b, g⟩ = true) (hv : val % a = b) (w : World) : Calls Try.prog 24 #[.agg #[.int .i64 2, .int .i64 a, .int .i64 b, .int .i64 g], .agg #[.int .u32 key, .int .i64 time, .int .i64 val, .int .u8 side, .bool false, .bool false]] w (Gives w [⟨key, time, val, side, false, false⟩]) := by
  have HCL : Hid ((kindRow (OpD.kind ⟨2, a, b, g⟩)).1 = 0) := Lib.hid (by simp [kindRow])
  have HAL := Lib.hid ha
  have HX : Hid (∀ w', Below (w.heap.size + 1 + 1) ((w.alloc (.cells #[.int .i64 2, .int .i64 a, .int .i64 b, .int .i64 g] 23)).alloc (.cells #[.int .u32 key, .int .i64 time, .int .i64 val, .int .u8 side, .bool false, .bool false] 36)) w' → w'.heap[w.heap.size]? = some (.cells #[.int .i64 2, .int .i64 a, .int .i64 b, .int .i64 g] 23 (0, 0)) ∧ w'.heap[w.heap.size + 1]? = some (.cells #[.int .u32 key, .int .i64 time, .int .i64 val, .int .u8 side, .bool false, .bool false] 36 (0, 0))) := Lib.hid (fun w' h => by
    constructor
    · rw [h.block _ (by omega), Below.heap_alloc _ _ _ (by simp)]
      exact World.alloc_heap_new w _
    · rw [h.block _ (by omega)]
      have := World.alloc_heap_new (w.alloc (.cells #[.int .i64 2, .int .i64 a, .int .i64 b, .int .i64 g] 23)) (.cells #[.int .u32 key, .int .i64 time, .int .i64 val, .int .u8 side, .bool false, .bool false] 36)
      simpa using this)
  have BW : Hid (Below w.heap.size w ((w.alloc (.cells #[.int .i64 2, .int .i64 a, .int .i64 b, .int .i64 g] 23)).alloc (.cells #[.int .u32 key, .int .i64 time, .int .i64 val, .int .u8 side, .bool false, .bool false] 36))) := Lib.hid (((Below.refl _ _).alloc (Nat.le_refl _) _).alloc (by simp) _)
  have hab : (1 ≤ a ∧ a ≤ 1073741824) ∧ 0 ≤ b ∧ b ≤ a - 1 := by simp [allowsM, kindRow, fitsM] at ha; omega
  clear ha
  obtain ⟨i1, hi, hz0, hz1, hz2⟩ := info_parts info36
  have KI := Lib.hid hi
  have KZ0 := Lib.hid hz0
  have KZ1 := Lib.hid hz1
  have KZ2 := Lib.hid hz2
  clear hi hz0 hz1 hz2
  go_enter Try.func24, Try.ntmps24
  go_wp2_with (first
    | (go_at_call 12
       (with_reducible refine (rclass_op ⟨2, a, b, g⟩ _).mono ?_)
       rw [HCL.out]
       rintro e w1 ⟨rfl, hb1⟩
       have X1 : Hid (Below (w.heap.size + 1 + 1) ((w.alloc (.cells #[.int .i64 2, .int .i64 a, .int .i64 b, .int .i64 g] 23)).alloc (.cells #[.int .u32 key, .int .i64 time, .int .i64 val, .int .u8 side, .bool false, .bool false] 36)) w1) := Lib.hid (hb1.mono (by simp))
       obtain ⟨ho1, hr1⟩ := HX.out _ X1.out
       have o0 : w1.cell? ⟨w.heap.size, 0, none⟩ = some (.int .i64 2) := by simp only [World.cell?, ho1]; rfl
       have o1 : w1.cell? ⟨w.heap.size, 1, none⟩ = some (.int .i64 a) := by simp only [World.cell?, ho1]; rfl
       have o2 : w1.cell? ⟨w.heap.size, 2, none⟩ = some (.int .i64 b) := by simp only [World.cell?, ho1]; rfl
       have o3 : w1.cell? ⟨w.heap.size, 3, none⟩ = some (.int .i64 g) := by simp only [World.cell?, ho1]; rfl
       have r0 : w1.cell? ⟨w.heap.size + 1, 0, none⟩ = some (.int .u32 key) := by simp only [World.cell?, hr1]; rfl
       have r1 : w1.cell? ⟨w.heap.size + 1, 1, none⟩ = some (.int .i64 time) := by simp only [World.cell?, hr1]; rfl
       have r2 : w1.cell? ⟨w.heap.size + 1, 2, none⟩ = some (.int .i64 val) := by simp only [World.cell?, hr1]; rfl
       have r3 : w1.cell? ⟨w.heap.size + 1, 3, none⟩ = some (.int .u8 side) := by simp only [World.cell?, hr1]; rfl
       have r4 : w1.cell? ⟨w.heap.size + 1, 4, none⟩ = some (.bool false) := by simp only [World.cell?, hr1]; rfl
       have r5 : w1.cell? ⟨w.heap.size + 1, 5, none⟩ = some (.bool false) := by simp only [World.cell?, hr1]; rfl
       clear hb1 ho1 hr1)
    | (go_at_call 22
       (with_reducible refine (may_op ⟨2, a, b, g⟩ _).mono ?_)
       rw [HAL.out]
       rintro e w2 ⟨rfl, hb2⟩
       have X2 : Hid (Below (w.heap.size + 1 + 1) ((w.alloc (.cells #[.int .i64 2, .int .i64 a, .int .i64 b, .int .i64 g] 23)).alloc (.cells #[.int .u32 key, .int .i64 time, .int .i64 val, .int .u8 side, .bool false, .bool false] 36)) w2) := Lib.hid (X1.out.trans (hb2.mono (by have := X1.out.size; simpa using this)))
       obtain ⟨ho2, hr2⟩ := HX.out _ X2.out
       clear o0 o1 o2 o3 r0 r1 r2 r3 r4 r5
       have o0 : w2.cell? ⟨w.heap.size, 0, none⟩ = some (.int .i64 2) := by simp only [World.cell?, ho2]; rfl
       have o1 : w2.cell? ⟨w.heap.size, 1, none⟩ = some (.int .i64 a) := by simp only [World.cell?, ho2]; rfl
       have o2 : w2.cell? ⟨w.heap.size, 2, none⟩ = some (.int .i64 b) := by simp only [World.cell?, ho2]; rfl
       have o3 : w2.cell? ⟨w.heap.size, 3, none⟩ = some (.int .i64 g) := by simp only [World.cell?, ho2]; rfl
       have r0 : w2.cell? ⟨w.heap.size + 1, 0, none⟩ = some (.int .u32 key) := by simp only [World.cell?, hr2]; rfl
       have r1 : w2.cell? ⟨w.heap.size + 1, 1, none⟩ = some (.int .i64 time) := by simp only [World.cell?, hr2]; rfl
       have r2 : w2.cell? ⟨w.heap.size + 1, 2, none⟩ = some (.int .i64 val) := by simp only [World.cell?, hr2]; rfl
       have r3 : w2.cell? ⟨w.heap.size + 1, 3, none⟩ = some (.int .u8 side) := by simp only [World.cell?, hr2]; rfl
       have r4 : w2.cell? ⟨w.heap.size + 1, 4, none⟩ = some (.bool false) := by simp only [World.cell?, hr2]; rfl
       have r5 : w2.cell? ⟨w.heap.size + 1, 5, none⟩ = some (.bool false) := by simp only [World.cell?, hr2]; rfl
       have f0 : w2.frozen? ⟨w.heap.size + 1, 0, none⟩ = false := by simp [World.frozen?, hr2]
       have f2 : w2.frozen? ⟨w.heap.size + 1, 2, none⟩ = false := by simp [World.frozen?, hr2]
       have Z2 : w.heap.size + 1 + 1 ≤ w2.heap.size := by have := X2.out.size; simpa using this
       have B2 : Hid (Below w.heap.size w w2) := Lib.hid (BW.out.trans (X2.out.mono (by omega)))
       clear hb2 ho2))
  have nz' : a ≠ 0 := by omega
  have nz : (a == 0) = false := by simp; omega
  have hm1 : -a < val.tmod a := Int.lt_tmod_of_pos _ (by omega)
  have hm2 : val.tmod a < a := Int.tmod_lt_of_pos _ (by omega)
  have h3 := rem_twice val a hab.1.1
  have V0 : IntKind.i64.wrap (val.tmod a) = val.tmod a := IntWalk.i64_in _ (by omega)
  have V1 : IntKind.i64.wrap (val.tmod a + a) = val.tmod a + a := IntWalk.i64_in _ (by omega)
  have hvd : decide (val % a = b) = true := decide_eq_true hv
  go_quiet (fail)
  go_wp2_with (first
    | (at_builtin
       refine wpList_append_src _ rfl _ _ 39 rfl w.heap.size 36 i1 _ 6 32 Try.underlying39 KI.out KZ0.out KZ1.out KZ2.out rfl (by decide) _ 0 [] rfl (World.ownsRow_nil _ _ _ _) (some ⟨_, 0, none⟩) 1 1 (cellsL [⟨key, time, val, side, false, false⟩]) rfl rfl (recs_one _ ⟨key, time, val, side, false, false⟩ 36).lies (oneCellsL _) 1 rfl (cellsL [⟨key, time, val, side, false, false⟩]) rfl (by decide) (by decide) (by simp; omega) ?_
       intro A4 c4 w4 hown4 hg4
       have R4 : Hid (Recs w4 w4.heap.size (.slice A4 1 c4) [⟨key, time, val, side, false, false⟩]) := Lib.hid (own_recs' hown4)
       have B4 : Hid (Below w.heap.size w w4) := Lib.hid (((below_drewN B2.out _).alloc (by simp; omega) _).grown hg4 (by simp; omega) (fun k e => by cases e))
       clear hown4 hg4))
  go_ret
  exact ⟨_, _, rfl, R4.out, B4.out⟩
set_option maxRecDepth 100000 in
set_option maxHeartbeats 1600000 in
theorem oneH (a b g key time val side : Int) (ha : allowsM ⟨2, a, b, g⟩ = true) (hv : ¬ val % a = b) (w : World) : Calls Try.prog 24 #[.agg #[.int .i64 2, .int .i64 a, .int .i64 b, .int .i64 g], .agg #[.int .u32 key, .int .i64 time, .int .i64 val, .int .u8 side, .bool false, .bool false]] w (Gives w ([] : List RecD)) := by
  have HCL : Hid ((kindRow (OpD.kind ⟨2, a, b, g⟩)).1 = 0) := Lib.hid (by simp [kindRow])
  have HAL := Lib.hid ha
  have HX : Hid (∀ w', Below (w.heap.size + 1 + 1) ((w.alloc (.cells #[.int .i64 2, .int .i64 a, .int .i64 b, .int .i64 g] 23)).alloc (.cells #[.int .u32 key, .int .i64 time, .int .i64 val, .int .u8 side, .bool false, .bool false] 36)) w' → w'.heap[w.heap.size]? = some (.cells #[.int .i64 2, .int .i64 a, .int .i64 b, .int .i64 g] 23 (0, 0)) ∧ w'.heap[w.heap.size + 1]? = some (.cells #[.int .u32 key, .int .i64 time, .int .i64 val, .int .u8 side, .bool false, .bool false] 36 (0, 0))) := Lib.hid (fun w' h => by
    constructor
    · rw [h.block _ (by omega), Below.heap_alloc _ _ _ (by simp)]
      exact World.alloc_heap_new w _
    · rw [h.block _ (by omega)]
      have := World.alloc_heap_new (w.alloc (.cells #[.int .i64 2, .int .i64 a, .int .i64 b, .int .i64 g] 23)) (.cells #[.int .u32 key, .int .i64 time, .int .i64 val, .int .u8 side, .bool false, .bool false] 36)
      simpa using this)
  have BW : Hid (Below w.heap.size w ((w.alloc (.cells #[.int .i64 2, .int .i64 a, .int .i64 b, .int .i64 g] 23)).alloc (.cells #[.int .u32 key, .int .i64 time, .int .i64 val, .int .u8 side, .bool false, .bool false] 36))) := Lib.hid (((Below.refl _ _).alloc (Nat.le_refl _) _).alloc (by simp) _)
  have hab : (1 ≤ a ∧ a ≤ 1073741824) ∧ 0 ≤ b ∧ b ≤ a - 1 := by simp [allowsM, kindRow, fitsM] at ha; omega
  clear ha
  obtain ⟨i1, hi, hz0, hz1, hz2⟩ := info_parts info36
  have KI := Lib.hid hi
  have KZ0 := Lib.hid hz0
  have KZ1 := Lib.hid hz1
  have KZ2 := Lib.hid hz2
  clear hi hz0 hz1 hz2
  go_enter Try.func24, Try.ntmps24
  go_wp2_with (first
    | (go_at_call 12
       (with_reducible refine (rclass_op ⟨2, a, b, g⟩ _).mono ?_)
       rw [HCL.out]
       rintro e w1 ⟨rfl, hb1⟩
       have X1 : Hid (Below (w.heap.size + 1 + 1) ((w.alloc (.cells #[.int .i64 2, .int .i64 a, .int .i64 b, .int .i64 g] 23)).alloc (.cells #[.int .u32 key, .int .i64 time, .int .i64 val, .int .u8 side, .bool false, .bool false] 36)) w1) := Lib.hid (hb1.mono (by simp))
       obtain ⟨ho1, hr1⟩ := HX.out _ X1.out
       have o0 : w1.cell? ⟨w.heap.size, 0, none⟩ = some (.int .i64 2) := by simp only [World.cell?, ho1]; rfl
       have o1 : w1.cell? ⟨w.heap.size, 1, none⟩ = some (.int .i64 a) := by simp only [World.cell?, ho1]; rfl
       have o2 : w1.cell? ⟨w.heap.size, 2, none⟩ = some (.int .i64 b) := by simp only [World.cell?, ho1]; rfl
       have o3 : w1.cell? ⟨w.heap.size, 3, none⟩ = some (.int .i64 g) := by simp only [World.cell?, ho1]; rfl
       have r0 : w1.cell? ⟨w.heap.size + 1, 0, none⟩ = some (.int .u32 key) := by simp only [World.cell?, hr1]; rfl
       have r1 : w1.cell? ⟨w.heap.size + 1, 1, none⟩ = some (.int .i64 time) := by simp only [World.cell?, hr1]; rfl
       have r2 : w1.cell? ⟨w.heap.size + 1, 2, none⟩ = some (.int .i64 val) := by simp only [World.cell?, hr1]; rfl
       have r3 : w1.cell? ⟨w.heap.size + 1, 3, none⟩ = some (.int .u8 side) := by simp only [World.cell?, hr1]; rfl
       have r4 : w1.cell? ⟨w.heap.size + 1, 4, none⟩ = some (.bool false) := by simp only [World.cell?, hr1]; rfl
       have r5 : w1.cell? ⟨w.heap.size + 1, 5, none⟩ = some (.bool false) := by simp only [World.cell?, hr1]; rfl
       clear hb1 ho1 hr1)
    | (go_at_call 22
       (with_reducible refine (may_op ⟨2, a, b, g⟩ _).mono ?_)
       rw [HAL.out]
       rintro e w2 ⟨rfl, hb2⟩
       have X2 : Hid (Below (w.heap.size + 1 + 1) ((w.alloc (.cells #[.int .i64 2, .int .i64 a, .int .i64 b, .int .i64 g] 23)).alloc (.cells #[.int .u32 key, .int .i64 time, .int .i64 val, .int .u8 side, .bool false, .bool false] 36)) w2) := Lib.hid (X1.out.trans (hb2.mono (by have := X1.out.size; simpa using this)))
       obtain ⟨ho2, hr2⟩ := HX.out _ X2.out
       clear o0 o1 o2 o3 r0 r1 r2 r3 r4 r5
       have o0 : w2.cell? ⟨w.heap.size, 0, none⟩ = some (.int .i64 2) := by simp only [World.cell?, ho2]; rfl
       have o1 : w2.cell? ⟨w.heap.size, 1, none⟩ = some (.int .i64 a) := by simp only [World.cell?, ho2]; rfl
       have o2 : w2.cell? ⟨w.heap.size, 2, none⟩ = some (.int .i64 b) := by simp only [World.cell?, ho2]; rfl
       have o3 : w2.cell? ⟨w.heap.size, 3, none⟩ = some (.int .i64 g) := by simp only [World.cell?, ho2]; rfl
       have r0 : w2.cell? ⟨w.heap.size + 1, 0, none⟩ = some (.int .u32 key) := by simp only [World.cell?, hr2]; rfl
       have r1 : w2.cell? ⟨w.heap.size + 1, 1, none⟩ = some (.int .i64 time) := by simp only [World.cell?, hr2]; rfl
       have r2 : w2.cell? ⟨w.heap.size + 1, 2, none⟩ = some (.int .i64 val) := by simp only [World.cell?, hr2]; rfl
       have r3 : w2.cell? ⟨w.heap.size + 1, 3, none⟩ = some (.int .u8 side) := by simp only [World.cell?, hr2]; rfl
       have r4 : w2.cell? ⟨w.heap.size + 1, 4, none⟩ = some (.bool false) := by simp only [World.cell?, hr2]; rfl
       have r5 : w2.cell? ⟨w.heap.size + 1, 5, none⟩ = some (.bool false) := by simp only [World.cell?, hr2]; rfl
       have f0 : w2.frozen? ⟨w.heap.size + 1, 0, none⟩ = false := by simp [World.frozen?, hr2]
       have f2 : w2.frozen? ⟨w.heap.size + 1, 2, none⟩ = false := by simp [World.frozen?, hr2]
       have Z2 : w.heap.size + 1 + 1 ≤ w2.heap.size := by have := X2.out.size; simpa using this
       have B2 : Hid (Below w.heap.size w w2) := Lib.hid (BW.out.trans (X2.out.mono (by omega)))
       clear hb2 ho2))
  have nz' : a ≠ 0 := by omega
  have nz : (a == 0) = false := by simp; omega
  have hm1 : -a < val.tmod a := Int.lt_tmod_of_pos _ (by omega)
  have hm2 : val.tmod a < a := Int.tmod_lt_of_pos _ (by omega)
  have h3 := rem_twice val a hab.1.1
  have V0 : IntKind.i64.wrap (val.tmod a) = val.tmod a := IntWalk.i64_in _ (by omega)
  have V1 : IntKind.i64.wrap (val.tmod a + a) = val.tmod a + a := IntWalk.i64_in _ (by omega)
  have hvd : decide (val % a = b) = false := decide_eq_false hv
  go_quiet (fail)
  go_wp2_with (first
    | (at_builtin
       refine wpList_append_src _ rfl _ _ 39 rfl w.heap.size 36 i1 _ 6 32 Try.underlying39 KI.out KZ0.out KZ1.out KZ2.out rfl (by decide) _ 0 [] rfl (World.ownsRow_nil _ _ _ _) (some ⟨_, 0, none⟩) 1 1 (cellsL [⟨key, time, val, side, false, false⟩]) rfl rfl (recs_one _ ⟨key, time, val, side, false, false⟩ 36).lies (oneCellsL _) 1 rfl (cellsL [⟨key, time, val, side, false, false⟩]) rfl (by decide) (by decide) (by simp; omega) ?_
       intro A4 c4 w4 hown4 hg4
       have R4 : Hid (Recs w4 w4.heap.size (.slice A4 1 c4) [⟨key, time, val, side, false, false⟩]) := Lib.hid (own_recs' hown4)
       have B4 : Hid (Below w.heap.size w w4) := Lib.hid (((below_drewN B2.out _).alloc (by simp; omega) _).grown hg4 (by simp; omega) (fun k e => by cases e))
       clear hown4 hg4))
  go_ret
  exact ⟨none, 0, rfl, ⟨none, 0, rfl, .inl rfl⟩, below_drewN B2.out _⟩
set_option maxRecDepth 100000 in
set_option maxHeartbeats 1600000 in
theorem oneI (a b g key time val side : Int) (ha : allowsM ⟨3, a, b, g⟩ = true) (w : World) : Calls Try.prog 24 #[.agg #[.int .i64 3, .int .i64 a, .int .i64 b, .int .i64 g], .agg #[.int .u32 key, .int .i64 time, .int .i64 val, .int .u8 side, .bool false, .bool false]] w (Gives w (copiesM a.toNat b ⟨key, time, val, side, false, false⟩)) := by
  have HCL : Hid ((kindRow (OpD.kind ⟨3, a, b, g⟩)).1 = 0) := Lib.hid (by simp [kindRow])
  have HAL := Lib.hid ha
  have HX : Hid (∀ w', Below (w.heap.size + 1 + 1) ((w.alloc (.cells #[.int .i64 3, .int .i64 a, .int .i64 b, .int .i64 g] 23)).alloc (.cells #[.int .u32 key, .int .i64 time, .int .i64 val, .int .u8 side, .bool false, .bool false] 36)) w' → w'.heap[w.heap.size]? = some (.cells #[.int .i64 3, .int .i64 a, .int .i64 b, .int .i64 g] 23 (0, 0)) ∧ w'.heap[w.heap.size + 1]? = some (.cells #[.int .u32 key, .int .i64 time, .int .i64 val, .int .u8 side, .bool false, .bool false] 36 (0, 0))) := Lib.hid (fun w' h => by
    constructor
    · rw [h.block _ (by omega), Below.heap_alloc _ _ _ (by simp)]
      exact World.alloc_heap_new w _
    · rw [h.block _ (by omega)]
      have := World.alloc_heap_new (w.alloc (.cells #[.int .i64 3, .int .i64 a, .int .i64 b, .int .i64 g] 23)) (.cells #[.int .u32 key, .int .i64 time, .int .i64 val, .int .u8 side, .bool false, .bool false] 36)
      simpa using this)
  have BW : Hid (Below w.heap.size w ((w.alloc (.cells #[.int .i64 3, .int .i64 a, .int .i64 b, .int .i64 g] 23)).alloc (.cells #[.int .u32 key, .int .i64 time, .int .i64 val, .int .u8 side, .bool false, .bool false] 36))) := Lib.hid (((Below.refl _ _).alloc (Nat.le_refl _) _).alloc (by simp) _)
  have hab : 1 ≤ a ∧ a ≤ 3 := by simp [allowsM, kindRow, fitsM] at ha; omega
  clear ha
  obtain ⟨i1, hi, hz0, hz1, hz2⟩ := info_parts info36
  have KI := Lib.hid hi
  have KZ0 := Lib.hid hz0
  have KZ1 := Lib.hid hz1
  have KZ2 := Lib.hid hz2
  clear hi hz0 hz1 hz2
  go_enter Try.func24, Try.ntmps24
  go_wp2_with (first
    | (go_at_call 12
       (with_reducible refine (rclass_op ⟨3, a, b, g⟩ _).mono ?_)
       rw [HCL.out]
       rintro e w1 ⟨rfl, hb1⟩
       have X1 : Hid (Below (w.heap.size + 1 + 1) ((w.alloc (.cells #[.int .i64 3, .int .i64 a, .int .i64 b, .int .i64 g] 23)).alloc (.cells #[.int .u32 key, .int .i64 time, .int .i64 val, .int .u8 side, .bool false, .bool false] 36)) w1) := Lib.hid (hb1.mono (by simp))
       obtain ⟨ho1, hr1⟩ := HX.out _ X1.out
       have o0 : w1.cell? ⟨w.heap.size, 0, none⟩ = some (.int .i64 3) := by simp only [World.cell?, ho1]; rfl
       have o1 : w1.cell? ⟨w.heap.size, 1, none⟩ = some (.int .i64 a) := by simp only [World.cell?, ho1]; rfl
       have o2 : w1.cell? ⟨w.heap.size, 2, none⟩ = some (.int .i64 b) := by simp only [World.cell?, ho1]; rfl
       have o3 : w1.cell? ⟨w.heap.size, 3, none⟩ = some (.int .i64 g) := by simp only [World.cell?, ho1]; rfl
       have r0 : w1.cell? ⟨w.heap.size + 1, 0, none⟩ = some (.int .u32 key) := by simp only [World.cell?, hr1]; rfl
       have r1 : w1.cell? ⟨w.heap.size + 1, 1, none⟩ = some (.int .i64 time) := by simp only [World.cell?, hr1]; rfl
       have r2 : w1.cell? ⟨w.heap.size + 1, 2, none⟩ = some (.int .i64 val) := by simp only [World.cell?, hr1]; rfl
       have r3 : w1.cell? ⟨w.heap.size + 1, 3, none⟩ = some (.int .u8 side) := by simp only [World.cell?, hr1]; rfl
       have r4 : w1.cell? ⟨w.heap.size + 1, 4, none⟩ = some (.bool false) := by simp only [World.cell?, hr1]; rfl
       have r5 : w1.cell? ⟨w.heap.size + 1, 5, none⟩ = some (.bool false) := by simp only [World.cell?, hr1]; rfl
       clear hb1 ho1 hr1)
    | (go_at_call 22
       (with_reducible refine (may_op ⟨3, a, b, g⟩ _).mono ?_)
       rw [HAL.out]
       rintro e w2 ⟨rfl, hb2⟩
       have X2 : Hid (Below (w.heap.size + 1 + 1) ((w.alloc (.cells #[.int .i64 3, .int .i64 a, .int .i64 b, .int .i64 g] 23)).alloc (.cells #[.int .u32 key, .int .i64 time, .int .i64 val, .int .u8 side, .bool false, .bool false] 36)) w2) := Lib.hid (X1.out.trans (hb2.mono (by have := X1.out.size; simpa using this)))
       obtain ⟨ho2, hr2⟩ := HX.out _ X2.out
       clear o0 o1 o2 o3 r0 r1 r2 r3 r4 r5
       have o0 : w2.cell? ⟨w.heap.size, 0, none⟩ = some (.int .i64 3) := by simp only [World.cell?, ho2]; rfl
       have o1 : w2.cell? ⟨w.heap.size, 1, none⟩ = some (.int .i64 a) := by simp only [World.cell?, ho2]; rfl
       have o2 : w2.cell? ⟨w.heap.size, 2, none⟩ = some (.int .i64 b) := by simp only [World.cell?, ho2]; rfl
       have o3 : w2.cell? ⟨w.heap.size, 3, none⟩ = some (.int .i64 g) := by simp only [World.cell?, ho2]; rfl
       have r0 : w2.cell? ⟨w.heap.size + 1, 0, none⟩ = some (.int .u32 key) := by simp only [World.cell?, hr2]; rfl
       have r1 : w2.cell? ⟨w.heap.size + 1, 1, none⟩ = some (.int .i64 time) := by simp only [World.cell?, hr2]; rfl
       have r2 : w2.cell? ⟨w.heap.size + 1, 2, none⟩ = some (.int .i64 val) := by simp only [World.cell?, hr2]; rfl
       have r3 : w2.cell? ⟨w.heap.size + 1, 3, none⟩ = some (.int .u8 side) := by simp only [World.cell?, hr2]; rfl
       have r4 : w2.cell? ⟨w.heap.size + 1, 4, none⟩ = some (.bool false) := by simp only [World.cell?, hr2]; rfl
       have r5 : w2.cell? ⟨w.heap.size + 1, 5, none⟩ = some (.bool false) := by simp only [World.cell?, hr2]; rfl
       have f0 : w2.frozen? ⟨w.heap.size + 1, 0, none⟩ = false := by simp [World.frozen?, hr2]
       have f2 : w2.frozen? ⟨w.heap.size + 1, 2, none⟩ = false := by simp [World.frozen?, hr2]
       have Z2 : w.heap.size + 1 + 1 ≤ w2.heap.size := by have := X2.out.size; simpa using this
       have B2 : Hid (Below w.heap.size w w2) := Lib.hid (BW.out.trans (X2.out.mono (by omega)))
       clear hb2 ho2))
  go_loopw [5, 6] (fun v5 i wr => ∃ (j : Nat) (A5 : Option Addr) (c5 : Nat), i = .int .i64 j ∧ (j : Int) ≤ a ∧ v5 = .slice A5 (copiesM j b ⟨key, time, val, side, false, false⟩).length c5 ∧ wr.ownsRow w2.heap.size 36 6 (.slice A5 (copiesM j b ⟨key, time, val, side, false, false⟩).length c5) (copiesM j b ⟨key, time, val, side, false, false⟩).length (cellsL (copiesM j b ⟨key, time, val, side, false, false⟩)) ∧ Below w2.heap.size w2 wr) (fun _ i _ => 3 - (intOf i).toNat)
  case atStart => exact ⟨0, none, 0, rfl, by omega, rfl, World.ownsRow_nil _ _ _ _, Below.refl _ _⟩
  case round =>
    obtain ⟨j, A5, c5, rfl, hj, rfl, hown, hb⟩ := hrel
    have BR := Lib.hid hb
    have OW := Lib.hid hown
    obtain ⟨ho3, hr3⟩ := HX.out wr (X2.out.trans (hb.mono Z2))
    have hsz := hb.size
    clear hb hown o0 o1 o2 o3 r0 r1 r2 r3 r4 r5 f0 f2 hr2
    have o1 : ∀ ob, (wr.alloc ob).cell? ⟨w.heap.size, 1, none⟩ = some (.int .i64 a) := fun ob => (cell_heap (Below.heap_alloc wr ob _ (by omega))).trans (by simp only [World.cell?, ho3]; rfl)
    have o1' : wr.cell? ⟨w.heap.size, 1, none⟩ = some (.int .i64 a) := by simp only [World.cell?, ho3]; rfl
    have o2 : ∀ ob, (wr.alloc ob).cell? ⟨w.heap.size, 2, none⟩ = some (.int .i64 b) := fun ob => (cell_heap (Below.heap_alloc wr ob _ (by omega))).trans (by simp only [World.cell?, ho3]; rfl)
    have r0 : wr.cell? ⟨w.heap.size + 1, 0, none⟩ = some (.int .u32 key) := by simp only [World.cell?, hr3]; rfl
    have r1 : wr.cell? ⟨w.heap.size + 1, 1, none⟩ = some (.int .i64 time) := by simp only [World.cell?, hr3]; rfl
    have r2 : wr.cell? ⟨w.heap.size + 1, 2, none⟩ = some (.int .i64 val) := by simp only [World.cell?, hr3]; rfl
    have r2' : ∀ ob, (wr.alloc ob).cell? ⟨w.heap.size + 1, 2, none⟩ = some (.int .i64 val) := fun ob => (cell_heap (Below.heap_alloc wr ob _ (by omega))).trans r2
    have r3 : wr.cell? ⟨w.heap.size + 1, 3, none⟩ = some (.int .u8 side) := by simp only [World.cell?, hr3]; rfl
    have r4 : wr.cell? ⟨w.heap.size + 1, 4, none⟩ = some (.bool false) := by simp only [World.cell?, hr3]; rfl
    have r5 : wr.cell? ⟨w.heap.size + 1, 5, none⟩ = some (.bool false) := by simp only [World.cell?, hr3]; rfl
    clear ho3 hr3
    obtain ⟨l, hl⟩ : ∃ l, copiesM j b ⟨key, time, val, side, false, false⟩ = l := ⟨_, rfl⟩
    have HLL : Hid (l.length = j) := Lib.hid (by rw [← hl, copiesM_len])
    have HNX : Hid (copiesM (j + 1) b ⟨key, time, val, side, false, false⟩ = l ++ [copyM b ⟨key, time, val, side, false, false⟩ j]) := Lib.hid (by rw [copiesM_succ, hl])
    rw [hl] at OW ⊢
    by_cases hlt : (j : Int) < a
    · have W1 : IntKind.i64.wrap ((j : Int) + 1) = (j : Int) + 1 := IntWalk.i64_in _ (by omega)
      clear hl
      go_wp2_with (first
        | (at_builtin
           refine wpList_append_src _ rfl _ _ 39 rfl w2.heap.size 36 i1 _ 6 32 Try.underlying39 KI.out KZ0.out KZ1.out KZ2.out rfl (by decide) _ l.length (cellsL l) rfl ((OW.out.alloc _).alloc _) (some ⟨_, 0, none⟩) 1 1 (cellsL [copyM b ⟨key, time, val, side, false, false⟩ j]) rfl rfl (recs_new _ (copyM b ⟨key, time, val, side, false, false⟩ j) 36 _ (by simp)).lies (oneCellsL _) (l.length + 1) rfl (cellsL (l ++ [copyM b ⟨key, time, val, side, false, false⟩ j])) (cellsL_app _ _).symm (by have := HLL.out; unfold maxLen; omega) (by have := HLL.out; omega) (by simp; omega) ?_
           intro A8 c8 w8 hown8 hg8
           have O8 := Lib.hid hown8
           have B8 : Hid (Below w2.heap.size w2 w8) := Lib.hid (((BR.out.alloc hsz _).alloc (by simp; omega) _).grown hg8 (by simp; omega) (fun k e => (own_lt OW.out e).1))
           clear hown8 hg8))
      go_roundw
      case rel => exact ⟨j + 1, A8, c8, by go_num, by omega, by rw [HNX.out, List.length_append]; rfl, by rw [HNX.out, List.length_append]; exact O8.out, B8.out⟩
      case measure => simp [intOf]; omega
    · have HA : Hid (a.toNat = j) := Lib.hid (by omega)
      have HL := Lib.hid hl
      clear hl
      go_wp2_with fail
      go_ret
      rw [HA.out, HL.out]
      exact ⟨_, _, rfl, own_recs' OW.out, B2.out.trans (BR.out.mono (by omega))⟩
theorem one_any (o : OpD) (r : RecD) (hk : 0 ≤ r.key ∧ r.key ≤ 4294967295) (w : World) : Calls Try.prog 24 #[o.val, r.v] w (Gives w (oneM o r)) := by
  obtain ⟨k, a, b, g⟩ := o
  obtain ⟨key, time, val, side, err, late⟩ := r
  cases err with
  | true => rw [one_flag _ _ (.inl rfl)]; exact oneA k a b g key time val side late w
  | false =>
    cases late with
    | true => rw [one_flag _ _ (.inr rfl)]; exact oneB k a b g key time val side w
    | false =>
      by_cases hc : (kindRow k).1 = 0
      · cases ha : allowsM ⟨k, a, b, g⟩ with
        | false => rw [one_no _ _ ha]; exact oneD k a b g key time val side hc ha w
        | true =>
          rcases kinds_of ⟨k, a, b, g⟩ hc with e | e | e | e <;> dsimp only at e <;> subst e
          · rw [one_map _ _ _ _ _ _ _ ha]; exact oneE a b g key time val side ha w
          · rw [one_key _ _ _ _ _ _ _ ha]; exact oneF a b g key time val side ha hk w
          · rw [one_filter _ _ _ _ _ _ _ ha]
            by_cases hv : val % a = b
            · rw [if_pos hv]; exact oneG a b g key time val side ha hv w
            · rw [if_neg hv]; exact oneH a b g key time val side ha hv w
          · rw [one_flat _ _ _ _ _ _ _ ha]; exact oneI a b g key time val side ha w
      · rw [one_class _ _ hc]; exact oneC k a b g key time val side hc w
end Go.Proofs.Ythebacladmjiiaa
