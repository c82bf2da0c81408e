/-
  The walk of OperSorts.
-/
import Derived.Test.YthebacladmjiiaaOpW
import Derived.Lib.SmallJoins
import Derived.Laws.StructEq
namespace Go.Proofs.Ythebacladmjiiaa
open Go Go.RowKit Go.Lib

theorem opers_one (w : World) (o : OpD) (t : TypeId) : Opers (w.alloc (.cells o.cells.toArray t)) (w.alloc (.cells o.cells.toArray t)).heap.size (some ⟨w.heap.size, 0, none⟩) [o] := by
  refine .inr ⟨_, rfl, by simp, fun j x hx => ?_⟩
  have h := opAt_new w o t
  cases j with
  | zero =>
    simp at hx; subst hx
    exact ⟨h.c0, h.c1, h.c2, h.c3⟩
  | succ j => simp at hx
theorem opers_two (w : World) (o p : OpD) (t : TypeId) : Opers (w.alloc (.cells (o.cells ++ p.cells).toArray t)) (w.alloc (.cells (o.cells ++ p.cells).toArray t)).heap.size (some ⟨w.heap.size, 0, none⟩) [o, p] := by
  have hh : (w.alloc (.cells (o.cells ++ p.cells).toArray t)).heap[w.heap.size]? = some (.cells (o.cells ++ p.cells).toArray t) := World.alloc_heap_new w _
  refine .inr ⟨_, rfl, by simp, fun j x hx => ?_⟩
  match j, hx with
  | 0, hx =>
    simp at hx; subst hx
    constructor <;> (simp only [World.cell?, hh]; rfl)
  | 1, hx =>
    simp at hx; subst hx
    constructor <;> (simp only [World.cell?, hh]; rfl)

theorem filter_one (r : RecD) (a i : Int) (he : r.err = false) (hl : r.late = false) (ha : 1 ≤ a ∧ a ≤ 20) (hi : 0 ≤ i ∧ i < a) : applyM [⟨2, a, i, 0⟩] r = if r.val % a = i then [r] else [] := by
  have hok : allowsM ⟨2, a, i, 0⟩ = true := by simp [allowsM, kindRow, fitsM]; omega
  simp only [applyM, List.foldl_cons, List.foldl_nil, throughM, List.flatMap_cons, List.flatMap_nil, List.append_nil]
  unfold oneM
  rw [if_neg (by simp [he, hl, hok])]
  simp [kindRow, resM]
theorem same_two (r : RecD) (he : r.err = false) (hl : r.late = false) (hv : -9223372036854775808 ≤ r.val ∧ r.val < 9223372036854775808) : applyM [⟨3, 1, 99, 0⟩, ⟨0, 1, 0, 0⟩] r = [r] := by
  have h1 : allowsM ⟨3, 1, 99, 0⟩ = true := by decide
  have h2 : allowsM ⟨0, 1, 0, 0⟩ = true := by decide
  have hw : ∀ x : Int, -9223372036854775808 ≤ x ∧ x < 9223372036854775808 → wrap64 x = x := fun x h => by unfold wrap64; omega
  have e1 : throughM ⟨3, 1, 99, 0⟩ [r] = [r] := by
    simp only [throughM, List.flatMap_cons, List.flatMap_nil, List.append_nil]
    unfold oneM
    rw [if_neg (by simp [he, hl, h1])]
    have : copyM 99 r 0 = r := by
      unfold copyM
      rw [show wrap64 (((0 : Nat) : Int) * 99) = 0 by simp [wrap64], Int.add_zero, hw _ hv]
    simp [kindRow, resM, copiesM, this]
  have e2 : throughM ⟨0, 1, 0, 0⟩ [r] = [r] := by
    simp only [throughM, List.flatMap_cons, List.flatMap_nil, List.append_nil]
    unfold oneM
    rw [if_neg (by simp [he, hl, h2])]
    simp only [kindRow, resM, if_true, Int.mul_one, Int.add_zero]
    rw [hw _ hv, hw _ hv]
  simp only [applyM, List.foldl_cons, List.foldl_nil, e1, e2]
theorem key_one (r : RecD) (a b : Int) (he : r.err = false) (hl : r.late = false) (ha : 1 ≤ a ∧ a ≤ 20) (hb : 0 ≤ b ∧ b ≤ 4294967295) : applyM [⟨1, a, b, 0⟩] r = [{ r with key := (r.key.tmod a + b) % 4294967296 }] := by
  have hok : allowsM ⟨1, a, b, 0⟩ = true := by simp [allowsM, kindRow, fitsM]; omega
  simp only [applyM, List.foldl_cons, List.foldl_nil, throughM, List.flatMap_cons, List.flatMap_nil, List.append_nil]
  unfold oneM
  rw [if_neg (by simp [he, hl, hok])]
  simp [kindRow, resM]

theorem apply1 (o : OpD) (r : RecD) (wr : World) : Calls Try.prog 15 #[.slice (some ⟨wr.heap.size, 0, none⟩) 1 1, r.v] (wr.alloc (.cells #[.int .i64 o.kind, .int .i64 o.a, .int .i64 o.b, .int .i64 o.agg] 23)) fun e w' =>
    ∃ A' c', e = .returned (.slice A' (applyM [o] r).length c') ∧ Recs w' w'.heap.size (.slice A' (applyM [o] r).length c') (applyM [o] r) ∧ Below wr.heap.size wr w' :=
  (apply_any [o] (some ⟨wr.heap.size, 0, none⟩) 1 r _ (opers_one wr o 23) (by simp)).mono fun e w' ⟨A', c', h1, h2, h3⟩ => ⟨A', c', h1, h2, Below.trans ((Below.refl _ _).alloc (Nat.le_refl _) _) (h3.mono (by simp))⟩
theorem apply2 (o p : OpD) (r : RecD) (wr : World) : Calls Try.prog 15 #[.slice (some ⟨wr.heap.size, 0, none⟩) 2 2, r.v] (wr.alloc (.cells #[.int .i64 o.kind, .int .i64 o.a, .int .i64 o.b, .int .i64 o.agg, .int .i64 p.kind, .int .i64 p.a, .int .i64 p.b, .int .i64 p.agg] 23)) fun e w' =>
    ∃ A' c', e = .returned (.slice A' (applyM [o, p] r).length c') ∧ Recs w' w'.heap.size (.slice A' (applyM [o, p] r).length c') (applyM [o, p] r) ∧ Below wr.heap.size wr w' :=
  (apply_any [o, p] (some ⟨wr.heap.size, 0, none⟩) 2 r _ (opers_two wr o p 23) (by simp)).mono fun e w' ⟨A', c', h1, h2, h3⟩ => ⟨A', c', h1, h2, Below.trans ((Below.refl _ _).alloc (Nat.le_refl _) _) (h3.mono (by simp))⟩

theorem guard36 : Try.prog.eqGuardType Try.prog.depth 36 = false := by kernel_rfl
theorem stood36 : Try.prog.stoodInHeld 36 = false := by kernel_rfl
theorem flds36 : (Try.prog.fieldsOf 36).toList = [{ name := "Key", type := 34, offset := 0, embedded := false, tag := "", pkgPath := "", byteOffset := 0 },
        { name := "Time", type := 2, offset := 1, embedded := false, tag := "", pkgPath := "", byteOffset := 8 },
        { name := "Val", type := 2, offset := 2, embedded := false, tag := "", pkgPath := "", byteOffset := 16 },
        { name := "Side", type := 5, offset := 3, embedded := false, tag := "", pkgPath := "", byteOffset := 24 },
        { name := "Err", type := 4, offset := 4, embedded := false, tag := "", pkgPath := "", byteOffset := 25 },
        { name := "Late", type := 4, offset := 5, embedded := false, tag := "", pkgPath := "", byteOffset := 26 }] := by kernel_rfl
theorem str36 : Try.prog.underlying 36 = some (.struct (Try.prog.fieldsOf 36)) := by kernel_rfl
theorem prt (t : TypeId) (k : IntKind) (h : Try.prog.underlying t = some (.int k)) (xs : Array Value) (off : Nat) (v : Value) (hv : xs[off]? = some v) (w : World) : (part t xs off).run Try.prog w = .ok v w := by
  simp [part, isAgg, run_underlying h, hv]
theorem prtB (xs : Array Value) (off : Nat) (v : Value) (hv : xs[off]? = some v) (w : World) : (part 4 xs off).run Try.prog w = .ok v w := by
  simp [part, isAgg, run_underlying Try.underlying4, hv]
theorem rec_eq (r : RecD) (w : World) : (Op.equalIn 10000 36 r.v r.v).run Try.prog w = .ok true w := by
  rw [run_equalIn_struct w 9999 36 _ _ str36 stood36, flds36]
  have q0 := fun w => prt 34 .u32 Try.underlying34 #[.int .u32 r.key, .int .i64 r.time, .int .i64 r.val, .int .u8 r.side, .bool r.err, .bool r.late] 0 (.int .u32 r.key) rfl w
  have q1 := fun w => prt 2 .i64 Try.underlying2 #[.int .u32 r.key, .int .i64 r.time, .int .i64 r.val, .int .u8 r.side, .bool r.err, .bool r.late] 1 (.int .i64 r.time) rfl w
  have q2 := fun w => prt 2 .i64 Try.underlying2 #[.int .u32 r.key, .int .i64 r.time, .int .i64 r.val, .int .u8 r.side, .bool r.err, .bool r.late] 2 (.int .i64 r.val) rfl w
  have q3 := fun w => prt 5 .u8 Try.underlying5 #[.int .u32 r.key, .int .i64 r.time, .int .i64 r.val, .int .u8 r.side, .bool r.err, .bool r.late] 3 (.int .u8 r.side) rfl w
  have q4 := fun w => prtB #[.int .u32 r.key, .int .i64 r.time, .int .i64 r.val, .int .u8 r.side, .bool r.err, .bool r.late] 4 (.bool r.err) rfl w
  have q5 := fun w => prtB #[.int .u32 r.key, .int .i64 r.time, .int .i64 r.val, .int .u8 r.side, .bool r.err, .bool r.late] 5 (.bool r.late) rfl w
  have e0 : ∀ w, (Op.equalIn 9999 34 (.int .u32 r.key) (.int .u32 r.key)).run Try.prog w = .ok true w := fun w => by rw [run_equalIn_int w 9998 34 .u32 .u32 _ _ Try.underlying34]; simp
  have e1 : ∀ n w, (Op.equalIn 9999 2 (.int .i64 n) (.int .i64 n)).run Try.prog w = .ok true w := fun n w => by rw [run_equalIn_int w 9998 2 .i64 .i64 _ _ Try.underlying2]; simp
  have e3 : ∀ w, (Op.equalIn 9999 5 (.int .u8 r.side) (.int .u8 r.side)).run Try.prog w = .ok true w := fun w => by rw [run_equalIn_int w 9998 5 .u8 .u8 _ _ Try.underlying5]; simp
  have e4 : ∀ b w, (Op.equalIn 9999 4 (.bool b) (.bool b)).run Try.prog w = .ok true w := fun b w => by rw [run_equalIn_bool' w 9998 4 _ _ Try.underlying4]; simp
  simp [Op.eqFields, q0, q1, q2, q3, q4, q5, e0, e1, e3, e4]

theorem recs_single {W : World} {B n c : Nat} {A : Option Addr} {r : RecD} (h : Recs W B (.slice A n c) [r]) : ∃ g, A = some ⟨g, 0, none⟩ ∧ g < B ∧ RecAt W g r := by
  obtain ⟨A', c', e, h | ⟨g, e2, hg, hc⟩⟩ := h
  · cases h
  · simp only [Value.slice.injEq] at e
    obtain ⟨rfl, _, _⟩ := e
    have q := hc 0 r rfl
    exact ⟨g, e2, hg, by simpa using q.c0, by simpa using q.c1, by simpa using q.c2, by simpa using q.c3, by simpa using q.c4, by simpa using q.c5⟩

set_option maxRecDepth 100000 in
set_option maxHeartbeats 3200000 in
theorem sorts_any (r : RecD) (n b : Int) (hn : 0 ≤ n ∧ n ≤ 255) (hb : 0 ≤ b ∧ b ≤ 4294967295) (hk : 0 ≤ r.key ∧ r.key ≤ 4294967295) (hv : -9223372036854775808 ≤ r.val ∧ r.val < 9223372036854775808) (w : World) :
    Calls Try.prog 6 #[r.v, .int .u8 n, .int .u32 b] w fun e w' => e = .returned (.bool true) ∧ Below w.heap.size w w' := by
  obtain ⟨key, time, val, side, err, late⟩ := r
  dsimp only at hk hv
  have HBX : Hid (∀ w', Below (w.heap.size + 1) (w.alloc (.cells #[.int .u32 key, .int .i64 time, .int .i64 val, .int .u8 side, .bool err, .bool late] 36)) w' → w'.heap[w.heap.size]? = some (.cells #[.int .u32 key, .int .i64 time, .int .i64 val, .int .u8 side, .bool err, .bool late] 36 (0, 0))) :=
    Lib.hid (fun w' h => (h.block _ (by omega)).trans (World.alloc_heap_new w _))
  go_enter Try.func6, Try.ntmps6
  go_wp2_with (go_at_call 13
               (with_reducible refine (works _).mono ?_)
               rintro e w1 ⟨rfl, hb1⟩
               have hbb : Below (w.heap.size + 1) (w.alloc (.cells #[.int .u32 key, .int .i64 time, .int .i64 val, .int .u8 side, .bool err, .bool late] 36)) w1 := hb1.mono (by simp)
               have h1 := HBX.out _ hbb
               have B1 : Hid (Below w.heap.size w w1) := Lib.hid (Below.trans ((Below.refl _ _).alloc (Nat.le_refl _) _) (hbb.mono (by omega)))
               have c0 : w1.cell? ⟨w.heap.size, 0, none⟩ = some (.int .u32 key) := by simp only [World.cell?, h1]; rfl
               have c1 : w1.cell? ⟨w.heap.size, 1, none⟩ = some (.int .i64 time) := by simp only [World.cell?, h1]; rfl
               have c2 : w1.cell? ⟨w.heap.size, 2, none⟩ = some (.int .i64 val) := by simp only [World.cell?, h1]; rfl
               have c3 : w1.cell? ⟨w.heap.size, 3, none⟩ = some (.int .u8 side) := by simp only [World.cell?, h1]; rfl
               have c4 : w1.cell? ⟨w.heap.size, 4, none⟩ = some (.bool err) := by simp only [World.cell?, h1]; rfl
               have c5 : w1.cell? ⟨w.heap.size, 5, none⟩ = some (.bool late) := by simp only [World.cell?, h1]; rfl
               have f4 : w1.frozen? ⟨w.heap.size, 4, none⟩ = false := by simp [World.frozen?, h1]
               have f5 : w1.frozen? ⟨w.heap.size, 5, none⟩ = false := by simp [World.frozen?, h1]
               clear hb1 hbb)
  obtain ⟨a, ha⟩ : ∃ a, 1 + n % 20 = a := ⟨_, rfl⟩
  have ha1 : 1 ≤ a ∧ a ≤ 20 := by omega
  rw [ha]
  obtain ⟨WS, hWS⟩ : ∃ WS, (w1.setCell ⟨w.heap.size, 4, none⟩ (.bool false)).setCell ⟨w.heap.size, 5, none⟩ (.bool false) = WS := ⟨_, rfl⟩
  have hheap0 : WS.heap[w.heap.size]? = some (.cells #[.int .u32 key, .int .i64 time, .int .i64 val, .int .u8 side, .bool false, .bool false] 36 (0, 0)) := by
    rw [← hWS]
    exact Go.Joins.block_setCell (i := 5) (Go.Joins.block_setCell (i := 4) h1 (.bool false)) (.bool false)
  have hBS : Below w.heap.size w WS := by rw [← hWS]; exact (B1.out.setCell (p := ⟨w.heap.size, 4, none⟩) (Nat.le_refl _) _).setCell (p := ⟨w.heap.size, 5, none⟩) (Nat.le_refl _) _
  rw [hWS]
  clear hWS c0 c1 c2 c3 c4 c5 f4 f5 h1 ha
  have hm : 0 ≤ val % a ∧ val % a < a := ⟨Int.emod_nonneg _ (by omega), Int.emod_lt_of_pos _ (by omega)⟩
  go_loopw [8, 9] (fun t i wr => ∃ (j : Nat), i = .int .i64 j ∧ (j : Int) ≤ a ∧ t = .int .i64 (if val % a < (j : Int) then 1 else 0) ∧ wr.heap[w.heap.size]? = some (.cells #[.int .u32 key, .int .i64 time, .int .i64 val, .int .u8 side, .bool false, .bool false] 36 (0, 0)) ∧ Below w.heap.size w wr) (fun _ i _ => 20 - (intOf i).toNat)
  case atStart => exact ⟨0, rfl, by omega, by rw [if_neg (by omega)], hheap0, hBS⟩
  case round =>
    obtain ⟨j, rfl, hj, rfl, hheap, hbr⟩ := hrel
    have BR := Lib.hid hbr
    have hlt0 : w.heap.size < wr.heap.size := (Array.getElem?_eq_some_iff.1 hheap).1
    clear hbr hBS hheap0
    by_cases hlt : (j : Int) < a
    · have hq0 : (0 : Int) ≤ (j : Int) := by omega
      have hfil := filter_one ⟨key, time, val, side, false, false⟩ a j rfl rfl ha1 ⟨hq0, hlt⟩
      have c0 : ∀ ob, (wr.alloc ob).cell? ⟨w.heap.size, 0, none⟩ = some (.int .u32 key) := fun ob => (cell_heap (Below.heap_alloc wr ob w.heap.size hlt0)).trans (by simp only [World.cell?, hheap]; rfl)
      have c1 : ∀ ob, (wr.alloc ob).cell? ⟨w.heap.size, 1, none⟩ = some (.int .i64 time) := fun ob => (cell_heap (Below.heap_alloc wr ob w.heap.size hlt0)).trans (by simp only [World.cell?, hheap]; rfl)
      have c2 : ∀ ob, (wr.alloc ob).cell? ⟨w.heap.size, 2, none⟩ = some (.int .i64 val) := fun ob => (cell_heap (Below.heap_alloc wr ob w.heap.size hlt0)).trans (by simp only [World.cell?, hheap]; rfl)
      have c3 : ∀ ob, (wr.alloc ob).cell? ⟨w.heap.size, 3, none⟩ = some (.int .u8 side) := fun ob => (cell_heap (Below.heap_alloc wr ob w.heap.size hlt0)).trans (by simp only [World.cell?, hheap]; rfl)
      have c4 : ∀ ob, (wr.alloc ob).cell? ⟨w.heap.size, 4, none⟩ = some (.bool false) := fun ob => (cell_heap (Below.heap_alloc wr ob w.heap.size hlt0)).trans (by simp only [World.cell?, hheap]; rfl)
      have c5 : ∀ ob, (wr.alloc ob).cell? ⟨w.heap.size, 5, none⟩ = some (.bool false) := fun ob => (cell_heap (Below.heap_alloc wr ob w.heap.size hlt0)).trans (by simp only [World.cell?, hheap]; rfl)
      by_cases hc1 : val % a < (j : Int)
      · rw [if_pos hc1]
        have hl1 : (applyM [⟨2, a, j, 0⟩] ⟨key, time, val, side, false, false⟩).length = 0 := by rw [hfil, if_neg (by dsimp only; omega)]; rfl
        have HF := Lib.hid hl1
        clear hl1 hfil
        go_wp2_with (go_at_call 15
                     (with_reducible refine (apply1 ⟨2, a, j, 0⟩ ⟨key, time, val, side, false, false⟩ wr).mono ?_)
                     rw [HF.out]
                     rintro e w2 ⟨A2, c2', rfl, _, hb2⟩
                     have B2 := Lib.hid hb2
                     clear hb2)
        go_roundw
        case rel => exact ⟨j + 1, by go_num, by omega, by rw [if_pos (by omega)]; try go_num, by rw [B2.out.block _ hlt0]; exact hheap, BR.out.trans (B2.out.mono BR.out.size)⟩
        case measure => simp [intOf]; omega
      · rw [if_neg hc1]
        by_cases hc2 : val % a = (j : Int)
        · have hl1 : (applyM [⟨2, a, j, 0⟩] ⟨key, time, val, side, false, false⟩).length = 1 := by rw [hfil, if_pos hc2]; rfl
          have HF := Lib.hid hl1
          clear hl1 hfil
          go_wp2_with (go_at_call 15
                       (with_reducible refine (apply1 ⟨2, a, j, 0⟩ ⟨key, time, val, side, false, false⟩ wr).mono ?_)
                       rw [HF.out]
                       rintro e w2 ⟨A2, c2', rfl, _, hb2⟩
                       have B2 := Lib.hid hb2
                       clear hb2)
          go_roundw
          case rel => exact ⟨j + 1, by go_num, by omega, by rw [if_pos (by omega)]; try go_num, by rw [B2.out.block _ hlt0]; exact hheap, BR.out.trans (B2.out.mono BR.out.size)⟩
          case measure => simp [intOf]; omega
        · have hl1 : (applyM [⟨2, a, j, 0⟩] ⟨key, time, val, side, false, false⟩).length = 0 := by rw [hfil, if_neg hc2]; rfl
          have HF := Lib.hid hl1
          clear hl1 hfil
          go_wp2_with (go_at_call 15
                       (with_reducible refine (apply1 ⟨2, a, j, 0⟩ ⟨key, time, val, side, false, false⟩ wr).mono ?_)
                       rw [HF.out]
                       rintro e w2 ⟨A2, c2', rfl, _, hb2⟩
                       have B2 := Lib.hid hb2
                       clear hb2)
          go_roundw
          case rel => exact ⟨j + 1, by go_num, by omega, by rw [if_neg (by omega)]; try go_num, by rw [B2.out.block _ hlt0]; exact hheap, BR.out.trans (B2.out.mono BR.out.size)⟩
          case measure => simp [intOf]; omega
    · obtain rfl : (j : Int) = a := by omega
      rw [if_pos hm.2]
      have HS2 := Lib.hid (same_two ⟨key, time, val, side, false, false⟩ rfl rfl hv)
      have HK1 := Lib.hid (key_one ⟨key, time, val, side, false, false⟩ (j : Int) b rfl rfl ha1 hb)
      obtain ⟨kk, hkk⟩ : ∃ kk, (key.tmod (j : Int) + b) % 4294967296 = kk := ⟨_, rfl⟩
      have hkm : key.tmod (j : Int) = key % (j : Int) := Int.tmod_eq_emod_of_nonneg hk.1
      have hkr : 0 ≤ key % (j : Int) ∧ key % (j : Int) < (j : Int) := ⟨Int.emod_nonneg _ (by omega), Int.emod_lt_of_pos _ (by omega)⟩
      have hkx : (kk - b) % 4294967296 = key % (j : Int) := by rw [← hkk, hkm]; omega
      have hkb : 0 ≤ kk ∧ kk ≤ 4294967295 := by omega
      have HKK := Lib.hid hkk
      clear hkk hkm
      have c0 : ∀ ob, (wr.alloc ob).cell? ⟨w.heap.size, 0, none⟩ = some (.int .u32 key) := fun ob => (cell_heap (Below.heap_alloc wr ob w.heap.size hlt0)).trans (by simp only [World.cell?, hheap]; rfl)
      have c1 : ∀ ob, (wr.alloc ob).cell? ⟨w.heap.size, 1, none⟩ = some (.int .i64 time) := fun ob => (cell_heap (Below.heap_alloc wr ob w.heap.size hlt0)).trans (by simp only [World.cell?, hheap]; rfl)
      have c2 : ∀ ob, (wr.alloc ob).cell? ⟨w.heap.size, 2, none⟩ = some (.int .i64 val) := fun ob => (cell_heap (Below.heap_alloc wr ob w.heap.size hlt0)).trans (by simp only [World.cell?, hheap]; rfl)
      have c3 : ∀ ob, (wr.alloc ob).cell? ⟨w.heap.size, 3, none⟩ = some (.int .u8 side) := fun ob => (cell_heap (Below.heap_alloc wr ob w.heap.size hlt0)).trans (by simp only [World.cell?, hheap]; rfl)
      have c4 : ∀ ob, (wr.alloc ob).cell? ⟨w.heap.size, 4, none⟩ = some (.bool false) := fun ob => (cell_heap (Below.heap_alloc wr ob w.heap.size hlt0)).trans (by simp only [World.cell?, hheap]; rfl)
      have c5 : ∀ ob, (wr.alloc ob).cell? ⟨w.heap.size, 5, none⟩ = some (.bool false) := fun ob => (cell_heap (Below.heap_alloc wr ob w.heap.size hlt0)).trans (by simp only [World.cell?, hheap]; rfl)
      go_wp2_with (first
        | (go_at_call 15
           (with_reducible refine (apply2 ⟨3, 1, 99, 0⟩ ⟨0, 1, 0, 0⟩ ⟨key, time, val, side, false, false⟩ wr).mono ?_)
           rw [HS2.out]
           rintro e w2 ⟨A2, c2', rfl, hr2, hb2⟩
           have B2 := Lib.hid hb2
           have R2 := Lib.hid hr2
           have hlt2 : w.heap.size < w2.heap.size := Nat.lt_of_lt_of_le hlt0 hb2.size
           have hh2 : w2.heap[w.heap.size]? = some (.cells #[.int .u32 key, .int .i64 time, .int .i64 val, .int .u8 side, .bool false, .bool false] 36 (0, 0)) := (hb2.block _ hlt0).trans hheap
           clear c0 c1 c2 c3 c4 c5
           have c0 : ∀ ob, (w2.alloc ob).cell? ⟨w.heap.size, 0, none⟩ = some (.int .u32 key) := fun ob => (cell_heap (Below.heap_alloc w2 ob w.heap.size hlt2)).trans (by simp only [World.cell?, hh2]; rfl)
           have c1 : ∀ ob, (w2.alloc ob).cell? ⟨w.heap.size, 1, none⟩ = some (.int .i64 time) := fun ob => (cell_heap (Below.heap_alloc w2 ob w.heap.size hlt2)).trans (by simp only [World.cell?, hh2]; rfl)
           have c2 : ∀ ob, (w2.alloc ob).cell? ⟨w.heap.size, 2, none⟩ = some (.int .i64 val) := fun ob => (cell_heap (Below.heap_alloc w2 ob w.heap.size hlt2)).trans (by simp only [World.cell?, hh2]; rfl)
           have c3 : ∀ ob, (w2.alloc ob).cell? ⟨w.heap.size, 3, none⟩ = some (.int .u8 side) := fun ob => (cell_heap (Below.heap_alloc w2 ob w.heap.size hlt2)).trans (by simp only [World.cell?, hh2]; rfl)
           have c4 : ∀ ob, (w2.alloc ob).cell? ⟨w.heap.size, 4, none⟩ = some (.bool false) := fun ob => (cell_heap (Below.heap_alloc w2 ob w.heap.size hlt2)).trans (by simp only [World.cell?, hh2]; rfl)
           have c5 : ∀ ob, (w2.alloc ob).cell? ⟨w.heap.size, 5, none⟩ = some (.bool false) := fun ob => (cell_heap (Below.heap_alloc w2 ob w.heap.size hlt2)).trans (by simp only [World.cell?, hh2]; rfl)
           clear hb2 hr2)
        | (go_at_call 15
           (with_reducible refine (apply1 ⟨1, (j : Int), b, 0⟩ ⟨key, time, val, side, false, false⟩ w2).mono ?_)
           rw [HK1.out]
           rintro e w3 ⟨A3, c3', rfl, hr3, hb3⟩
           have B3 := Lib.hid hb3
           have R3 := Lib.hid hr3
           clear hb3 hr3))
      obtain ⟨g2, rfl, hg2, q2⟩ := recs_single R2.out
      obtain ⟨g3, rfl, hg3, q3⟩ := recs_single R3.out
      have q2' := q2.same (W' := w3) (B3.out.block _ hg2)
      have hh3 : w3.heap[w.heap.size]? = some (.cells #[.int .u32 key, .int .i64 time, .int .i64 val, .int .u8 side, .bool false, .bool false] 36 (0, 0)) := (B3.out.block _ hlt2).trans hh2
      have q1 : RecAt w3 w.heap.size ⟨key, time, val, side, false, false⟩ := by constructor <;> (simp only [World.cell?, hh3]; rfl)
      have hX : w3.cell? ⟨w.heap.size, 0, none⟩ = some (.int .u32 key) ∧ w3.cell? ⟨w.heap.size, 1, none⟩ = some (.int .i64 time) ∧ w3.cell? ⟨w.heap.size, 2, none⟩ = some (.int .i64 val) ∧ w3.cell? ⟨w.heap.size, 3, none⟩ = some (.int .u8 side) ∧ w3.cell? ⟨w.heap.size, 4, none⟩ = some (.bool false) ∧ w3.cell? ⟨w.heap.size, 5, none⟩ = some (.bool false) ∧ w3.cell? ⟨g2, 0, none⟩ = some (.int .u32 key) ∧ w3.cell? ⟨g2, 1, none⟩ = some (.int .i64 time) ∧ w3.cell? ⟨g2, 2, none⟩ = some (.int .i64 val) ∧ w3.cell? ⟨g2, 3, none⟩ = some (.int .u8 side) ∧ w3.cell? ⟨g2, 4, none⟩ = some (.bool false) ∧ w3.cell? ⟨g2, 5, none⟩ = some (.bool false) ∧ w3.cell? ⟨g3, 0, none⟩ = some (.int .u32 kk) ∧ w3.cell? ⟨g3, 1, none⟩ = some (.int .i64 time) ∧ w3.cell? ⟨g3, 2, none⟩ = some (.int .i64 val) ∧ w3.cell? ⟨g3, 3, none⟩ = some (.int .u8 side) ∧ w3.cell? ⟨g3, 4, none⟩ = some (.bool false) ∧ w3.cell? ⟨g3, 5, none⟩ = some (.bool false) := ⟨q1.c0, q1.c1, q1.c2, q1.c3, q1.c4, q1.c5, q2'.c0, q2'.c1, q2'.c2, q2'.c3, q2'.c4, q2'.c5, by rw [← HKK.out]; exact q3.c0, q3.c1, q3.c2, q3.c3, q3.c4, q3.c5⟩
      have HX := Lib.hid hX
      have BF : Hid (Below w.heap.size w w3) := Lib.hid ((BR.out.trans (B2.out.mono BR.out.size)).trans (B3.out.mono (by omega)))
      have hg : Try.prog.eqGuardType Try.prog.depth 36 = false := guard36
      have hq := fun w => rec_eq ⟨key, time, val, side, false, false⟩ w
      have hkr2 : IntKind.u32.wrap (kk - b) < (j : Int) := by rw [IntKind.wrap_u32, hkx]; exact hkr.2
      have hwr : IntKind.u32.wrap (j : Int) = (j : Int) := IntWalk.u32_in _ (by omega)
      clear c0 c1 c2 c3 c4 c5 hX q1 q2 q2' q3 hh2 hh3 hheap
      go_region_held3 (fun w' => w'.cell? ⟨w.heap.size, 0, none⟩ = some (.int .u32 key) ∧ w'.cell? ⟨w.heap.size, 1, none⟩ = some (.int .i64 time) ∧ w'.cell? ⟨w.heap.size, 2, none⟩ = some (.int .i64 val) ∧ w'.cell? ⟨w.heap.size, 3, none⟩ = some (.int .u8 side) ∧ w'.cell? ⟨w.heap.size, 4, none⟩ = some (.bool false) ∧ w'.cell? ⟨w.heap.size, 5, none⟩ = some (.bool false) ∧ w'.cell? ⟨g2, 0, none⟩ = some (.int .u32 key) ∧ w'.cell? ⟨g2, 1, none⟩ = some (.int .i64 time) ∧ w'.cell? ⟨g2, 2, none⟩ = some (.int .i64 val) ∧ w'.cell? ⟨g2, 3, none⟩ = some (.int .u8 side) ∧ w'.cell? ⟨g2, 4, none⟩ = some (.bool false) ∧ w'.cell? ⟨g2, 5, none⟩ = some (.bool false) ∧ w'.cell? ⟨g3, 0, none⟩ = some (.int .u32 kk) ∧ w'.cell? ⟨g3, 1, none⟩ = some (.int .i64 time) ∧ w'.cell? ⟨g3, 2, none⟩ = some (.int .i64 val) ∧ w'.cell? ⟨g3, 3, none⟩ = some (.int .u8 side) ∧ w'.cell? ⟨g3, 4, none⟩ = some (.bool false) ∧ w'.cell? ⟨g3, 5, none⟩ = some (.bool false))
        (first | assumption | (exact HX.out))
        (fail)
      go_wp2_with fail
      go_ret
      exact ⟨rfl, BF.out.drew⟩
end Go.Proofs.Ythebacladmjiiaa
