/-
  What an operator makes of a record, as a value over which one ranges.
-/
import Derived.Test.YthebacladmjiiaaOpD
import Derived.ProofKit
import Derived.Lib.Hide
import Derived.Laws.Rows
import Derived.Deep.Draws
import Derived.Laws.OwnMore
import Derived.LoopTactic
namespace Go.Proofs.Ythebacladmjiiaa
open Go Go.RowKit Go.Lib Go.Shelf

theorem run_store_func {P : Program} {w : World} {a : Addr} {m : Mode} (fn : Fn) (x y : Array Value) : (store a (.func fn x y) m).run P w = stored P w a (.func fn x y) m := run_store P w a _ m rfl
attribute [local go_sem] run_store_func

/-- An operator lies at the start of a block. -/
structure OpAt (W : World) (g : Nat) (o : OpD) : Prop where
  c0 : W.cell? ⟨g, 0, none⟩ = some (.int .i64 o.kind)
  c1 : W.cell? ⟨g, 1, none⟩ = some (.int .i64 o.a)
  c2 : W.cell? ⟨g, 2, none⟩ = some (.int .i64 o.b)
  c3 : W.cell? ⟨g, 3, none⟩ = some (.int .i64 o.agg)
theorem OpAt.same {W W' : World} {g : Nat} {o : OpD} (h : OpAt W g o) (e : W'.heap[g]? = W.heap[g]?) : OpAt W' g o :=
  ⟨(cell_heap e).trans h.c0, (cell_heap e).trans h.c1, (cell_heap e).trans h.c2, (cell_heap e).trans h.c3⟩
theorem opAt_new (w : World) (o : OpD) (t : TypeId) : OpAt (w.alloc (.cells o.cells.toArray t)) w.heap.size o := by
  have h : (w.alloc (.cells o.cells.toArray t)).heap[w.heap.size]? = some (.cells o.cells.toArray t) := World.alloc_heap_new w _
  constructor <;> (simp only [World.cell?, h]; rfl)

/-- The world in which results has boxed its arguments, and what lies there. -/
theorem boxed2 (o : OpD) (r : RecD) (w : World) : ∃ W2, (w.alloc (.cells o.cells.toArray 23)).alloc (.cells r.cells.toArray 36) = W2 ∧ W2.heap.size = w.heap.size + 1 + 1 ∧ OpAt W2 w.heap.size o ∧ RecAt W2 (w.heap.size + 1) r ∧ Below w.heap.size w W2 := by
  obtain ⟨W1, hW1⟩ : ∃ W1, w.alloc (.cells o.cells.toArray 23) = W1 := ⟨_, rfl⟩
  have s1 : W1.heap.size = w.heap.size + 1 := by rw [← hW1]; simp
  refine ⟨_, rfl, by simp, ?_, ?_, ((Below.refl _ _).alloc (Nat.le_refl _) _).alloc (by simp) _⟩
  · have := opAt_new w o 23
    exact this.same (Below.heap_alloc _ _ _ (by simp))
  · rw [hW1, ← s1]; exact recAt_new _ _ _

set_option maxRecDepth 100000 in
set_option maxHeartbeats 1600000 in
theorem results_any (o : OpD) (r : RecD) (w : World) : Calls Try.prog 30 #[o.val, r.v] w fun e w' => Res w (oneM o r) e w' := by
  obtain ⟨c, la, f, g, hrow⟩ : ∃ c la f g, kindRow o.kind = (c, la, f, g) := ⟨_, _, _, _, rfl⟩
  have hv : rowV o.kind = .agg #[.int .i64 c, .int .i64 la, .func (.func f) #[] #[], .func (.func g) #[] #[]] := by unfold rowV; rw [hrow]
  have HV := Lib.hid hv
  obtain ⟨W2, hW2, s2, hO2, hR2, hB2⟩ := boxed2 o r w
  have HO := Lib.hid hO2
  have HR := Lib.hid hR2
  clear hO2 hR2 hv
  obtain ⟨key, time, val, side, err, late⟩ := r
  have HW : Hid ((w.alloc (.cells #[.int .i64 o.kind, .int .i64 o.a, .int .i64 o.b, .int .i64 o.agg] 23)).alloc (.cells #[.int .u32 key, .int .i64 time, .int .i64 val, .int .u8 side, .bool err, .bool late] 36) = W2) := Lib.hid hW2
  clear hW2
  cases err with
  | true =>
    have hone : oneM o ⟨key, time, val, side, true, late⟩ = [⟨key, time, val, side, true, late⟩] := by unfold oneM; rw [if_pos (.inl rfl)]
    rw [hone]
    unfold OpD.val RecD.v
    go_enter Try.func30, Try.ntmps30
    go_wp2_with (first
      | (go_at_call 20
         rw [HW.out]
         (with_reducible refine (kindOf_any o _).mono ?_)
         rintro e w1 ⟨rfl, hb⟩
         rw [HV.out]
         have hbs := hb.size
         have hB3 := hB2.trans (hb.mono (by omega))
         have HB3 := Lib.hid hB3
         have r' := fun ob => HR.out.same (W' := w1.alloc ob) ((Below.heap_alloc _ _ _ (by omega)).trans (hb.block _ (by omega)))
         have o' := fun ob => HO.out.same (W' := w1.alloc ob) ((Below.heap_alloc _ _ _ (by omega)).trans (hb.block _ (by omega)))
         have r0 := fun ob => (r' ob).c0
         have r1 := fun ob => (r' ob).c1
         have r2 := fun ob => (r' ob).c2
         have r3 := fun ob => (r' ob).c3
         have r4 := fun ob => (r' ob).c4
         have r5 := fun ob => (r' ob).c5
         have o0 := fun ob => (o' ob).c0
         have o1 := fun ob => (o' ob).c1
         have o2 := fun ob => (o' ob).c2
         have o3 := fun ob => (o' ob).c3
         dsimp only at r0 r1 r2 r3 r4 r5
         clear r' o' hb hB3)
      | (go_at_call 31
         (with_reducible refine (only_any ⟨key, time, val, side, true, late⟩ _).mono ?_)
         rintro e w3 ⟨v, rfl, hb3, hv3⟩))
    go_ret
    exact Res.from ⟨_, rfl, hb3, hv3⟩ (HB3.out.alloc (by omega) _)
  | false =>
    cases late with
    | true =>
      have hone : oneM o ⟨key, time, val, side, false, true⟩ = [⟨key, time, val, side, false, true⟩] := by unfold oneM; rw [if_pos (.inr (.inl rfl))]
      rw [hone]
      unfold OpD.val RecD.v
      go_enter Try.func30, Try.ntmps30
      go_wp2_with (first
        | (go_at_call 20
           rw [HW.out]
           (with_reducible refine (kindOf_any o _).mono ?_)
           rintro e w1 ⟨rfl, hb⟩
           rw [HV.out]
           have hbs := hb.size
           have hB3 := hB2.trans (hb.mono (by omega))
           have HB3 := Lib.hid hB3
           have r' := fun ob => HR.out.same (W' := w1.alloc ob) ((Below.heap_alloc _ _ _ (by omega)).trans (hb.block _ (by omega)))
           have o' := fun ob => HO.out.same (W' := w1.alloc ob) ((Below.heap_alloc _ _ _ (by omega)).trans (hb.block _ (by omega)))
           have r0 := fun ob => (r' ob).c0
           have r1 := fun ob => (r' ob).c1
           have r2 := fun ob => (r' ob).c2
           have r3 := fun ob => (r' ob).c3
           have r4 := fun ob => (r' ob).c4
           have r5 := fun ob => (r' ob).c5
           have o0 := fun ob => (o' ob).c0
           have o1 := fun ob => (o' ob).c1
           have o2 := fun ob => (o' ob).c2
           have o3 := fun ob => (o' ob).c3
           dsimp only at r0 r1 r2 r3 r4 r5
           clear r' o' hb hB3)
        | (go_at_call 31
           (with_reducible refine (only_any ⟨key, time, val, side, false, true⟩ _).mono ?_)
           rintro e w3 ⟨v, rfl, hb3, hv3⟩))
      go_ret
      exact Res.from ⟨_, rfl, hb3, hv3⟩ (HB3.out.alloc (by omega) _)
    | false =>
      have HV' : Hid (Value.agg #[.int .i64 c, .int .i64 la, .func (.func f) #[] #[], .func (.func g) #[] #[]] = rowV o.kind) := Lib.hid HV.out.symm
      cases ha : allowsM o with
      | false =>
        have hone : oneM o ⟨key, time, val, side, false, false⟩ = [⟨key, time, val, side, false, false⟩] := by unfold oneM; rw [if_pos (.inr (.inr ha))]
        have HA : Hid (allowsM o = false) := Lib.hid ha
        clear ha
        rw [hone]
        unfold OpD.val RecD.v
        go_enter Try.func30, Try.ntmps30
        go_wp2_with (first
          | (go_at_call 20
             rw [HW.out]
             (with_reducible refine (kindOf_any o _).mono ?_)
             rintro e w1 ⟨rfl, hb⟩
             rw [HV.out]
             have hbs := hb.size
             have hB3 := hB2.trans (hb.mono (by omega))
             have HB3 := Lib.hid hB3
             have r' := fun ob => HR.out.same (W' := w1.alloc ob) ((Below.heap_alloc _ _ _ (by omega)).trans (hb.block _ (by omega)))
             have o' := fun ob => HO.out.same (W' := w1.alloc ob) ((Below.heap_alloc _ _ _ (by omega)).trans (hb.block _ (by omega)))
             have r0 := fun ob => (r' ob).c0
             have r1 := fun ob => (r' ob).c1
             have r2 := fun ob => (r' ob).c2
             have r3 := fun ob => (r' ob).c3
             have r4 := fun ob => (r' ob).c4
             have r5 := fun ob => (r' ob).c5
             have o0 := fun ob => (o' ob).c0
             have o1 := fun ob => (o' ob).c1
             have o2 := fun ob => (o' ob).c2
             have o3 := fun ob => (o' ob).c3
             dsimp only at r0 r1 r2 r3 r4 r5
             clear r' o' hb hB3)
          | (go_at_call 21
             rw [HV'.out]
             (with_reducible refine (allows_any o _).mono ?_)
             rw [HA.out]
             rintro e w4 ⟨rfl, hb4⟩
             have hb4s := hb4.size
             simp only [World.size_alloc] at hb4s
             have q0 := (hb4.cell (p := ⟨w.heap.size + 1, 0, none⟩) (by simp; omega)).trans (r0 _)
             have q1 := (hb4.cell (p := ⟨w.heap.size + 1, 1, none⟩) (by simp; omega)).trans (r1 _)
             have q2 := (hb4.cell (p := ⟨w.heap.size + 1, 2, none⟩) (by simp; omega)).trans (r2 _)
             have q3 := (hb4.cell (p := ⟨w.heap.size + 1, 3, none⟩) (by simp; omega)).trans (r3 _)
             have q4 := (hb4.cell (p := ⟨w.heap.size + 1, 4, none⟩) (by simp; omega)).trans (r4 _)
             have q5 := (hb4.cell (p := ⟨w.heap.size + 1, 5, none⟩) (by simp; omega)).trans (r5 _)
             have m1 := (hb4.cell (p := ⟨w.heap.size, 1, none⟩) (by simp; omega)).trans (o1 _)
             have m2 := (hb4.cell (p := ⟨w.heap.size, 2, none⟩) (by simp; omega)).trans (o2 _)
             have m5 : w4.cell? ⟨w1.heap.size, 3, none⟩ = some (.func (.func _) #[] #[]) := (hb4.cell (p := ⟨w1.heap.size, 3, none⟩) (by simp)).trans (by simp only [World.cell?, World.alloc_heap_new]; rfl)
             have HB4 := Lib.hid ((HB3.out.alloc (by omega) _).trans (hb4.mono (by simp; omega)))
             clear hb4)
          | (go_at_call 31
             (with_reducible refine (only_any ⟨key, time, val, side, false, false⟩ _).mono ?_)
             rintro e w3 ⟨v, rfl, hb3, hv3⟩))
        go_ret
        exact Res.from ⟨_, rfl, hb3, hv3⟩ HB4.out
      | true =>
        obtain ⟨g', hg', hmem, hrun⟩ := row_any o ⟨key, time, val, side, false, false⟩ ha
        have hone : oneM o ⟨key, time, val, side, false, false⟩ = resM (kindRow o.kind).2.2.2 o.a o.b ⟨key, time, val, side, false, false⟩ := by unfold oneM; rw [if_neg (by simp [ha])]
        rw [hone, hrow]
        rw [hrow] at hg'
        dsimp only at hg' ⊢
        obtain rfl : g' = g := hg'.symm
        have HA : Hid (allowsM o = true) := Lib.hid ha
        have HX := Lib.hid hrun
        clear ha hone hrow hrun
        unfold OpD.val RecD.v
        simp only [List.mem_cons, List.not_mem_nil, or_false] at hmem
        rcases hmem with rfl | rfl | rfl | rfl | rfl
        · go_enter Try.func30, Try.ntmps30
          go_wp2_with (first
            | (go_at_call 20
               rw [HW.out]
               (with_reducible refine (kindOf_any o _).mono ?_)
               rintro e w1 ⟨rfl, hb⟩
               rw [HV.out]
               have hbs := hb.size
               have hB3 := hB2.trans (hb.mono (by omega))
               have HB3 := Lib.hid hB3
               have r' := fun ob => HR.out.same (W' := w1.alloc ob) ((Below.heap_alloc _ _ _ (by omega)).trans (hb.block _ (by omega)))
               have o' := fun ob => HO.out.same (W' := w1.alloc ob) ((Below.heap_alloc _ _ _ (by omega)).trans (hb.block _ (by omega)))
               have r0 := fun ob => (r' ob).c0
               have r1 := fun ob => (r' ob).c1
               have r2 := fun ob => (r' ob).c2
               have r3 := fun ob => (r' ob).c3
               have r4 := fun ob => (r' ob).c4
               have r5 := fun ob => (r' ob).c5
               have o0 := fun ob => (o' ob).c0
               have o1 := fun ob => (o' ob).c1
               have o2 := fun ob => (o' ob).c2
               have o3 := fun ob => (o' ob).c3
               dsimp only at r0 r1 r2 r3 r4 r5
               clear r' o' hb hB3)
            | (go_at_call 21
               rw [HV'.out]
               (with_reducible refine (allows_any o _).mono ?_)
               rw [HA.out]
               rintro e w4 ⟨rfl, hb4⟩
               have hb4s := hb4.size
               simp only [World.size_alloc] at hb4s
               have q0 := (hb4.cell (p := ⟨w.heap.size + 1, 0, none⟩) (by simp; omega)).trans (r0 _)
               have q1 := (hb4.cell (p := ⟨w.heap.size + 1, 1, none⟩) (by simp; omega)).trans (r1 _)
               have q2 := (hb4.cell (p := ⟨w.heap.size + 1, 2, none⟩) (by simp; omega)).trans (r2 _)
               have q3 := (hb4.cell (p := ⟨w.heap.size + 1, 3, none⟩) (by simp; omega)).trans (r3 _)
               have q4 := (hb4.cell (p := ⟨w.heap.size + 1, 4, none⟩) (by simp; omega)).trans (r4 _)
               have q5 := (hb4.cell (p := ⟨w.heap.size + 1, 5, none⟩) (by simp; omega)).trans (r5 _)
               have m1 := (hb4.cell (p := ⟨w.heap.size, 1, none⟩) (by simp; omega)).trans (o1 _)
               have m2 := (hb4.cell (p := ⟨w.heap.size, 2, none⟩) (by simp; omega)).trans (o2 _)
               have m5 : w4.cell? ⟨w1.heap.size, 3, none⟩ = some (.func (.func _) #[] #[]) := (hb4.cell (p := ⟨w1.heap.size, 3, none⟩) (by simp)).trans (by simp only [World.cell?, World.alloc_heap_new]; rfl)
               have HB4 := Lib.hid ((HB3.out.alloc (by omega) _).trans (hb4.mono (by simp; omega)))
               clear hb4)
            | (go_at_call 27
               (with_reducible refine (HX.out _).mono ?_)
               rintro e w3 ⟨v, rfl, hb3, hv3⟩))
          go_ret
          exact Res.from ⟨_, rfl, hb3, hv3⟩ HB4.out
        · go_enter Try.func30, Try.ntmps30
          go_wp2_with (first
            | (go_at_call 20
               rw [HW.out]
               (with_reducible refine (kindOf_any o _).mono ?_)
               rintro e w1 ⟨rfl, hb⟩
               rw [HV.out]
               have hbs := hb.size
               have hB3 := hB2.trans (hb.mono (by omega))
               have HB3 := Lib.hid hB3
               have r' := fun ob => HR.out.same (W' := w1.alloc ob) ((Below.heap_alloc _ _ _ (by omega)).trans (hb.block _ (by omega)))
               have o' := fun ob => HO.out.same (W' := w1.alloc ob) ((Below.heap_alloc _ _ _ (by omega)).trans (hb.block _ (by omega)))
               have r0 := fun ob => (r' ob).c0
               have r1 := fun ob => (r' ob).c1
               have r2 := fun ob => (r' ob).c2
               have r3 := fun ob => (r' ob).c3
               have r4 := fun ob => (r' ob).c4
               have r5 := fun ob => (r' ob).c5
               have o0 := fun ob => (o' ob).c0
               have o1 := fun ob => (o' ob).c1
               have o2 := fun ob => (o' ob).c2
               have o3 := fun ob => (o' ob).c3
               dsimp only at r0 r1 r2 r3 r4 r5
               clear r' o' hb hB3)
            | (go_at_call 21
               rw [HV'.out]
               (with_reducible refine (allows_any o _).mono ?_)
               rw [HA.out]
               rintro e w4 ⟨rfl, hb4⟩
               have hb4s := hb4.size
               simp only [World.size_alloc] at hb4s
               have q0 := (hb4.cell (p := ⟨w.heap.size + 1, 0, none⟩) (by simp; omega)).trans (r0 _)
               have q1 := (hb4.cell (p := ⟨w.heap.size + 1, 1, none⟩) (by simp; omega)).trans (r1 _)
               have q2 := (hb4.cell (p := ⟨w.heap.size + 1, 2, none⟩) (by simp; omega)).trans (r2 _)
               have q3 := (hb4.cell (p := ⟨w.heap.size + 1, 3, none⟩) (by simp; omega)).trans (r3 _)
               have q4 := (hb4.cell (p := ⟨w.heap.size + 1, 4, none⟩) (by simp; omega)).trans (r4 _)
               have q5 := (hb4.cell (p := ⟨w.heap.size + 1, 5, none⟩) (by simp; omega)).trans (r5 _)
               have m1 := (hb4.cell (p := ⟨w.heap.size, 1, none⟩) (by simp; omega)).trans (o1 _)
               have m2 := (hb4.cell (p := ⟨w.heap.size, 2, none⟩) (by simp; omega)).trans (o2 _)
               have m5 : w4.cell? ⟨w1.heap.size, 3, none⟩ = some (.func (.func _) #[] #[]) := (hb4.cell (p := ⟨w1.heap.size, 3, none⟩) (by simp)).trans (by simp only [World.cell?, World.alloc_heap_new]; rfl)
               have HB4 := Lib.hid ((HB3.out.alloc (by omega) _).trans (hb4.mono (by simp; omega)))
               clear hb4)
            | (go_at_call 33
               (with_reducible refine (HX.out _).mono ?_)
               rintro e w3 ⟨v, rfl, hb3, hv3⟩))
          go_ret
          exact Res.from ⟨_, rfl, hb3, hv3⟩ HB4.out
        · go_enter Try.func30, Try.ntmps30
          go_wp2_with (first
            | (go_at_call 20
               rw [HW.out]
               (with_reducible refine (kindOf_any o _).mono ?_)
               rintro e w1 ⟨rfl, hb⟩
               rw [HV.out]
               have hbs := hb.size
               have hB3 := hB2.trans (hb.mono (by omega))
               have HB3 := Lib.hid hB3
               have r' := fun ob => HR.out.same (W' := w1.alloc ob) ((Below.heap_alloc _ _ _ (by omega)).trans (hb.block _ (by omega)))
               have o' := fun ob => HO.out.same (W' := w1.alloc ob) ((Below.heap_alloc _ _ _ (by omega)).trans (hb.block _ (by omega)))
               have r0 := fun ob => (r' ob).c0
               have r1 := fun ob => (r' ob).c1
               have r2 := fun ob => (r' ob).c2
               have r3 := fun ob => (r' ob).c3
               have r4 := fun ob => (r' ob).c4
               have r5 := fun ob => (r' ob).c5
               have o0 := fun ob => (o' ob).c0
               have o1 := fun ob => (o' ob).c1
               have o2 := fun ob => (o' ob).c2
               have o3 := fun ob => (o' ob).c3
               dsimp only at r0 r1 r2 r3 r4 r5
               clear r' o' hb hB3)
            | (go_at_call 21
               rw [HV'.out]
               (with_reducible refine (allows_any o _).mono ?_)
               rw [HA.out]
               rintro e w4 ⟨rfl, hb4⟩
               have hb4s := hb4.size
               simp only [World.size_alloc] at hb4s
               have q0 := (hb4.cell (p := ⟨w.heap.size + 1, 0, none⟩) (by simp; omega)).trans (r0 _)
               have q1 := (hb4.cell (p := ⟨w.heap.size + 1, 1, none⟩) (by simp; omega)).trans (r1 _)
               have q2 := (hb4.cell (p := ⟨w.heap.size + 1, 2, none⟩) (by simp; omega)).trans (r2 _)
               have q3 := (hb4.cell (p := ⟨w.heap.size + 1, 3, none⟩) (by simp; omega)).trans (r3 _)
               have q4 := (hb4.cell (p := ⟨w.heap.size + 1, 4, none⟩) (by simp; omega)).trans (r4 _)
               have q5 := (hb4.cell (p := ⟨w.heap.size + 1, 5, none⟩) (by simp; omega)).trans (r5 _)
               have m1 := (hb4.cell (p := ⟨w.heap.size, 1, none⟩) (by simp; omega)).trans (o1 _)
               have m2 := (hb4.cell (p := ⟨w.heap.size, 2, none⟩) (by simp; omega)).trans (o2 _)
               have m5 : w4.cell? ⟨w1.heap.size, 3, none⟩ = some (.func (.func _) #[] #[]) := (hb4.cell (p := ⟨w1.heap.size, 3, none⟩) (by simp)).trans (by simp only [World.cell?, World.alloc_heap_new]; rfl)
               have HB4 := Lib.hid ((HB3.out.alloc (by omega) _).trans (hb4.mono (by simp; omega)))
               clear hb4)
            | (go_at_call 35
               (with_reducible refine (HX.out _).mono ?_)
               rintro e w3 ⟨v, rfl, hb3, hv3⟩))
          go_ret
          exact Res.from ⟨_, rfl, hb3, hv3⟩ HB4.out
        · go_enter Try.func30, Try.ntmps30
          go_wp2_with (first
            | (go_at_call 20
               rw [HW.out]
               (with_reducible refine (kindOf_any o _).mono ?_)
               rintro e w1 ⟨rfl, hb⟩
               rw [HV.out]
               have hbs := hb.size
               have hB3 := hB2.trans (hb.mono (by omega))
               have HB3 := Lib.hid hB3
               have r' := fun ob => HR.out.same (W' := w1.alloc ob) ((Below.heap_alloc _ _ _ (by omega)).trans (hb.block _ (by omega)))
               have o' := fun ob => HO.out.same (W' := w1.alloc ob) ((Below.heap_alloc _ _ _ (by omega)).trans (hb.block _ (by omega)))
               have r0 := fun ob => (r' ob).c0
               have r1 := fun ob => (r' ob).c1
               have r2 := fun ob => (r' ob).c2
               have r3 := fun ob => (r' ob).c3
               have r4 := fun ob => (r' ob).c4
               have r5 := fun ob => (r' ob).c5
               have o0 := fun ob => (o' ob).c0
               have o1 := fun ob => (o' ob).c1
               have o2 := fun ob => (o' ob).c2
               have o3 := fun ob => (o' ob).c3
               dsimp only at r0 r1 r2 r3 r4 r5
               clear r' o' hb hB3)
            | (go_at_call 21
               rw [HV'.out]
               (with_reducible refine (allows_any o _).mono ?_)
               rw [HA.out]
               rintro e w4 ⟨rfl, hb4⟩
               have hb4s := hb4.size
               simp only [World.size_alloc] at hb4s
               have q0 := (hb4.cell (p := ⟨w.heap.size + 1, 0, none⟩) (by simp; omega)).trans (r0 _)
               have q1 := (hb4.cell (p := ⟨w.heap.size + 1, 1, none⟩) (by simp; omega)).trans (r1 _)
               have q2 := (hb4.cell (p := ⟨w.heap.size + 1, 2, none⟩) (by simp; omega)).trans (r2 _)
               have q3 := (hb4.cell (p := ⟨w.heap.size + 1, 3, none⟩) (by simp; omega)).trans (r3 _)
               have q4 := (hb4.cell (p := ⟨w.heap.size + 1, 4, none⟩) (by simp; omega)).trans (r4 _)
               have q5 := (hb4.cell (p := ⟨w.heap.size + 1, 5, none⟩) (by simp; omega)).trans (r5 _)
               have m1 := (hb4.cell (p := ⟨w.heap.size, 1, none⟩) (by simp; omega)).trans (o1 _)
               have m2 := (hb4.cell (p := ⟨w.heap.size, 2, none⟩) (by simp; omega)).trans (o2 _)
               have m5 : w4.cell? ⟨w1.heap.size, 3, none⟩ = some (.func (.func _) #[] #[]) := (hb4.cell (p := ⟨w1.heap.size, 3, none⟩) (by simp)).trans (by simp only [World.cell?, World.alloc_heap_new]; rfl)
               have HB4 := Lib.hid ((HB3.out.alloc (by omega) _).trans (hb4.mono (by simp; omega)))
               clear hb4)
            | (go_at_call 38
               (with_reducible refine (HX.out _).mono ?_)
               rintro e w3 ⟨v, rfl, hb3, hv3⟩))
          go_ret
          exact Res.from ⟨_, rfl, hb3, hv3⟩ HB4.out
        · go_enter Try.func30, Try.ntmps30
          go_wp2_with (first
            | (go_at_call 20
               rw [HW.out]
               (with_reducible refine (kindOf_any o _).mono ?_)
               rintro e w1 ⟨rfl, hb⟩
               rw [HV.out]
               have hbs := hb.size
               have hB3 := hB2.trans (hb.mono (by omega))
               have HB3 := Lib.hid hB3
               have r' := fun ob => HR.out.same (W' := w1.alloc ob) ((Below.heap_alloc _ _ _ (by omega)).trans (hb.block _ (by omega)))
               have o' := fun ob => HO.out.same (W' := w1.alloc ob) ((Below.heap_alloc _ _ _ (by omega)).trans (hb.block _ (by omega)))
               have r0 := fun ob => (r' ob).c0
               have r1 := fun ob => (r' ob).c1
               have r2 := fun ob => (r' ob).c2
               have r3 := fun ob => (r' ob).c3
               have r4 := fun ob => (r' ob).c4
               have r5 := fun ob => (r' ob).c5
               have o0 := fun ob => (o' ob).c0
               have o1 := fun ob => (o' ob).c1
               have o2 := fun ob => (o' ob).c2
               have o3 := fun ob => (o' ob).c3
               dsimp only at r0 r1 r2 r3 r4 r5
               clear r' o' hb hB3)
            | (go_at_call 21
               rw [HV'.out]
               (with_reducible refine (allows_any o _).mono ?_)
               rw [HA.out]
               rintro e w4 ⟨rfl, hb4⟩
               have hb4s := hb4.size
               simp only [World.size_alloc] at hb4s
               have q0 := (hb4.cell (p := ⟨w.heap.size + 1, 0, none⟩) (by simp; omega)).trans (r0 _)
               have q1 := (hb4.cell (p := ⟨w.heap.size + 1, 1, none⟩) (by simp; omega)).trans (r1 _)
               have q2 := (hb4.cell (p := ⟨w.heap.size + 1, 2, none⟩) (by simp; omega)).trans (r2 _)
               have q3 := (hb4.cell (p := ⟨w.heap.size + 1, 3, none⟩) (by simp; omega)).trans (r3 _)
               have q4 := (hb4.cell (p := ⟨w.heap.size + 1, 4, none⟩) (by simp; omega)).trans (r4 _)
               have q5 := (hb4.cell (p := ⟨w.heap.size + 1, 5, none⟩) (by simp; omega)).trans (r5 _)
               have m1 := (hb4.cell (p := ⟨w.heap.size, 1, none⟩) (by simp; omega)).trans (o1 _)
               have m2 := (hb4.cell (p := ⟨w.heap.size, 2, none⟩) (by simp; omega)).trans (o2 _)
               have m5 : w4.cell? ⟨w1.heap.size, 3, none⟩ = some (.func (.func _) #[] #[]) := (hb4.cell (p := ⟨w1.heap.size, 3, none⟩) (by simp)).trans (by simp only [World.cell?, World.alloc_heap_new]; rfl)
               have HB4 := Lib.hid ((HB3.out.alloc (by omega) _).trans (hb4.mono (by simp; omega)))
               clear hb4)
            | (go_at_call 40
               (with_reducible refine (HX.out _).mono ?_)
               rintro e w3 ⟨v, rfl, hb3, hv3⟩))
          go_ret
          exact Res.from ⟨_, rfl, hb3, hv3⟩ HB4.out
end Go.Proofs.Ythebacladmjiiaa
