/-
  Check and Class of the program.
-/
import Derived.Test.YteiedknpmlemkaaWc
namespace Go.Proofs.Yteiedknpmlemkaa
open Go Go.RowKit Go.Lib

theorem cell_heap {W W' : World} {g off : Nat} (h : W'.heap[g]? = W.heap[g]?) : W'.cell? ⟨g, off, none⟩ = W.cell? ⟨g, off, none⟩ := by simp only [World.cell?, h]
structure OpAt (W : World) (g : Nat) (o : OpD) : Prop where
  c0 : W.cell? ⟨g, 0, none⟩ = some (.int .i64 o.kind)
  c1 : W.cell? ⟨g, 1, none⟩ = some (.int .i64 o.a)
  c2 : W.cell? ⟨g, 2, none⟩ = some (.int .i64 o.b)
  c3 : W.cell? ⟨g, 3, none⟩ = some (.int .i64 o.agg)
theorem OpAt.same {W W' : World} {g : Nat} {o : OpD} (h : OpAt W g o) (e : W'.heap[g]? = W.heap[g]?) : OpAt W' g o :=
  ⟨(cell_heap e).trans h.c0, (cell_heap e).trans h.c1, (cell_heap e).trans h.c2, (cell_heap e).trans h.c3⟩
theorem opAt_new (w : World) (o : OpD) (t : TypeId) : OpAt (w.alloc (.cells o.cells.toArray t)) w.heap.size o := by
  have h : (w.alloc (.cells o.cells.toArray t)).heap[w.heap.size]? = some (.cells o.cells.toArray t) := World.alloc_heap_new w _
  constructor <;> (simp only [World.cell?, h]; rfl)

/-- An operator's box, as a walk lays it, and what lies there as long as it is left alone. -/
theorem boxed_op (o : OpD) (w w' : World) (h : Below (w.heap.size + 1) (w.alloc (boxOf o.kind o.a o.b o.agg)) w') : OpAt w' w.heap.size o := by
  have := opAt_new w o 23
  exact this.same (h.block _ (by omega))

set_option maxRecDepth 100000 in
set_option maxHeartbeats 1600000 in
theorem check_any (o : OpD) (w : World) : Calls Try.prog 21 #[o.val] w fun e w' => e = .returned (.int .i64 (codeM o)) ∧ Below w.heap.size w w' := by
  have HX : Hid (∀ w', Below (w.heap.size + 1) (w.alloc (.cells #[.int .i64 o.kind, .int .i64 o.a, .int .i64 o.b, .int .i64 o.agg] 23)) w' →
      w'.cell? ⟨w.heap.size, 0, none⟩ = some (.int .i64 o.kind) ∧ w'.cell? ⟨w.heap.size, 1, none⟩ = some (.int .i64 o.a) ∧ w'.cell? ⟨w.heap.size, 2, none⟩ = some (.int .i64 o.b) ∧ w'.cell? ⟨w.heap.size, 3, none⟩ = some (.int .i64 o.agg) ∧
      Below (w.heap.size + 1) (w.alloc (.cells #[.int .i64 o.kind, .int .i64 o.a, .int .i64 o.b, .int .i64 o.agg] 23)) w') := Lib.hid (fun w' h => by
    have q := boxed_op o w w' h
    exact ⟨q.c0, q.c1, q.c2, q.c3, h⟩)
  obtain ⟨b, hb⟩ : ∃ b, allowsM o = b := ⟨_, rfl⟩
  have HA := Lib.hid hb
  have HC : Hid (codeM o = if b = true then 0 else 13) := Lib.hid (by unfold codeM; rw [hb])
  clear hb
  go_enter Try.func21, Try.ntmps21
  go_wp2_with fail
  go_region_held3 (fun w' => w'.cell? ⟨w.heap.size, 0, none⟩ = some (.int .i64 o.kind) ∧ w'.cell? ⟨w.heap.size, 1, none⟩ = some (.int .i64 o.a) ∧ w'.cell? ⟨w.heap.size, 2, none⟩ = some (.int .i64 o.b) ∧ w'.cell? ⟨w.heap.size, 3, none⟩ = some (.int .i64 o.agg) ∧
      Below (w.heap.size + 1) (w.alloc (.cells #[.int .i64 o.kind, .int .i64 o.a, .int .i64 o.b, .int .i64 o.agg] 23)) w')
    (first | assumption | (exact HX.out _ ((Below.refl _ _).drew)) | (exact HX.out _ hs1) | (exact HX.out _ hs2))
    (first
      | (go_at_call 34
         (with_reducible refine (kindOf_any o _).mono ?_)
         rintro e w1 ⟨rfl, hb1⟩
         have hs1 : Below (w.heap.size + 1) (w.alloc (.cells #[.int .i64 o.kind, .int .i64 o.a, .int .i64 o.b, .int .i64 o.agg] 23)) w1 := (Below.refl _ _).drew.trans (hb1.mono (by simp))
         clear hb1)
      | (go_at_call 35
         (with_reducible refine (allows_any o _).mono ?_)
         rw [HA.out]
         rintro e w2 ⟨rfl, hb2⟩
         have hs2 : Below (w.heap.size + 1) (w.alloc (.cells #[.int .i64 o.kind, .int .i64 o.a, .int .i64 o.b, .int .i64 o.agg] 23)) w2 := hs1.trans (hb2.mono (by have := hs1.size; simp at this; omega))
         clear hb2))
  cases b with
  | true =>
    go_wp2_with fail
    go_ret
    refine ⟨by rw [HC.out]; rfl, Below.trans ((Below.refl _ _).alloc (Nat.le_refl _) _) (hs2.mono (by omega))⟩
  | false =>
    go_wp2_with fail
    go_ret
    refine ⟨by rw [HC.out]; rfl, Below.trans ((Below.refl _ _).alloc (Nat.le_refl _) _) (hs2.mono (by omega))⟩

theorem field_row (c la : Int) (f g : Nat) (w : World) : (Instr.field 67 (.agg #[.int .i64 c, .int .i64 la, .func (.func f) #[] #[], .func (.func g) #[] #[]]) 0).run Try.prog w = .ok (.int .i64 c) w := by kernel_rfl

set_option maxRecDepth 100000 in
set_option maxHeartbeats 1600000 in
theorem class_any (o : OpD) (w : World) : Calls Try.prog 22 #[o.val] w fun e w' => e = .returned (.int .i64 (kindRow o.kind).1) ∧ Below w.heap.size w w' := by
  obtain ⟨c, la, f, g, hrow⟩ : ∃ c la f g, kindRow o.kind = (c, la, f, g) := ⟨_, _, _, _, rfl⟩
  have hv : rowV o.kind = .agg #[.int .i64 c, .int .i64 la, .func (.func f) #[] #[], .func (.func g) #[] #[]] := by unfold rowV; rw [hrow]
  have HV := Lib.hid hv
  rw [hrow]
  clear hv
  have hf := fun w => field_row c la f g w
  unfold OpD.val
  go_enter Try.func22, Try.ntmps22
  go_wp2_with (go_at_call 34
               (with_reducible refine (kindOf_any o _).mono ?_)
               rintro e w1 ⟨rfl, hb1⟩
               rw [HV.out])
  go_ret
  exact ⟨rfl, Below.trans ((Below.refl _ _).alloc (Nat.le_refl _) _) (hb1.mono (by simp))⟩

theorem rclass_op (o : OpD) (w : World) : Calls Try.prog 27 #[o.val] w fun e w' => e = .returned (.int .i64 (kindRow o.kind).1) ∧ Below w.heap.size w w' :=
  (rclass_any o.kind o.a o.b o.agg w).mono fun e w' h => ⟨h.1, by rw [h.2]; exact (Below.refl _ _).alloc (Nat.le_refl _) _⟩

end Go.Proofs.Yteiedknpmlemkaa
