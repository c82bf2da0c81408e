/-
  The reference's Merge; what is told of an aggregate, by the program and by the reference.
-/
import Derived.Test.YtlkekcmphbpfbaaAa
import Derived.RangeFuncRecord
import Derived.Laws.EntriesVeiled
namespace Go.Proofs.Ytlkekcmphbpfbaa
open Go Go.RowKit Go.Lib

set_option maxRecDepth 100000 in
theorem rmerge_any (a b : AccD) (h : a.ok) (k : b.ok) (w : World) : Calls Try.prog 11 #[a.v, b.v] w fun e w' => e = .returned (mergeM a b).v ∧ Below w.heap.size w w' := by
  obtain ⟨an, ah, al, am, ax⟩ := a
  obtain ⟨bn, bh, bl, bm, bx⟩ := b
  have hq : Hid (∀ w, Calls Try.prog 19 #[.int .u64 al, .int .u64 bl] w fun e w' => e = .returned (.tuple #[.int .u64 ((al + bl) % 18446744073709551616), .int .u64 ((al + bl) / 18446744073709551616)]) ∧ w' = w) := Lib.hid (fun w => radd_any al bl h.lo k.lo w)
  have hc0 : 0 ≤ (al + bl) / 18446744073709551616 ∧ (al + bl) / 18446744073709551616 ≤ 1 := by have := h.lo; have := k.lo; dsimp only at *; omega
  clear h k
  obtain ⟨lo, hlo⟩ : ∃ lo, (al + bl) % 18446744073709551616 = lo := ⟨_, rfl⟩
  obtain ⟨cy, hcy⟩ : ∃ cy, (al + bl) / 18446744073709551616 = cy := ⟨_, rfl⟩
  unfold mergeM AccD.v
  dsimp only
  rw [hcy] at hc0
  rw [hlo, hcy]
  simp only [hlo, hcy] at hq
  clear hlo hcy
  have hw : IntKind.i64.wrap cy = cy := IntWalk.i64_in _ (by omega)
  by_cases h1 : an = 0
  · rw [if_pos h1]
    subst h1
    go_enter Try.func11, Try.ntmps11
    go_wp2
    go_returns
    exact ⟨rfl, (((Below.refl _ _).alloc (Nat.le_refl _) _).alloc (by simp) _).alloc (by simp; omega) _⟩
  · by_cases h2 : bn = 0
    · rw [if_neg h1, if_pos h2]
      subst h2
      go_enter Try.func11, Try.ntmps11
      go_wp2
      go_returns
      exact ⟨rfl, (((Below.refl _ _).alloc (Nat.le_refl _) _).alloc (by simp) _).alloc (by simp; omega) _⟩
    · rw [if_neg h1, if_neg h2]
      go_enter Try.func11, Try.ntmps11
      go_wp2_with (go_at_call 19
                   (with_reducible refine (hq.out _).mono ?_)
                   rintro e w1 ⟨rfl, rfl⟩)
      all_goals go_returns
      all_goals refine ⟨?_, (((Below.refl _ _).alloc (Nat.le_refl _) _).alloc (by simp) _).alloc (by simp; omega) _⟩
      all_goals rw [Int.min_def, Int.max_def]
      all_goals (repeat' split)
      all_goals (first | omega | rfl | (simp [hw]; done) | (simp [hw]; omega))

/-- What is told of an aggregate. -/
abbrev Tells (a : AccD) (g : Int) : Value := .tuple #[.int .i64 (resM a g).1, .bool (resM a g).2]

theorem res_0 (a : AccD) : resM a 0 = (a.n, true) := by simp [resM]
theorem res_1 (a : AccD) : resM a 1 = if a.hi = upM a.lo then (wrap64 a.lo, true) else (0, false) := by simp [resM]
theorem res_2 (a : AccD) : resM a 2 = (a.mn, true) := by simp [resM]
theorem res_3 (a : AccD) : resM a 3 = (a.mx, true) := by simp [resM]
theorem res_no (a : AccD) (g : Int) (h : g < 0 ∨ 3 < g) : resM a g = (0, false) := by
  unfold resM
  rw [if_neg (by omega), if_neg (by omega), if_neg (by omega), if_neg (by omega)]

theorem sum_any (a : AccD) (hl : 0 ≤ a.lo ∧ a.lo < 18446744073709551616) (w : World) : Calls Try.prog 23 #[a.v] w fun e w' => e = .returned (Tells a 1) ∧ Below w.heap.size w w' := by
  obtain ⟨an, ah, al, am, ax⟩ := a
  unfold Tells AccD.v
  rw [res_1]
  dsimp only at hl ⊢
  obtain ⟨u, hu⟩ : ∃ u, upM al = u := ⟨_, rfl⟩
  have HQ : Hid (∀ w, Calls Try.prog 17 #[.int .u64 al] w fun e w' => e = .returned (.int .i64 u) ∧ w' = w) := Lib.hid (fun w => by rw [← hu]; exact upper_any al hl w)
  rw [hu]
  clear hu hl
  have HX : Hid ((w.alloc (.cells #[.int .i64 an, .int .i64 ah, .int .u64 al, .int .i64 am, .int .i64 ax] 24)).drew.cell? ⟨w.heap.size, 1, none⟩ = some (.int .i64 ah) ∧ (w.alloc (.cells #[.int .i64 an, .int .i64 ah, .int .u64 al, .int .i64 am, .int .i64 ax] 24)).drew.cell? ⟨w.heap.size, 2, none⟩ = some (.int .u64 al)) := Lib.hid (by
    have := World.alloc_heap_new w (.cells #[.int .i64 an, .int .i64 ah, .int .u64 al, .int .i64 am, .int .i64 ax] 24)
    constructor <;> (simp only [World.cell?, World.drew] ; rw [this] ; rfl))
  by_cases h1 : ah = u
  · rw [if_pos h1]
    subst h1
    go_enter Try.func23, Try.ntmps23
    go_wp2_with fail
    go_region_held3 (fun w' => w'.cell? ⟨w.heap.size, 1, none⟩ = some (.int .i64 ah) ∧ w'.cell? ⟨w.heap.size, 2, none⟩ = some (.int .u64 al))
      (first | assumption | (exact HX.out))
      (first
      | (go_at_call 17
         (with_reducible refine (HQ.out _).mono ?_)
         rintro e w1 ⟨rfl, rfl⟩))
    go_wp2
    go_ret2
    exact ⟨rfl, ((Below.refl _ _).alloc (Nat.le_refl _) _).drew⟩
  · rw [if_neg h1]
    go_enter Try.func23, Try.ntmps23
    go_wp2_with fail
    go_region_held3 (fun w' => w'.cell? ⟨w.heap.size, 1, none⟩ = some (.int .i64 ah) ∧ w'.cell? ⟨w.heap.size, 2, none⟩ = some (.int .u64 al))
      (first | assumption | (exact HX.out))
      (first
      | (go_at_call 17
         (with_reducible refine (HQ.out _).mono ?_)
         rintro e w1 ⟨rfl, rfl⟩))
    go_wp2
    go_ret2
    exact ⟨rfl, ((Below.refl _ _).alloc (Nat.le_refl _) _).drew⟩

theorem cell_heap {W W' : World} {g i : Nat} (h : W'.heap[g]? = W.heap[g]?) : W'.cell? ⟨g, i, none⟩ = W.cell? ⟨g, i, none⟩ := by
  simp only [World.cell?, h]
/-- An aggregate lies in a block. -/
structure AccAt (W : World) (g : Nat) (a : AccD) : Prop where
  c0 : W.cell? ⟨g, 0, none⟩ = some (.int .i64 a.n)
  c1 : W.cell? ⟨g, 1, none⟩ = some (.int .i64 a.hi)
  c2 : W.cell? ⟨g, 2, none⟩ = some (.int .u64 a.lo)
  c3 : W.cell? ⟨g, 3, none⟩ = some (.int .i64 a.mn)
  c4 : W.cell? ⟨g, 4, none⟩ = some (.int .i64 a.mx)
theorem accAt_of {W : World} {g : Nat} {a : AccD} {t : TypeId} {fz : Nat × Nat} (h : W.heap[g]? = some (.cells #[.int .i64 a.n, .int .i64 a.hi, .int .u64 a.lo, .int .i64 a.mn, .int .i64 a.mx] t fz)) : AccAt W g a := by
  constructor <;> (simp only [World.cell?, h]; rfl)
theorem AccAt.same {W W' : World} {g : Nat} {a : AccD} (h : AccAt W g a) (k : W'.heap[g]? = W.heap[g]?) : AccAt W' g a := by
  obtain ⟨h0, h1, h2, h3, h4⟩ := h
  constructor <;> (rw [cell_heap k]; assumption)

theorem results_any (an ah al am ax : Int) (w : World) : Calls Try.prog 20 #[.agg #[.int .i64 an, .int .i64 ah, .int .u64 al, .int .i64 am, .int .i64 ax]] w fun e w' => e = .returned (.agg #[.func (.func 21) #[] #[.pointer (some ⟨w.heap.size, 0, none⟩)], .func (.func 22) #[] #[.pointer (some ⟨w.heap.size, 0, none⟩)], .func (.func 24) #[] #[.pointer (some ⟨w.heap.size, 0, none⟩)], .func (.func 25) #[] #[.pointer (some ⟨w.heap.size, 0, none⟩)]]) ∧ AccAt w' w.heap.size ⟨an, ah, al, am, ax⟩ ∧ w.heap.size < w'.heap.size ∧ Below w.heap.size w w' := by
  have hmf : ∀ (fn : Fn) (first cap : Array Value) (w : World), (Instr.makeFunc fn first cap).run Try.prog w = .ok (.func fn first cap) w := fun _ _ _ _ => rfl
  go_enter Try.func20, Try.ntmps20
  go_wp2
  go_returns
  refine ⟨rfl, accAt_of (t := 24) (fz := (0, 0)) ?_, by simp; omega, by go_grown⟩
  rw [Below.heap_alloc _ _ _ (by simp)]
  exact World.alloc_heap_new w _
theorem r21_any (g : Nat) (an : Int) (w : World) (h : w.cell? ⟨g, 0, none⟩ = some (.int .i64 an)) : Calls Try.prog 21 #[.pointer (some ⟨g, 0, none⟩)] w fun e w' => e = .returned (.tuple #[.int .i64 an, .bool true]) ∧ w' = w := by
  go_enter Try.func21, Try.ntmps21
  go_wp2
  go_returns
  exact ⟨rfl, rfl⟩
theorem r24_any (g : Nat) (an : Int) (w : World) (h : w.cell? ⟨g, 3, none⟩ = some (.int .i64 an)) : Calls Try.prog 24 #[.pointer (some ⟨g, 0, none⟩)] w fun e w' => e = .returned (.tuple #[.int .i64 an, .bool true]) ∧ w' = w := by
  go_enter Try.func24, Try.ntmps24
  go_wp2
  go_returns
  exact ⟨rfl, rfl⟩
theorem r25_any (g : Nat) (an : Int) (w : World) (h : w.cell? ⟨g, 4, none⟩ = some (.int .i64 an)) : Calls Try.prog 25 #[.pointer (some ⟨g, 0, none⟩)] w fun e w' => e = .returned (.tuple #[.int .i64 an, .bool true]) ∧ w' = w := by
  go_enter Try.func25, Try.ntmps25
  go_wp2
  go_returns
  exact ⟨rfl, rfl⟩
theorem r22_any (g : Nat) (a : AccD) (hl : 0 ≤ a.lo ∧ a.lo < 18446744073709551616) (w : World) (h0 : w.cell? ⟨g, 0, none⟩ = some (.int .i64 a.n)) (h1 : w.cell? ⟨g, 1, none⟩ = some (.int .i64 a.hi)) (h2 : w.cell? ⟨g, 2, none⟩ = some (.int .u64 a.lo)) (h3 : w.cell? ⟨g, 3, none⟩ = some (.int .i64 a.mn)) (h4 : w.cell? ⟨g, 4, none⟩ = some (.int .i64 a.mx)) :
    Calls Try.prog 22 #[.pointer (some ⟨g, 0, none⟩)] w fun e w' => e = .returned (Tells a 1) ∧ Below w.heap.size w w' := by
  go_enter Try.func22, Try.ntmps22
  go_wp2_with (go_at_call 23
               (with_reducible refine (sum_any a hl _).mono ?_)
               rintro e w1 ⟨rfl, hb⟩)
  go_returns
  exact ⟨rfl, hb⟩
theorem ix_0 (n : Nat) (w : World) : (Instr.index 44 (.agg #[.func (.func 21) #[] #[.pointer (some ⟨n, 0, none⟩)], .func (.func 22) #[] #[.pointer (some ⟨n, 0, none⟩)], .func (.func 24) #[] #[.pointer (some ⟨n, 0, none⟩)], .func (.func 25) #[] #[.pointer (some ⟨n, 0, none⟩)]]) (.int .i64 0)).run Try.prog w = .ok (.func (.func 21) #[] #[.pointer (some ⟨n, 0, none⟩)]) w := by kernel_rfl
theorem ix_1 (n : Nat) (w : World) : (Instr.index 44 (.agg #[.func (.func 21) #[] #[.pointer (some ⟨n, 0, none⟩)], .func (.func 22) #[] #[.pointer (some ⟨n, 0, none⟩)], .func (.func 24) #[] #[.pointer (some ⟨n, 0, none⟩)], .func (.func 25) #[] #[.pointer (some ⟨n, 0, none⟩)]]) (.int .i64 1)).run Try.prog w = .ok (.func (.func 22) #[] #[.pointer (some ⟨n, 0, none⟩)]) w := by kernel_rfl
theorem ix_2 (n : Nat) (w : World) : (Instr.index 44 (.agg #[.func (.func 21) #[] #[.pointer (some ⟨n, 0, none⟩)], .func (.func 22) #[] #[.pointer (some ⟨n, 0, none⟩)], .func (.func 24) #[] #[.pointer (some ⟨n, 0, none⟩)], .func (.func 25) #[] #[.pointer (some ⟨n, 0, none⟩)]]) (.int .i64 2)).run Try.prog w = .ok (.func (.func 24) #[] #[.pointer (some ⟨n, 0, none⟩)]) w := by kernel_rfl
theorem ix_3 (n : Nat) (w : World) : (Instr.index 44 (.agg #[.func (.func 21) #[] #[.pointer (some ⟨n, 0, none⟩)], .func (.func 22) #[] #[.pointer (some ⟨n, 0, none⟩)], .func (.func 24) #[] #[.pointer (some ⟨n, 0, none⟩)], .func (.func 25) #[] #[.pointer (some ⟨n, 0, none⟩)]]) (.int .i64 3)).run Try.prog w = .ok (.func (.func 25) #[] #[.pointer (some ⟨n, 0, none⟩)]) w := by kernel_rfl

theorem result_any (a : AccD) (g : Int) (hl : 0 ≤ a.lo ∧ a.lo < 18446744073709551616) (w : World) : Calls Try.prog 12 #[a.v, .int .i64 g] w fun e w' => e = .returned (Tells a g) ∧ Below w.heap.size w w' := by
  have HL := Lib.hid hl
  clear hl
  by_cases hg : g < 0 ∨ 3 < g
  · unfold Tells AccD.v
    rw [res_no a g hg]
    by_cases h1 : g < 0
    · go_enter Try.func12, Try.ntmps12
      go_wp2
      go_returns
      exact ⟨rfl, by go_grown⟩
    · have h2 : 3 < g := by omega
      clear hg
      go_enter Try.func12, Try.ntmps12
      go_wp2
      go_returns
      exact ⟨rfl, by go_grown⟩
  · obtain ⟨an, ah, al, am, ax⟩ := a
    have I0 := fun n w => ix_0 n w
    have I1 := fun n w => ix_1 n w
    have I2 := fun n w => ix_2 n w
    have I3 := fun n w => ix_3 n w
    obtain rfl | rfl | rfl | rfl : g = 0 ∨ g = 1 ∨ g = 2 ∨ g = 3 := by omega
    · unfold Tells AccD.v
      rw [res_0]
      go_enter Try.func12, Try.ntmps12
      go_wp2_with (first
      | (go_at_call 20
         (with_reducible refine (results_any an ah al am ax _).mono ?_)
         rintro e w1 ⟨rfl, hat1, hz1, hb1⟩
         have ha1 : Hid (AccAt w1 (w.heap.size + 1) ⟨an, ah, al, am, ax⟩) := Lib.hid (by simpa using hat1)
         have B1 : Hid (Below w.heap.size w w1) := Lib.hid (Below.trans ((Below.refl _ _).alloc (Nat.le_refl _) _) (hb1.mono (by simp)))
         clear hb1 hat1 hz1)
      | (go_at_call 21
         (with_reducible refine (r21_any _ _ _ ha1.out.c0).mono ?_)
         rintro e w2 ⟨rfl, rfl⟩))
      go_returns
      exact ⟨rfl, B1.out⟩
    · unfold Tells AccD.v
      skip
      go_enter Try.func12, Try.ntmps12
      go_wp2_with (first
      | (go_at_call 20
         (with_reducible refine (results_any an ah al am ax _).mono ?_)
         rintro e w1 ⟨rfl, hat1, hz1, hb1⟩
         have ha1 : Hid (AccAt w1 (w.heap.size + 1) ⟨an, ah, al, am, ax⟩) := Lib.hid (by simpa using hat1)
         have B1 : Hid (Below w.heap.size w w1) := Lib.hid (Below.trans ((Below.refl _ _).alloc (Nat.le_refl _) _) (hb1.mono (by simp)))
         clear hb1 hat1 hz1)
      | (go_at_call 22
         (with_reducible refine (r22_any _ ⟨an, ah, al, am, ax⟩ HL.out _ ha1.out.c0 ha1.out.c1 ha1.out.c2 ha1.out.c3 ha1.out.c4).mono ?_)
         rintro e w2 ⟨rfl, hb2⟩
         have B2 := Lib.hid hb2
         clear hb2))
      go_returns
      exact ⟨rfl, B1.out.trans (B2.out.mono B1.out.size)⟩
    · unfold Tells AccD.v
      rw [res_2]
      go_enter Try.func12, Try.ntmps12
      go_wp2_with (first
      | (go_at_call 20
         (with_reducible refine (results_any an ah al am ax _).mono ?_)
         rintro e w1 ⟨rfl, hat1, hz1, hb1⟩
         have ha1 : Hid (AccAt w1 (w.heap.size + 1) ⟨an, ah, al, am, ax⟩) := Lib.hid (by simpa using hat1)
         have B1 : Hid (Below w.heap.size w w1) := Lib.hid (Below.trans ((Below.refl _ _).alloc (Nat.le_refl _) _) (hb1.mono (by simp)))
         clear hb1 hat1 hz1)
      | (go_at_call 24
         (with_reducible refine (r24_any _ _ _ ha1.out.c3).mono ?_)
         rintro e w2 ⟨rfl, rfl⟩))
      go_returns
      exact ⟨rfl, B1.out⟩
    · unfold Tells AccD.v
      rw [res_3]
      go_enter Try.func12, Try.ntmps12
      go_wp2_with (first
      | (go_at_call 20
         (with_reducible refine (results_any an ah al am ax _).mono ?_)
         rintro e w1 ⟨rfl, hat1, hz1, hb1⟩
         have ha1 : Hid (AccAt w1 (w.heap.size + 1) ⟨an, ah, al, am, ax⟩) := Lib.hid (by simpa using hat1)
         have B1 : Hid (Below w.heap.size w w1) := Lib.hid (Below.trans ((Below.refl _ _).alloc (Nat.le_refl _) _) (hb1.mono (by simp)))
         clear hb1 hat1 hz1)
      | (go_at_call 25
         (with_reducible refine (r25_any _ _ _ ha1.out.c4).mono ?_)
         rintro e w2 ⟨rfl, rfl⟩))
      go_returns
      exact ⟨rfl, B1.out⟩
end Go.Proofs.Ytlkekcmphbpfbaa
