/-
  Operators and records as data; the rows of the table of kinds; whether a number lies between two.
-/
import Derived.Test.YteiedknpmlemkaaEvM
import Derived.Test.YteiedknpmlemkaaRows
import Derived.Maps.AppendAt
import Derived.Laws.AppendOwnNone
import Derived.Deep.AppendLies
import Derived.Deep.RegionHeld3
import Derived.OwnWalk
import Derived.ProofKit
import Derived.Lib.Hide
import Derived.Laws.Rows
import Derived.Deep.Draws
import Derived.Laws.OwnMore
import Derived.LoopTactic
import Derived.RangeFuncRecord
namespace Go.Proofs.Yteiedknpmlemkaa
open Go Go.RowKit Go.Lib

structure OpD where
  kind : Int
  a : Int
  b : Int
  agg : Int
def OpD.cells (o : OpD) : List Value := [.int .i64 o.kind, .int .i64 o.a, .int .i64 o.b, .int .i64 o.agg]
abbrev OpD.val (o : OpD) : Value := .agg #[.int .i64 o.kind, .int .i64 o.a, .int .i64 o.b, .int .i64 o.agg]
structure RecD where
  key : Int
  time : Int
  val : Int
  side : Int
  err : Bool
  late : Bool
  deriving DecidableEq
def RecD.cells (r : RecD) : List Value := [.int .u32 r.key, .int .i64 r.time, .int .i64 r.val, .int .u8 r.side, .bool r.err, .bool r.late]
abbrev RecD.v (r : RecD) : Value := .agg #[.int .u32 r.key, .int .i64 r.time, .int .i64 r.val, .int .u8 r.side, .bool r.err, .bool r.late]

/-- A kind's row: its class, its last aggregate, the function of its conditions, that of its results. -/
def kindRow (k : Int) : Int × Int × Nat × Nat :=
  if k = 0 then (0, 0, 54, 55) else if k = 1 then (0, 0, 56, 57) else if k = 2 then (0, 0, 58, 60) else if k = 3 then (0, 0, 61, 62)
  else if k = 4 then (1, 3, 63, 48) else if k = 5 then (1, 3, 64, 48) else if k = 6 then (1, 3, 63, 48) else if k = 7 then (2, 0, 63, 48) else (-1, 0, 47, 48)
def rowV (k : Int) : Value := .agg #[.int .i64 (kindRow k).1, .int .i64 (kindRow k).2.1, .func (.func (kindRow k).2.2.1) #[] #[], .func (.func (kindRow k).2.2.2) #[] #[]]

theorem in_any (n l m : Int) (w : World) : Calls Try.prog 46 #[.int .i64 n, .int .i64 l, .int .i64 m] w fun e w' => e = .returned (.bool (decide (l ≤ n) && decide (n ≤ m))) ∧ w' = w := by
  by_cases h1 : l ≤ n
  · by_cases h2 : n ≤ m
    · go_enter Try.func46, Try.ntmps46
      go_wp2
      go_ret
      simp [h1, h2]
    · go_enter Try.func46, Try.ntmps46
      go_wp2
      go_ret
      simp [h2]
  · have hd : decide (l ≤ n) = false := by simpa using h1
    rw [hd]
    go_enter Try.func46, Try.ntmps46
    go_wp2
    go_ret
    simp

/-! The evaluator here: no variable is laid; nothing is told. -/
noncomputable def orc0 : Ev.Orc := fun _ _ _ => none
noncomputable def h00 : Ev.AH := { n := 0, t := .nil }
theorem names : Try.prog.funcs.toList.all (fun fn => !(fn.name == "runtime.NumGoroutine")) = true := by kernel_rfl
theorem env0 : Ev.Env Try.prog 0 orc0 where
  name := fun f fn hf => by
    have := List.all_eq_true.1 names fn (List.mem_of_getElem? (i := f) (by rw [Array.getElem?_toList]; exact hf))
    simpa using this
  mix := by kernel_rfl
  orc := fun _ f args h v h' hc => by simp [orc0] at hc
theorem h00_stands (w : World) : Ev.HR (Ev.under w.heap.size) [] h00 w :=
  ⟨rfl, fun id o ho => by simp [h00, Ev.Tr.get_nil] at ho, fun i j o p b hi => by simp [h00, Ev.Tr.get_nil] at hi, fun _ hk => Ev.under_lt hk, by simp [h00]⟩
theorem closed_val {fuel : Nat} {f : FuncId} {args : List Ev.AV} {v : Ev.AV} {vs : Array Value} {w : World} (hc : (Ev.acall Try.prog 0 orc0 fuel f args h00).map (·.1) = some v) (hv : Ev.VRs [] args vs.toList) :
    Calls Try.prog f vs w fun e w' => ∃ μ' u, e = .returned u ∧ Ev.VR μ' v u ∧ Below w.heap.size w w' := by
  cases hr : Ev.acall Try.prog 0 orc0 fuel f args h00 with
  | none => rw [hr] at hc; simp at hc
  | some x =>
    obtain ⟨v0, h'⟩ := x
    rw [hr] at hc
    simp at hc
    subst hc
    refine (Ev.acall_sound env0 hr (h00_stands w) (fun g hg => by omega) hv).mono ?_
    rintro e w' ⟨μ', u, _, rfl, h2, _, h4⟩
    exact ⟨μ', u, rfl, h2, h4.below⟩

noncomputable def opA (k a b g : Int) : Ev.AV := .agg [.int .i64 k, .int .i64 a, .int .i64 b, .int .i64 g]
noncomputable def rowA (k : Int) : Ev.AV := .agg [.int .i64 (kindRow k).1, .int .i64 (kindRow k).2.1, .func (.func (kindRow k).2.2.1) [] [], .func (.func (kindRow k).2.2.2) [] []]
theorem opA_v (o : OpD) : Ev.VRs [] [opA o.kind o.a o.b o.agg] [o.val] := by
  simp [Ev.VRs_cons, Ev.VRs_nil, Ev.VR, opA, OpD.val]
theorem rowA_v {μ : List (Nat × Nat)} {k : Int} {u : Value} (h : Ev.VR μ (rowA k) u) : u = rowV k := by
  simp only [rowA, Ev.VR, Ev.VRs_cons, Ev.VRs_nil] at h
  obtain ⟨u, rfl, v1, r1, e1, rfl, v2, r2, e2, rfl, v3, r3, e3, ⟨f3, c3, rfl, g3, k3⟩, v4, r4, e4, ⟨f4, c4, rfl, g4, k4⟩, e5⟩ := h
  have a1 : f3 = #[] := by simpa using g3
  have a2 : c3 = #[] := by simpa using k3
  have a3 : f4 = #[] := by simpa using g4
  have a4 : c4 = #[] := by simpa using k4
  subst a1 a2 a3 a4
  rw [e5] at e4; subst e4
  subst e3 e2
  unfold rowV
  congr 1
  exact Array.toList_inj.1 e1

set_option maxRecDepth 1000000 in
theorem kindOf_t (a b g : Int) : ∀ k ∈ [(0 : Int), 1, 2, 3, 4, 5, 6, 7], (Ev.acall Try.prog 0 orc0 100000 34 [opA k a b g] h00).map (·.1) = some (rowA k) := by
  intro k hk
  simp only [List.mem_cons, List.not_mem_nil, or_false] at hk
  rcases hk with rfl | rfl | rfl | rfl | rfl | rfl | rfl | rfl <;> kernel_rfl

noncomputable def noneA : Ev.AV := .agg [.int .i64 (-1), .int .i64 0, .func (.func 47) [] [], .func (.func 48) [] []]
set_option maxRecDepth 1000000 in
theorem kindOf_low (a b g : Int) (n : Nat) : (Ev.acall Try.prog 0 orc0 100000 34 [opA (.negSucc n) a b g] h00).map (·.1) = some noneA := by kernel_rfl
set_option maxRecDepth 1000000 in
theorem kindOf_high (a b g : Int) (n : Nat) : (Ev.acall Try.prog 0 orc0 100000 34 [opA (.ofNat (n + 8)) a b g] h00).map (·.1) = some noneA := by kernel_rfl

theorem kindOf_any (o : OpD) (w : World) : Calls Try.prog 34 #[o.val] w fun e w' => e = .returned (rowV o.kind) ∧ Below w.heap.size w w' := by
  have key : (Ev.acall Try.prog 0 orc0 100000 34 [opA o.kind o.a o.b o.agg] h00).map (·.1) = some (rowA o.kind) := by
    by_cases hk : o.kind ∈ [(0 : Int), 1, 2, 3, 4, 5, 6, 7]
    · exact kindOf_t o.a o.b o.agg o.kind hk
    · have hn : rowA o.kind = noneA := by
        have : kindRow o.kind = (-1, 0, 47, 48) := by
          unfold kindRow
          simp at hk
          simp [hk]
        unfold rowA noneA; rw [this]
      rw [hn]
      cases hc : o.kind with
      | negSucc n => exact kindOf_low _ _ _ n
      | ofNat n =>
        rw [hc] at hk
        have h8 : 8 ≤ n := by simp at hk; omega
        have := kindOf_high o.a o.b o.agg (n - 8)
        rwa [Nat.sub_add_cancel h8] at this
  refine (closed_val key (opA_v o)).mono ?_
  rintro e w' ⟨μ', u, rfl, hu, hb⟩
  exact ⟨by rw [rowA_v hu], hb⟩
end Go.Proofs.Yteiedknpmlemkaa
