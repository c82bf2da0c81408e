/-
  The evaluator is told what One, Merge and Result tell: so closed calls that use them are run in the kernel; works(); AccKnown.
-/
import Derived.Test.YtlkekcmphbpfbaaAb
namespace Go.Proofs.Ytlkekcmphbpfbaa
open Go Go.RowKit Go.Lib Go.Ev

theorem names : Try.prog.funcs.toList.all (fun fn => !(fn.name == "runtime.NumGoroutine")) = true := by kernel_rfl
theorem named (f : Nat) (fn : Func) (hf : Try.prog.funcs[f]? = some fn) : (fn.name == "runtime.NumGoroutine") = false := by
  have := List.all_eq_true.1 names fn (List.mem_of_getElem? (i := f) (by rw [Array.getElem?_toList]; exact hf))
  simpa using this
noncomputable def h00 : AH := { n := 0, t := .nil }
theorem h00_stands (w : World) : HR (under w.heap.size) [] h00 w :=
  ⟨rfl, fun id o ho => by simp [h00, Tr.get_nil] at ho, fun i j o p b hi => by simp [h00, Tr.get_nil] at hi, fun _ hk => under_lt hk, by simp [h00]⟩
def inB (x : Int) : Bool := decide (-9223372036854775808 ≤ x) && decide (x < 9223372036854775808)
def inU (x : Int) : Bool := decide (0 ≤ x) && decide (x < 18446744073709551616)
def okB (a : AccD) : Bool := inB a.n && inB a.hi && inU a.lo && inB a.mn && inB a.mx
theorem inB_ok {x : Int} (h : inB x = true) : I64 x := by unfold inB at h; unfold I64; simpa using h
theorem inU_ok {x : Int} (h : inU x = true) : 0 ≤ x ∧ x < 18446744073709551616 := by unfold inU at h; simpa using h
theorem okB_ok {a : AccD} (h : okB a = true) : a.ok := by
  unfold okB at h
  simp only [Bool.and_eq_true] at h
  exact ⟨inB_ok h.1.1.1.1, inB_ok h.1.1.1.2, inU_ok h.1.1.2, inB_ok h.1.2, inB_ok h.2⟩
noncomputable def accA (a : AccD) : AV := .agg [.int .i64 a.n, .int .i64 a.hi, .int .u64 a.lo, .int .i64 a.mn, .int .i64 a.mx]
noncomputable def orc : Orc := fun f args h =>
  match f, args with
  | 8, [.int .i64 v] => bif inB v then some (accA (oneM v), h) else none
  | 10, [.agg [.int .i64 a0, .int .i64 a1, .int .u64 a2, .int .i64 a3, .int .i64 a4], .agg [.int .i64 b0, .int .i64 b1, .int .u64 b2, .int .i64 b3, .int .i64 b4]] => bif okB ⟨a0, a1, a2, a3, a4⟩ && okB ⟨b0, b1, b2, b3, b4⟩ then some (accA (mergeM ⟨a0, a1, a2, a3, a4⟩ ⟨b0, b1, b2, b3, b4⟩), h) else none
  | 12, [.agg [.int .i64 a0, .int .i64 a1, .int .u64 a2, .int .i64 a3, .int .i64 a4], .int .i64 g] => bif inU a2 then some (.tuple [.int .i64 (resM ⟨a0, a1, a2, a3, a4⟩ g).1, .bool (resM ⟨a0, a1, a2, a3, a4⟩ g).2], h) else none
  | _, _ => none

theorem env0 : Env Try.prog 0 (fun _ _ _ => none) where
  name := named
  mix := by kernel_rfl
  orc := fun _ f args h v h' hc => by simp at hc
theorem accA_v {μ : List (Nat × Nat)} (a : AccD) : VR μ (accA a) a.v := by
  simp [VRs_cons, VRs_nil, VR, accA]
theorem acc_of {μ : List (Nat × Nat)} {a0 a1 a2 a3 a4 : Int} {u : Value} (h : VR μ (.agg [.int .i64 a0, .int .i64 a1, .int .u64 a2, .int .i64 a3, .int .i64 a4]) u) : u = AccD.v ⟨a0, a1, a2, a3, a4⟩ := by
  simp only [VR, VRs_cons, VRs_nil] at h
  obtain ⟨u, rfl, v1, q1, e1, rfl, v2, q2, rfl, rfl, v3, q3, rfl, rfl, v4, q4, rfl, rfl, v5, q5, rfl, rfl, rfl⟩ := h
  unfold AccD.v
  congr 1
  exact Array.toList_inj.1 e1
theorem two_VRs {μ : List (Nat × Nat)} {a b : AV} {vs : Array Value} (h : VRs μ [a, b] vs.toList) : ∃ u1 u2, vs = #[u1, u2] ∧ VR μ a u1 ∧ VR μ b u2 := by
  simp only [VRs_cons, VRs_nil] at h
  obtain ⟨v1, r1, e1, h1, v2, r2, rfl, h2, rfl⟩ := h
  exact ⟨v1, v2, Array.toList_inj.1 (by simpa using e1), h1, h2⟩
theorem one_VRs {μ : List (Nat × Nat)} {a : AV} {vs : Array Value} (h : VRs μ [a] vs.toList) : ∃ u1, vs = #[u1] ∧ VR μ a u1 := by
  simp only [VRs_cons, VRs_nil] at h
  obtain ⟨v1, r1, e1, h1, rfl⟩ := h
  exact ⟨v1, Array.toList_inj.1 (by simpa using e1), h1⟩

theorem orc_sound : CallSound Try.prog 0 orc := by
  intro B f args h v h' hc μ w vs H hG hv
  unfold orc at hc
  split at hc
  · rename_i x
    cases hq : inB x with
    | false => rw [hq] at hc; simp at hc
    | true =>
      rw [hq] at hc
      simp only [cond_true, Option.some.injEq, Prod.mk.injEq] at hc
      obtain ⟨rfl, rfl⟩ := hc
      obtain ⟨u1, rfl, r1⟩ := one_VRs hv
      simp only [VR] at r1
      subst r1
      refine .inr ⟨callFunc_enter env0 Try.func8 rfl _ _, ?_⟩
      refine (one_any x (inB_ok hq) w).mono ?_
      rintro e w' ⟨rfl, hb⟩
      exact ⟨μ, _, List.prefix_refl _, rfl, accA_v _, H.beside hb.size hb.block, Bel.of_below hb H.bsz⟩
  · rename_i a0 a1 a2 a3 a4 b0 b1 b2 b3 b4
    cases hq : (okB ⟨a0, a1, a2, a3, a4⟩ && okB ⟨b0, b1, b2, b3, b4⟩) with
    | false => rw [hq] at hc; simp at hc
    | true =>
      rw [hq] at hc
      simp only [cond_true, Option.some.injEq, Prod.mk.injEq] at hc
      obtain ⟨rfl, rfl⟩ := hc
      simp only [Bool.and_eq_true] at hq
      obtain ⟨u1, u2, rfl, r1, r2⟩ := two_VRs hv
      rw [acc_of r1, acc_of r2]
      refine .inr ⟨callFunc_enter env0 Try.func10 rfl _ _, ?_⟩
      refine (merge_any _ _ (okB_ok hq.1) (okB_ok hq.2) w).mono ?_
      rintro e w' ⟨rfl, hb⟩
      exact ⟨μ, _, List.prefix_refl _, rfl, accA_v _, H.beside hb.size hb.block, Bel.of_below hb H.bsz⟩
  · rename_i a0 a1 a2 a3 a4 g
    cases hq : inU a2 with
    | false => rw [hq] at hc; simp at hc
    | true =>
      rw [hq] at hc
      simp only [cond_true, Option.some.injEq, Prod.mk.injEq] at hc
      obtain ⟨rfl, rfl⟩ := hc
      obtain ⟨u1, u2, rfl, r1, r2⟩ := two_VRs hv
      rw [acc_of r1]
      simp only [VR] at r2
      subst r2
      refine .inr ⟨callFunc_enter env0 Try.func12 rfl _ _, ?_⟩
      refine (result_any ⟨a0, a1, a2, a3, a4⟩ g (inU_ok hq) w).mono ?_
      rintro e w' ⟨rfl, hb⟩
      exact ⟨μ, _, List.prefix_refl _, rfl, by simp [VR, VRs_cons, VRs_nil], H.beside hb.size hb.block, Bel.of_below hb H.bsz⟩
  · cases hc

theorem env : Env Try.prog 0 orc where
  name := named
  mix := by kernel_rfl
  orc := orc_sound
/-- A closed call of this program that the evaluator says to be true. -/
theorem closed_here {f : FuncId} {fuel : Nat} (hc : isTrue (acall Try.prog 0 orc fuel f [] h00) = true) (w : World) :
    Calls Try.prog f #[] w fun e w' => e = .returned (.bool true) ∧ Below w.heap.size w w' :=
  (closed_true env hc (h00_stands w) (fun g hg => by omega)).mono fun e w' hh => ⟨hh.1, hh.2.below⟩

set_option maxRecDepth 1000000 in
theorem works_t : isTrue (acall Try.prog 0 orc 1000000 14 [] h00) = true := by kernel_rfl
theorem works (w : World) : Calls Try.prog 14 #[] w fun e w' => e = .returned (.bool true) ∧ Below w.heap.size w w' := closed_here works_t w
set_option maxRecDepth 1000000 in
theorem known_t : isTrue (acall Try.prog 0 orc 1000000 7 [] h00) = true := by kernel_rfl
theorem known_any (w : World) : Calls Try.prog 7 #[] w fun e w' => e = .returned (.bool true) ∧ Below w.heap.size w w' := closed_here known_t w
end Go.Proofs.Ytlkekcmphbpfbaa
