/-
  errors.Is at a fault and its own number; the law's is.
-/
import Derived.Test.YtllkflbkndfdeaaDoorEvCc
import Derived.Test.YtllkflbkndfdeaaDoorEvP
namespace Go.Proofs.YtllkflbkndfdeaaDoor
open Go Go.RowKit Go.Lib Go.Extern

theorem isCall56 (t : TypeId) (v : Value) (w : World) : (callFunc 56 #[.iface t v]).run Tryd.prog w = .ok (.value (.iface 122 (.agg #[.pointer (some ⟨1, t, none⟩)]))) w := call56 t v w
/-- A type assertion with a second result, by the evaluator's word. -/
theorem assert_run {t xt : TypeId} {a : Ev.AV} {v u : Value} {z : Ev.AV} (h : Ev.aAssert Tryd.prog t true (some a) = some (.val z)) (hv : Ev.VR [] a v) (hz : ∀ x, Ev.VR [] z x → x = u) (w : World) : (Instr.typeAssert v xt t true).run Tryd.prog w = .ok u w := by
  have h1 := Ev.aAssert_run (P := Tryd.prog) (μ := []) (xt := xt) h hv w
  obtain ⟨nx, h2, h3⟩ := h1
  cases nx <;> first | exact h3.elim | skip
  rename_i x
  have h4 := hz x h3
  subst h4
  cases hr : (Instr.typeAssert v xt t true).run Tryd.prog w <;> simp_all

theorem unwrap_any (F : Nat) (c : Int) (w : World) (h0 : w.cell? ⟨F, 0, none⟩ = some (.int .i64 c)) : Calls Tryd.prog 85 #[.pointer (some ⟨F, 0, none⟩)] w fun e w' => e = .returned (.iface 34 (.int .i64 c)) ∧ w' = w := by
  go_enter Tryd.func85, Tryd.ntmps85
  go_wp2
  go_ret
  exact ⟨rfl, rfl⟩

set_option maxRecDepth 100000 in
theorem errIs_hit (F : Nat) (c : Int) (w : World) (h0 : w.cell? ⟨F, 0, none⟩ = some (.int .i64 c)) : Calls Tryd.prog 38 #[.iface 84 (.pointer (some ⟨F, 0, none⟩)), .iface 34 (.int .i64 c)] w fun e w' => e = .returned (.bool true) ∧ w' = w := by
  have n1 : ∀ w : World, (binOp .eql 31 (.iface 84 (.pointer (some ⟨F, 0, none⟩))) .nilIface).run Tryd.prog w = .ok (.bool false) w := fun _ => by kernel_rfl
  have n2 : ∀ w : World, (binOp .eql 31 (.iface 34 (.int .i64 c)) .nilIface).run Tryd.prog w = .ok (.bool false) w := fun _ => by kernel_rfl
  have mC : ∀ (h : Value) (w : World), (Go.method 265 122 (.agg #[h]) "Comparable").run Tryd.prog w = .ok (91, .agg #[h]) w := fun _ _ => by kernel_rfl
  have n3 : ∀ w : World, (binOp .eql 31 (.iface 84 (.pointer (some ⟨F, 0, none⟩))) (.iface 34 (.int .i64 c))).run Tryd.prog w = .ok (.bool false) w := fun _ => by kernel_rfl
  have n4 : ∀ w : World, (binOp .eql 31 (.iface 34 (.int .i64 c)) (.iface 34 (.int .i64 c))).run Tryd.prog w = .ok (.bool true) w := fun w => by
    have h : (binOp .eql 31 (.iface 34 (.int .i64 c)) (.iface 34 (.int .i64 c))).run Tryd.prog w = .ok (.bool (c == c)) w := by kernel_rfl
    rw [h]
    simp
  have n5 : ∀ w : World, (binOp .eql 31 (.iface 34 (.int .i64 c)) .nilIface).run Tryd.prog w = .ok (.bool false) w := n2
  have t1 : ∀ w : World, (Instr.typeAssert (.iface 84 (.pointer (some ⟨F, 0, none⟩))) 31 133 true).run Tryd.prog w = .ok (.tuple #[.nilIface, .bool false]) w := fun w => assert_run (a := .iface 84 (.raw (.pointer (some ⟨F, 0, none⟩)))) (z := .tuple [.raw .nilIface, .bool false]) (by kernel_rfl) (by simp [Ev.VR]) (fun x hx => by
    unfold Ev.VR at hx
    obtain ⟨vs, rfl, hv⟩ := hx
    rw [Ev.VRs_cons] at hv
    obtain ⟨u, r, e, h1, h2⟩ := hv
    obtain ⟨u2, rfl, h3⟩ := Ev.one_VRs h2
    simp [Ev.VR] at h1 h3
    subst h1; subst h3
    congr 1
    rw [← Array.toArray_toList (xs := vs), e]) w
  have t2 : ∀ w : World, (Instr.typeAssert (.iface 84 (.pointer (some ⟨F, 0, none⟩))) 31 129 true).run Tryd.prog w = .ok (.tuple #[.iface 84 (.pointer (some ⟨F, 0, none⟩)), .bool true]) w := fun w => assert_run (a := .iface 84 (.raw (.pointer (some ⟨F, 0, none⟩)))) (z := .tuple [.iface 84 (.raw (.pointer (some ⟨F, 0, none⟩))), .bool true]) (by kernel_rfl) (by simp [Ev.VR]) (fun x hx => by
    unfold Ev.VR at hx
    obtain ⟨vs, rfl, hv⟩ := hx
    rw [Ev.VRs_cons] at hv
    obtain ⟨u, r, e, h1, h2⟩ := hv
    obtain ⟨u2, rfl, h3⟩ := Ev.one_VRs h2
    simp [Ev.VR] at h1 h3
    subst h1; subst h3
    congr 1
    rw [← Array.toArray_toList (xs := vs), e]) w
  have mU : ∀ w : World, (Go.method 265 84 (.pointer (some ⟨F, 0, none⟩)) "Unwrap").run Tryd.prog w = .ok (85, .pointer (some ⟨F, 0, none⟩)) w := fun _ => by kernel_rfl
  have c91 := call91
  have c56 := isCall56
  go_enter Tryd.func38, Tryd.ntmps38
  go_wp2
  refine wp_loop_rounds 2 ?_
  rw [rounds_succ]
  go_wp2
  rw [rounds_succ]
  go_wp2
  go_ret
  exact ⟨rfl, rfl⟩

/-- errors.As at a fault: the variable points to it, and nothing else has moved. -/
theorem as_off (F t : Nat) (w : World) (hg : w.cell? ⟨0, 0, none⟩ = some (.iface 122 (.agg #[.pointer (some ⟨1, 31, none⟩)]))) (old : Value) (ht : w.cell? ⟨t, 0, none⟩ = some old) (hf : w.frozen? ⟨t, 0, none⟩ = false) (hlt : t < w.heap.size) :
    Calls Tryd.prog 37 #[.iface 84 (.pointer (some ⟨F, 0, none⟩)), .iface 86 (.pointer (some ⟨t, 0, none⟩))] w fun e w' => e = .returned (.bool true) ∧ Off t w w' ∧ w'.cell? ⟨t, 0, none⟩ = some (.pointer (some ⟨F, 0, none⟩)) := by
  refine (as_hit ⟨F, 0, none⟩ ⟨t, 0, none⟩ old w hg ht hf).mono ?_
  rintro e w' ⟨rfl, rfl⟩
  refine ⟨rfl, (((((Off.refl t w).alloc _).alloc _).alloc _).alloc _).set 0 _, ?_⟩
  suffices h4 : ((((w.alloc (.cells #[.pointer (some ⟨t, 0, none⟩)] 86)).alloc (.cells #[.pointer (some ⟨1, 86, none⟩), .pointer (some ⟨w.heap.size, 0, none⟩), .int .u64 150] 109)).alloc (.cells #[.pointer (some ⟨1, 86, none⟩), .pointer (some ⟨w.heap.size, 0, none⟩), .int .u64 150] 109)).alloc (.cells #[.pointer (some ⟨F, 0, none⟩)] 84)).cell? ⟨t, 0, none⟩ = some old from World.cell?_setCell_same _ _ _ h4
  rw [World.cell?_alloc_lt _ _ _ (by simp; omega), World.cell?_alloc_lt _ _ _ (by simp; omega), World.cell?_alloc_lt _ _ _ (by simp; omega), World.cell?_alloc_lt _ _ _ hlt]
  exact ht

theorem below_off {B t : Nat} {w W w' : World} (h : Below B w W) (ho : Off t W w') (hB : B ≤ t) (hs : B ≤ W.heap.size) : Below B w w' :=
  ⟨ho.os.trans h.os, ho.tape.trans h.tape, ho.output.trans h.output, Nat.le_trans h.size ho.size, fun k hk => (ho.block k (by omega) (by omega)).trans (h.block k hk)⟩
/-- A fault that is known, in memory. -/
structure FCell (w : World) (F : Nat) (c k : Int) : Prop where
  c0 : w.cell? ⟨F, 0, none⟩ = some (.int .i64 c)
  c1 : w.cell? ⟨F, 1, none⟩ = some (.int .i64 k)
  lt : F < w.heap.size
theorem FCell.alloc {w : World} {F : Nat} {c k : Int} (h : FCell w F c k) (o : Obj) : FCell (w.alloc o) F c k :=
  ⟨by rw [World.cell?_alloc_lt _ _ _ h.lt]; exact h.c0, by rw [World.cell?_alloc_lt _ _ _ h.lt]; exact h.c1, by simp; have := h.lt; omega⟩
theorem FCell.off {w w' : World} {F q : Nat} {c k : Int} (h : FCell w F c k) (ho : Off q w w') (hne : F ≠ q) : FCell w' F c k :=
  ⟨(ho.cell (p := ⟨F, 0, none⟩) h.lt hne).trans h.c0, (ho.cell (p := ⟨F, 1, none⟩) h.lt hne).trans h.c1, Nat.lt_of_lt_of_le h.lt ho.size⟩

set_option maxRecDepth 100000 in
set_option maxHeartbeats 1600000 in
theorem is_hit (F : Nat) (c k : Int) (w : World) (hc : c ≠ 0) (hF : FCell w F c k) (hg : w.cell? ⟨0, 0, none⟩ = some (.iface 122 (.agg #[.pointer (some ⟨1, 31, none⟩)]))) :
    Calls Tryd.prog 11 #[.iface 84 (.pointer (some ⟨F, 0, none⟩)), .agg #[.int .i64 c, .int .i64 k]] w fun e w' => e = .returned (.bool true) ∧ Below w.heap.size w w' := by
  have n1 : ∀ w : World, (binOp .eql 31 (.iface 84 (.pointer (some ⟨F, 0, none⟩))) .nilIface).run Tryd.prog w = .ok (.bool false) w := fun _ => by kernel_rfl
  have n2 : ∀ w : World, (binOp .eql 36 (.agg #[.int .i64 c, .int .i64 k]) (.agg #[.int .i64 c, .int .i64 k])).run Tryd.prog w = .ok (.bool true) w := fun w => by
    rw [run_eql_struct, run_equalIn_struct w 9999 36 _ _ (by kernel_rfl) (by kernel_rfl)]
    simp [go_sem, Program.fieldsOf, Op.eqFields, Tryd.underlying36, Tryd.underlying34, Tryd.underlying3]
  have hcb : (c == 0) = false := by simpa using hc
  go_enter Tryd.func11, Tryd.ntmps11
  go_wp2
  have VB : Var2 ((w.alloc (.cells #[.int .i64 c, .int .i64 k] 36)).alloc (.cells #[.pointer none] 84)) w.heap.size (.int .i64 c) (.int .i64 k) := (var2_new w _ _ 36).alloc _
  have t0 : ((w.alloc (.cells #[.int .i64 c, .int .i64 k] 36)).alloc (.cells #[.pointer none] 84)).cell? ⟨w.heap.size + 1, 0, none⟩ = some (.pointer none) := by simp
  have t1 : ((w.alloc (.cells #[.int .i64 c, .int .i64 k] 36)).alloc (.cells #[.pointer none] 84)).frozen? ⟨w.heap.size + 1, 0, none⟩ = false := by simp
  have t2 : w.heap.size + 1 < ((w.alloc (.cells #[.int .i64 c, .int .i64 k] 36)).alloc (.cells #[.pointer none] 84)).heap.size := by simp
  have hW : FCell ((w.alloc (.cells #[.int .i64 c, .int .i64 k] 36)).alloc (.cells #[.pointer none] 84)) F c k := (hF.alloc _).alloc _
  have hFl := hF.lt
  have hgl : 0 < w.heap.size := by omega
  have g0 : ((w.alloc (.cells #[.int .i64 c, .int .i64 k] 36)).alloc (.cells #[.pointer none] 84)).cell? ⟨0, 0, none⟩ = some (.iface 122 (.agg #[.pointer (some ⟨1, 31, none⟩)])) := by
    rw [World.cell?_alloc_lt _ _ ⟨0, 0, none⟩ (by simp), World.cell?_alloc_lt _ _ ⟨0, 0, none⟩ hgl]; exact hg
  have HB := Lib.hid (((Below.refl w.heap.size w).alloc (Nat.le_refl _) (.cells #[.int .i64 c, .int .i64 k] 36)).alloc (by simp) (.cells #[.pointer none] 84))
  obtain ⟨W, hWe⟩ : ∃ W, W = (w.alloc (.cells #[.int .i64 c, .int .i64 k] 36)).alloc (.cells #[.pointer none] 84) := ⟨_, rfl⟩
  rw [← hWe] at VB t0 t1 t2 hW g0 HB ⊢
  have e0 := VB.c0
  have e1 := VB.c1
  have HV := Lib.hid VB
  have HF := Lib.hid hW
  clear hWe VB hW hF hg
  go_region_with (first
    | (go_at_call 37
       (with_reducible refine (as_off F (w.heap.size + 1) _ (by simpa using g0) (.pointer none) (by simpa using t0) (by simpa using t1) (by simpa using t2)).mono ?_)
       rintro e w2 ⟨rfl, ho, ht⟩
       have ho2 := ((Off.refl (w.heap.size + 1) W).drewN 1).trans ho
       have y0 := (HV.out.off ho2 (by omega)).c0
       have y1 := (HV.out.off ho2 (by omega)).c1
       have y2 := (HF.out.off ho2 (by omega)).c0
       have y3 := (HF.out.off ho2 (by omega)).c1
       have HO := Lib.hid ho2
       clear ho ho2 e0 e1 t0 t1 t2 g0)
    | (go_at_call 38
       (with_reducible refine (errIs_hit F c _ (by assumption)).mono ?_)
       rintro e w3 ⟨rfl, rfl⟩))
  all_goals
    go_wp2
    go_ret
    exact ⟨rfl, below_off HB.out HO.out (by omega) HB.out.size⟩

theorem is_nil (k : Int) (w : World) : Calls Tryd.prog 11 #[.nilIface, .agg #[.int .i64 0, .int .i64 k]] w fun e w' => e = .returned (.bool true) ∧ Below w.heap.size w w' := by
  have n1 : ∀ w : World, (binOp .eql 31 .nilIface .nilIface).run Tryd.prog w = .ok (.bool true) w := fun _ => by kernel_rfl
  go_enter Tryd.func11, Tryd.ntmps11
  go_wp2
  go_ret
  exact ⟨rfl, (Below.refl _ _).alloc (Nat.le_refl _) _⟩
end Go.Proofs.YtllkflbkndfdeaaDoor
