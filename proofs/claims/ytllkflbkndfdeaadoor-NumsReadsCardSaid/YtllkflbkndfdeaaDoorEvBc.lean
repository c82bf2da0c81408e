/-
  Numbers read: take, at each type: what its deferred call makes of a panic, and of none.
-/
import Derived.Test.YtllkflbkndfdeaaDoorEvBb
import Derived.Defers
import Derived.Recover
import Derived.Laws.Pointers
namespace Go.Proofs.YtllkflbkndfdeaaDoor
open Go Go.RowKit Go.Lib

/-- What a thing that is read comes to: its value, or a panic with its error's number. -/
def TEnd (b : Nat) (v : Value) (x g : Nat) (s : ByteArray) (w : World) (e : Ending) (w' : World) : Prop :=
  Off g w w' ∧ (b = 0 ∧ e = .returned v ∧ Rdr w' g s x ∨ b ≠ 0 ∧ e = .panicked [{ v := .iface 34 (.int .i64 b), recovered := false }] ∧ ∃ a, Rdr w' g s a)
/-- What a reader's method comes to. -/
def KEnd (b : Nat) (v z : Value) (x k g : Nat) (s : ByteArray) (w : World) (e : Ending) (w' : World) : Prop :=
  Off g w w' ∧ (b = 0 ∧ e = .returned (.tuple #[v, .nilIface]) ∧ Rdr w' g s x ∨
    b ≠ 0 ∧ ∃ F, e = .returned (.tuple #[z, .iface 84 (.pointer (some ⟨F, 0, none⟩))]) ∧ w'.cell? ⟨F, 0, none⟩ = some (.int .i64 b) ∧ w'.cell? ⟨F, 1, none⟩ = some (.int .i64 k) ∧ F < w'.heap.size ∧ w.heap.size ≤ F ∧ Rdr w' g s k)

theorem Rdr.alloc {w : World} {g : Nat} {s : ByteArray} {a : Nat} (h : Rdr w g s a) (o : Obj) : Rdr (w.alloc o) g s a :=
  ⟨by rw [World.cell?_alloc_lt _ _ _ h.lt]; exact h.c0, by rw [World.cell?_alloc_lt _ _ _ h.lt]; exact h.c1, by rw [World.frozen?_alloc_old _ _ _ (Nat.ne_of_lt h.lt)]; exact h.f1, by simp; have := h.lt; omega⟩
theorem Rdr.other {w : World} {g : Nat} {s : ByteArray} {a : Nat} (h : Rdr w g s a) {q : Addr} (hq : q.block ≠ g) (u : Value) : Rdr (w.setCell q u) g s a := by
  have h0 : q ≠ ⟨g, 0, none⟩ := by rintro rfl; exact hq rfl
  have h1 : q ≠ ⟨g, 1, none⟩ := by rintro rfl; exact hq rfl
  refine ⟨?_, ?_, ?_, ?_⟩
  · rw [World.cell?_setCell_other _ _ _ _ h0]; exact h.c0
  · rw [World.cell?_setCell_other _ _ _ _ h1]; exact h.c1
  · simpa using h.f1
  · simpa [World.setCell] using h.lt
theorem Off.cell {g : Nat} {w w' : World} (h : Off g w w') {p : Addr} (hp : p.block < w.heap.size) (hg : p.block ≠ g) : w'.cell? p = w.cell? p := by
  simp [World.cell?, h.block _ hp hg]
theorem Off.frozen {g : Nat} {w w' : World} (h : Off g w w') {p : Addr} (hp : p.block < w.heap.size) (hg : p.block ≠ g) : w'.frozen? p = w.frozen? p := by
  simp [World.frozen?, h.block _ hp hg]
theorem Off.alloc {g : Nat} {a w : World} (h : Off g a w) (o : Obj) : Off g a (w.alloc o) :=
  h.trans (Off.below ((Below.refl _ _).alloc (Nat.le_refl _) o))
/-- What take makes ahead of the thing. -/
abbrev took (w : World) (g k : Nat) : World := ((w.alloc (.cells #[.pointer (some ⟨g, 0, none⟩)] 23)).alloc (.cells #[.nilIface] 31)).alloc (.cells #[.int .i64 k] 3)
theorem off_own {g : Nat} {w W w' : World} (h : Off g w W) (hw : Off g W w') : Off g w w' := h.trans hw
theorem Off.setOwn {g : Nat} {a w : World} (h : Off g a w) {q : Addr} (hq : a.heap.size ≤ q.block) (u : Value) : Off g a (w.setCell q u) :=
  ⟨h.os, h.tape, h.output, by simpa [World.setCell] using h.size, fun k hk hg => (Below.heap_setCell _ _ _ _ (by omega)).trans (h.block k hk hg)⟩

set_option maxRecDepth 100000 in
theorem catch_idle_u64 (p q r : Addr) (w : World) :
    CallsD Tryd.prog 51 #[.pointer (some p), .pointer (some q), .pointer (some r)] .returning w fun e u' w' => e = .returned (.tuple #[]) ∧ u' = .returning ∧ w' = w := by
  have hnil : ∀ w : World, (binOp BinOp.neq 20 .nilIface .nilIface).run Tryd.prog w = .ok (.bool false) w := fun _ => by kernel_rfl
  refine callsD_of_wpS Tryd.func51 rfl fun c₀ cs hu => ?_
  apply wpS_seq
  apply wpS_region
  simp [wpOpsS, go_sem, recoverD, hu, Tryd.ntmps51, Exit.thenS]
  apply wpS_seq
  apply wpS_region
  simp [wpOpsS, go_sem, Exit.thenS, hnil]
  refine wpS_cond (t := false) (by simp [Act.eval, Array.replicate]) ?_
  simp only [Bool.false_eq_true, if_false]
  refine wpS_of_wp (wp_skip ?_)
  cases c₀
  simp_all [bodyPostS, results, Tryd.results51]

set_option maxRecDepth 100000 in
set_option maxHeartbeats 1600000 in
theorem catch_panicking_u64 (p q r : Addr) (g k c : Nat) (rv : Value) (older : List PanicEntry) (w : World) (hp : w.cell? p = some (.int .i64 k)) (hq : w.cell? q = some (.pointer (some ⟨g, 0, none⟩))) (hr : w.cell? r = some rv) (hrf : w.frozen? r = false) (s : ByteArray) (a : Nat) (hR : Rdr w g s a) (hrg : r.block ≠ g) (hrl : r.block < w.heap.size) :
    CallsD Tryd.prog 51 #[.pointer (some p), .pointer (some q), .pointer (some r)] (.panicking ({ v := .iface 34 (.int .i64 c), recovered := false } :: older)) w fun e u' w' =>
      e = .returned (.tuple #[]) ∧ u' = .panicking ({ v := .iface 34 (.int .i64 c), recovered := true } :: older) ∧
        w' = ((w.setCell ⟨g, 1, none⟩ (.int .i64 k)).alloc (.cells #[.int .i64 c, .int .i64 k] 36)).setCell r (.iface 84 (.pointer (some ⟨w.heap.size, 0, none⟩))) := by
  have hne : ∀ w : World, (binOp BinOp.neq 20 (.iface 34 (.int .i64 c)) .nilIface).run Tryd.prog w = .ok (.bool true) w := fun _ => by kernel_rfl
  have hta : ∀ w : World, (Instr.typeAssert (.iface 34 (.int .i64 c)) 20 34 true).run Tryd.prog w = .ok (.tuple #[.int .i64 c, .bool true]) w := fun _ => by kernel_rfl
  have hc1 := hR.c1
  have hf1 := hR.f1
  have hlt := hR.lt
  have q3 : (w.setCell ⟨g, 1, none⟩ (.int .i64 k)).cell? r = some rv := by
    rw [World.cell?_setCell_other _ _ _ _ (by rintro rfl; exact hrg rfl)]; exact hr
  have q1 : ∀ o, ((w.setCell ⟨g, 1, none⟩ (.int .i64 k)).alloc o).cell? r = some rv := fun o => by
    rw [World.cell?_alloc_lt _ _ _ (by simpa [World.setCell] using hrl)]; exact q3
  have q2 : ∀ o, ((w.setCell ⟨g, 1, none⟩ (.int .i64 k)).alloc o).frozen? r = false := fun o => by
    rw [World.frozen?_alloc_old _ _ r (by simpa [World.setCell] using Nat.ne_of_lt hrl)]
    simpa using hrf
  refine callsD_of_wpS Tryd.func51 rfl fun c₀ cs hu => ?_
  apply wpS_seq
  apply wpS_region
  simp [wpOpsS, go_sem, recoverD, hu, Tryd.ntmps51, Exit.thenS]
  apply wpS_seq
  apply wpS_region
  simp [wpOpsS, go_sem, Exit.thenS, hne]
  refine wpS_cond (t := true) (by simp [Act.eval, Array.replicate]) ?_
  simp only [if_true]
  refine wpS_of_wp ?_
  simp [Array.replicate]
  go_wp2
  simp [bodyPostS, results, Tryd.results51, go_sem]

set_option maxRecDepth 100000 in
set_option maxHeartbeats 1600000 in
theorem take_u64 (b : Nat) (v : Value) (x k g : Nat) (s : ByteArray) (w : World) (h : Rdr w g s k) (K : ∀ W, Rdr W g s k → Calls Tryd.prog 35 #[.pointer (some ⟨g, 0, none⟩)] W (TEnd b v x g s W)) :
    Calls Tryd.prog 34 #[.pointer (some ⟨g, 0, none⟩), .func (.func 35) #[] #[]] w (KEnd b v (.int .u64 0) x k g s w) := by
  have hmf : ∀ (fn : Fn) (first cap : Array Value) (w : World), (Instr.makeFunc fn first cap).run Tryd.prog w = .ok (.func fn first cap) w := fun _ _ _ _ => rfl
  have hc1 := h.c1
  have hlt := h.lt
  have HT := Lib.hid (show Rdr (took w g k) g s k from ((h.alloc _).alloc _).alloc _)
  by_cases hb : b = 0
  · have K0 : ∀ W, Rdr W g s k → Calls Tryd.prog 35 #[.pointer (some ⟨g, 0, none⟩)] W fun e w' => e = .returned v ∧ Off g W w' ∧ Rdr w' g s x := fun W hW => (K W hW).mono fun e w' he => by
      rcases he with ⟨ho, ⟨_, h1, h2⟩ | ⟨h0, _⟩⟩
      · exact ⟨h1, ho, h2⟩
      · exact absurd hb h0
    have HK := Lib.hid K0
    have HB := Lib.hid hb
    have HH := Lib.hid h
    clear h K K0 hb
    go_enter_defers Tryd.func34, Tryd.ntmps34
    go_wp2_with fail
    refine (HK.out _ HT.out).mono ?_
    rintro e w1 ⟨rfl, ho, hr1⟩
    have g1 : w1.cell? ⟨w.heap.size + 1, 0, none⟩ = some .nilIface := by
      rw [ho.cell (p := ⟨w.heap.size + 1, 0, none⟩) (by simp [took]) (by show w.heap.size + 1 ≠ g; omega)]
      simp [took, go_sem]
    have g2 : w1.frozen? ⟨w.heap.size + 1, 0, none⟩ = false := by
      rw [ho.frozen (p := ⟨w.heap.size + 1, 0, none⟩) (by simp [took]) (by show w.heap.size + 1 ≠ g; omega)]
      simp [took, go_sem]
    have HO := Lib.hid ho
    have HR := Lib.hid hr1
    clear ho hr1
    go_wp2_with fail
    refine leaves_cons (f := 51) (args := #[.pointer (some ⟨w.heap.size + 1 + 1, 0, none⟩), .pointer (some ⟨w.heap.size, 0, none⟩), .pointer (some ⟨w.heap.size + 1, 0, none⟩)]) (by simp) (by simp [go_sem]) ?_
    refine (catch_idle_u64 _ _ _ _).mono ?_
    rintro e u' w'' ⟨rfl, rfl, rfl⟩
    have g3 : (w1.setCell ⟨w.heap.size + 1, 0, none⟩ .nilIface).cell? ⟨w.heap.size + 1, 0, none⟩ = some .nilIface := World.cell?_setCell_same _ _ _ g1
    simp [Leaves, settle, results, Tryd.results34, go_sem, g3]
    exact ⟨((((Off.refl g w).alloc _).alloc _).alloc _ |>.trans HO.out).setOwn (by simp) _, .inl ⟨HB.out, rfl, HR.out.other (by show w.heap.size + 1 ≠ g; omega) _⟩⟩
  · have K1 : ∀ W, Rdr W g s k → Calls Tryd.prog 35 #[.pointer (some ⟨g, 0, none⟩)] W fun e w' => e = .panicked [{ v := .iface 34 (.int .i64 b), recovered := false }] ∧ Off g W w' ∧ ∃ a, Rdr w' g s a := fun W hW => (K W hW).mono fun e w' he => by
      rcases he with ⟨ho, ⟨h0, _⟩ | ⟨_, h1, h2⟩⟩
      · exact absurd h0 hb
      · exact ⟨h1, ho, h2⟩
    have HK := Lib.hid K1
    have HB := Lib.hid hb
    clear h K K1 hb
    go_enter_defers Tryd.func34, Tryd.ntmps34
    go_wp2_with fail
    refine (HK.out _ HT.out).mono ?_
    rintro e w1 ⟨rfl, ho, a, hr1⟩
    have g0 : w1.cell? ⟨w.heap.size, 0, none⟩ = some (.pointer (some ⟨g, 0, none⟩)) := by
      rw [ho.cell (p := ⟨w.heap.size, 0, none⟩) (by simp [took]; omega) (by show w.heap.size ≠ g; omega)]
      simp [took, go_sem]
    have g1 : w1.cell? ⟨w.heap.size + 1, 0, none⟩ = some .nilIface := by
      rw [ho.cell (p := ⟨w.heap.size + 1, 0, none⟩) (by simp [took]) (by show w.heap.size + 1 ≠ g; omega)]
      simp [took, go_sem]
    have g2 : w1.frozen? ⟨w.heap.size + 1, 0, none⟩ = false := by
      rw [ho.frozen (p := ⟨w.heap.size + 1, 0, none⟩) (by simp [took]) (by show w.heap.size + 1 ≠ g; omega)]
      simp [took, go_sem]
    have g4 : w1.cell? ⟨w.heap.size + 1 + 1, 0, none⟩ = some (.int .i64 k) := by
      rw [ho.cell (p := ⟨w.heap.size + 1 + 1, 0, none⟩) (by simp [took]) (by show w.heap.size + 1 + 1 ≠ g; omega)]
      simp [took, go_sem]
    have hsz : w.heap.size + 3 ≤ w1.heap.size := by have := ho.size; simp [took] at this; omega
    have HO := Lib.hid ho
    have HR := Lib.hid hr1
    clear ho hr1
    refine leaves_cons (f := 51) (args := #[.pointer (some ⟨w.heap.size + 1 + 1, 0, none⟩), .pointer (some ⟨w.heap.size, 0, none⟩), .pointer (some ⟨w.heap.size + 1, 0, none⟩)]) (by simp) (by simp [go_sem]) ?_
    refine (catch_panicking_u64 _ _ _ g k b .nilIface [] w1 g4 g0 g1 g2 s a HR.out (by show w.heap.size + 1 ≠ g; omega) (by show w.heap.size + 1 < _; omega)).mono ?_
    rintro e u' w'' ⟨rfl, rfl, rfl⟩
    have hR2 : Rdr ((w1.setCell ⟨g, 1, none⟩ (.int .i64 k)).alloc (.cells #[.int .i64 b, .int .i64 k] 36)) g s k := (HR.out.set k).alloc _
    have g5 : ((w1.setCell ⟨g, 1, none⟩ (.int .i64 k)).alloc (.cells #[.int .i64 b, .int .i64 k] 36)).cell? ⟨w.heap.size + 1, 0, none⟩ = some .nilIface := by
      rw [World.cell?_alloc_lt _ _ _ (by simp [World.setCell] <;> omega), World.cell?_setCell_other _ _ _ _ (by simp <;> omega)]
      exact g1
    have g6 : (((w1.setCell ⟨g, 1, none⟩ (.int .i64 k)).alloc (.cells #[.int .i64 b, .int .i64 k] 36)).setCell ⟨w.heap.size + 1, 0, none⟩ (.iface 84 (.pointer (some ⟨w1.heap.size, 0, none⟩)))).cell? ⟨w.heap.size + 1, 0, none⟩ = some (.iface 84 (.pointer (some ⟨w1.heap.size, 0, none⟩))) := World.cell?_setCell_same _ _ _ g5
    simp [Leaves, settle, results, Tryd.results34, go_sem, g6]
    refine ⟨?_, .inr ⟨HB.out, w1.heap.size, rfl, ?_, ?_, ?_, ?_, hR2.other (by show w.heap.size + 1 ≠ g; omega) _⟩⟩
    · exact ((((((Off.refl g w).alloc _).alloc _).alloc _ |>.trans HO.out).set 1 _).alloc _).setOwn (by simp) _
    · rw [World.cell?_setCell_other _ _ _ _ (by simp <;> omega), World.cell?_alloc_at _ _ _ _ (by simp [World.setCell])]
      rfl
    · rw [World.cell?_setCell_other _ _ _ _ (by simp <;> omega), World.cell?_alloc_at _ _ _ _ (by simp [World.setCell])]
      rfl
    · simp [World.setCell]
    · omega

set_option maxRecDepth 100000 in
theorem catch_idle_i64 (p q r : Addr) (w : World) :
    CallsD Tryd.prog 58 #[.pointer (some p), .pointer (some q), .pointer (some r)] .returning w fun e u' w' => e = .returned (.tuple #[]) ∧ u' = .returning ∧ w' = w := by
  have hnil : ∀ w : World, (binOp BinOp.neq 20 .nilIface .nilIface).run Tryd.prog w = .ok (.bool false) w := fun _ => by kernel_rfl
  refine callsD_of_wpS Tryd.func58 rfl fun c₀ cs hu => ?_
  apply wpS_seq
  apply wpS_region
  simp [wpOpsS, go_sem, recoverD, hu, Tryd.ntmps58, Exit.thenS]
  apply wpS_seq
  apply wpS_region
  simp [wpOpsS, go_sem, Exit.thenS, hnil]
  refine wpS_cond (t := false) (by simp [Act.eval, Array.replicate]) ?_
  simp only [Bool.false_eq_true, if_false]
  refine wpS_of_wp (wp_skip ?_)
  cases c₀
  simp_all [bodyPostS, results, Tryd.results58]

set_option maxRecDepth 100000 in
set_option maxHeartbeats 1600000 in
theorem catch_panicking_i64 (p q r : Addr) (g k c : Nat) (rv : Value) (older : List PanicEntry) (w : World) (hp : w.cell? p = some (.int .i64 k)) (hq : w.cell? q = some (.pointer (some ⟨g, 0, none⟩))) (hr : w.cell? r = some rv) (hrf : w.frozen? r = false) (s : ByteArray) (a : Nat) (hR : Rdr w g s a) (hrg : r.block ≠ g) (hrl : r.block < w.heap.size) :
    CallsD Tryd.prog 58 #[.pointer (some p), .pointer (some q), .pointer (some r)] (.panicking ({ v := .iface 34 (.int .i64 c), recovered := false } :: older)) w fun e u' w' =>
      e = .returned (.tuple #[]) ∧ u' = .panicking ({ v := .iface 34 (.int .i64 c), recovered := true } :: older) ∧
        w' = ((w.setCell ⟨g, 1, none⟩ (.int .i64 k)).alloc (.cells #[.int .i64 c, .int .i64 k] 36)).setCell r (.iface 84 (.pointer (some ⟨w.heap.size, 0, none⟩))) := by
  have hne : ∀ w : World, (binOp BinOp.neq 20 (.iface 34 (.int .i64 c)) .nilIface).run Tryd.prog w = .ok (.bool true) w := fun _ => by kernel_rfl
  have hta : ∀ w : World, (Instr.typeAssert (.iface 34 (.int .i64 c)) 20 34 true).run Tryd.prog w = .ok (.tuple #[.int .i64 c, .bool true]) w := fun _ => by kernel_rfl
  have hc1 := hR.c1
  have hf1 := hR.f1
  have hlt := hR.lt
  have q3 : (w.setCell ⟨g, 1, none⟩ (.int .i64 k)).cell? r = some rv := by
    rw [World.cell?_setCell_other _ _ _ _ (by rintro rfl; exact hrg rfl)]; exact hr
  have q1 : ∀ o, ((w.setCell ⟨g, 1, none⟩ (.int .i64 k)).alloc o).cell? r = some rv := fun o => by
    rw [World.cell?_alloc_lt _ _ _ (by simpa [World.setCell] using hrl)]; exact q3
  have q2 : ∀ o, ((w.setCell ⟨g, 1, none⟩ (.int .i64 k)).alloc o).frozen? r = false := fun o => by
    rw [World.frozen?_alloc_old _ _ r (by simpa [World.setCell] using Nat.ne_of_lt hrl)]
    simpa using hrf
  refine callsD_of_wpS Tryd.func58 rfl fun c₀ cs hu => ?_
  apply wpS_seq
  apply wpS_region
  simp [wpOpsS, go_sem, recoverD, hu, Tryd.ntmps58, Exit.thenS]
  apply wpS_seq
  apply wpS_region
  simp [wpOpsS, go_sem, Exit.thenS, hne]
  refine wpS_cond (t := true) (by simp [Act.eval, Array.replicate]) ?_
  simp only [if_true]
  refine wpS_of_wp ?_
  simp [Array.replicate]
  go_wp2
  simp [bodyPostS, results, Tryd.results58, go_sem]

set_option maxRecDepth 100000 in
set_option maxHeartbeats 1600000 in
theorem take_i64 (b : Nat) (v : Value) (x k g : Nat) (s : ByteArray) (w : World) (h : Rdr w g s k) (K : ∀ W, Rdr W g s k → Calls Tryd.prog 40 #[.pointer (some ⟨g, 0, none⟩)] W (TEnd b v x g s W)) :
    Calls Tryd.prog 39 #[.pointer (some ⟨g, 0, none⟩), .func (.func 40) #[] #[]] w (KEnd b v (.int .i64 0) x k g s w) := by
  have hmf : ∀ (fn : Fn) (first cap : Array Value) (w : World), (Instr.makeFunc fn first cap).run Tryd.prog w = .ok (.func fn first cap) w := fun _ _ _ _ => rfl
  have hc1 := h.c1
  have hlt := h.lt
  have HT := Lib.hid (show Rdr (took w g k) g s k from ((h.alloc _).alloc _).alloc _)
  by_cases hb : b = 0
  · have K0 : ∀ W, Rdr W g s k → Calls Tryd.prog 40 #[.pointer (some ⟨g, 0, none⟩)] W fun e w' => e = .returned v ∧ Off g W w' ∧ Rdr w' g s x := fun W hW => (K W hW).mono fun e w' he => by
      rcases he with ⟨ho, ⟨_, h1, h2⟩ | ⟨h0, _⟩⟩
      · exact ⟨h1, ho, h2⟩
      · exact absurd hb h0
    have HK := Lib.hid K0
    have HB := Lib.hid hb
    have HH := Lib.hid h
    clear h K K0 hb
    go_enter_defers Tryd.func39, Tryd.ntmps39
    go_wp2_with fail
    refine (HK.out _ HT.out).mono ?_
    rintro e w1 ⟨rfl, ho, hr1⟩
    have g1 : w1.cell? ⟨w.heap.size + 1, 0, none⟩ = some .nilIface := by
      rw [ho.cell (p := ⟨w.heap.size + 1, 0, none⟩) (by simp [took]) (by show w.heap.size + 1 ≠ g; omega)]
      simp [took, go_sem]
    have g2 : w1.frozen? ⟨w.heap.size + 1, 0, none⟩ = false := by
      rw [ho.frozen (p := ⟨w.heap.size + 1, 0, none⟩) (by simp [took]) (by show w.heap.size + 1 ≠ g; omega)]
      simp [took, go_sem]
    have HO := Lib.hid ho
    have HR := Lib.hid hr1
    clear ho hr1
    go_wp2_with fail
    refine leaves_cons (f := 58) (args := #[.pointer (some ⟨w.heap.size + 1 + 1, 0, none⟩), .pointer (some ⟨w.heap.size, 0, none⟩), .pointer (some ⟨w.heap.size + 1, 0, none⟩)]) (by simp) (by simp [go_sem]) ?_
    refine (catch_idle_i64 _ _ _ _).mono ?_
    rintro e u' w'' ⟨rfl, rfl, rfl⟩
    have g3 : (w1.setCell ⟨w.heap.size + 1, 0, none⟩ .nilIface).cell? ⟨w.heap.size + 1, 0, none⟩ = some .nilIface := World.cell?_setCell_same _ _ _ g1
    simp [Leaves, settle, results, Tryd.results39, go_sem, g3]
    exact ⟨((((Off.refl g w).alloc _).alloc _).alloc _ |>.trans HO.out).setOwn (by simp) _, .inl ⟨HB.out, rfl, HR.out.other (by show w.heap.size + 1 ≠ g; omega) _⟩⟩
  · have K1 : ∀ W, Rdr W g s k → Calls Tryd.prog 40 #[.pointer (some ⟨g, 0, none⟩)] W fun e w' => e = .panicked [{ v := .iface 34 (.int .i64 b), recovered := false }] ∧ Off g W w' ∧ ∃ a, Rdr w' g s a := fun W hW => (K W hW).mono fun e w' he => by
      rcases he with ⟨ho, ⟨h0, _⟩ | ⟨_, h1, h2⟩⟩
      · exact absurd h0 hb
      · exact ⟨h1, ho, h2⟩
    have HK := Lib.hid K1
    have HB := Lib.hid hb
    clear h K K1 hb
    go_enter_defers Tryd.func39, Tryd.ntmps39
    go_wp2_with fail
    refine (HK.out _ HT.out).mono ?_
    rintro e w1 ⟨rfl, ho, a, hr1⟩
    have g0 : w1.cell? ⟨w.heap.size, 0, none⟩ = some (.pointer (some ⟨g, 0, none⟩)) := by
      rw [ho.cell (p := ⟨w.heap.size, 0, none⟩) (by simp [took]; omega) (by show w.heap.size ≠ g; omega)]
      simp [took, go_sem]
    have g1 : w1.cell? ⟨w.heap.size + 1, 0, none⟩ = some .nilIface := by
      rw [ho.cell (p := ⟨w.heap.size + 1, 0, none⟩) (by simp [took]) (by show w.heap.size + 1 ≠ g; omega)]
      simp [took, go_sem]
    have g2 : w1.frozen? ⟨w.heap.size + 1, 0, none⟩ = false := by
      rw [ho.frozen (p := ⟨w.heap.size + 1, 0, none⟩) (by simp [took]) (by show w.heap.size + 1 ≠ g; omega)]
      simp [took, go_sem]
    have g4 : w1.cell? ⟨w.heap.size + 1 + 1, 0, none⟩ = some (.int .i64 k) := by
      rw [ho.cell (p := ⟨w.heap.size + 1 + 1, 0, none⟩) (by simp [took]) (by show w.heap.size + 1 + 1 ≠ g; omega)]
      simp [took, go_sem]
    have hsz : w.heap.size + 3 ≤ w1.heap.size := by have := ho.size; simp [took] at this; omega
    have HO := Lib.hid ho
    have HR := Lib.hid hr1
    clear ho hr1
    refine leaves_cons (f := 58) (args := #[.pointer (some ⟨w.heap.size + 1 + 1, 0, none⟩), .pointer (some ⟨w.heap.size, 0, none⟩), .pointer (some ⟨w.heap.size + 1, 0, none⟩)]) (by simp) (by simp [go_sem]) ?_
    refine (catch_panicking_i64 _ _ _ g k b .nilIface [] w1 g4 g0 g1 g2 s a HR.out (by show w.heap.size + 1 ≠ g; omega) (by show w.heap.size + 1 < _; omega)).mono ?_
    rintro e u' w'' ⟨rfl, rfl, rfl⟩
    have hR2 : Rdr ((w1.setCell ⟨g, 1, none⟩ (.int .i64 k)).alloc (.cells #[.int .i64 b, .int .i64 k] 36)) g s k := (HR.out.set k).alloc _
    have g5 : ((w1.setCell ⟨g, 1, none⟩ (.int .i64 k)).alloc (.cells #[.int .i64 b, .int .i64 k] 36)).cell? ⟨w.heap.size + 1, 0, none⟩ = some .nilIface := by
      rw [World.cell?_alloc_lt _ _ _ (by simp [World.setCell] <;> omega), World.cell?_setCell_other _ _ _ _ (by simp <;> omega)]
      exact g1
    have g6 : (((w1.setCell ⟨g, 1, none⟩ (.int .i64 k)).alloc (.cells #[.int .i64 b, .int .i64 k] 36)).setCell ⟨w.heap.size + 1, 0, none⟩ (.iface 84 (.pointer (some ⟨w1.heap.size, 0, none⟩)))).cell? ⟨w.heap.size + 1, 0, none⟩ = some (.iface 84 (.pointer (some ⟨w1.heap.size, 0, none⟩))) := World.cell?_setCell_same _ _ _ g5
    simp [Leaves, settle, results, Tryd.results39, go_sem, g6]
    refine ⟨?_, .inr ⟨HB.out, w1.heap.size, rfl, ?_, ?_, ?_, ?_, hR2.other (by show w.heap.size + 1 ≠ g; omega) _⟩⟩
    · exact ((((((Off.refl g w).alloc _).alloc _).alloc _ |>.trans HO.out).set 1 _).alloc _).setOwn (by simp) _
    · rw [World.cell?_setCell_other _ _ _ _ (by simp <;> omega), World.cell?_alloc_at _ _ _ _ (by simp [World.setCell])]
      rfl
    · rw [World.cell?_setCell_other _ _ _ _ (by simp <;> omega), World.cell?_alloc_at _ _ _ _ (by simp [World.setCell])]
      rfl
    · simp [World.setCell]
    · omega

set_option maxRecDepth 100000 in
theorem catch_idle_u8 (p q r : Addr) (w : World) :
    CallsD Tryd.prog 59 #[.pointer (some p), .pointer (some q), .pointer (some r)] .returning w fun e u' w' => e = .returned (.tuple #[]) ∧ u' = .returning ∧ w' = w := by
  have hnil : ∀ w : World, (binOp BinOp.neq 20 .nilIface .nilIface).run Tryd.prog w = .ok (.bool false) w := fun _ => by kernel_rfl
  refine callsD_of_wpS Tryd.func59 rfl fun c₀ cs hu => ?_
  apply wpS_seq
  apply wpS_region
  simp [wpOpsS, go_sem, recoverD, hu, Tryd.ntmps59, Exit.thenS]
  apply wpS_seq
  apply wpS_region
  simp [wpOpsS, go_sem, Exit.thenS, hnil]
  refine wpS_cond (t := false) (by simp [Act.eval, Array.replicate]) ?_
  simp only [Bool.false_eq_true, if_false]
  refine wpS_of_wp (wp_skip ?_)
  cases c₀
  simp_all [bodyPostS, results, Tryd.results59]

set_option maxRecDepth 100000 in
set_option maxHeartbeats 1600000 in
theorem catch_panicking_u8 (p q r : Addr) (g k c : Nat) (rv : Value) (older : List PanicEntry) (w : World) (hp : w.cell? p = some (.int .i64 k)) (hq : w.cell? q = some (.pointer (some ⟨g, 0, none⟩))) (hr : w.cell? r = some rv) (hrf : w.frozen? r = false) (s : ByteArray) (a : Nat) (hR : Rdr w g s a) (hrg : r.block ≠ g) (hrl : r.block < w.heap.size) :
    CallsD Tryd.prog 59 #[.pointer (some p), .pointer (some q), .pointer (some r)] (.panicking ({ v := .iface 34 (.int .i64 c), recovered := false } :: older)) w fun e u' w' =>
      e = .returned (.tuple #[]) ∧ u' = .panicking ({ v := .iface 34 (.int .i64 c), recovered := true } :: older) ∧
        w' = ((w.setCell ⟨g, 1, none⟩ (.int .i64 k)).alloc (.cells #[.int .i64 c, .int .i64 k] 36)).setCell r (.iface 84 (.pointer (some ⟨w.heap.size, 0, none⟩))) := by
  have hne : ∀ w : World, (binOp BinOp.neq 20 (.iface 34 (.int .i64 c)) .nilIface).run Tryd.prog w = .ok (.bool true) w := fun _ => by kernel_rfl
  have hta : ∀ w : World, (Instr.typeAssert (.iface 34 (.int .i64 c)) 20 34 true).run Tryd.prog w = .ok (.tuple #[.int .i64 c, .bool true]) w := fun _ => by kernel_rfl
  have hc1 := hR.c1
  have hf1 := hR.f1
  have hlt := hR.lt
  have q3 : (w.setCell ⟨g, 1, none⟩ (.int .i64 k)).cell? r = some rv := by
    rw [World.cell?_setCell_other _ _ _ _ (by rintro rfl; exact hrg rfl)]; exact hr
  have q1 : ∀ o, ((w.setCell ⟨g, 1, none⟩ (.int .i64 k)).alloc o).cell? r = some rv := fun o => by
    rw [World.cell?_alloc_lt _ _ _ (by simpa [World.setCell] using hrl)]; exact q3
  have q2 : ∀ o, ((w.setCell ⟨g, 1, none⟩ (.int .i64 k)).alloc o).frozen? r = false := fun o => by
    rw [World.frozen?_alloc_old _ _ r (by simpa [World.setCell] using Nat.ne_of_lt hrl)]
    simpa using hrf
  refine callsD_of_wpS Tryd.func59 rfl fun c₀ cs hu => ?_
  apply wpS_seq
  apply wpS_region
  simp [wpOpsS, go_sem, recoverD, hu, Tryd.ntmps59, Exit.thenS]
  apply wpS_seq
  apply wpS_region
  simp [wpOpsS, go_sem, Exit.thenS, hne]
  refine wpS_cond (t := true) (by simp [Act.eval, Array.replicate]) ?_
  simp only [if_true]
  refine wpS_of_wp ?_
  simp [Array.replicate]
  go_wp2
  simp [bodyPostS, results, Tryd.results59, go_sem]

set_option maxRecDepth 100000 in
set_option maxHeartbeats 1600000 in
theorem take_u8 (b : Nat) (v : Value) (x k g : Nat) (s : ByteArray) (w : World) (h : Rdr w g s k) (K : ∀ W, Rdr W g s k → Calls Tryd.prog 43 #[.pointer (some ⟨g, 0, none⟩)] W (TEnd b v x g s W)) :
    Calls Tryd.prog 42 #[.pointer (some ⟨g, 0, none⟩), .func (.func 43) #[] #[]] w (KEnd b v (.int .u8 0) x k g s w) := by
  have hmf : ∀ (fn : Fn) (first cap : Array Value) (w : World), (Instr.makeFunc fn first cap).run Tryd.prog w = .ok (.func fn first cap) w := fun _ _ _ _ => rfl
  have hc1 := h.c1
  have hlt := h.lt
  have HT := Lib.hid (show Rdr (took w g k) g s k from ((h.alloc _).alloc _).alloc _)
  by_cases hb : b = 0
  · have K0 : ∀ W, Rdr W g s k → Calls Tryd.prog 43 #[.pointer (some ⟨g, 0, none⟩)] W fun e w' => e = .returned v ∧ Off g W w' ∧ Rdr w' g s x := fun W hW => (K W hW).mono fun e w' he => by
      rcases he with ⟨ho, ⟨_, h1, h2⟩ | ⟨h0, _⟩⟩
      · exact ⟨h1, ho, h2⟩
      · exact absurd hb h0
    have HK := Lib.hid K0
    have HB := Lib.hid hb
    have HH := Lib.hid h
    clear h K K0 hb
    go_enter_defers Tryd.func42, Tryd.ntmps42
    go_wp2_with fail
    refine (HK.out _ HT.out).mono ?_
    rintro e w1 ⟨rfl, ho, hr1⟩
    have g1 : w1.cell? ⟨w.heap.size + 1, 0, none⟩ = some .nilIface := by
      rw [ho.cell (p := ⟨w.heap.size + 1, 0, none⟩) (by simp [took]) (by show w.heap.size + 1 ≠ g; omega)]
      simp [took, go_sem]
    have g2 : w1.frozen? ⟨w.heap.size + 1, 0, none⟩ = false := by
      rw [ho.frozen (p := ⟨w.heap.size + 1, 0, none⟩) (by simp [took]) (by show w.heap.size + 1 ≠ g; omega)]
      simp [took, go_sem]
    have HO := Lib.hid ho
    have HR := Lib.hid hr1
    clear ho hr1
    go_wp2_with fail
    refine leaves_cons (f := 59) (args := #[.pointer (some ⟨w.heap.size + 1 + 1, 0, none⟩), .pointer (some ⟨w.heap.size, 0, none⟩), .pointer (some ⟨w.heap.size + 1, 0, none⟩)]) (by simp) (by simp [go_sem]) ?_
    refine (catch_idle_u8 _ _ _ _).mono ?_
    rintro e u' w'' ⟨rfl, rfl, rfl⟩
    have g3 : (w1.setCell ⟨w.heap.size + 1, 0, none⟩ .nilIface).cell? ⟨w.heap.size + 1, 0, none⟩ = some .nilIface := World.cell?_setCell_same _ _ _ g1
    simp [Leaves, settle, results, Tryd.results42, go_sem, g3]
    exact ⟨((((Off.refl g w).alloc _).alloc _).alloc _ |>.trans HO.out).setOwn (by simp) _, .inl ⟨HB.out, rfl, HR.out.other (by show w.heap.size + 1 ≠ g; omega) _⟩⟩
  · have K1 : ∀ W, Rdr W g s k → Calls Tryd.prog 43 #[.pointer (some ⟨g, 0, none⟩)] W fun e w' => e = .panicked [{ v := .iface 34 (.int .i64 b), recovered := false }] ∧ Off g W w' ∧ ∃ a, Rdr w' g s a := fun W hW => (K W hW).mono fun e w' he => by
      rcases he with ⟨ho, ⟨h0, _⟩ | ⟨_, h1, h2⟩⟩
      · exact absurd h0 hb
      · exact ⟨h1, ho, h2⟩
    have HK := Lib.hid K1
    have HB := Lib.hid hb
    clear h K K1 hb
    go_enter_defers Tryd.func42, Tryd.ntmps42
    go_wp2_with fail
    refine (HK.out _ HT.out).mono ?_
    rintro e w1 ⟨rfl, ho, a, hr1⟩
    have g0 : w1.cell? ⟨w.heap.size, 0, none⟩ = some (.pointer (some ⟨g, 0, none⟩)) := by
      rw [ho.cell (p := ⟨w.heap.size, 0, none⟩) (by simp [took]; omega) (by show w.heap.size ≠ g; omega)]
      simp [took, go_sem]
    have g1 : w1.cell? ⟨w.heap.size + 1, 0, none⟩ = some .nilIface := by
      rw [ho.cell (p := ⟨w.heap.size + 1, 0, none⟩) (by simp [took]) (by show w.heap.size + 1 ≠ g; omega)]
      simp [took, go_sem]
    have g2 : w1.frozen? ⟨w.heap.size + 1, 0, none⟩ = false := by
      rw [ho.frozen (p := ⟨w.heap.size + 1, 0, none⟩) (by simp [took]) (by show w.heap.size + 1 ≠ g; omega)]
      simp [took, go_sem]
    have g4 : w1.cell? ⟨w.heap.size + 1 + 1, 0, none⟩ = some (.int .i64 k) := by
      rw [ho.cell (p := ⟨w.heap.size + 1 + 1, 0, none⟩) (by simp [took]) (by show w.heap.size + 1 + 1 ≠ g; omega)]
      simp [took, go_sem]
    have hsz : w.heap.size + 3 ≤ w1.heap.size := by have := ho.size; simp [took] at this; omega
    have HO := Lib.hid ho
    have HR := Lib.hid hr1
    clear ho hr1
    refine leaves_cons (f := 59) (args := #[.pointer (some ⟨w.heap.size + 1 + 1, 0, none⟩), .pointer (some ⟨w.heap.size, 0, none⟩), .pointer (some ⟨w.heap.size + 1, 0, none⟩)]) (by simp) (by simp [go_sem]) ?_
    refine (catch_panicking_u8 _ _ _ g k b .nilIface [] w1 g4 g0 g1 g2 s a HR.out (by show w.heap.size + 1 ≠ g; omega) (by show w.heap.size + 1 < _; omega)).mono ?_
    rintro e u' w'' ⟨rfl, rfl, rfl⟩
    have hR2 : Rdr ((w1.setCell ⟨g, 1, none⟩ (.int .i64 k)).alloc (.cells #[.int .i64 b, .int .i64 k] 36)) g s k := (HR.out.set k).alloc _
    have g5 : ((w1.setCell ⟨g, 1, none⟩ (.int .i64 k)).alloc (.cells #[.int .i64 b, .int .i64 k] 36)).cell? ⟨w.heap.size + 1, 0, none⟩ = some .nilIface := by
      rw [World.cell?_alloc_lt _ _ _ (by simp [World.setCell] <;> omega), World.cell?_setCell_other _ _ _ _ (by simp <;> omega)]
      exact g1
    have g6 : (((w1.setCell ⟨g, 1, none⟩ (.int .i64 k)).alloc (.cells #[.int .i64 b, .int .i64 k] 36)).setCell ⟨w.heap.size + 1, 0, none⟩ (.iface 84 (.pointer (some ⟨w1.heap.size, 0, none⟩)))).cell? ⟨w.heap.size + 1, 0, none⟩ = some (.iface 84 (.pointer (some ⟨w1.heap.size, 0, none⟩))) := World.cell?_setCell_same _ _ _ g5
    simp [Leaves, settle, results, Tryd.results42, go_sem, g6]
    refine ⟨?_, .inr ⟨HB.out, w1.heap.size, rfl, ?_, ?_, ?_, ?_, hR2.other (by show w.heap.size + 1 ≠ g; omega) _⟩⟩
    · exact ((((((Off.refl g w).alloc _).alloc _).alloc _ |>.trans HO.out).set 1 _).alloc _).setOwn (by simp) _
    · rw [World.cell?_setCell_other _ _ _ _ (by simp <;> omega), World.cell?_alloc_at _ _ _ _ (by simp [World.setCell])]
      rfl
    · rw [World.cell?_setCell_other _ _ _ _ (by simp <;> omega), World.cell?_alloc_at _ _ _ _ (by simp [World.setCell])]
      rfl
    · simp [World.setCell]
    · omega

set_option maxRecDepth 100000 in
theorem catch_idle_bool (p q r : Addr) (w : World) :
    CallsD Tryd.prog 60 #[.pointer (some p), .pointer (some q), .pointer (some r)] .returning w fun e u' w' => e = .returned (.tuple #[]) ∧ u' = .returning ∧ w' = w := by
  have hnil : ∀ w : World, (binOp BinOp.neq 20 .nilIface .nilIface).run Tryd.prog w = .ok (.bool false) w := fun _ => by kernel_rfl
  refine callsD_of_wpS Tryd.func60 rfl fun c₀ cs hu => ?_
  apply wpS_seq
  apply wpS_region
  simp [wpOpsS, go_sem, recoverD, hu, Tryd.ntmps60, Exit.thenS]
  apply wpS_seq
  apply wpS_region
  simp [wpOpsS, go_sem, Exit.thenS, hnil]
  refine wpS_cond (t := false) (by simp [Act.eval, Array.replicate]) ?_
  simp only [Bool.false_eq_true, if_false]
  refine wpS_of_wp (wp_skip ?_)
  cases c₀
  simp_all [bodyPostS, results, Tryd.results60]

set_option maxRecDepth 100000 in
set_option maxHeartbeats 1600000 in
theorem catch_panicking_bool (p q r : Addr) (g k c : Nat) (rv : Value) (older : List PanicEntry) (w : World) (hp : w.cell? p = some (.int .i64 k)) (hq : w.cell? q = some (.pointer (some ⟨g, 0, none⟩))) (hr : w.cell? r = some rv) (hrf : w.frozen? r = false) (s : ByteArray) (a : Nat) (hR : Rdr w g s a) (hrg : r.block ≠ g) (hrl : r.block < w.heap.size) :
    CallsD Tryd.prog 60 #[.pointer (some p), .pointer (some q), .pointer (some r)] (.panicking ({ v := .iface 34 (.int .i64 c), recovered := false } :: older)) w fun e u' w' =>
      e = .returned (.tuple #[]) ∧ u' = .panicking ({ v := .iface 34 (.int .i64 c), recovered := true } :: older) ∧
        w' = ((w.setCell ⟨g, 1, none⟩ (.int .i64 k)).alloc (.cells #[.int .i64 c, .int .i64 k] 36)).setCell r (.iface 84 (.pointer (some ⟨w.heap.size, 0, none⟩))) := by
  have hne : ∀ w : World, (binOp BinOp.neq 20 (.iface 34 (.int .i64 c)) .nilIface).run Tryd.prog w = .ok (.bool true) w := fun _ => by kernel_rfl
  have hta : ∀ w : World, (Instr.typeAssert (.iface 34 (.int .i64 c)) 20 34 true).run Tryd.prog w = .ok (.tuple #[.int .i64 c, .bool true]) w := fun _ => by kernel_rfl
  have hc1 := hR.c1
  have hf1 := hR.f1
  have hlt := hR.lt
  have q3 : (w.setCell ⟨g, 1, none⟩ (.int .i64 k)).cell? r = some rv := by
    rw [World.cell?_setCell_other _ _ _ _ (by rintro rfl; exact hrg rfl)]; exact hr
  have q1 : ∀ o, ((w.setCell ⟨g, 1, none⟩ (.int .i64 k)).alloc o).cell? r = some rv := fun o => by
    rw [World.cell?_alloc_lt _ _ _ (by simpa [World.setCell] using hrl)]; exact q3
  have q2 : ∀ o, ((w.setCell ⟨g, 1, none⟩ (.int .i64 k)).alloc o).frozen? r = false := fun o => by
    rw [World.frozen?_alloc_old _ _ r (by simpa [World.setCell] using Nat.ne_of_lt hrl)]
    simpa using hrf
  refine callsD_of_wpS Tryd.func60 rfl fun c₀ cs hu => ?_
  apply wpS_seq
  apply wpS_region
  simp [wpOpsS, go_sem, recoverD, hu, Tryd.ntmps60, Exit.thenS]
  apply wpS_seq
  apply wpS_region
  simp [wpOpsS, go_sem, Exit.thenS, hne]
  refine wpS_cond (t := true) (by simp [Act.eval, Array.replicate]) ?_
  simp only [if_true]
  refine wpS_of_wp ?_
  simp [Array.replicate]
  go_wp2
  simp [bodyPostS, results, Tryd.results60, go_sem]

set_option maxRecDepth 100000 in
set_option maxHeartbeats 1600000 in
theorem take_bool (b : Nat) (v : Value) (x k g : Nat) (s : ByteArray) (w : World) (h : Rdr w g s k) (K : ∀ W, Rdr W g s k → Calls Tryd.prog 45 #[.pointer (some ⟨g, 0, none⟩)] W (TEnd b v x g s W)) :
    Calls Tryd.prog 44 #[.pointer (some ⟨g, 0, none⟩), .func (.func 45) #[] #[]] w (KEnd b v (.bool false) x k g s w) := by
  have hmf : ∀ (fn : Fn) (first cap : Array Value) (w : World), (Instr.makeFunc fn first cap).run Tryd.prog w = .ok (.func fn first cap) w := fun _ _ _ _ => rfl
  have hc1 := h.c1
  have hlt := h.lt
  have HT := Lib.hid (show Rdr (took w g k) g s k from ((h.alloc _).alloc _).alloc _)
  by_cases hb : b = 0
  · have K0 : ∀ W, Rdr W g s k → Calls Tryd.prog 45 #[.pointer (some ⟨g, 0, none⟩)] W fun e w' => e = .returned v ∧ Off g W w' ∧ Rdr w' g s x := fun W hW => (K W hW).mono fun e w' he => by
      rcases he with ⟨ho, ⟨_, h1, h2⟩ | ⟨h0, _⟩⟩
      · exact ⟨h1, ho, h2⟩
      · exact absurd hb h0
    have HK := Lib.hid K0
    have HB := Lib.hid hb
    have HH := Lib.hid h
    clear h K K0 hb
    go_enter_defers Tryd.func44, Tryd.ntmps44
    go_wp2_with fail
    refine (HK.out _ HT.out).mono ?_
    rintro e w1 ⟨rfl, ho, hr1⟩
    have g1 : w1.cell? ⟨w.heap.size + 1, 0, none⟩ = some .nilIface := by
      rw [ho.cell (p := ⟨w.heap.size + 1, 0, none⟩) (by simp [took]) (by show w.heap.size + 1 ≠ g; omega)]
      simp [took, go_sem]
    have g2 : w1.frozen? ⟨w.heap.size + 1, 0, none⟩ = false := by
      rw [ho.frozen (p := ⟨w.heap.size + 1, 0, none⟩) (by simp [took]) (by show w.heap.size + 1 ≠ g; omega)]
      simp [took, go_sem]
    have HO := Lib.hid ho
    have HR := Lib.hid hr1
    clear ho hr1
    go_wp2_with fail
    refine leaves_cons (f := 60) (args := #[.pointer (some ⟨w.heap.size + 1 + 1, 0, none⟩), .pointer (some ⟨w.heap.size, 0, none⟩), .pointer (some ⟨w.heap.size + 1, 0, none⟩)]) (by simp) (by simp [go_sem]) ?_
    refine (catch_idle_bool _ _ _ _).mono ?_
    rintro e u' w'' ⟨rfl, rfl, rfl⟩
    have g3 : (w1.setCell ⟨w.heap.size + 1, 0, none⟩ .nilIface).cell? ⟨w.heap.size + 1, 0, none⟩ = some .nilIface := World.cell?_setCell_same _ _ _ g1
    simp [Leaves, settle, results, Tryd.results44, go_sem, g3]
    exact ⟨((((Off.refl g w).alloc _).alloc _).alloc _ |>.trans HO.out).setOwn (by simp) _, .inl ⟨HB.out, rfl, HR.out.other (by show w.heap.size + 1 ≠ g; omega) _⟩⟩
  · have K1 : ∀ W, Rdr W g s k → Calls Tryd.prog 45 #[.pointer (some ⟨g, 0, none⟩)] W fun e w' => e = .panicked [{ v := .iface 34 (.int .i64 b), recovered := false }] ∧ Off g W w' ∧ ∃ a, Rdr w' g s a := fun W hW => (K W hW).mono fun e w' he => by
      rcases he with ⟨ho, ⟨h0, _⟩ | ⟨_, h1, h2⟩⟩
      · exact absurd h0 hb
      · exact ⟨h1, ho, h2⟩
    have HK := Lib.hid K1
    have HB := Lib.hid hb
    clear h K K1 hb
    go_enter_defers Tryd.func44, Tryd.ntmps44
    go_wp2_with fail
    refine (HK.out _ HT.out).mono ?_
    rintro e w1 ⟨rfl, ho, a, hr1⟩
    have g0 : w1.cell? ⟨w.heap.size, 0, none⟩ = some (.pointer (some ⟨g, 0, none⟩)) := by
      rw [ho.cell (p := ⟨w.heap.size, 0, none⟩) (by simp [took]; omega) (by show w.heap.size ≠ g; omega)]
      simp [took, go_sem]
    have g1 : w1.cell? ⟨w.heap.size + 1, 0, none⟩ = some .nilIface := by
      rw [ho.cell (p := ⟨w.heap.size + 1, 0, none⟩) (by simp [took]) (by show w.heap.size + 1 ≠ g; omega)]
      simp [took, go_sem]
    have g2 : w1.frozen? ⟨w.heap.size + 1, 0, none⟩ = false := by
      rw [ho.frozen (p := ⟨w.heap.size + 1, 0, none⟩) (by simp [took]) (by show w.heap.size + 1 ≠ g; omega)]
      simp [took, go_sem]
    have g4 : w1.cell? ⟨w.heap.size + 1 + 1, 0, none⟩ = some (.int .i64 k) := by
      rw [ho.cell (p := ⟨w.heap.size + 1 + 1, 0, none⟩) (by simp [took]) (by show w.heap.size + 1 + 1 ≠ g; omega)]
      simp [took, go_sem]
    have hsz : w.heap.size + 3 ≤ w1.heap.size := by have := ho.size; simp [took] at this; omega
    have HO := Lib.hid ho
    have HR := Lib.hid hr1
    clear ho hr1
    refine leaves_cons (f := 60) (args := #[.pointer (some ⟨w.heap.size + 1 + 1, 0, none⟩), .pointer (some ⟨w.heap.size, 0, none⟩), .pointer (some ⟨w.heap.size + 1, 0, none⟩)]) (by simp) (by simp [go_sem]) ?_
    refine (catch_panicking_bool _ _ _ g k b .nilIface [] w1 g4 g0 g1 g2 s a HR.out (by show w.heap.size + 1 ≠ g; omega) (by show w.heap.size + 1 < _; omega)).mono ?_
    rintro e u' w'' ⟨rfl, rfl, rfl⟩
    have hR2 : Rdr ((w1.setCell ⟨g, 1, none⟩ (.int .i64 k)).alloc (.cells #[.int .i64 b, .int .i64 k] 36)) g s k := (HR.out.set k).alloc _
    have g5 : ((w1.setCell ⟨g, 1, none⟩ (.int .i64 k)).alloc (.cells #[.int .i64 b, .int .i64 k] 36)).cell? ⟨w.heap.size + 1, 0, none⟩ = some .nilIface := by
      rw [World.cell?_alloc_lt _ _ _ (by simp [World.setCell] <;> omega), World.cell?_setCell_other _ _ _ _ (by simp <;> omega)]
      exact g1
    have g6 : (((w1.setCell ⟨g, 1, none⟩ (.int .i64 k)).alloc (.cells #[.int .i64 b, .int .i64 k] 36)).setCell ⟨w.heap.size + 1, 0, none⟩ (.iface 84 (.pointer (some ⟨w1.heap.size, 0, none⟩)))).cell? ⟨w.heap.size + 1, 0, none⟩ = some (.iface 84 (.pointer (some ⟨w1.heap.size, 0, none⟩))) := World.cell?_setCell_same _ _ _ g5
    simp [Leaves, settle, results, Tryd.results44, go_sem, g6]
    refine ⟨?_, .inr ⟨HB.out, w1.heap.size, rfl, ?_, ?_, ?_, ?_, hR2.other (by show w.heap.size + 1 ≠ g; omega) _⟩⟩
    · exact ((((((Off.refl g w).alloc _).alloc _).alloc _ |>.trans HO.out).set 1 _).alloc _).setOwn (by simp) _
    · rw [World.cell?_setCell_other _ _ _ _ (by simp <;> omega), World.cell?_alloc_at _ _ _ _ (by simp [World.setCell])]
      rfl
    · rw [World.cell?_setCell_other _ _ _ _ (by simp <;> omega), World.cell?_alloc_at _ _ _ _ (by simp [World.setCell])]
      rfl
    · simp [World.setCell]
    · omega
end Go.Proofs.YtllkflbkndfdeaaDoor
