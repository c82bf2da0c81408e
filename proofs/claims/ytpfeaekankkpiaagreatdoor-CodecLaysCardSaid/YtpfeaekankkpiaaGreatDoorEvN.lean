/-
  The closed calls of this seat: what the evaluator is told of the library's calls, and the heap that it begins with.
-/
import Derived.Test.YtpfeaekankkpiaaGreatDoorEvM
import Derived.Test.YtpfeaekankkpiaaGreatDoorEvAs
import Derived.Test.YtpfeaekankkpiaaGreatDoorRows
namespace Go.Proofs.YtpfeaekankkpiaaGreatDoor
open Go Go.RowKit Go.Ev Go.Extern

/-- What is told of errors.As at an error that is a *api.Fault, of reflectlite.TypeOf, and of Comparable at api.Errno. -/
noncomputable def orc : Orc := fun f args h =>
  match f, args with
  | 51, [.iface 129 (.ptr e o), .iface 131 (.ptr t p)] => (match h.get 0 with
    | some (.cells [.iface 152 (.agg [.raw (.pointer (some ⟨1, 91, none⟩))])] _ true _) => (match putCells h t p [.ptr e o] with
      | some h' => some (.bool true, h')
      | none => none)
    | _ => none)
  | 59, [.iface t _] => some (.iface 152 (.agg [.raw (.pointer (some ⟨1, t, none⟩))]), h)
  | 133, [.agg [.raw (.pointer (some ⟨1, 99, none⟩))]] => some (.bool true, h)
  | _, _ => none

noncomputable def h0 (tt : TypeId) : AH := { n := 1, t := (Tr.nil).put 24 0 (some (.cells [.iface 152 (.agg [.raw (.pointer (some ⟨1, 91, none⟩))])] tt true 0)) }

theorem typeOf_any (t : TypeId) (v : Value) (w : World) : (ReflectliteType.typeOf #[.iface t v]).run Tryz.prog w = .ok (.iface 152 (.agg #[.pointer (some ⟨1, t, none⟩)])) w := by kernel_rfl
theorem call56 (t : TypeId) (v : Value) (w : World) : (callFunc 59 #[.iface t v]).run Tryz.prog w = .ok (.value (.iface 152 (.agg #[.pointer (some ⟨1, t, none⟩)]))) w := by
  have h10 := @run_callFunc_extern Tryz.prog 59 _ ReflectliteType.typeOf Tryz.func59 (by kernel_rfl) (by kernel_rfl) (by kernel_rfl) (by kernel_rfl)
  rw [h10]
  simp [typeOf_any]
theorem call91 (w : World) : (callFunc 133 #[.agg #[.pointer (some ⟨1, 99, none⟩)]]).run Tryz.prog w = .ok (.value (.bool true)) w := by kernel_rfl

theorem names : Tryz.prog.funcs.toList.all (fun fn => !(fn.name == "runtime.NumGoroutine")) = true := by kernel_rfl

theorem putCells_cell {B : Nat → Nat} {μ : List (Nat × Nat)} {h h' : AH} {w : World} {id b off : Nat} {a : AV} {cs : List AV} (H : HR B μ h w) (ha : putCells h id off (a :: cs) = some h') (hb : blk μ id = some b) :
    ∃ old, w.cell? ⟨b, off, none⟩ = some old ∧ w.frozen? ⟨b, off, none⟩ = false := by
  unfold putCells at ha
  split at ha
  · rename_i cs0 t g hg
    cases ho : (a :: cs).all AV.one with
    | false => rw [ho] at ha; simp at ha
    | true =>
      rw [ho] at ha
      simp only [cond_true] at ha
      split at ha
      · rename_i r hr
        obtain ⟨C, h0, arr, fz, hw, hv0, hro, hC⟩ := H.at hg hb
        have hcl := VRs_length hv0
        have hle := over_len hr
        have hlt : off < arr.size := by simp at hcl hle; omega
        refine ⟨arr[off], by rw [cell_of_block hw]; simp [hlt], ?_⟩
        have := (hro rfl).2 off hlt
        obtain ⟨lo, hi⟩ := fz
        simp only [World.frozen?, hw]
        simpa using this
      · simp at ha
  · simp at ha

theorem orc_sound : CallSound Tryz.prog 1 orc := by
  intro B f args h v h' hc μ w vs H hG hv
  unfold orc at hc
  split at hc
  · rename_i e o t p
    split at hc
    · rename_i tt g hg
      split at hc
      · rename_i h'' hp
        simp at hc
        obtain ⟨rfl, rfl⟩ := hc
        obtain ⟨u1, u2, rfl, r1, r2⟩ := two_VRs hv
        unfold VR at r1 r2
        obtain ⟨x1, rfl, r1⟩ := r1
        obtain ⟨x2, rfl, r2⟩ := r2
        have r1' := r1
        unfold VR at r1 r2
        obtain ⟨be, _, rfl⟩ := r1
        obtain ⟨bt, hbt, rfl⟩ := r2
        have hg0 : w.cell? ⟨0, 0, none⟩ = some (.iface 152 (.agg #[.pointer (some ⟨1, 91, none⟩)])) := by
          obtain ⟨C, _, arr, fz, hw, hv0, _⟩ := H.at hg (hG 0 (by omega))
          rw [cell_of_block hw]
          rw [VRs_cons] at hv0
          obtain ⟨y, rest, e1, e2, _⟩ := hv0
          unfold VR at e2
          obtain ⟨z, rfl, e3⟩ := e2
          unfold VR at e3
          obtain ⟨zs, rfl, e4⟩ := e3
          obtain ⟨q, e5, e6⟩ := one_VRs e4
          unfold VR at e6
          subst e6
          have hzs : zs = #[.pointer (some ⟨1, 91, none⟩)] := by rw [← Array.toArray_toList (xs := zs), e5]
          subst hzs
          have : (arr.toList.take 1)[0]? = some (.iface 152 (.agg #[.pointer (some ⟨1, 91, none⟩)])) := by
            have e1' : arr.toList.take 1 = .iface 152 (.agg #[.pointer (some ⟨1, 91, none⟩)]) :: rest := e1
            rw [e1']; rfl
          rw [List.getElem?_take] at this
          simpa using this
        obtain ⟨old, c1, c2⟩ := putCells_cell H hp hbt
        refine .inr ⟨?_, ?_⟩
        · have h1 : Tryz.f51.name ≠ "runtime.NumGoroutine" := by
            have := List.all_eq_true.1 names Tryz.f51 (List.mem_of_getElem? (i := 51) (by rw [Array.getElem?_toList]; exact Tryz.func51))
            simpa using this
          have hb : ∃ c, Tryz.f51.body = some c := ⟨_, rfl⟩
          obtain ⟨c, hb⟩ := hb
          simp [callFunc, Tryz.func51, h1, hb]
        · refine (as_hit ⟨be, o, none⟩ ⟨bt, p, none⟩ old w hg0 c1 c2).mono ?_
          rintro ev w' ⟨rfl, rfl⟩
          have H4 := (((H.beside (w' := w.alloc (.cells #[.pointer (some ⟨bt, p, none⟩)] 131)) (by simp) (fun b hb => heap_push_lt _ _ b hb)).beside (w' := (w.alloc (.cells #[.pointer (some ⟨bt, p, none⟩)] 131)).alloc (.cells #[.pointer (some ⟨1, 131, none⟩), .pointer (some ⟨w.heap.size, 0, none⟩), .int .u64 150] 140)) (by simp) (fun b hb => heap_push_lt _ _ b hb)).beside
            (w' := ((w.alloc (.cells #[.pointer (some ⟨bt, p, none⟩)] 131)).alloc (.cells #[.pointer (some ⟨1, 131, none⟩), .pointer (some ⟨w.heap.size, 0, none⟩), .int .u64 150] 140)).alloc (.cells #[.pointer (some ⟨1, 131, none⟩), .pointer (some ⟨w.heap.size, 0, none⟩), .int .u64 150] 140)) (by simp) (fun b hb => heap_push_lt _ _ b hb)).beside
            (w' := (((w.alloc (.cells #[.pointer (some ⟨bt, p, none⟩)] 131)).alloc (.cells #[.pointer (some ⟨1, 131, none⟩), .pointer (some ⟨w.heap.size, 0, none⟩), .int .u64 150] 140)).alloc (.cells #[.pointer (some ⟨1, 131, none⟩), .pointer (some ⟨w.heap.size, 0, none⟩), .int .u64 150] 140)).alloc (.cells #[.pointer (some ⟨be, o, none⟩)] 129)) (by simp) (fun b hb => heap_push_lt _ _ b hb)
          obtain ⟨old4, d1, d2⟩ := putCells_cell H4 hp hbt
          obtain ⟨w5, s1, s2, s3⟩ := putCells_run (P := Tryz.prog) H4 hp hbt (vs := [.pointer (some ⟨be, o, none⟩)]) (by rw [VRs_cons]; exact ⟨_, _, rfl, r1', by rw [VRs_nil]⟩)
          have hst : (Go.storeCells ⟨bt, p, none⟩ [.pointer (some ⟨be, o, none⟩)]).run Tryz.prog ((((w.alloc (.cells #[.pointer (some ⟨bt, p, none⟩)] 131)).alloc (.cells #[.pointer (some ⟨1, 131, none⟩), .pointer (some ⟨w.heap.size, 0, none⟩), .int .u64 150] 140)).alloc (.cells #[.pointer (some ⟨1, 131, none⟩), .pointer (some ⟨w.heap.size, 0, none⟩), .int .u64 150] 140)).alloc (.cells #[.pointer (some ⟨be, o, none⟩)] 129))
              = .ok () (((((w.alloc (.cells #[.pointer (some ⟨bt, p, none⟩)] 131)).alloc (.cells #[.pointer (some ⟨1, 131, none⟩), .pointer (some ⟨w.heap.size, 0, none⟩), .int .u64 150] 140)).alloc (.cells #[.pointer (some ⟨1, 131, none⟩), .pointer (some ⟨w.heap.size, 0, none⟩), .int .u64 150] 140)).alloc (.cells #[.pointer (some ⟨be, o, none⟩)] 129)).setCell ⟨bt, p, none⟩ (.pointer (some ⟨be, o, none⟩))) := by
            simp only [Go.storeCells, Sem.run_bind, add_lit, Nat.add_zero]
            have : ∀ (W : World), W.cell? ⟨bt, p, none⟩ = some old4 → W.frozen? ⟨bt, p, none⟩ = false → (Go.store ⟨bt, p, none⟩ (.pointer (some ⟨be, o, none⟩))).run Tryz.prog W = .ok () (W.setCell ⟨bt, p, none⟩ (.pointer (some ⟨be, o, none⟩))) := by
              intro W g1 g2
              simp [Go.store, Sem.run, g1, g2]
            rw [this _ d1 d2]
            rfl
          rw [hst] at s1
          simp only [Result.ok.injEq, true_and] at s1
          rw [s1]
          refine ⟨μ, .bool true, List.prefix_refl _, rfl, by simp [VR], s2, ?_⟩
          have hB := H.bsz
          have hB' : ∀ n k, B k ≠ 0 → k < w.heap.size + n := fun n k hk => by have := hB k hk; omega
          exact ((((Bel.refl B w).alloc hB _).alloc (by simpa using hB' 1) _).alloc (by simpa using hB' 2) _).alloc (by simpa using hB' 3) _ |>.trans s3
      · simp at hc
    · simp at hc
  · rename_i t x
    simp at hc
    obtain ⟨rfl, rfl⟩ := hc
    obtain ⟨u, e1, e2⟩ := one_VRs hv
    have hvs : vs = #[u] := by rw [← Array.toArray_toList (xs := vs), e1]
    subst hvs
    unfold VR at e2
    obtain ⟨y, rfl, _⟩ := e2
    refine .inl ⟨μ, w, _, List.prefix_refl _, call56 t y w, ?_, H, Bel.refl _ _⟩
    unfold VR
    refine ⟨_, rfl, ?_⟩
    unfold VR
    exact ⟨_, rfl, by rw [VRs_cons]; exact ⟨_, _, rfl, by simp [VR], by simp [VRs_nil]⟩⟩
  · simp at hc
    obtain ⟨rfl, rfl⟩ := hc
    obtain ⟨u, e1, e2⟩ := one_VRs hv
    have hvs : vs = #[u] := by rw [← Array.toArray_toList (xs := vs), e1]
    subst hvs
    unfold VR at e2
    obtain ⟨zs, rfl, e3⟩ := e2
    obtain ⟨q, e5, e6⟩ := one_VRs e3
    unfold VR at e6
    subst e6
    have hzs : zs = #[.pointer (some ⟨1, 99, none⟩)] := by rw [← Array.toArray_toList (xs := zs), e5]
    subst hzs
    exact .inl ⟨μ, w, _, List.prefix_refl _, call91 w, by simp [VR], H, Bel.refl _ _⟩
  · simp at hc

theorem env : Env Tryz.prog 1 orc where
  name := fun f fn hf => by
    have := List.all_eq_true.1 names fn (List.mem_of_getElem? (i := f) (by rw [Array.getElem?_toList]; exact hf))
    simpa using this
  mix := by kernel_rfl
  orc := orc_sound

/-- The heap that the evaluator begins with stands for any world's in which the listed variable is laid. -/
theorem h0_stands {w : World} (hg : w.cell? ⟨0, 0, none⟩ = some (.iface 152 (.agg #[.pointer (some ⟨1, 91, none⟩)]))) : ∃ tt, HR (under w.heap.size) [(0, 0)] (h0 tt) w := by
  unfold World.cell? at hg
  split at hg
  · rename_i c tt fz hw
    simp at hg
    have hget : ∀ i o, (h0 tt).t.get i = some o → i = 0 ∧ o = .cells [.iface 152 (.agg [.raw (.pointer (some ⟨1, 91, none⟩))])] tt true 0 := by
      intro i o ho
      unfold h0 at ho
      simp only [Tr.get_put24 _ _ _ (show 0 < 1000000 by omega)] at ho
      split at ho
      · rename_i e
        simp only [Option.some.injEq] at ho
        exact ⟨e, ho.symm⟩
      · rw [Tr.get_nil] at ho; simp at ho
    have h0w : 0 < w.heap.size := (Array.getElem?_eq_some_iff.1 hw).1
    refine ⟨tt, rfl, ?_, ?_, fun k hk => under_lt hk, by unfold h0; simp⟩
    · intro id o ho
      obtain ⟨rfl, rfl⟩ := hget id o ho
      refine ⟨0, 0, rfl, c, fz, hw, ?_, fun e => by simp at e, by simp, by simp [under, h0w]⟩
      have hc : c.toList.take 1 = [.iface 152 (.agg #[.pointer (some ⟨1, 91, none⟩)])] := by
        have : c.toList[0]? = some (.iface 152 (.agg #[.pointer (some ⟨1, 91, none⟩)])) := by simpa using hg
        cases hl : c.toList with
        | nil => rw [hl] at this; simp at this
        | cons x l => rw [hl] at this; simp at this; subst this; rfl
      show VRs _ _ (c.toList.take 1)
      rw [hc, VRs_cons]
      refine ⟨_, _, rfl, ?_, by rw [VRs_nil]⟩
      unfold VR
      refine ⟨_, rfl, ?_⟩
      unfold VR
      exact ⟨_, rfl, by rw [VRs_cons]; exact ⟨_, _, rfl, by simp [VR], by simp [VRs_nil]⟩⟩
    · intro i j o p b hi hj _ _
      rw [(hget i o hi).1, (hget j p hj).1]
  · simp at hg

theorem G1 : ∀ g, g < 1 → blk [(0, 0)] g = some g := by
  intro g hg
  obtain rfl : g = 0 := by omega
  rfl

/-- A closed call of this program that the evaluator says to be true. -/
theorem closed_here {f : FuncId} {fuel : Nat} (hc : ∀ tt, isTrue (acall Tryz.prog 1 orc fuel f [] (h0 tt)) = true) {w : World} (hg : w.cell? ⟨0, 0, none⟩ = some (.iface 152 (.agg #[.pointer (some ⟨1, 91, none⟩)]))) :
    Calls Tryz.prog f #[] w fun e w' => e = .returned (.bool true) ∧ Below w.heap.size w w' := by
  obtain ⟨tt, H⟩ := h0_stands hg
  exact (closed_true env (hc tt) H G1).mono fun e w' hh => ⟨hh.1, hh.2.below⟩
end Go.Proofs.YtpfeaekankkpiaaGreatDoor
