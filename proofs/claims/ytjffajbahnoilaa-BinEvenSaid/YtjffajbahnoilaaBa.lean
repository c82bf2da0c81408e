/-
  Ranges over a function that does not end by itself: the loop's body returns at last.
-/
import Derived.RangeFuncNested
import Derived.RangeFuncBound
import Derived.RangeFuncCalls
import Derived.RangeFuncLeaves
import Derived.RangeFuncBox
import Derived.Shelf.Abstract
import Derived.Shelf.RegionOpen
import Derived.WalkKit
import Derived.OwnWalkIn
import Derived.TacticsInMore
import Derived.LoopNIn
import Derived.LoopIn
import Derived.ProofKit
import Derived.Deep.AppendLies
import Derived.Lib.Hide
import Derived.BigQuiet
import Derived.Sort.LoopGhostIn
import Derived.Handy
import Derived.Test.YtjffajbahnoilaaEvM
import Derived.Test.YtjffajbahnoilaaEvO
import Derived.Test.YtjffajbahnoilaaEvR
import Derived.Test.YtjffajbahnoilaaRows
namespace Go.Proofs.Ytjffajbahnoilaa
open Go Go.RowKit Go.Lib Go.Shelf
attribute [local go_sem] Oper.semAt_some

/-- What stays: the blocks below n, but for g. -/
structure Old (n g : Nat) (W W' : World) : Prop where
  os : W'.os = W.os
  tape : W'.tape = W.tape
  output : W'.output = W.output
  size : W.heap.size ≤ W'.heap.size
  old : ∀ b, b < n → b ≠ g → W'.heap[b]? = W.heap[b]?
theorem Old.refl (n g : Nat) (W : World) : Old n g W W := ⟨rfl, rfl, rfl, Nat.le_refl _, fun _ _ _ => rfl⟩
theorem Old.trans {n g : Nat} {X Y Z : World} (h : Old n g X Y) (h' : Old n g Y Z) : Old n g X Z :=
  ⟨h'.os.trans h.os, h'.tape.trans h.tape, h'.output.trans h.output, Nat.le_trans h.size h'.size, fun b hb hg => (h'.old b hb hg).trans (h.old b hb hg)⟩
theorem Old.put {n g : Nat} (W : World) (b : Nat) (o : Obj) (h1 : n ≤ b) : Old n g W (W.putObj b o) :=
  ⟨rfl, rfl, rfl, by simp, fun _ h _ => World.putObj_heap_other (by omega)⟩
theorem Old.alloc {n g : Nat} (W : World) (o : Obj) (h1 : n ≤ W.heap.size) : Old n g W (W.alloc o) :=
  ⟨rfl, rfl, rfl, by simp, fun _ h _ => Below.heap_alloc _ _ _ (by omega)⟩
theorem Old.set {n g : Nat} (W : World) (a : Addr) (u : Value) (h1 : n ≤ a.block ∨ a.block = g) : Old n g W (W.setCell a u) :=
  ⟨rfl, rfl, rfl, by simp [World.setCell], fun b h hg => Below.heap_setCell _ _ _ _ (by omega)⟩

/-- A function over which one ranges: the k-th value that it gives; it must be left in the M-th round at last. -/
def SeqUpTo (gf : Nat) (lb : Array Value) (vals : Nat → Value) (M n g : Nat) (w : World) : Prop :=
  ∀ (ll : Nat) (J Jx : Nat → World → Prop) (W : World), Old n g w W → (∀ k A, J k A → k ≤ M) →
    (∀ k A, J k A → YieldAt Fence.wide 8 Try.prog ll #[vals k] A fun e A' => (e = .returned (.bool true) ∧ J (k + 1) A' ∧ Old n g A A') ∨ (e = .returned (.bool false) ∧ Jx (k + 1) A')) →
    J 0 W →
    CallsIn Fence.wide 9 Try.prog gf (#[.func (.yield ll) #[] #[]] ++ lb) W fun e W' => (∃ v, e = .returned v) ∧ ∃ k, Jx k W'

/-- Whatever turns in two blocks, it abides. -/
def Abid2 (B : Nat) (J : World → Prop) : Prop := (∀ A o, J A → J (A.alloc o)) ∧ ∀ A b o, J A → B ≤ b → b < B + 2 → J (A.putObj b o)

structure Lv (n g B : Nat) (W W' : World) : Prop where
  old : Old n g W W'
  own : ∀ b, B ≤ b → b < B + 2 → W'.heap[b]? = W.heap[b]?

/-- How a round ends. -/
def endsRound (R Rx : World → Prop) : Exit → Act → World → Prop
  | .normal, _, W => R W
  | .ret, _, W => Rx W
  | _, _, _ => False

theorem range_upto {gx : Operand} {ps : Array Tmp} {assign body : Code} {Q : Exit → Act → World → Prop} {a : Act} {w w0 : World} {gf : Nat} {lb : Array Value} {vals : Nat → Value} {M n g : Nat}
    (hg : a.eval gx = .func (.func gf) #[] lb) (eg : ∀ args w, (callFunc gf args).run Try.prog w = .ok (.enter gf args) w) (hseq : SeqUpTo gf lb vals M n g w0) (hb0 : Old n g w0 w) (hps : ps.size = 1)
    (hn : n ≤ w.heap.size) (hgn : g < n)
    (I Ix : Nat → World → Prop) (hI : ∀ k, Abid2 w.heap.size (I k)) (hIx : ∀ k, Abid2 w.heap.size (Ix k)) (h0 : I 0 w) (hM : ∀ k A, I k A → k ≤ M) (Ax : Nat → Act → Prop)
    (hassign : ∀ (ll k : Nat) (W : World) (K : Act → World → Prop), I k W → (∀ a', Ax k a' → K a' W) →
      assign.wpIn (Fence.wide.inRound ll) 8 Try.prog (Exit.then K (fun _ _ _ => False)) { tmps := (ps.zip #[vals k]).foldl (fun t (p, v) => t.setIfInBounds p v) a.tmps, defers := [] } W)
    (hbody : ∀ (ll k : Nat) (a' : Act) (W : World), I k W → Ax k a' → w.heap.size + 2 ≤ W.heap.size →
      body.wpIn (Fence.wide.inRound ll) 8 Try.prog (endsRound (fun W' => Lv n g w.heap.size W W' ∧ I (k + 1) W') (fun W' => Lv n g w.heap.size W W' ∧ Ix (k + 1) W')) a' W)
    (hstop : ∀ k W, Ix k W → W.heap[w.heap.size]? = some (.deferred (some [])) → Code.ret.wpIn Fence.wide 10 Try.prog Q { a with defers := { target := .collected w.heap.size, args := #[] } :: a.defers } W) :
    (Code.rangeFunc gx ps assign body).wpIn Fence.wide 10 Try.prog Q a w := by
  refine wpIn_rangeFunc fun fn hfn => ?_
  obtain ⟨rec, hrec⟩ : ∃ rec : LoopState → Option Code → Loop, rec = fun st pe => { state := st, pending := pe, fn, tmps := a.tmps, params := ps, assign, body, defers := w.heap.size } := ⟨_, rfl⟩
  obtain ⟨W1, hW1⟩ : ∃ W1, (w.alloc (.deferred (some []))).alloc (.loop (rec .ready none)) = W1 := ⟨_, rfl⟩
  have s1 : W1.heap.size = w.heap.size + 2 := by rw [← hW1]; simp
  have L1 : W1.heap[w.heap.size + 1]? = some (.loop (rec .ready none)) := by
    have := World.alloc_heap_new (w.alloc (.deferred (some []))) (.loop (rec .ready none))
    rw [← hW1]; rwa [World.size_alloc] at this
  have D1 : W1.heap[w.heap.size]? = some (.deferred (some [])) := by
    rw [← hW1]; exact (Below.heap_alloc _ _ _ (by simp)).trans (World.alloc_heap_new w _)
  have I1 : I 0 W1 := by
    rw [← hW1]
    exact (hI 0).1 _ _ ((hI 0).1 _ _ h0)
  have B1 : Old n g w0 W1 := by
    rw [← hW1]
    exact (hb0.trans (Old.alloc _ _ hn)).trans (Old.alloc _ _ (by simp; omega))
  refine ⟨w.heap.size + 1, [{ target := .collected w.heap.size, args := #[] }], W1, { target := .fn (.func gf) lb, args := #[.func (.yield (w.heap.size + 1)) #[] #[]] }, W1, gf,
    #[.func (.yield (w.heap.size + 1)) #[] #[]] ++ lb, W1, ?_, ?_, ?_, ?_, fun _ => by omega, ?_⟩
  · rw [← hW1, hrec]; exact run_enterLoop_outer _ _ _ _ _
  · simp only [resolve, hg]
    simp [go_sem]
  · intro f' hf'; trivial
  · simp [invoke, go_sem, eg]
  refine (hseq (w.heap.size + 1) (fun k W => I k W ∧ W.heap[w.heap.size + 1]? = some (.loop (rec .ready none)) ∧ W.heap[w.heap.size]? = some (.deferred (some [])) ∧ w.heap.size + 2 ≤ W.heap.size)
    (fun k W => Ix k W ∧ W.heap[w.heap.size + 1]? = some (.loop (rec .done (some .ret))) ∧ W.heap[w.heap.size]? = some (.deferred (some []))) W1 B1 (fun k A h => hM k A h.1) ?_ ⟨I1, L1, D1, by omega⟩).mono ?_
  · rintro k W ⟨hi, hl, hk, hz⟩
    have hlt := (Array.getElem?_eq_some_iff.1 hl).1
    have hy := run_yield (P := Try.prog) (args := #[vals k]) hl (by rw [hrec]; simp [hps])
    rw [hrec] at hy
    refine ⟨fn, _, assign, body, hy, roundIn_of_wpIn hfn (hassign _ k W _ hi ?_)⟩
    clear hy
    intro a' xa
    refine ⟨_, run_beginRound hl (by rw [hrec]), ?_⟩
    obtain ⟨Wb, hWb⟩ : ∃ Wb, W.putObj (w.heap.size + 1) (.loop { rec .ready none with state := .busy }) = Wb := ⟨_, rfl⟩
    have hlb : Wb.heap[w.heap.size + 1]? = some (.loop { rec .ready none with state := .busy }) := by rw [← hWb]; exact World.putObj_heap_same hlt
    have hkb : Wb.heap[w.heap.size]? = some (.deferred (some [])) := by rw [← hWb]; exact (World.putObj_heap_other (by omega)).trans hk
    have ib : I k Wb := by rw [← hWb]; exact (hI k).2 _ _ _ hi (by omega) (by omega)
    have kb : Old n g W Wb := by rw [← hWb]; exact Old.put _ _ _ (by omega)
    have sb : w.heap.size + 2 ≤ Wb.heap.size := Nat.le_trans hz kb.size
    rw [hWb]
    refine wpIn_mono (hbody _ k a' Wb ib xa sb) ?_
    rintro e a3 W3 hp
    cases e with
    | normal =>
      obtain ⟨k3, i3⟩ := hp
      have hl3 := (k3.own (w.heap.size + 1) (by omega) (by omega)).trans hlb
      have hk3 := (k3.own w.heap.size (by omega) (by omega)).trans hkb
      have hlt3 := (Array.getElem?_eq_some_iff.1 hl3).1
      refine ⟨_, _, run_endRound none hl3, .inl ⟨rfl, ⟨?_, ?_, ?_, ?_⟩, ?_⟩⟩
      · exact (hI (k + 1)).2 _ _ _ i3 (by omega) (by omega)
      · refine (World.putObj_heap_same hlt3).trans ?_
        rw [hrec]; rfl
      · exact (World.putObj_heap_other (by omega)).trans hk3
      · have := k3.old.size; simp; omega
      · exact (kb.trans k3.old).trans (Old.put _ _ _ (by omega))
    | ret =>
      obtain ⟨k3, i3⟩ := hp
      have hl3 := (k3.own (w.heap.size + 1) (by omega) (by omega)).trans hlb
      have hk3 := (k3.own w.heap.size (by omega) (by omega)).trans hkb
      have hlt3 := (Array.getElem?_eq_some_iff.1 hl3).1
      refine ⟨_, _, run_endRound (some .ret) hl3, .inr ⟨rfl, ⟨?_, ?_, ?_⟩⟩⟩
      · exact (hIx (k + 1)).2 _ _ _ i3 (by omega) (by omega)
      · refine (World.putObj_heap_same hlt3).trans ?_
        rw [hrec]; rfl
      · exact (World.putObj_heap_other (by omega)).trans hk3
    | exit id => exact hp.elim
    | goto t => exact hp.elim
    | panic ch => exact hp.elim
    | outgrown => exact hp.elim
  · rintro e W2 ⟨⟨v, rfl⟩, k, hi, hl, hk⟩
    have he := run_endLoop (P := Try.prog) hl (by rw [hrec]; simp)
    rw [hrec] at he
    exact ⟨some .ret, _, he, hstop k _ ((hIx k).2 _ _ _ hi (by omega) (by omega)) ((World.putObj_heap_other (by omega)).trans hk)⟩
end Go.Proofs.Ytjffajbahnoilaa
