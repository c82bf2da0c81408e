/-
  Ranges over a function that keeps blocks of its own, which it writes between two rounds.
-/
import Derived.Test.YteiedknpmlemkaaWl
namespace Go.Proofs.Yteiedknpmlemkaa
open Go Go.RowKit Go.Lib Go.Shelf
attribute [local go_sem] Oper.semAt_some

/-- What a round leaves alone: the blocks below n, k blocks from B on, and those from D on, below T. -/
structure Leaves (n B k D T : Nat) (W W' : World) : Prop where
  size : W.heap.size ≤ W'.heap.size
  old : ∀ b, b < n → W'.heap[b]? = W.heap[b]?
  own : ∀ b, B ≤ b → b < B + k → W'.heap[b]? = W.heap[b]?
  late : ∀ b, D ≤ b → b < T → W'.heap[b]? = W.heap[b]?
theorem Leaves.trans {n B k D T : Nat} {X Y Z : World} (h : Leaves n B k D T X Y) (h' : Leaves n B k D T Y Z) : Leaves n B k D T X Z :=
  ⟨Nat.le_trans h.size h'.size, fun b hb => (h'.old b hb).trans (h.old b hb), fun b h1 h2 => (h'.own b h1 h2).trans (h.own b h1 h2), fun b h1 h2 => (h'.late b h1 h2).trans (h.late b h1 h2)⟩
theorem Leaves.put {n B k D T : Nat} (W : World) (b : Nat) (o : Obj) (h1 : n ≤ b) (h2 : b < B ∨ B + k ≤ b) (h3 : b < D ∨ T ≤ b) : Leaves n B k D T W (W.putObj b o) :=
  ⟨by simp, fun _ h => World.putObj_heap_other (by omega), fun _ _ _ => World.putObj_heap_other (by omega), fun _ _ _ => World.putObj_heap_other (by omega)⟩

/-- An invariant that abides whatever turns in these blocks. -/
def Abid {β : Type} (B k : Nat) (J : β → World → Prop) : Prop := ∀ s A A' row, J s A → A.grownBy A' row → (∀ r, row = some r → B ≤ r ∧ r < B + k) → J s A'

/-- A function over which one ranges, that gives these windows, and keeps k blocks of its own, the first that it makes. Where a round ends, all that the loop has made lies below D. -/
def GivesOwn (gf : Nat) (lb : Array Value) (l : List Win) (N k : Nat) (w : World) : Prop :=
  ∀ (ll : Nat) (J : List Win × Nat → World → Prop) (W : World), Below w.heap.size w W → Abid W.heap.size k J →
    (∀ pre x D W1, J (pre, D) W1 → pre.length < N → W.heap.size + k ≤ W1.heap.size → W.heap.size ≤ D → YieldAt Fence.wide 8 Try.prog ll #[wv x] W1 fun e W' => e = .returned (.bool true) ∧ J (pre ++ [x], W'.heap.size) W' ∧ Leaves w.heap.size W.heap.size k D W1.heap.size W1 W') →
    J ([], W.heap.size) W →
    CallsIn Fence.wide 9 Try.prog gf (#[.func (.yield ll) #[] #[]] ++ lb) W fun e W' => (∃ v, e = .returned v) ∧ ∃ D, J (l, D) W'

/-- How a round ends that goes on. -/
def goesOn (R : World → Prop) : Exit → Act → World → Prop
  | .normal, _, W => R W
  | _, _, _ => False

theorem range_own {g : Operand} {ps : Array Tmp} {assign body : Code} {Q : Exit → Act → World → Prop} {a : Act} {w w0 : World} {gf : Nat} {lb : Array Value} {l : List Win} {N k : Nat}
    (hg : a.eval g = .func (.func gf) #[] lb) (eg : ∀ args w, (callFunc gf args).run Try.prog w = .ok (.enter gf args) w) (hseq : GivesOwn gf lb l N k w0) (hb0 : Below w0.heap.size w0 w) (hps : ps.size = 1)
    (I : List Win × Nat → World → Prop) (hI : Abid w.heap.size (2 + k) I) (h0 : I ([], w.heap.size + 2) w) (Ax : Win → Act → World → Prop) (hAx : ∀ x a', Abid w.heap.size 2 (fun (_ : Unit) W => Ax x a' W))
    (hassign : ∀ (ll : Nat) (pre : List Win) (x : Win) (D : Nat) (W : World) (K : Act → World → Prop), I (pre, D) W → w.heap.size + 2 + k ≤ W.heap.size →
      (∀ a' W', Leaves w0.heap.size w.heap.size (2 + k) D W.heap.size W W' → I (pre, D) W' → Ax x a' W' → K a' W') →
      assign.wpIn (Fence.wide.inRound ll) 8 Try.prog (Exit.then K (fun _ _ _ => False)) { tmps := (ps.zip #[wv x]).foldl (fun t (p, v) => t.setIfInBounds p v) a.tmps, defers := [] } W)
    (hbody : ∀ (ll : Nat) (pre : List Win) (x : Win) (D T : Nat) (a' : Act) (W : World), I (pre, D) W → Ax x a' W → pre.length < N → w.heap.size + 2 + k ≤ W.heap.size → w.heap.size + 2 ≤ D → T ≤ W.heap.size →
      body.wpIn (Fence.wide.inRound ll) 8 Try.prog (goesOn fun W' => Leaves w0.heap.size w.heap.size (2 + k) D T W W' ∧ I (pre ++ [x], W'.heap.size) W') a' W)
    (hdone : ∀ D W, I (l, D) W → W.heap[w.heap.size]? = some (.deferred (some [])) → Q .normal { a with defers := { target := .collected w.heap.size, args := #[] } :: a.defers } W) :
    (Code.rangeFunc g ps assign body).wpIn Fence.wide 10 Try.prog Q a w := by
  refine wpIn_rangeFunc fun fn hfn => ?_
  obtain ⟨rec, hrec⟩ : ∃ rec : LoopState → Option Code → Loop, rec = fun st pe => { state := st, pending := pe, fn, tmps := a.tmps, params := ps, assign, body, defers := w.heap.size } := ⟨_, rfl⟩
  obtain ⟨W1, hW1⟩ : ∃ W1, (w.alloc (.deferred (some []))).alloc (.loop (rec .ready none)) = W1 := ⟨_, rfl⟩
  have s1 : W1.heap.size = w.heap.size + 2 := by rw [← hW1]; simp
  have L1 : W1.heap[w.heap.size + 1]? = some (.loop (rec .ready none)) := by
    have := World.alloc_heap_new (w.alloc (.deferred (some []))) (.loop (rec .ready none))
    rw [← hW1]; rwa [World.size_alloc] at this
  have D1 : W1.heap[w.heap.size]? = some (.deferred (some [])) := by
    rw [← hW1]; exact (Below.heap_alloc _ _ _ (by simp)).trans (World.alloc_heap_new w _)
  have I1 : I ([], W1.heap.size) W1 := by
    rw [s1]
    rw [← hW1]
    exact hI _ _ _ none (hI _ _ _ none h0 (World.grownBy_alloc _ _ _) (fun _ e => by cases e)) (World.grownBy_alloc _ _ _) (fun _ e => by cases e)
  have hle : w0.heap.size ≤ w.heap.size := hb0.size
  have B1 : Below w0.heap.size w0 W1 := by rw [← hW1]; exact (hb0.alloc hle _).alloc (by simp; omega) _
  refine ⟨w.heap.size + 1, [{ target := .collected w.heap.size, args := #[] }], W1, { target := .fn (.func gf) lb, args := #[.func (.yield (w.heap.size + 1)) #[] #[]] }, W1, gf,
    #[.func (.yield (w.heap.size + 1)) #[] #[]] ++ lb, W1, ?_, ?_, ?_, ?_, fun _ => by omega, ?_⟩
  · rw [← hW1, hrec]; exact run_enterLoop_outer _ _ _ _ _
  · simp only [resolve, hg]
    simp [go_sem]
  · intro f' hf'; trivial
  · simp [invoke, go_sem, eg]
  refine (hseq (w.heap.size + 1) (fun s W => I s W ∧ W.heap[w.heap.size + 1]? = some (.loop (rec .ready none)) ∧ W.heap[w.heap.size]? = some (.deferred (some []))) W1 B1 ?_ ?_ ⟨I1, L1, D1⟩).mono ?_
  · rintro s A A' row ⟨q1, q2, q3⟩ hg' hr
    rw [s1] at hr
    refine ⟨hI s A A' row q1 hg' (fun r e => by have := hr r e; omega), ?_, ?_⟩
    · exact (hg'.block _ (Array.getElem?_eq_some_iff.1 q2).1 (fun e => by have := hr _ e.symm; omega)).trans q2
    · exact (hg'.block _ (Array.getElem?_eq_some_iff.1 q3).1 (fun e => by have := hr _ e.symm; omega)).trans q3
  · rintro pre x D W ⟨hi, hl, hk⟩ hlen hsz hD
    rw [s1] at hsz hD
    have hy := run_yield (P := Try.prog) (args := #[wv x]) hl (by rw [hrec]; simp [hps])
    rw [hrec] at hy
    refine ⟨fn, _, assign, body, hy, roundIn_of_wpIn hfn (hassign _ pre x D W _ hi hsz ?_)⟩
    clear hy
    intro a' Wa ka ia xa
    have hla := (ka.own (w.heap.size + 1) (by omega) (by omega)).trans hl
    have hka := (ka.own w.heap.size (by omega) (by omega)).trans hk
    have hlt := (Array.getElem?_eq_some_iff.1 hla).1
    have hsa : w.heap.size + 2 + k ≤ Wa.heap.size := Nat.le_trans hsz ka.size
    refine ⟨_, run_beginRound hla (by rw [hrec]), ?_⟩
    obtain ⟨Wb, hWb⟩ : ∃ Wb, Wa.putObj (w.heap.size + 1) (.loop { rec .ready none with state := .busy }) = Wb := ⟨_, rfl⟩
    have hlb : Wb.heap[w.heap.size + 1]? = some (.loop { rec .ready none with state := .busy }) := by rw [← hWb]; exact World.putObj_heap_same hlt
    have hkb : Wb.heap[w.heap.size]? = some (.deferred (some [])) := by rw [← hWb]; exact (World.putObj_heap_other (by omega)).trans hka
    have ib : I (pre, D) Wb := by rw [← hWb]; exact hI _ _ _ _ ia (grownBy_putObj' _ _ _) (fun r e => by cases e; omega)
    have xb : Ax x a' Wb := by rw [← hWb]; exact hAx x a' () _ _ _ xa (grownBy_putObj' _ _ _) (fun r e => by cases e; omega)
    have kb : Leaves w0.heap.size (w.heap.size + 2) k D W.heap.size Wa Wb := by rw [← hWb]; exact Leaves.put _ _ _ (by omega) (.inl (by omega)) (.inl (by omega))
    have sb : w.heap.size + 2 + k ≤ Wb.heap.size := Nat.le_trans hsa kb.size
    rw [hWb]
    refine wpIn_mono (hbody _ pre x D W.heap.size a' Wb ib xb hlen sb hD (Nat.le_trans ka.size kb.size)) ?_
    rintro e a3 W3 hp
    cases e with
    | normal =>
      obtain ⟨k3, i3⟩ := hp
      have hl3 := (k3.own (w.heap.size + 1) (by omega) (by omega)).trans hlb
      have hk3 := (k3.own w.heap.size (by omega) (by omega)).trans hkb
      have hlt3 := (Array.getElem?_eq_some_iff.1 hl3).1
      refine ⟨_, _, run_endRound none hl3, rfl, ⟨?_, ?_, ?_⟩, ?_⟩
      · have := hI _ _ _ _ i3 (grownBy_putObj' W3 (w.heap.size + 1) (.loop { (rec .ready none) with state := .ready, pending := none })) (fun r e => by cases e; omega)
        simpa using this
      · refine (World.putObj_heap_same hlt3).trans ?_
        rw [hrec]; rfl
      · exact (World.putObj_heap_other (by omega)).trans hk3
      · rw [s1]
        have ka' : Leaves w0.heap.size (w.heap.size + 2) k D W.heap.size W Wa := ⟨ka.size, ka.old, fun b h1 h2 => ka.own b (by omega) (by omega), ka.late⟩
        have k3' : Leaves w0.heap.size (w.heap.size + 2) k D W.heap.size Wb W3 := ⟨k3.size, k3.old, fun b h1 h2 => k3.own b (by omega) (by omega), k3.late⟩
        exact ((ka'.trans kb).trans k3').trans (Leaves.put _ _ _ (by omega) (.inl (by omega)) (.inl (by omega)))
    | ret => exact hp.elim
    | exit id => exact hp.elim
    | goto t => exact hp.elim
    | panic ch => exact hp.elim
    | outgrown => exact hp.elim
  · rintro e W2 ⟨⟨v, rfl⟩, D, hi, hl, hk⟩
    have he := run_endLoop (P := Try.prog) hl (by rw [hrec]; simp)
    rw [hrec] at he
    exact ⟨none, _, he, hdone D _ (hI _ _ _ _ hi (grownBy_putObj' _ (w.heap.size + 1) _) (fun r e => by cases e; omega)) ((World.putObj_heap_other (by omega)).trans hk)⟩
end Go.Proofs.Yteiedknpmlemkaa
