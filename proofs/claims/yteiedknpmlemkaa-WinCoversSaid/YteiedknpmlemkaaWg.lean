/-
  slices.Collect of windows: what a value over which one ranges gives, laid in a row.
-/
import Derived.RangeFuncNested
import Derived.RangeFuncBound
import Derived.RangeFuncCalls
import Derived.RangeFuncLeaves
import Derived.RangeFuncBox
import Derived.Shelf.Abstract
import Derived.Shelf.RegionOpen
import Derived.WalkKit
import Derived.OwnWalkIn
import Derived.TacticsInMore
import Derived.LoopNIn
import Derived.LoopIn
import Derived.ProofKit
import Derived.Deep.AppendLies
import Derived.Test.YteiedknpmlemkaaWf
namespace Go.Proofs.Yteiedknpmlemkaa
open Go Go.RowKit Go.Lib Go.Shelf
attribute [local go_sem] Oper.semAt_some

abbrev Win := Int × Int
abbrev wv (x : Win) : Value := .agg #[.int .i64 x.1, .int .i64 x.2]
def wcells (x : Win) : List Value := [.int .i64 x.1, .int .i64 x.2]
def cellsL (l : List Win) : List Value := l.flatMap wcells
theorem cellsL_snoc (l : List Win) (x : Win) : cellsL (l ++ [x]) = cellsL l ++ wcells x := by simp [cellsL]

/-- A function over which one ranges, that gives these windows. -/
abbrev Gives (gf : Nat) (lb : Array Value) (l : List Win) (N : Nat) (w : World) : Prop :=
  SeqStopsK Fence.wide 9 Try.prog gf lb (fun x : Win => #[wv x]) (Below w.heap.size) (fun ys => ys = l) (fun _ => True) N w

theorem wpListIn_append_lies {F : Fence} {n : Nat} {P : Program} (w : World) {ops : Array Oper} {rest : List Oper} {o : Oper} {a : Act} {Q : Exit → Act → World → Prop} (hgd : o.guard = none) (s x : Operand) (t : TypeId)
    (ho : o.op = .call { callee := .builtin .append, args := #[s, x], argTypes := #[t, t] })
    (base : Nat) (e : TypeId) (i : TypeInfo) (z : Value) (size bytes : Nat) (ht : P.underlying t = some (.slice e)) (hi : P.info? e = some i) (hz : i.zero = some z)
    (hsize : i.size = size) (hby : i.bytes = bytes) (hzs : z.cells.size = size) (hsz : 0 < size)
    (v : Value) (k : Nat) (xs : List Value) (hs : a.eval s = v) (hown : w.ownsRow base e size v k xs)
    (ad : Addr) (m c : Nat) (news : List Value) (hx : a.eval x = .slice (some ad) m c) (hl : news.length = m * size) (hnews : ∀ j u, news[j]? = some u → w.cell? (ad.add j) = some u) (h1 : ∀ u ∈ news, u.oneCell' = true)
    (hm : 0 < m) (h63 : k + m ≤ maxLen) (hbytes : (k + m) * bytes ≤ 140737488355328) (hbase : base ≤ w.heap.size)
    (hK : ∀ g cap w', w'.ownsRow base e size (.slice (some ⟨g, 0, none⟩) (k + m) cap) (k + m) (xs ++ news) → w.grownBy w' v.ownBlock → (v.ownBlock = some g ∨ g = w.heap.size) → g < w'.heap.size → wpListIn F n P ops Q rest (a.put o.dst (.slice (some ⟨g, 0, none⟩) (k + m) cap)) w') :
    wpListIn F n P ops Q (o :: rest) a w := by
  refine wpListIn_plain hgd fun K hK' => ?_
  obtain ⟨g, cap, w', hrun, r1, r2, r3, r4⟩ := run_append_lies (P := P) w t o.type base e i z size bytes ht hi hz hsize hby hzs hsz v k xs hown ad m c news hl hnews h1 hm h63 hbytes hbase _ rfl
  unfold Oper.wpIn
  refine ⟨?_, ?_⟩
  · simp [Oper.about, ho, resolve, Target.leads, Sem.run_pure]
  · rw [Oper.semAt_plain F _ _ (by rw [ho]; intro c hc'; cases hc')]
    simp [execOp, ho, resolve, invoke, builtin, hs, hx, hrun, Result.andThen]
    exact hK' _ _ (hK g cap w' r1 r2 r3 r4)

/-- Between two of the loop's rounds. -/
structure St (n₀ : Nat) (w0 W : World) (v : Value) (l : List Win) : Prop where
  box : Boxed W n₀ 32 v
  row : W.ownsRow (n₀ + 1) 34 2 v l.length (cellsL l)
  nil : l = [] → v = .slice none 0 0
  below : Below n₀ w0 W
  lt : n₀ + 1 ≤ W.heap.size

theorem own_lt {W : World} {base : Nat} {e : TypeId} {size : Nat} {v : Value} {k : Nat} {xs : List Value} (h : W.ownsRow base e size v k xs) {g : Nat} (hg : v.ownBlock = some g) : base ≤ g ∧ ∃ cur, W.heap[g]? = some (.cells cur e (0, 0)) := by
  rcases h.2 with ⟨rfl, _⟩ | ⟨g', cap, cur, rfl, hb, hc, _⟩
  · simp [Value.ownBlock] at hg
  · obtain rfl : g' = g := by simpa [Value.ownBlock] using hg
    exact ⟨hb, cur, hc⟩

theorem St.grown {n₀ : Nat} {w0 W W' : World} {v : Value} {l : List Win} (h : St n₀ w0 W v l) {row : Option Nat} (hg : W.grownBy W' row) (hr : ∀ r, row = some r → n₀ + 1 ≤ r ∧ ∃ o : Obj, W.heap[r]? = some o ∧ o.isCells = false) : St n₀ w0 W' v l := by
  have hlt := h.lt
  refine ⟨h.box.kept hg (fun e => by have := (hr _ e.symm).1; omega), h.row.kept hg ?_, h.nil, h.below.grown hg (by omega) (fun k e => by have := (hr k e).1; omega), Nat.le_trans h.lt hg.size⟩
  by_cases hn : v = .slice none 0 0
  · exact .inl (by rw [hn]; rfl)
  · refine .inr fun e' => ?_
    cases hv : v.ownBlock with
    | none =>
      rcases h.row.2 with ⟨h0, _⟩ | ⟨g', cap, cur, h0, _⟩
      · exact hn h0
      · rw [h0] at hv; simp [Value.ownBlock] at hv
    | some g =>
      rw [hv] at e'
      obtain ⟨_, cur, hc⟩ := own_lt h.row hv
      obtain ⟨_, ob, ho, hcl⟩ := hr g e'.symm
      rw [hc] at ho; cases ho; cases hcl

/-- What is appended. -/
theorem St.append {n₀ : Nat} {w0 W w1 : World} {v : Value} {l : List Win} {x : Win} {tmp : Obj} {g cap : Nat} (h : St n₀ w0 W v l)
    (hown : w1.ownsRow (n₀ + 1) 34 2 (.slice (some ⟨g, 0, none⟩) (l.length + 1) cap) (l.length + 1) (cellsL l ++ wcells x)) (hgrow : (W.alloc tmp).grownBy w1 v.ownBlock) (hat : v.ownBlock = some g ∨ g = (W.alloc tmp).heap.size) :
    w1.cell? ⟨n₀, 0, none⟩ = some v ∧ w1.frozen? ⟨n₀, 0, none⟩ = false ∧
    St n₀ w0 (w1.setCell ⟨n₀, 0, none⟩ (.slice (some ⟨g, 0, none⟩) (l.length + 1) cap)) (.slice (some ⟨g, 0, none⟩) (l.length + 1) cap) (l ++ [x]) ∧
    KeepsOthers W (w1.setCell ⟨n₀, 0, none⟩ (.slice (some ⟨g, 0, none⟩) (l.length + 1) cap)) ∧ Below n₀ W (w1.setCell ⟨n₀, 0, none⟩ (.slice (some ⟨g, 0, none⟩) (l.length + 1) cap)) := by
  have hlt := h.lt
  have hbx : v.ownBlock ≠ some n₀ := fun e => by have := (own_lt h.row e).1; omega
  have hv1 : Boxed w1 n₀ 32 v := (h.box.alloc tmp).kept hgrow (fun e => hbx e.symm)
  have hsz : W.heap.size ≤ w1.heap.size := Nat.le_trans (by simp) hgrow.size
  have hg0 := (own_lt hown (g := g) rfl).1
  have hB : Below n₀ W (w1.setCell ⟨n₀, 0, none⟩ (.slice (some ⟨g, 0, none⟩) (l.length + 1) cap)) :=
    (((Below.refl n₀ W).alloc (by omega) tmp).grown hgrow (by simp; omega) (fun k e => by have := (own_lt h.row e).1; omega)).setCell (p := ⟨n₀, 0, none⟩) (Nat.le_refl _) _
  refine ⟨hv1.cell, hv1.frozen, ⟨hv1.set _, ?_, fun e => by simp at e, h.below.trans hB, by simp [World.setCell]; omega⟩, ?_, hB⟩
  · have := hown.kept (grownBy_setCell' w1 n₀ (.slice (some ⟨g, 0, none⟩) (l.length + 1) cap)) (.inr (by simp [Value.ownBlock]; omega))
    rw [cellsL_snoc]
    simpa using this
  · refine ((KeepsOthers.alloc W tmp).trans (KeepsOthers.of_grownBy hgrow fun j ob ej hj => ?_)).trans (KeepsOthers.setCell _ _ _)
    obtain ⟨_, cur, hc⟩ := own_lt h.row ej
    rw [Below.heap_alloc _ _ _ (Array.getElem?_eq_some_iff.1 hc).1, hc] at hj
    cases hj; rfl

/-- The marks that loops over functions have left. -/
def mark (D : Nat) : Deferred := { target := .collected D, args := #[] }
def Marks (n₀ : Nat) (L : List Nat) (W : World) : Prop := L.Pairwise (· ≠ ·) ∧ ∀ D ∈ L, n₀ ≤ D ∧ W.heap[D]? = some (.deferred (some []))

theorem leaves_marks {F : Fence} {n : Nat} {P : Program} {fn : Func} {tmps : Array Value} {v : Value} {n₀ : Nat} {R : Ending → World → Prop} (hres : ∀ W, (results fn tmps).run P W = .ok v W) (Good : World → Prop) (hR : ∀ W, Good W → R (.returned v) W)
    (hgood : ∀ W D, Good W → n₀ ≤ D → W.heap[D]? = some (.deferred (some [])) → Good (W.putObj D (.deferred none))) :
    ∀ (L : List Nat) (W : World), Marks n₀ L W → Good W → LeavesInM F n P fn tmps R (L.map mark) .returning W
  | [], W, _, hG => ⟨_, hres W, hR W hG⟩
  | D :: L, W, hM, hG => by
    obtain ⟨hp, hm⟩ := hM
    rw [List.pairwise_cons] at hp
    have hD := hm D (List.mem_cons_self ..)
    refine ⟨by simp, .inl ⟨D, _, rfl, run_takeDeferred hD.2, ?_⟩⟩
    refine leaves_marks hres Good hR hgood L _ ⟨hp.2, fun D' h' => ⟨(hm D' (List.mem_cons_of_mem _ h')).1, ?_⟩⟩ (hgood W D hG hD.1 hD.2)
    rw [World.putObj_heap_other (fun e => hp.1 D' h' e.symm)]
    exact (hm D' (List.mem_cons_of_mem _ h')).2

/-- A window's own block. -/
def RBox (W : World) (B : Nat) (x : Win) : Prop := W.heap[B]? = some (.cells (wcells x).toArray 34 (0, 0))
theorem RBox.grown {W W' : World} {B : Nat} {x : Win} (h : RBox W B x) {row : Option Nat} (hg : W.grownBy W' row) (hr : ∀ r, row = some r → ∃ o : Obj, W.heap[r]? = some o ∧ o.isCells = false) : RBox W' B x :=
  (hg.block B (Array.getElem?_eq_some_iff.1 h).1 (fun e => by
    obtain ⟨ob, ho, hc⟩ := hr B e.symm
    rw [show W.heap[B]? = _ from h] at ho; cases ho; cases hc)).trans h
theorem RBox.c0 {W : World} {B : Nat} {x : Win} (h : RBox W B x) : W.cell? ⟨B, 0, none⟩ = some (.int .i64 x.1) := by
  have h' : W.heap[B]? = some (.cells (wcells x).toArray 34 (0, 0)) := h
  simp only [World.cell?, h']; rfl
theorem RBox.c1 {W : World} {B : Nat} {x : Win} (h : RBox W B x) : W.cell? ⟨B, 1, none⟩ = some (.int .i64 x.2) := by
  have h' : W.heap[B]? = some (.cells (wcells x).toArray 34 (0, 0)) := h
  simp only [World.cell?, h']; rfl
theorem news_new (w : World) (x : Win) (t : TypeId) : ∀ j u, (wcells x)[j]? = some u → (w.alloc (.cells (wcells x).toArray t)).cell? ((⟨w.heap.size, 0, none⟩ : Addr).add j) = some u := by
  intro j u h
  have hh : (w.alloc (.cells (wcells x).toArray t)).heap[w.heap.size]? = some (.cells (wcells x).toArray t) := World.alloc_heap_new w _
  simp only [Ev.add_lit, World.cell?, hh, Nat.zero_add]
  simpa using h
theorem oneCells (x : Win) : ∀ u ∈ wcells x, u.oneCell' = true := by
  intro u hu
  simp only [wcells, List.mem_cons, List.not_mem_nil, or_false] at hu
  rcases hu with rfl | rfl <;> rfl

theorem info34 : (Try.prog.info? 34).map (fun i => (i.zero, i.size, i.bytes)) = some (some (.agg #[.int .i64 0, .int .i64 0]), 2, 16) := by kernel_rfl
end Go.Proofs.Yteiedknpmlemkaa
