/-
  The iterators: what each of them gives, whatever the loop over it does that leaves its blocks alone.
-/
import Derived.RangeFuncNested
import Derived.RangeFuncBound
import Derived.RangeFuncCalls
import Derived.RangeFuncLeaves
import Derived.Shelf.Abstract
import Derived.Shelf.RegionOpen
import Derived.WalkKit
import Derived.OwnWalkIn
import Derived.TacticsInMore
import Derived.LoopNIn
import Derived.LoopIn
import Derived.Test.YthebacladmjiiaaOpB
namespace Go.Proofs.Ythebacladmjiiaa
open Go Go.RowKit Go.Lib Go.Shelf
attribute [local go_sem] Oper.semAt_some

/-- A record lies at the start of a block. -/
structure RecAt (W : World) (g : Nat) (r : RecD) : Prop where
  c0 : W.cell? ⟨g, 0, none⟩ = some (.int .u32 r.key)
  c1 : W.cell? ⟨g, 1, none⟩ = some (.int .i64 r.time)
  c2 : W.cell? ⟨g, 2, none⟩ = some (.int .i64 r.val)
  c3 : W.cell? ⟨g, 3, none⟩ = some (.int .u8 r.side)
  c4 : W.cell? ⟨g, 4, none⟩ = some (.bool r.err)
  c5 : W.cell? ⟨g, 5, none⟩ = some (.bool r.late)
theorem cell_heap {W W' : World} {g off : Nat} (h : W'.heap[g]? = W.heap[g]?) : W'.cell? ⟨g, off, none⟩ = W.cell? ⟨g, off, none⟩ := by simp only [World.cell?, h]
theorem RecAt.same {W W' : World} {g : Nat} {r : RecD} (h : RecAt W g r) (e : W'.heap[g]? = W.heap[g]?) : RecAt W' g r :=
  ⟨(cell_heap e).trans h.c0, (cell_heap e).trans h.c1, (cell_heap e).trans h.c2, (cell_heap e).trans h.c3, (cell_heap e).trans h.c4, (cell_heap e).trans h.c5⟩

/-- What a round leaves alone: the blocks from n1 on, below n2. -/
def Kept (n1 n2 : Nat) (W W' : World) : Prop := W.heap.size ≤ W'.heap.size ∧ ∀ k, n1 ≤ k → k < n2 → W'.heap[k]? = W.heap[k]?

set_option maxHeartbeats 800000 in
theorem only_stops (n1 n2 g : Nat) (r : RecD) (w : World) (h1 : n1 ≤ g) (h2 : g < n2) (hw : n2 ≤ w.heap.size) (hr : RecAt w g r) :
    SeqStopsK Fence.wide 9 Try.prog 43 #[.pointer (some ⟨g, 0, none⟩)] (fun x : RecD => #[x.v]) (Kept n1 n2) (fun ys => ys = [r]) (fun _ => True) 1 w := fun l J Jx W hW hJ hJx hY h0 => by
  have hR := hr.same (hW.block g (by omega))
  obtain ⟨c0, c1, c2, c3, c4, c5⟩ := hR
  obtain ⟨fn, tmps, assign, body, hy, hR⟩ := hY [] r W h0 (by simp)
  unfold RecD.v at hy
  refine callsIn_of_wp Try.func43 rfl trivial ?_ rfl
  simp only [Try.ntmps43, List.size_toArray, List.length_cons, List.length_nil, Nat.reduceAdd, Nat.reduceSub, Array.replicate_succ, Array.replicate_zero, List.push_toArray, List.append_toArray, List.nil_append, List.cons_append]
  gi_wp2
  refine hR.mono ?_
  rintro e W3 (⟨rfl, hJ3, hk3⟩ | ⟨rfl, hJx3⟩)
  · gi_wp2
    go_end0
    exact ⟨⟨_, rfl⟩, .inl ⟨_, rfl, hJ3⟩⟩
  · gi_wp2
    go_end0
    exact ⟨⟨_, rfl⟩, .inr ⟨_, trivial, hJx3⟩⟩

theorem none_stops (n1 n2 : Nat) (w : World) :
    SeqStopsK Fence.wide 9 Try.prog 44 #[] (fun x : RecD => #[x.v]) (Kept n1 n2) (fun ys => ys = []) (fun _ => True) 1 w := fun l J Jx W hW hJ hJx hY h0 => by
  refine callsIn_of_wp Try.func44 rfl trivial ?_ rfl
  simp only [Try.ntmps44, List.size_toArray, List.length_cons, List.length_nil, Nat.reduceAdd, Nat.reduceSub, Array.replicate_succ, Array.replicate_zero, List.push_toArray, List.append_toArray, List.nil_append, List.cons_append]
  gi_wp2
  go_end0
  exact ⟨⟨_, rfl⟩, .inl h0⟩

/-- The i-th copy. -/
def copyM (b : Int) (r : RecD) (i : Nat) : RecD := { r with val := wrap64 (r.val + wrap64 ((i : Int) * b)) }
def copiesM (a : Nat) (b : Int) (r : RecD) : List RecD := (List.range a).map (copyM b r)
theorem copiesM_succ (k : Nat) (b : Int) (r : RecD) : copiesM (k + 1) b r = copiesM k b r ++ [copyM b r k] := by simp [copiesM, List.range_succ]
theorem copiesM_len (k : Nat) (b : Int) (r : RecD) : (copiesM k b r).length = k := by simp [copiesM]

set_option maxRecDepth 100000 in
set_option maxHeartbeats 1600000 in
theorem copied_stops (n1 n2 ga gr gb a : Nat) (b : Int) (r : RecD) (w : World) (h1 : n1 ≤ ga ∧ n1 ≤ gr ∧ n1 ≤ gb) (h2 : ga < n2 ∧ gr < n2 ∧ gb < n2) (hw : n2 ≤ w.heap.size) (ha : a ≤ 1000) (ca : w.cell? ⟨ga, 0, none⟩ = some (.int .i64 a)) (cb : w.cell? ⟨gb, 0, none⟩ = some (.int .i64 b)) (hr : RecAt w gr r) :
    SeqStopsK Fence.wide 9 Try.prog 45 #[.pointer (some ⟨ga, 0, none⟩), .pointer (some ⟨gr, 0, none⟩), .pointer (some ⟨gb, 0, none⟩)] (fun x : RecD => #[x.v]) (Kept n1 n2) (fun ys => ys = copiesM a b r) (fun _ => True) a w := fun l J Jx W hW hJ hJx hY h0 => by
  have hcb := (cell_heap (off := 0) (hW.block gb (by omega))).trans cb
  have hca := (cell_heap (off := 0) (hW.block ga (by omega))).trans ca
  have hR := hr.same (hW.block gr (by omega))
  clear ca cb hr
  refine callsIn_of_wp Try.func45 rfl trivial ?_ rfl
  simp only [Try.ntmps45, List.size_toArray, List.length_cons, List.length_nil, Nat.reduceAdd, Nat.reduceSub, Array.replicate_succ, Array.replicate_zero, List.push_toArray, List.append_toArray, List.nil_append, List.cons_append]
  gi_wp2
  gi_loopw [8] (fun i wr => ∃ k : Nat, k ≤ a ∧ i = .int .i64 k ∧ J (copiesM k b r) wr ∧ Kept n1 n2 W wr ∧ W.heap.size ≤ wr.heap.size)
    (fun i _ => a - (intOf i).toNat)
  case atStart => exact ⟨0, Nat.zero_le _, rfl, h0, ⟨Nat.le_refl _, fun _ _ _ => rfl⟩, Nat.le_refl _⟩
  case round =>
    obtain ⟨k, hk, rfl, hJs, hnx, hsz⟩ := hrel
    have hcb0 := (cell_heap (off := 0) (hnx.2 gb (by omega) (by omega))).trans hcb
    have hWs := hW.size
    have hcb' : ∀ o, (wr.alloc o).cell? ⟨gb, 0, none⟩ = some (.int .i64 b) := fun o => (cell_heap (Below.heap_alloc wr o gb (by omega))).trans hcb0
    clear hcb0
    obtain ⟨c0, c1, c2, c3, c4, c5⟩ := hR.same (hnx.2 gr (by omega) (by omega))
    by_cases hlt : k < a
    · obtain ⟨fn, tmps, assign, body, hy, hRd⟩ := hY (copiesM k b r) (copyM b r k) (wr.alloc (.cells (copyM b r k).cells.toArray 36)) (hJ _ _ _ none hJs (World.grownBy_alloc _ _ _) (fun _ h => by cases h)) (by rw [copiesM_len]; exact hlt)
      unfold copyM RecD.v RecD.cells at hy
      dsimp only at hy
      gi_wp2
      refine hRd.mono ?_
      rintro e W3 (⟨rfl, hJ3, hk3⟩ | ⟨rfl, hJx3⟩)
      · have hk4 : Kept n1 n2 W W3 := ⟨Nat.le_trans hsz (Nat.le_trans (by simp) hk3.1), fun j j1 j2 => (hk3.2 j j1 j2).trans ((Below.heap_alloc _ _ j (by omega)).trans (hnx.2 j j1 j2))⟩
        gi_wp2
        go_roundw
        case rel => exact ⟨k + 1, by omega, by go_num, by rw [copiesM_succ]; exact hJ3, hk4, hk4.1⟩
        case measure => simp [intOf]; omega
      · gi_wp2
        refine bodyPost_ret (results_none rfl _ _ _) rfl ?_
        exact ⟨⟨_, rfl⟩, .inr ⟨_, trivial, hJx3⟩⟩
    · obtain rfl : k = a := by omega
      gi_wp2
      go_end0
      exact ⟨⟨_, rfl⟩, .inl ⟨_, rfl, hJs⟩⟩
end Go.Proofs.Ythebacladmjiiaa
