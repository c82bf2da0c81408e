/-
  Rows of aggregates that a call has made: read, appended to, an element stored over.
-/
import Derived.Test.YtlkekcmphbpfbaaAo
import Derived.Deep.AppendLies
import Derived.Deep.RegionLawGrows
import Derived.Laws.OwnMore
namespace Go.Proofs.Ytlkekcmphbpfbaa
open Go Go.RowKit Go.Lib

def AccD.cells (a : AccD) : List Value := [.int .i64 a.n, .int .i64 a.hi, .int .u64 a.lo, .int .i64 a.mn, .int .i64 a.mx]
def cellsA (l : List AccD) : List Value := l.flatMap AccD.cells
theorem cellsA_snoc (l : List AccD) (x : AccD) : cellsA (l ++ [x]) = cellsA l ++ x.cells := by simp [cellsA]
theorem cellsA_app (l m : List AccD) : cellsA (l ++ m) = cellsA l ++ cellsA m := by simp [cellsA]
theorem cellsA_len (l : List AccD) : (cellsA l).length = l.length * 5 := by
  induction l with
  | nil => rfl
  | cons x l ih =>
    show (x.cells ++ cellsA l).length = _
    rw [List.length_append, ih]
    simp [AccD.cells]; omega
theorem cellsA_get : ∀ {l : List AccD} {j : Nat} {x : AccD} (i : Nat), l[j]? = some x → i < 5 → (cellsA l)[j * 5 + i]? = x.cells[i]?
  | [], j, x, i, h, hi => by simp at h
  | y :: l, 0, x, i, h, hi => by
    simp at h; subst h
    show (y.cells ++ cellsA l)[0 * 5 + i]? = _
    rw [List.getElem?_append_left (by simp [AccD.cells]; omega)]
    simp
  | y :: l, j + 1, x, i, h, hi => by
    have := cellsA_get (l := l) (j := j) i (by simpa using h) hi
    rw [← this]
    show (y.cells ++ cellsA l)[(j + 1) * 5 + i]? = _
    rw [List.getElem?_append_right (by simp [AccD.cells]; omega)]
    congr 1
    simp [AccD.cells]; omega
theorem oneCellsA : ∀ (l : List AccD), ∀ u ∈ cellsA l, u.oneCell' = true := by
  intro l u hu
  simp only [cellsA, List.mem_flatMap, AccD.cells, List.mem_cons, List.not_mem_nil, or_false] at hu
  obtain ⟨o, _, h⟩ := hu
  rcases h with rfl | rfl | rfl | rfl | rfl <;> rfl

/-- An aggregate lies in a block, from a place on. -/
structure AccIn (W : World) (g k : Nat) (a : AccD) : Prop where
  c0 : W.cell? ⟨g, k, none⟩ = some (.int .i64 a.n)
  c1 : W.cell? ⟨g, k + 1, none⟩ = some (.int .i64 a.hi)
  c2 : W.cell? ⟨g, k + 2, none⟩ = some (.int .u64 a.lo)
  c3 : W.cell? ⟨g, k + 3, none⟩ = some (.int .i64 a.mn)
  c4 : W.cell? ⟨g, k + 4, none⟩ = some (.int .i64 a.mx)
theorem AccIn.same {W W' : World} {g k : Nat} {a : AccD} (h : AccIn W g k a) (e : W'.heap[g]? = W.heap[g]?) : AccIn W' g k a := by
  obtain ⟨h0, h1, h2, h3, h4⟩ := h
  constructor <;> (rw [cell_heap e]; assumption)
/-- A row of a call's own, that is not nothing: its block; its elements; nothing is frozen there. -/
theorem own_form {W : World} {base : Nat} {v : Value} {l : List AccD} (h : W.ownsRow base 24 5 v l.length (cellsA l)) (hn : l ≠ []) :
    ∃ g cap, v = .slice (some ⟨g, 0, none⟩) l.length cap ∧ base ≤ g ∧ g < W.heap.size ∧ l.length ≤ cap ∧ cap ≤ maxLen ∧ (∀ j x, l[j]? = some x → AccIn W g (j * 5) x) ∧ (∀ i, W.frozen? ⟨g, i, none⟩ = false) ∧ (∀ j u, (cellsA l)[j]? = some u → W.cell? ⟨g, j, none⟩ = some u) := by
  rcases h.2 with ⟨rfl, h0⟩ | ⟨g, cap, cur, rfl, hg, hc, hcap, hm, hsz, htk⟩
  · exact absurd (List.eq_nil_of_length_eq_zero h0) hn
  · have all : ∀ j u, (cellsA l)[j]? = some u → W.cell? ⟨g, j, none⟩ = some u := by
      intro j u hu
      rw [← htk, List.getElem?_take] at hu
      split at hu
      · rw [Ev.cell_of_block hc]
        simpa using hu
      · cases hu
    refine ⟨g, cap, rfl, hg, (Array.getElem?_eq_some_iff.1 hc).1, hcap, hm, fun j x hx => ?_, fun i => by simp [World.frozen?, hc], all⟩
    have cell : ∀ i u, i < 5 → x.cells[i]? = some u → W.cell? ⟨g, j * 5 + i, none⟩ = some u := by
      intro i u hi hu
      exact all _ _ (by rw [cellsA_get i hx hi]; exact hu)
    exact ⟨cell 0 _ (by omega) rfl, cell 1 _ (by omega) rfl, cell 2 _ (by omega) rfl, cell 3 _ (by omega) rfl, cell 4 _ (by omega) rfl⟩
theorem newsA (w : World) (x : AccD) (t : TypeId) : ∀ j u, x.cells[j]? = some u → (w.alloc (.cells x.cells.toArray t)).cell? ((⟨w.heap.size, 0, none⟩ : Addr).add j) = some u := by
  intro j u h
  have hh : (w.alloc (.cells x.cells.toArray t)).heap[w.heap.size]? = some (.cells x.cells.toArray t) := World.alloc_heap_new w _
  simp only [Ev.add_lit, World.cell?, hh, Nat.zero_add]
  simpa using h
theorem grown_of_below {W W' : World} (h : Below W.heap.size W W') : W.grownBy W' none := ⟨h.os, h.tape, h.output, h.size, fun k hk _ => h.block k hk⟩
theorem own_below {W W' : World} {base : Nat} {e : TypeId} {size : Nat} {v : Value} {k : Nat} {xs : List Value} (h : W.ownsRow base e size v k xs) (hb : Below W.heap.size W W') : W'.ownsRow base e size v k xs :=
  h.kept (grown_of_below hb) (by cases v.ownBlock with | none => exact .inl rfl | some g => exact .inr (by simp))
theorem own_lt {W : World} {base : Nat} {e : TypeId} {size : Nat} {v : Value} {n : Nat} {xs : List Value} (h : W.ownsRow base e size v n xs) {k : Nat} (hk : v.ownBlock = some k) : base ≤ k ∧ k < W.heap.size := by
  rcases h.2 with ⟨rfl, _⟩ | ⟨g, cap, cur, rfl, hg, hc, _⟩
  · cases hk
  · simp [Value.ownBlock] at hk
    subst hk
    exact ⟨hg, (Array.getElem?_eq_some_iff.1 hc).1⟩
theorem info24 : (Try.prog.info? 24).map (fun i => (i.zero, i.size, i.bytes)) = some (some (.agg #[.int .i64 0, .int .i64 0, .int .u64 0, .int .i64 0, .int .i64 0]), 5, 40) := by kernel_rfl
theorem info_parts {P : Program} {t : TypeId} {z : Option Value} {s b : Nat} (h : (P.info? t).map (fun i => (i.zero, i.size, i.bytes)) = some (z, s, b)) : ∃ i, P.info? t = some i ∧ i.zero = z ∧ i.size = s ∧ i.bytes = b := by
  obtain ⟨i, hi, e⟩ := Option.map_eq_some_iff.1 h
  simp only [Prod.mk.injEq] at e
  exact ⟨i, hi, e.1, e.2.1, e.2.2⟩
theorem stored_own {W : World} {base : Nat} {e : TypeId} {size : Nat} {v : Value} {n : Nat} {xs : List Value} {g : Nat} {a : AccD} (h : W.ownsRow base e size v n xs) (hg : g < base) : (stored W g a).ownsRow base e size v n xs :=
  ownsRow_setCell_below (ownsRow_setCell_below (ownsRow_setCell_below (ownsRow_setCell_below (ownsRow_setCell_below h (a := ⟨g, 0, none⟩) hg _) (a := ⟨g, 1, none⟩) hg _) (a := ⟨g, 2, none⟩) hg _) (a := ⟨g, 3, none⟩) hg _) (a := ⟨g, 4, none⟩) hg _
theorem and32 (v : Int) : bits .and .i64 v 4294967295 = v % 4294967296 := by
  have h : (BitVec.ofInt 64 v &&& BitVec.ofInt 64 4294967295).toNat = (v % 18446744073709551616).toNat % 4294967296 := by
    rw [BitVec.toNat_and, BitVec.toNat_ofInt]
    have e : (BitVec.ofInt 64 4294967295).toNat = 2 ^ 32 - 1 := by decide
    rw [e, Nat.and_two_pow_sub_one_eq_mod]
    rfl
  have e : bits .and .i64 v 4294967295 = IntKind.i64.wrap (((BitVec.ofInt 64 v &&& BitVec.ofInt 64 4294967295).toNat : Nat) : Int) := rfl
  rw [e, h, IntKind.wrap_i64]
  omega
theorem lo_step {Lo v : Int} (h : 0 ≤ Lo ∧ Lo ≤ 1000 * 4294967296) : Value.int .i64 (wrap64 (Lo + bits .and .i64 v 4294967295)) = Value.int .i64 (Lo + v % 4294967296) := by
  rw [and32]
  unfold wrap64
  congr 1
  omega
theorem w64 {x : Int} (h0 : 0 ≤ x) (h1 : x < 1000000) : wrap64 x = x := by unfold wrap64; omega
theorem two_new0 (w : World) (A B : Obj) : ((w.alloc A).alloc B).drew.heap[w.heap.size]? = some A := by
  show ((w.alloc A).alloc B).heap[w.heap.size]? = some A
  rw [Below.heap_alloc _ _ _ (by simp)]; exact World.alloc_heap_new w _
theorem two_new1 (w : World) (A B : Obj) : ((w.alloc A).alloc B).drew.heap[w.heap.size + 1]? = some B := heap_alloc2_new w A B
/-- Where a row's beginning and end lie, in whatever world grew. -/
theorem parts_lie {wr : World} {P p p2 : List Tot} {a b : Tot} {k k1 g : Nat} (hk : k + 1 = k1) (hP : P = p ++ a :: b :: p2) (hp : p.length = k) (hg : g < wr.heap.size) (h : ∀ j u, (cellsA (P.map Tot.acc))[j]? = some u → wr.cell? ⟨g, j, none⟩ = some u) :
    ∀ w', Below wr.heap.size wr w' → (∀ j u, (cellsA (p.map Tot.acc))[j]? = some u → w'.cell? ((⟨g, 0, none⟩ : Addr).add j) = some u) ∧ (∀ j u, (cellsA ((b :: p2).map Tot.acc))[j]? = some u → w'.cell? ((⟨g, k1 * 5, none⟩ : Addr).add j) = some u) := by
  intro w' hb
  have hP' : P.map Tot.acc = (p ++ [a]).map Tot.acc ++ (b :: p2).map Tot.acc := by rw [hP]; simp
  have hP2 : P.map Tot.acc = p.map Tot.acc ++ (a :: b :: p2).map Tot.acc := by rw [hP]; simp
  have hl1 : (cellsA ((p ++ [a]).map Tot.acc)).length = k1 * 5 := by rw [cellsA_len, List.length_map, List.length_append, hp, ← hk]; rfl
  constructor
  · intro j u hu
    rw [Ev.add_lit, Nat.zero_add, cell_heap (hb.block g hg)]
    refine h j u ?_
    rw [hP2, cellsA_app, List.getElem?_append_left (List.getElem?_eq_some_iff.1 hu).1]
    exact hu
  · intro j u hu
    rw [Ev.add_lit, cell_heap (hb.block g hg)]
    refine h _ u ?_
    rw [hP', cellsA_app, List.getElem?_append_right (by omega), hl1, Nat.add_sub_cancel_left]
    exact hu
/-- An aggregate stored over a row's element. -/
abbrev storedAt (W : World) (g o : Nat) (a : AccD) : World := ((((W.setCell ⟨g, o, none⟩ (.int .i64 a.n)).setCell ⟨g, o + 1, none⟩ (.int .i64 a.hi)).setCell ⟨g, o + 2, none⟩ (.int .u64 a.lo)).setCell ⟨g, o + 3, none⟩ (.int .i64 a.mn)).setCell ⟨g, o + 4, none⟩ (.int .i64 a.mx)
theorem storedAt_else {W : World} {g o k : Nat} {a : AccD} (h : k ≠ g) : (storedAt W g o a).heap[k]? = W.heap[k]? := by
  unfold storedAt
  rw [far h, far h, far h, far h, far h]
theorem storedAt_below {w W : World} {B g o : Nat} {a : AccD} (h : B ≤ g) (hb : Below B w W) : Below B w (storedAt W g o a) :=
  ((((hb.setCell (p := ⟨g, o, none⟩) h _).setCell (p := ⟨g, o + 1, none⟩) h _).setCell (p := ⟨g, o + 2, none⟩) h _).setCell (p := ⟨g, o + 3, none⟩) h _).setCell (p := ⟨g, o + 4, none⟩) h _
theorem own_set {W : World} {base g cap n k : Nat} {l : List AccD} (h : W.ownsRow base 24 5 (.slice (some ⟨g, 0, none⟩) n cap) n (cellsA l)) (hn : l.length = n) (hk : k < l.length) (z : AccD) :
    (storedAt W g (k * 5) z).ownsRow base 24 5 (.slice (some ⟨g, 0, none⟩) n cap) n (cellsA (l.set k z)) := by
  obtain ⟨h1, ⟨h2, _⟩ | ⟨g', cap', cur, h2, hg, hc, hcap, hm, hsz, htk⟩⟩ := h
  · cases h2
  · simp only [Value.slice.injEq, Option.some.injEq, Addr.mk.injEq, and_true, true_and] at h2
    obtain ⟨rfl, rfl⟩ := h2
    have hset : l.set k z = l.take k ++ z :: l.drop (k + 1) := List.set_eq_take_append_cons_drop.trans (if_pos hk)
    have hl : l = l.take k ++ l[k] :: l.drop (k + 1) := by rw [← List.drop_eq_getElem_cons, List.take_append_drop]
    have hpre : (cellsA (l.take k)).length = k * 5 := by rw [cellsA_len, List.length_take]; congr 1; omega
    have hcur : cur.toList = cellsA (l.take k) ++ (l[k].cells ++ (cellsA (l.drop (k + 1)) ++ cur.toList.drop (n * 5))) := by
      have e : cellsA l = cellsA (l.take k) ++ (l[k].cells ++ cellsA (l.drop (k + 1))) := by
        conv => lhs; rw [hl]
        rw [cellsA_app]; rfl
      rw [← List.append_assoc l[k].cells, ← List.append_assoc (cellsA (l.take k)), ← e, ← htk, List.take_append_drop]
    have hb := Go.Joins.block_setCell (i := k * 5 + 4) (Go.Joins.block_setCell (i := k * 5 + 3) (Go.Joins.block_setCell (i := k * 5 + 2) (Go.Joins.block_setCell (i := k * 5 + 1) (Go.Joins.block_setCell (i := k * 5) hc (.int .i64 z.n)) (.int .i64 z.hi)) (.int .u64 z.lo)) (.int .i64 z.mn)) (.int .i64 z.mx)
    refine ⟨by rw [cellsA_len, List.length_set, hn], .inr ⟨g, cap, _, rfl, hg, hb, hcap, hm, by simp [hsz], ?_⟩⟩
    have e2 : (((((cur.setIfInBounds (k * 5) (.int .i64 z.n)).setIfInBounds (k * 5 + 1) (.int .i64 z.hi)).setIfInBounds (k * 5 + 2) (.int .u64 z.lo)).setIfInBounds (k * 5 + 3) (.int .i64 z.mn)).setIfInBounds (k * 5 + 4) (.int .i64 z.mx)).toList = cellsA (l.take k) ++ (z.cells ++ (cellsA (l.drop (k + 1)) ++ cur.toList.drop (n * 5))) := by
      generalize cur.toList.drop (n * 5) = sp at hcur ⊢
      simp only [Array.toList_setIfInBounds]
      rw [hcur]
      simp [List.set_append, hpre, AccD.cells]
    rw [e2, ← List.append_assoc z.cells, ← List.append_assoc (cellsA (l.take k)), hset, cellsA_app]
    have e3 : (cellsA (l.take k) ++ (z.cells ++ cellsA (l.drop (k + 1)))).length = n * 5 := by
      rw [List.length_append, hpre, List.length_append, cellsA_len, List.length_drop, hn]
      simp only [AccD.cells, List.length_cons, List.length_nil]
      omega
    rw [List.take_append_of_le_length (by omega), List.take_of_length_le (by omega)]
    rfl
theorem set_mid {α : Type} (p : List α) (b c : α) (q : List α) : (p ++ b :: q).set p.length c = p ++ c :: q := by simp [List.set_append]
theorem merged_row {W : World} {base g cap n k : Nat} {p pt : List Tot} {b c : Tot} (h : W.ownsRow base 24 5 (.slice (some ⟨g, 0, none⟩) n cap) n (cellsA ((p ++ b :: pt).map Tot.acc))) (hl : ((p ++ b :: pt).map Tot.acc).length = n) (hk : p.length = k) :
    (storedAt W g (k * 5) c.acc).ownsRow base 24 5 (.slice (some ⟨g, 0, none⟩) n cap) (p ++ c :: pt).length (cellsA ((p ++ c :: pt).map Tot.acc)) := by
  have q := own_set h hl (k := k) (by simp; omega) c.acc
  have e : ((p ++ b :: pt).map Tot.acc).set k c.acc = (p ++ c :: pt).map Tot.acc := by
    subst hk
    rw [List.map_append, List.map_cons, List.map_append, List.map_cons]
    have := set_mid (p.map Tot.acc) b.acc c.acc (pt.map Tot.acc)
    rwa [List.length_map] at this
  rw [e] at q
  have e2 : (p ++ c :: pt).length = n := by rw [← hl]; simp
  rw [e2]
  exact q
theorem merged_row0 {W : World} {base g cap n : Nat} {p pt : List Tot} {b c : Tot} (h : W.ownsRow base 24 5 (.slice (some ⟨g, 0, none⟩) n cap) n (cellsA ((p ++ b :: pt).map Tot.acc))) (hl : ((p ++ b :: pt).map Tot.acc).length = n) (hk : p.length = 0) :
    (stored W g c.acc).ownsRow base 24 5 (.slice (some ⟨g, 0, none⟩) n cap) (p ++ c :: pt).length (cellsA ((p ++ c :: pt).map Tot.acc)) := by
  have e : stored W g c.acc = storedAt W g (0 * 5) c.acc := by simp only [Nat.zero_mul, Nat.zero_add]
  rw [e]
  exact merged_row h hl hk
theorem frozen_same {W W' : World} {g i : Nat} (h : W'.heap[g]? = W.heap[g]?) : W'.frozen? ⟨g, i, none⟩ = W.frozen? ⟨g, i, none⟩ := by simp [World.frozen?, h]
theorem own_base {W : World} {B B' : Nat} {e : TypeId} {size n : Nat} {v : Value} {xs : List Value} (h : W.ownsRow B' e size v n xs) (hB : B ≤ B') : W.ownsRow B e size v n xs := by
  obtain ⟨h1, h2 | ⟨g, cap, cur, h2, hg, h3⟩⟩ := h
  · exact ⟨h1, .inl h2⟩
  · exact ⟨h1, .inr ⟨g, cap, cur, h2, Nat.le_trans hB hg, h3⟩⟩
theorem below_drewN {B : Nat} {W W1 : World} (h : Below B W W1) (n : Nat) : Below B W (W1.drewN n) := by
  induction n with
  | zero => exact h
  | succ n ih => exact ih.drew
theorem split_at {α : Type} (P : List α) (k : Nat) (h : k + 2 ≤ P.length) : ∃ p a b q, P = p ++ a :: b :: q ∧ p.length = k := by
  refine ⟨P.take k, P[k], P[k + 1], P.drop (k + 2), ?_, by rw [List.length_take]; omega⟩
  rw [← List.drop_eq_getElem_cons, ← List.drop_eq_getElem_cons, List.take_append_drop]
end Go.Proofs.Ytlkekcmphbpfbaa
