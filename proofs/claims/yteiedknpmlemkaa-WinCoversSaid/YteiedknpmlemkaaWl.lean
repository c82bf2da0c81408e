/-
  Whether two windows meet, their join; windows that lie in a row, read; what windows and unions give.
-/
import Derived.Handy
import Derived.Test.YteiedknpmlemkaaWk
import Derived.Test.YteiedknpmlemkaaWi
namespace Go.Proofs.Yteiedknpmlemkaa
open Go Go.RowKit Go.Lib Go.Shelf
attribute [local go_sem] Oper.semAt_some

def meetM (a b : Win) : Bool := decide (a.1 < b.2) && decide (b.1 < a.2)
def joinM (a b : Win) : Win := (min a.1 b.1, max a.2 b.2)

theorem meet_any (a b : Win) (W : World) : Calls Try.prog 12 #[wv a, wv b] W fun e w' => e = .returned (.bool (meetM a b)) ∧ Below W.heap.size W w' := by
  obtain ⟨a0, a1⟩ := a
  obtain ⟨b0, b1⟩ := b
  unfold meetM
  dsimp only
  by_cases h1 : a0 < b1
  · by_cases h2 : b0 < a1
    · rw [decide_eq_true h1, decide_eq_true h2]
      go_enter Try.func12, Try.ntmps12
      go_wp2
      go_ret
      exact ⟨rfl, ((Below.refl _ _).alloc (Nat.le_refl _) _).alloc (by simp) _⟩
    · rw [decide_eq_true h1, decide_eq_false h2]
      go_enter Try.func12, Try.ntmps12
      go_wp2
      go_ret
      exact ⟨rfl, ((Below.refl _ _).alloc (Nat.le_refl _) _).alloc (by simp) _⟩
  · rw [decide_eq_false h1, Bool.false_and]
    go_enter Try.func12, Try.ntmps12
    go_wp2
    go_ret
    exact ⟨rfl, ((Below.refl _ _).alloc (Nat.le_refl _) _).alloc (by simp) _⟩

set_option maxRecDepth 100000 in
theorem join_any (a b : Win) (W : World) : Calls Try.prog 14 #[wv a, wv b] W fun e w' => e = .returned (wv (joinM a b)) ∧ Below W.heap.size W w' := by
  obtain ⟨a0, a1⟩ := a
  obtain ⟨b0, b1⟩ := b
  unfold joinM
  dsimp only
  go_enter Try.func14, Try.ntmps14
  go_wp2
  go_returns
  exact ⟨rfl, (((Below.refl _ _).alloc (Nat.le_refl _) _).alloc (by simp) _).alloc (by simp; omega) _⟩

/-- A window lies in a block, from a place on. -/
structure WinIn (W : World) (g k : Nat) (x : Win) : Prop where
  c0 : W.cell? ⟨g, k, none⟩ = some (.int .i64 x.1)
  c1 : W.cell? ⟨g, k + 1, none⟩ = some (.int .i64 x.2)
theorem WinIn.same {W W' : World} {g k : Nat} {x : Win} (h : WinIn W g k x) (e : W'.heap[g]? = W.heap[g]?) : WinIn W' g k x :=
  ⟨(cell_heap e).trans h.c0, (cell_heap e).trans h.c1⟩
/-- A slice of windows. -/
def Wins (W : World) (B : Nat) (v : Value) (l : List Win) : Prop :=
  ∃ A cap, v = .slice A l.length cap ∧ (l = [] ∨ ∃ g, A = some ⟨g, 0, none⟩ ∧ g < B ∧ ∀ j x, l[j]? = some x → WinIn W g (j * 2) x)
theorem Wins.below {W W' : World} {B : Nat} {v : Value} {l : List Win} (h : Wins W B v l) (hb : Below B W W') : Wins W' B v l := by
  obtain ⟨A, cap, rfl, h | ⟨g, rfl, hg, hc⟩⟩ := h
  · exact ⟨A, cap, rfl, .inl h⟩
  · exact ⟨_, cap, rfl, .inr ⟨g, rfl, hg, fun j x hx => (hc j x hx).same (hb.block g hg)⟩⟩
theorem Wins.mono {W : World} {B B' : Nat} {v : Value} {l : List Win} (h : Wins W B v l) (hb : B ≤ B') : Wins W B' v l := by
  obtain ⟨A, cap, rfl, h | ⟨g, rfl, hg, hc⟩⟩ := h
  · exact ⟨A, cap, rfl, .inl h⟩
  · exact ⟨_, cap, rfl, .inr ⟨g, rfl, by omega, hc⟩⟩

theorem cellsL_at : ∀ (l : List Win) (j : Nat) (x : Win), l[j]? = some x → (cellsL l)[j * 2]? = some (.int .i64 x.1) ∧ (cellsL l)[j * 2 + 1]? = some (.int .i64 x.2)
  | [], j, x, h => by simp at h
  | y :: l, 0, x, h => by
    obtain rfl : y = x := by simpa using h
    rw [cellsL_cons]
    exact ⟨rfl, rfl⟩
  | y :: l, j + 1, x, h => by
    have := cellsL_at l j x (by simpa using h)
    rw [cellsL_cons, show (j + 1) * 2 = j * 2 + 2 by omega]
    simpa using this
theorem wins_of_row {W : World} {base : Nat} {v : Value} {l : List Win} (h : W.ownsRow base 34 2 v l.length (cellsL l)) : Wins W W.heap.size v l := by
  have hc := fun g hg => h.cells (g := g) hg
  have hlt := h.lt
  obtain ⟨_, ⟨rfl, hn⟩ | ⟨g, cap, cur, rfl, _⟩⟩ := h
  · exact ⟨none, 0, by rw [hn], .inl (List.length_eq_zero_iff.1 hn)⟩
  · refine ⟨_, cap, rfl, .inr ⟨g, rfl, (hlt g rfl).2, fun j x hx => ?_⟩⟩
    obtain ⟨a, b⟩ := cellsL_at l j x hx
    have a' := hc g rfl _ _ a
    have b' := hc g rfl _ _ b
    rw [Ev.add_lit, Nat.zero_add] at a' b'
    exact ⟨a', b'⟩

def isW (x : Win) : Bool := decide (x.1 < x.2)
theorem filter_take {l : List Win} {j : Nat} (h : j < l.length) : (l.take (j + 1)).filter isW = (l.take j).filter isW ++ (if isW l[j] then [l[j]] else []) := by
  rw [List.take_succ_eq_append_getElem h, List.filter_append]
  simp [List.filter_cons]

set_option maxRecDepth 100000 in
set_option maxHeartbeats 3200000 in
theorem windows_gives (gb : Nat) (v : Value) (l : List Win) (w : World) (hg : gb < w.heap.size) (hc : w.cell? ⟨gb, 0, none⟩ = some v) (hv : Wins w w.heap.size v l) (hlen : l.length ≤ 1000000000) :
    Gives 44 #[.pointer (some ⟨gb, 0, none⟩)] (l.filter isW) (l.length) w := fun ll J Jx W hW hJ hJx hY h0 => by
  have HW := Lib.hid hW
  have cb := (cell_heap (off := 0) (hW.block gb hg)).trans hc
  have HV := Lib.hid (hv.below hW)
  have HY := Lib.hid hY
  have HJ := Lib.hid hJ
  obtain ⟨A, cap, rfl, _⟩ := hv
  clear hY hc hW hJ
  refine callsIn_of_wp Try.func44 rfl trivial ?_ rfl
  simp only [Try.ntmps44, List.size_toArray, List.length_cons, List.length_nil, Nat.reduceAdd, Nat.reduceSub, Array.replicate_succ, Array.replicate_zero, List.push_toArray, List.append_toArray, List.nil_append, List.cons_append]
  gi_wp2
  gi_loopw [7] (fun i wr => ∃ k : Nat, k ≤ l.length ∧ i = .int .i64 k ∧ J ((l.take k).filter isW) wr ∧ Below w.heap.size W wr ∧ W.heap.size ≤ wr.heap.size)
    (fun i _ => l.length - (intOf i).toNat)
  case atStart => exact ⟨0, Nat.zero_le _, rfl, by simpa using h0, Below.refl _ _, Nat.le_refl _⟩
  case round =>
    obtain ⟨k, hk, rfl, hJs, hnx, hsz⟩ := hrel
    by_cases hlt : k < l.length
    · obtain ⟨A', cap', hA, hn | ⟨g, hgA, hgl, hcs⟩⟩ := HV.out
      · rw [hn] at hlt; simp at hlt
      obtain ⟨rfl, rfl⟩ : A = A' ∧ cap = cap' := by simpa using hA
      subst hgA
      obtain ⟨x, hx⟩ : ∃ x, l[k] = x := ⟨_, rfl⟩
      obtain ⟨x0, x1⟩ := x
      obtain ⟨c0, c1⟩ := (hcs k (x0, x1) (by rw [List.getElem?_eq_getElem hlt, hx])).same (W' := wr) (hnx.block g hgl)
      dsimp only at c0 c1
      have hq0 : (0 : Int) ≤ (k : Int) := by omega
      have hq1 : (k : Int) < (l.length : Int) := by omega
      have W1 : IntKind.i64.wrap ((k : Int) + 1) = (k : Int) + 1 := IntWalk.i64_in _ (by omega)
      obtain ⟨wa, hwa⟩ : ∃ wa, wr.alloc (.cells #[.int .i64 x0, .int .i64 x1] 34) = wa := ⟨_, rfl⟩
      have hJa : J ((l.take k).filter isW) wa := by rw [← hwa]; exact HJ.out _ _ _ none hJs (World.grownBy_alloc _ _ _) (fun _ h => by cases h)
      have hba : Below w.heap.size W wa := by rw [← hwa]; exact hnx.alloc (by have := HW.out.size; omega) _
      have hza : W.heap.size ≤ wa.heap.size := by rw [← hwa]; simp; omega
      have d0 : wa.cell? ⟨wr.heap.size, 0, none⟩ = some (.int .i64 x0) := by rw [← hwa]; simp only [World.cell?, World.alloc_heap_new]; rfl
      have d1 : wa.cell? ⟨wr.heap.size, 1, none⟩ = some (.int .i64 x1) := by rw [← hwa]; simp only [World.cell?, World.alloc_heap_new]; rfl
      by_cases hlt2 : x0 < x1
      · obtain ⟨fn, tmps, assign, body, hy, hRd⟩ := HY.out ((l.take k).filter isW) (x0, x1) wa hJa (by have := List.length_filter_le isW (l.take k); simp at this; omega)
        have HT : Hid ((l.take (k + 1)).filter isW = (l.take k).filter isW ++ [(x0, x1)]) := Lib.hid (by rw [filter_take hlt, hx]; simp [isW, hlt2])
        clear hx hJs hJa hcs hA
        gi_wp2
        refine hRd.mono ?_
        rintro e W3 (⟨rfl, hJ3, hk3⟩ | ⟨rfl, hJx3⟩)
        · have hn3 : Below w.heap.size W W3 := hba.trans hk3
          gi_wp2
          go_roundw
          case rel => exact ⟨k + 1, by omega, by go_num, by rw [HT.out]; exact hJ3, hn3, Nat.le_trans hza hk3.size⟩
          case measure => simp [intOf]; omega
        · gi_wp2
          refine bodyPost_ret (results_none rfl _ _ _) rfl ?_
          exact ⟨⟨_, rfl⟩, .inr ⟨_, trivial, hJx3⟩⟩
      · have HT : Hid ((l.take (k + 1)).filter isW = (l.take k).filter isW) := Lib.hid (by rw [filter_take hlt, hx]; simp [isW, hlt2])
        clear hx hcs hA hJs
        gi_wp2
        refine ⟨fun _ h => (by cases h), ?_⟩
        gi_wp2
        go_roundw
        case rel => exact ⟨k + 1, by omega, by go_num, by rw [HT.out]; exact hJa, hba, hza⟩
        case measure => simp [intOf]; omega
    · obtain rfl : k = l.length := by omega
      gi_wp2
      go_end0
      exact ⟨⟨_, rfl⟩, .inl ⟨_, rfl, by simpa using hJs⟩⟩
end Go.Proofs.Yteiedknpmlemkaa
