/-
  ops: the operators of drafts.
-/
import Derived.Test.YthebacladmjiiaaOpX
import Derived.Deep.Slices
namespace Go.Proofs.Ythebacladmjiiaa
open Go Go.RowKit Go.Lib

def cellsO (l : List OpD) : List Value := l.flatMap OpD.cells
theorem cellsO_snoc (l : List OpD) (x : OpD) : cellsO (l ++ [x]) = cellsO l ++ x.cells := by simp [cellsO]
theorem cellsO_app (l m : List OpD) : cellsO (l ++ m) = cellsO l ++ cellsO m := by simp [cellsO]
theorem cellsO_len (l : List OpD) : (cellsO l).length = l.length * 4 := by
  induction l with
  | nil => rfl
  | cons x l ih =>
    show (x.cells ++ cellsO l).length = _
    rw [List.length_append, ih]
    simp [OpD.cells]; omega
theorem cellsO_get : ∀ {l : List OpD} {j : Nat} {x : OpD} (i : Nat), l[j]? = some x → i < 4 → (cellsO l)[j * 4 + i]? = x.cells[i]?
  | [], j, x, i, h, hi => by simp at h
  | y :: l, 0, x, i, h, hi => by
    simp at h; subst h
    show (y.cells ++ cellsO l)[0 * 4 + i]? = _
    rw [List.getElem?_append_left (by simp [OpD.cells]; omega)]
    simp
  | y :: l, j + 1, x, i, h, hi => by
    have := cellsO_get (l := l) (j := j) i (by simpa using h) hi
    rw [← this]
    show (y.cells ++ cellsO l)[(j + 1) * 4 + i]? = _
    rw [List.getElem?_append_right (by simp [OpD.cells]; omega)]
    congr 1
    simp [OpD.cells]; omega
theorem oneCellsO : ∀ (l : List OpD), ∀ u ∈ cellsO l, u.oneCell' = true := by
  intro l u hu
  simp only [cellsO, List.mem_flatMap, OpD.cells, List.mem_cons, List.not_mem_nil, or_false] at hu
  obtain ⟨o, _, h⟩ := hu
  rcases h with rfl | rfl | rfl | rfl <;> rfl

/-- A slice that owns its operators reads as them. -/
theorem own_opers {W : World} {base : Nat} {v : Value} {l : List OpD} (h : W.ownsRow base 23 4 v l.length (cellsO l)) : ∃ A c, v = .slice A l.length c ∧ Opers W W.heap.size A l := by
  rcases h.2 with ⟨rfl, h0⟩ | ⟨g, cap, cur, rfl, hg, hc, hcap, _, hsz, htk⟩
  · have hl : l = [] := List.eq_nil_of_length_eq_zero h0
    subst hl
    exact ⟨none, 0, rfl, .inl rfl⟩
  · refine ⟨_, cap, rfl, .inr ⟨g, rfl, (Array.getElem?_eq_some_iff.1 hc).1, fun j x hx => ?_⟩⟩
    have hj : j < l.length := (List.getElem?_eq_some_iff.1 hx).1
    have cell : ∀ i, i < 4 → W.cell? ⟨g, j * 4 + i, none⟩ = x.cells[i]? := by
      intro i hi
      rw [← cellsO_get i hx hi, ← htk, List.getElem?_take, if_pos (by omega), Ev.cell_of_block hc]
      simp
    exact ⟨cell 0 (by omega), cell 1 (by omega), cell 2 (by omega), cell 3 (by omega)⟩

theorem info23 : (Try.prog.info? 23).map (fun i => (i.zero, i.size, i.bytes)) = some (some (.agg #[.int .i64 0, .int .i64 0, .int .i64 0, .int .i64 0]), 4, 32) := by kernel_rfl

/-- Drafts that came in. -/
def Drafts (W : World) (B : Nat) (A : Option Addr) (l : List DrD) : Prop := l = [] ∨ ∃ ad : Addr, A = some ad ∧ ad.block < B ∧ ∀ j x, l[j]? = some x → x.ok ∧ W.cell? (ad.add (j * 5)) = some (.int .u8 x.kind) ∧ W.cell? (ad.add (j * 5 + 1)) = some (.int .i64 x.a) ∧
  W.cell? (ad.add (j * 5 + 2)) = some (.int .i64 x.b) ∧ W.cell? (ad.add (j * 5 + 3)) = some (.int .u8 x.agg) ∧ W.cell? (ad.add (j * 5 + 4)) = some (.bool x.odd)
theorem blk_add (a : Addr) (n : Nat) : (a.add n).block = a.block := by unfold Addr.add; split <;> rfl
theorem Drafts.below {W W' : World} {B : Nat} {A : Option Addr} {l : List DrD} (h : Drafts W B A l) (hb : Below B W W') : Drafts W' B A l := by
  rcases h with h | ⟨ad, rfl, hg, hc⟩
  · exact .inl h
  · refine .inr ⟨ad, rfl, hg, fun j x hx => ?_⟩
    obtain ⟨h0, h1, h2, h3, h4, h5⟩ := hc j x hx
    exact ⟨h0, (hb.cell (by rw [blk_add]; exact hg)).trans h1, (hb.cell (by rw [blk_add]; exact hg)).trans h2, (hb.cell (by rw [blk_add]; exact hg)).trans h3, (hb.cell (by rw [blk_add]; exact hg)).trans h4, (hb.cell (by rw [blk_add]; exact hg)).trans h5⟩
theorem newsO (w : World) (x : OpD) (t : TypeId) : ∀ j u, x.cells[j]? = some u → (w.alloc (.cells x.cells.toArray t)).cell? ((⟨w.heap.size, 0, none⟩ : Addr).add j) = some u := by
  intro j u h
  have hh : (w.alloc (.cells x.cells.toArray t)).heap[w.heap.size]? = some (.cells x.cells.toArray t) := World.alloc_heap_new w _
  simp only [Ev.add_lit, World.cell?, hh, Nat.zero_add]
  simpa using h

theorem own_below {W W' : World} {base : Nat} {e : TypeId} {size : Nat} {v : Value} {k : Nat} {xs : List Value} (h : W.ownsRow base e size v k xs) (hb : Below W.heap.size W W') : W'.ownsRow base e size v k xs :=
  h.kept (grown_of_below hb) (by cases v.ownBlock with | none => exact .inl rfl | some g => exact .inr (by simp))

set_option maxRecDepth 100000 in
set_option maxHeartbeats 3200000 in
theorem ops_any (l : List DrD) (A : Option Addr) (cap : Nat) (w : World) (hin : Drafts w w.heap.size A l) (hlen : l.length ≤ maxLen) :
    Calls Try.prog 14 #[.slice A l.length cap] w fun e w' => ∃ A' c' ops, e = .returned (.slice A' ops.length c') ∧ ops.length ≤ 6 ∧ Opers w' w'.heap.size A' ops ∧ Below w.heap.size w w' := by
  obtain ⟨i0, hi, hz0, hz1, hz2⟩ := info_parts info23
  have HI := Lib.hid hi
  have HZ0 := Lib.hid hz0
  have HZ1 := Lib.hid hz1
  have HZ2 := Lib.hid hz2
  have HIN := Lib.hid hin
  have HLEN := Lib.hid hlen
  unfold maxLen at hlen
  clear hi hz0 hz1 hz2 hin
  go_enter Try.func14, Try.ntmps14
  go_wp2_with fail
  go_loopw [3, 4] (fun v3 i wr => ∃ (j : Nat) (lo : List OpD), i = .int .i64 j ∧ j ≤ l.length ∧ j ≤ 6 ∧ lo.length = j ∧ wr.ownsRow w.heap.size 23 4 v3 lo.length (cellsO lo) ∧ Below w.heap.size w wr) (fun _ i _ => 6 - (intOf i).toNat)
  case atStart => exact ⟨0, [], rfl, by omega, by omega, rfl, World.ownsRow_nil _ _ _ _, Below.refl _ _⟩
  case round =>
    obtain ⟨j, lo, rfl, hj, hj6, hlo, hown, hb⟩ := hrel
    have BR := Lib.hid hb
    have OW := Lib.hid hown
    clear hb hown
    by_cases hlt : j < l.length
    · by_cases hlt6 : j < 6
      · have hq1 : (j : Int) < (l.length : Int) := by omega
        have hq0 : (0 : Int) ≤ (j : Int) := by omega
        have hq6 : (j : Int) < 6 := by omega
        rcases HIN.out.below BR.out with h0 | ⟨ad, rfl, hgl, hcs⟩
        · rw [h0] at hlt; simp at hlt
        obtain ⟨d, hd⟩ : ∃ d, l[j] = d := ⟨_, rfl⟩
        obtain ⟨hok, d0, d1', d2', d3', d4'⟩ := hcs j d (by rw [List.getElem?_eq_getElem hlt, hd])
        have d1 : wr.cell? ⟨(ad.add (j * 5)).block, (ad.add (j * 5)).off + 1, none⟩ = some (.int .i64 d.a) := by rw [← Go.Deep.add_add] at d1'; exact d1'
        have d2 : wr.cell? ⟨(ad.add (j * 5)).block, (ad.add (j * 5)).off + 2, none⟩ = some (.int .i64 d.b) := by rw [← Go.Deep.add_add] at d2'; exact d2'
        have d3 : wr.cell? ⟨(ad.add (j * 5)).block, (ad.add (j * 5)).off + 3, none⟩ = some (.int .u8 d.agg) := by rw [← Go.Deep.add_add] at d3'; exact d3'
        have d4 : wr.cell? ⟨(ad.add (j * 5)).block, (ad.add (j * 5)).off + 4, none⟩ = some (.bool d.odd) := by rw [← Go.Deep.add_add] at d4'; exact d4'
        clear d1' d2' d3' d4'
        have HOK := Lib.hid hok
        clear hcs hd hok
        go_wp2_with (first
          | (go_at_call 8
             (with_reducible refine (drafted_any d HOK.out _).mono ?_)
             rintro e w2 ⟨o, rfl, hb2⟩
             have hb2s := hb2.size
             have OW2 := Lib.hid (own_below OW.out hb2)
             have B2 : Hid (Below w.heap.size w w2) := Lib.hid (BR.out.trans (hb2.mono BR.out.size))
             clear hb2)
          | (at_builtin
             refine wpList_append_lies _ rfl _ _ 37 rfl w.heap.size 23 i0 _ 4 32 Try.underlying37 HI.out HZ0.out HZ1.out HZ2.out rfl (by decide) _ lo.length _ rfl (OW2.out.alloc _) ⟨w2.heap.size, 0, none⟩ 1 1 o.cells rfl rfl (newsO w2 o 23) (fun u hu => oneCellsO [o] u (by simpa [cellsO] using hu)) (by omega) (by unfold maxLen; omega) (by omega) (by have := B2.out.size; simp; omega) _ rfl ?_
             intro g cap2 w3 hown3 hgrow hat hg3
             have O3 := Lib.hid hown3
             have B3 : Hid (Below w.heap.size w w3) := Lib.hid ((B2.out.alloc B2.out.size _).grown hgrow (by have := B2.out.size; simp; omega) (fun k e => (own_lt OW2.out e).1))
             clear hown3 hgrow hat))
        go_roundw
        case rel => exact ⟨j + 1, lo ++ [o], by go_num, by omega, by omega, by simp [hlo], by have q := O3.out; rw [hlo] at q; rw [List.length_append, cellsO_snoc, hlo]; exact q, B3.out⟩
        case measure => simp [intOf]; omega
      · obtain rfl : j = 6 := by omega
        have hq1 : ((6 : Nat) : Int) < (l.length : Int) := by omega
        go_wp2_with fail
        obtain ⟨A', c', rfl, hop⟩ := own_opers OW.out
        go_ret
        exact ⟨A', c', lo, rfl, by omega, hop, BR.out⟩
    · obtain rfl : j = l.length := by omega
      have hq1 : ¬ ((l.length : Nat) : Int) < (l.length : Int) := by omega
      go_wp2_with fail
      obtain ⟨A', c', rfl, hop⟩ := own_opers OW.out
      go_ret
      exact ⟨A', c', lo, rfl, by omega, hop, BR.out⟩
end Go.Proofs.Ythebacladmjiiaa
