/-
  What unions gives: the walk.
-/
import Derived.Test.YteiedknpmlemkaaWo
namespace Go.Proofs.Yteiedknpmlemkaa
open Go Go.RowKit Go.Lib Go.Shelf
attribute [local go_sem] Oper.semAt_some

theorem uni_first (x : Win) (r : List Win) : uni (0, 0) (x :: r) = uni x r := by rw [uni, if_pos rfl]
theorem uni_join {now x : Win} (r : List Win) (h : now ≠ (0, 0)) (hm : meetM now x = true) : uni now (x :: r) = uni (joinM now x) r := by rw [uni, if_neg h, if_pos hm]
theorem uni_next {now x : Win} (r : List Win) (h : now ≠ (0, 0)) (hm : meetM now x = false) : uni now (x :: r) = now :: uni x r := by rw [uni, if_neg h, if_neg (by rw [hm]; simp)]
theorem uni_last {now : Win} (h : now ≠ (0, 0)) : uni now [] = [now] := by rw [uni, if_neg h]
theorem uni_none : uni (0, 0) [] = [] := by rw [uni, if_pos rfl]

/-- Where the windows lie that the loop of unions keeps. -/
structure UniAt (W0 : World) (n : Nat) (B : Nat) (now : Win) (W : World) : Prop where
  none_ : W.heap[B]? = some (.cells #[.int .i64 0, .int .i64 0] 34 (0, 0))
  now_ : W.heap[B + 1]? = some (.cells #[.int .i64 now.1, .int .i64 now.2] 34 (0, 0))
  old : ∀ b, b < n → W.heap[b]? = W0.heap[b]?
  size : B + 2 ≤ W.heap.size
theorem UniAt.below {W0 W W' : World} {n B : Nat} {now : Win} (h : UniAt W0 n B now W) (hn : n ≤ B) (hb : Below W.heap.size W W') : UniAt W0 n B now W' := by
  have := h.size
  have hs := hb.size
  exact ⟨(hb.block _ (by omega)).trans h.none_, (hb.block _ (by omega)).trans h.now_, fun b q => (hb.block b (by omega)).trans (h.old b q), by omega⟩
theorem UniAt.set {W0 W : World} {n B : Nat} {now : Win} (h : UniAt W0 n B now W) (hn : n ≤ B) (x : Win) : UniAt W0 n B x ((W.setCell ⟨B + 1, 0, none⟩ (.int .i64 x.1)).setCell ⟨B + 1, 1, none⟩ (.int .i64 x.2)) := by
  have e : ∀ b, b ≠ B + 1 → ((W.setCell ⟨B + 1, 0, none⟩ (.int .i64 x.1)).setCell ⟨B + 1, 1, none⟩ (.int .i64 x.2)).heap[b]? = W.heap[b]? := fun b hb =>
    (Below.heap_setCell _ _ _ b hb).trans (Below.heap_setCell _ _ _ b hb)
  exact ⟨(e B (by omega)).trans h.none_, set2_heap h.now_ _ _, fun b q => (e b (by omega)).trans (h.old b q), by simp [World.setCell]; exact h.size⟩
theorem Abid.set {J : List Win × Nat → World → Prop} {B : Nat} (h : Abid B 2 J) {s : List Win × Nat} {W : World} (hs : J s W) (u v : Value) : J s ((W.setCell ⟨B + 1, 0, none⟩ u).setCell ⟨B + 1, 1, none⟩ v) :=
  h _ _ _ _ (h _ _ _ _ hs (grown_set W (B + 1) 0 u) (fun r e => by cases e; omega)) (grown_set _ (B + 1) 1 v) (fun r e => by cases e; omega)
theorem Abid.below {J : List Win × Nat → World → Prop} {B : Nat} (h : Abid B 2 J) {s : List Win × Nat} {W W' : World} (hs : J s W) (hb : Below W.heap.size W W') : J s W' :=
  h _ _ _ none hs ⟨hb.os, hb.tape, hb.output, hb.size, fun k hk _ => hb.block k hk⟩ (fun r e => by cases e)

set_option maxRecDepth 100000 in
set_option maxHeartbeats 6400000 in
theorem unions_gives (gb : Nat) (v : Value) (l : List Win) (w : World) (hg : gb < w.heap.size) (hc : w.cell? ⟨gb, 0, none⟩ = some v) (hv : Wins w w.heap.size v l) (hlen : l.length ≤ 1000000000) :
    GivesOwn 42 #[.pointer (some ⟨gb, 0, none⟩)] (uni (0, 0) l) (uni (0, 0) l).length 2 w := fun ll J W hW hJ hY h0 => by
  have HW := Lib.hid hW
  have hnW := hW.size
  have cb := (cell_heap (off := 0) (hW.block gb hg)).trans hc
  have HV := Lib.hid (hv.below hW)
  have HY := Lib.hid hY
  have HJ := Lib.hid hJ
  have hG := guard34
  have hE := win_eq
  obtain ⟨A, cap, rfl, _⟩ := hv
  obtain ⟨W2, hW2⟩ : ∃ W2, (W.alloc (.cells #[.int .i64 0, .int .i64 0] 34)).alloc (.cells #[.int .i64 0, .int .i64 0] 34) = W2 := ⟨_, rfl⟩
  have HU : Hid (UniAt W w.heap.size W.heap.size (0, 0) W2) := Lib.hid (by
    rw [← hW2]
    refine ⟨(Below.heap_alloc _ _ _ (by simp)).trans (World.alloc_heap_new W _), ?_, fun b hb => (Below.heap_alloc _ _ _ (by simp; omega)).trans (Below.heap_alloc _ _ _ (by omega)), by simp⟩
    have := World.alloc_heap_new (W.alloc (.cells #[.int .i64 0, .int .i64 0] 34)) (.cells #[.int .i64 0, .int .i64 0] 34)
    simpa using this)
  have HJ2 : Hid (J ([], W.heap.size) W2) := Lib.hid (by
    rw [← hW2]
    exact hJ _ _ _ none (hJ _ _ _ none h0 (World.grownBy_alloc _ _ _) (fun _ e => by cases e)) (World.grownBy_alloc _ _ _) (fun _ e => by cases e))
  have cb2 : W2.cell? ⟨gb, 0, none⟩ = some (.slice A l.length cap) := (cell_heap (HU.out.old gb hg)).trans cb
  clear hY hc hW hJ cb h0
  refine callsIn_of_wp Try.func42 rfl trivial ?_ rfl
  simp only [Try.ntmps42, List.size_toArray, List.length_cons, List.length_nil, Nat.reduceAdd, Nat.reduceSub, Array.replicate_succ, Array.replicate_zero, List.push_toArray, List.append_toArray, List.nil_append, List.cons_append]
  gi_wp2
  gi_loopw [9] (fun i wr => ∃ (k : Nat) (n0 n1 : Int) (out : List Win) (D : Nat), k ≤ l.length ∧ i = .int .i64 k ∧ J (out, D) wr ∧ uni (0, 0) l = out ++ uni (n0, n1) (l.drop k) ∧ UniAt W w.heap.size W.heap.size (n0, n1) wr ∧ W.heap.size ≤ D ∧ D ≤ wr.heap.size)
    (fun i _ => l.length - (intOf i).toNat)
  case atStart => exact ⟨0, 0, 0, [], W.heap.size, Nat.zero_le _, rfl, HJ2.out, by simp, HU.out, Nat.le_refl _, by have := HU.out.size; omega⟩
  case round =>
    obtain ⟨k, n0, n1, out, D, hk, rfl, hJs, hun, hU, hD1, hD2⟩ := hrel
    have HJs := Lib.hid hJs
    have HUn := Lib.hid hun
    clear hJs hun
    by_cases hlt : k < l.length
    · obtain ⟨A', cap', hA, hn | ⟨g, hgA, hgl, hcs⟩⟩ := HV.out
      · rw [hn] at hlt; simp at hlt
      obtain ⟨rfl, rfl⟩ : A = A' ∧ cap = cap' := by simpa using hA
      subst hgA
      obtain ⟨x, hx⟩ : ∃ x, l[k] = x := ⟨_, rfl⟩
      obtain ⟨x0, x1⟩ := x
      have HDr : Hid (l.drop k = (x0, x1) :: l.drop (k + 1)) := Lib.hid (by rw [List.drop_eq_getElem_cons hlt, hx])
      obtain ⟨c0, c1⟩ := (hcs k (x0, x1) (by rw [List.getElem?_eq_getElem hlt, hx])).same (W' := wr) (hU.old g hgl)
      dsimp only at c0 c1
      have hq0 : (0 : Int) ≤ (k : Int) := by omega
      have hq1 : (k : Int) < (l.length : Int) := by omega
      have W1 : IntKind.i64.wrap ((k : Int) + 1) = (k : Int) + 1 := IntWalk.i64_in _ (by omega)
      obtain ⟨wa, hwa⟩ : ∃ wa, wr.alloc (.cells #[.int .i64 x0, .int .i64 x1] 34) = wa := ⟨_, rfl⟩
      have ba : Below wr.heap.size wr wa := by rw [← hwa]; exact (Below.refl _ _).alloc (Nat.le_refl _) _
      have sa : wa.heap.size = wr.heap.size + 1 := by rw [← hwa]; simp
      have ua : UniAt W w.heap.size W.heap.size (n0, n1) wa := hU.below hnW ba
      have ta : wa.heap[wr.heap.size]? = some (.cells #[.int .i64 x0, .int .i64 x1] 34 (0, 0)) := by rw [← hwa]; exact World.alloc_heap_new _ _
      have HJa : Hid (J (out, D) wa) := Lib.hid (HJ.out.below HJs.out ba)
      have d0 := cells_c0 ta
      have d1 := cells_c1 ta
      have z0 := cells_c0 ua.none_
      have z1 := cells_c1 ua.none_
      have p0 := cells_c0 ua.now_
      have p1 := cells_c1 ua.now_
      have f0 := cells_f (o := 0) ua.now_
      have f1 := cells_f (o := 1) ua.now_
      dsimp only at p0 p1
      have HUa := Lib.hid ua
      have HTa := Lib.hid ta
      clear hx hcs hA ua ta ba
      by_cases hz : n0 = 0 ∧ n1 = 0
      · obtain ⟨rfl, rfl⟩ := hz
        gi_wp2
        go_roundw
        case rel => exact ⟨k + 1, x0, x1, out, D, by omega, by go_num, HJ.out.set HJa.out _ _, by rw [HUn.out, HDr.out, uni_first], HUa.out.set hnW (x0, x1), hD1, by simp [World.setCell]; omega⟩
        case measure => simp [intOf]; omega
      · have HNZ : Hid ((n0, n1) ≠ ((0, 0) : Win)) := Lib.hid (fun e => hz (by simpa using e))
        obtain ⟨b, hb⟩ : ∃ b, meetM (n0, n1) (x0, x1) = b := ⟨_, rfl⟩
        have HB := Lib.hid hb
        clear hb
        cases b with
        | true =>
          obtain ⟨y, hy⟩ : ∃ y, joinM (n0, n1) (x0, x1) = y := ⟨_, rfl⟩
          obtain ⟨y0, y1⟩ := y
          have HYY := Lib.hid hy
          clear hy
          gi_wp2_with (first
            | (refine ⟨trivial, ?_⟩
               gi_at_call 12
               (with_reducible refine (callsIn_wide.2 (meet_any (n0, n1) (x0, x1) _)).mono ?_)
               rw [HB.out]
               rintro e w1 ⟨rfl, bb1⟩
               have u1 : UniAt W w.heap.size W.heap.size (n0, n1) w1 := HUa.out.below hnW bb1
               have t1 : w1.heap[wr.heap.size]? = some (.cells #[.int .i64 x0, .int .i64 x1] 34 (0, 0)) := (bb1.block _ (by omega)).trans HTa.out
               have q0 := cells_c0 t1
               have q1 := cells_c1 t1
               have q2 := cells_c0 u1.now_
               have q3 := cells_c1 u1.now_
               dsimp only at q2 q3
               have HJ1 : Hid (J (out, D) w1) := Lib.hid (HJ.out.below HJa.out bb1)
               have hs1 := bb1.size
               have HU1 := Lib.hid u1
               clear bb1 u1 t1)
            | (refine ⟨trivial, ?_⟩
               gi_at_call 14
               (with_reducible refine (callsIn_wide.2 (join_any (n0, n1) (x0, x1) _)).mono ?_)
               rw [HYY.out]
               rintro e w2 ⟨rfl, bb2⟩
               have u2 : UniAt W w.heap.size W.heap.size (n0, n1) w2 := HU1.out.below hnW bb2
               have r0 := cells_f (o := 0) u2.now_
               have r1 := cells_f (o := 1) u2.now_
               have r2 := cells_c0 u2.now_
               have r3 := cells_c1 u2.now_
               dsimp only at r2 r3
               have HJ3 : Hid (J (out, D) w2) := Lib.hid (HJ.out.below HJ1.out bb2)
               have hs2 := bb2.size
               have HU2 := Lib.hid u2
               clear bb2 u2))
          go_roundw
          case rel => exact ⟨k + 1, y0, y1, out, D, by omega, by go_num, HJ.out.set HJ3.out _ _, by rw [HUn.out, HDr.out, uni_join _ HNZ.out HB.out, HYY.out], HU2.out.set hnW (y0, y1), hD1, by simp [World.setCell]; omega⟩
          case measure => simp [intOf]; omega
        | false =>
          have HUn2 : Hid (uni (0, 0) l = (out ++ [(n0, n1)]) ++ uni (x0, x1) (l.drop (k + 1))) := Lib.hid (by
            rw [HUn.out, HDr.out, uni_next _ HNZ.out HB.out]
            simp)
          have HLen : Hid (out.length < (uni (0, 0) l).length) := Lib.hid (by rw [HUn2.out]; simp)
          gi_wp2_with (refine ⟨trivial, ?_⟩
                       gi_at_call 12
                       (with_reducible refine (callsIn_wide.2 (meet_any (n0, n1) (x0, x1) _)).mono ?_)
                       rw [HB.out]
                       rintro e w1 ⟨rfl, bb1⟩
                       have u1 : UniAt W w.heap.size W.heap.size (n0, n1) w1 := HUa.out.below hnW bb1
                       have t1 : w1.heap[wr.heap.size]? = some (.cells #[.int .i64 x0, .int .i64 x1] 34 (0, 0)) := (bb1.block _ (by omega)).trans HTa.out
                       have q2 := cells_c0 u1.now_
                       have q3 := cells_c1 u1.now_
                       dsimp only at q2 q3
                       obtain ⟨fn, tmps, assign, body, hy, hRd⟩ := HY.out out (n0, n1) D w1 (HJ.out.below HJa.out bb1) HLen.out u1.size hD1
                       have hs1 := bb1.size
                       have HU1 := Lib.hid u1
                       have HT1 := Lib.hid t1
                       have HRd := Lib.hid hRd
                       clear bb1 u1 t1 hRd)
          refine HRd.out.mono ?_
          rintro e W3 ⟨rfl, hJ3, hL3⟩
          have t3 : W3.heap[wr.heap.size]? = some (.cells #[.int .i64 x0, .int .i64 x1] 34 (0, 0)) := (hL3.late _ hD2 (by omega)).trans HT1.out
          have u3 : UniAt W w.heap.size W.heap.size (n0, n1) W3 := by
            have := HU1.out.size
            exact ⟨(hL3.own _ (by omega) (by omega)).trans HU1.out.none_, (hL3.own _ (by omega) (by omega)).trans HU1.out.now_, fun b q => (hL3.old b q).trans (HU1.out.old b q), Nat.le_trans this hL3.size⟩
          have q0 := cells_c0 t3
          have q1 := cells_c1 t3
          have r0 := cells_f (o := 0) u3.now_
          have r1 := cells_f (o := 1) u3.now_
          have r2 := cells_c0 u3.now_
          have r3 := cells_c1 u3.now_
          dsimp only at r2 r3
          have HU3 := Lib.hid u3
          have HJ3 := Lib.hid hJ3
          have hs3 := u3.size
          clear u3 hJ3 t3 hL3
          gi_wp2
          go_roundw
          case rel => exact ⟨k + 1, x0, x1, out ++ [(n0, n1)], W3.heap.size, by omega, by go_num, HJ.out.set HJ3.out _ _, HUn2.out, HU3.out.set hnW (x0, x1), by omega, by simp [World.setCell]⟩
          case measure => simp [intOf]; omega
    · obtain rfl : k = l.length := by omega
      have z0 := cells_c0 hU.none_
      have z1 := cells_c1 hU.none_
      have p0 := cells_c0 hU.now_
      have p1 := cells_c1 hU.now_
      dsimp only at p0 p1
      by_cases hz : n0 = 0 ∧ n1 = 0
      · obtain ⟨rfl, rfl⟩ := hz
        have HUn2 : Hid (uni (0, 0) l = out) := Lib.hid (by
          rw [HUn.out, List.drop_length, uni_none]
          simp)
        gi_wp2
        go_end0
        exact ⟨⟨_, rfl⟩, D, by rw [HUn2.out]; exact HJs.out⟩
      · have HUn2 : Hid (uni (0, 0) l = out ++ [(n0, n1)]) := Lib.hid (by
          rw [HUn.out, List.drop_length, uni_last (fun e => hz (by simpa using e))])
        obtain ⟨fn, tmps, assign, body, hy, hRd⟩ := HY.out out (n0, n1) D wr HJs.out (by rw [HUn2.out]; simp) hU.size hD1
        have HRd := Lib.hid hRd
        clear hRd
        gi_wp2
        refine HRd.out.mono ?_
        rintro e W3 ⟨rfl, hJ3, hL3⟩
        gi_wp2
        go_end0
        exact ⟨⟨_, rfl⟩, _, by rw [HUn2.out]; exact hJ3⟩
end Go.Proofs.Yteiedknpmlemkaa
