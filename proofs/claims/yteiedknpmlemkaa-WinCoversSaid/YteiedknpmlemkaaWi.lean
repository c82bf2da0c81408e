/-
  What the closures of the kinds of windows give.
-/
import Derived.Test.YteiedknpmlemkaaWh
namespace Go.Proofs.Yteiedknpmlemkaa
open Go Go.RowKit Go.Lib Go.Shelf
attribute [local go_sem] Oper.semAt_some

theorem isT_small {t : Int} (h : isT t) : -1152921504606846976 ≤ t ∧ t ≤ 1152921504606846976 := h
theorem flo_small {t n : Int} (h : isT t) (hn : 1 ≤ n ∧ n ≤ 1073741824) : -1152921505680588800 ≤ flo t n ∧ flo t n ≤ 1152921504606846976 := by
  have h1 := flo_le t n hn.1
  have h2 := lt_flo t n hn.1
  unfold isT at h
  omega

set_option maxRecDepth 100000 in
set_option maxHeartbeats 1600000 in
theorem session_gives (gt go : Nat) (o : OpD) (t : Int) (w : World) (h1 : gt < w.heap.size) (h2 : go < w.heap.size) (ht : w.cell? ⟨gt, 0, none⟩ = some (.int .i64 t)) (ho : OpAt w go o) (hT : isT t) (ha : 1 ≤ o.a ∧ o.a ≤ 1073741824) :
    Gives 40 #[.pointer (some ⟨gt, 0, none⟩), .pointer (some ⟨go, 0, none⟩)] [(t, t + o.a)] 1 w := fun l J Jx W hW hJ hJx hY h0 => by
  have ct := (cell_heap (off := 0) (hW.block gt h1)).trans ht
  obtain ⟨c0, c1, c2, c3⟩ := ho.same (hW.block go h2)
  obtain ⟨fn, tmps, assign, body, hy, hR⟩ := hY [] (t, t + o.a) W h0 (by simp)
  dsimp only at hy
  unfold isT at hT
  clear hY ht ho
  refine callsIn_of_wp Try.func40 rfl trivial ?_ rfl
  simp only [Try.ntmps40, List.size_toArray, List.length_cons, List.length_nil, Nat.reduceAdd, Nat.reduceSub, Array.replicate_succ, Array.replicate_zero, List.push_toArray, List.append_toArray, List.nil_append, List.cons_append]
  gi_wp2
  refine hR.mono ?_
  rintro e W3 (⟨rfl, hJ3, hk3⟩ | ⟨rfl, hJx3⟩)
  · gi_wp2
    go_end0
    exact ⟨⟨_, rfl⟩, .inl ⟨_, rfl, hJ3⟩⟩
  · gi_wp2
    go_end0
    exact ⟨⟨_, rfl⟩, .inr ⟨_, trivial, hJx3⟩⟩

set_option maxRecDepth 100000 in
set_option maxHeartbeats 1600000 in
theorem tumble_gives (gt go : Nat) (o : OpD) (t : Int) (w : World) (h1 : gt < w.heap.size) (h2 : go < w.heap.size) (ht : w.cell? ⟨gt, 0, none⟩ = some (.int .i64 t)) (ho : OpAt w go o) (hT : isT t) (ha : 1 ≤ o.a ∧ o.a ≤ 1073741824) :
    Gives 37 #[.pointer (some ⟨gt, 0, none⟩), .pointer (some ⟨go, 0, none⟩)] [(flo t o.a, flo t o.a + o.a)] 1 w := fun l J Jx W hW hJ hJx hY h0 => by
  have ct := (cell_heap (off := 0) (hW.block gt h1)).trans ht
  obtain ⟨c0, c1, c2, c3⟩ := ho.same (hW.block go h2)
  obtain ⟨fn, tmps, assign, body, hy, hR⟩ := hY [] (flo t o.a, flo t o.a + o.a) W h0 (by simp)
  dsimp only at hy
  have hs := flo_small hT ha
  have HF := fun w => Lib.hid (callsIn_wide (n := 8) |>.2 (floor_any t o.a ⟨ha.1, by omega⟩ hT w))
  clear hY ht ho
  obtain ⟨f, hf⟩ : ∃ f, flo t o.a = f := ⟨_, rfl⟩
  rw [hf] at hs hy HF
  rw [hf]
  refine callsIn_of_wp Try.func37 rfl trivial ?_ rfl
  simp only [Try.ntmps37, List.size_toArray, List.length_cons, List.length_nil, Nat.reduceAdd, Nat.reduceSub, Array.replicate_succ, Array.replicate_zero, List.push_toArray, List.append_toArray, List.nil_append, List.cons_append]
  gi_wp2_with (refine ⟨trivial, ?_⟩
               gi_at_call 38
               (with_reducible refine (HF _).out.mono ?_)
               rintro e w1 ⟨rfl, rfl⟩)
  refine hR.mono ?_
  rintro e W3 (⟨rfl, hJ3, hk3⟩ | ⟨rfl, hJx3⟩)
  · gi_wp2
    go_end0
    exact ⟨⟨_, rfl⟩, .inl ⟨_, rfl, by rw [hf] at hJ3; exact hJ3⟩⟩
  · gi_wp2
    go_end0
    exact ⟨⟨_, rfl⟩, .inr ⟨_, trivial, hJx3⟩⟩

/-- The k-th window of a Slide. -/
def slideAt (t a b : Int) (k : Nat) : Win := (flo t b - a + b + k * b, flo t b - a + b + k * b + a)
def slideM (q : Nat) (t a b : Int) : List Win := (List.range q).map (slideAt t a b)
theorem slideM_succ (k : Nat) (t a b : Int) : slideM (k + 1) t a b = slideM k t a b ++ [slideAt t a b k] := by simp [slideM, List.range_succ]
theorem slideM_len (k : Nat) (t a b : Int) : (slideM k t a b).length = k := by simp [slideM]

set_option maxRecDepth 100000 in
set_option maxHeartbeats 3200000 in
theorem slide_gives (gt go : Nat) (o : OpD) (t : Int) (q : Nat) (w : World) (h1 : gt < w.heap.size) (h2 : go < w.heap.size) (ht : w.cell? ⟨gt, 0, none⟩ = some (.int .i64 t)) (ho : OpAt w go o) (hT : isT t) (ha : 1 ≤ o.a ∧ o.a ≤ 1073741824)
    (hb : 1 ≤ o.b) (hq : o.a = q * o.b) (hq4 : q ≤ 4) :
    Gives 39 #[.pointer (some ⟨gt, 0, none⟩), .pointer (some ⟨go, 0, none⟩)] (slideM q t o.a o.b) q w := fun l J Jx W hW hJ hJx hY h0 => by
  have hq1 : 1 ≤ q := by
    rcases Nat.eq_zero_or_pos q with rfl | h
    · simp at hq; omega
    · exact h
  have hba : o.b ≤ o.a := by
    rw [hq]
    have : (1 : Int) * o.b ≤ q * o.b := Int.mul_le_mul_of_nonneg_right (by omega) (by omega)
    omega
  have ct := (cell_heap (off := 0) (hW.block gt h1)).trans ht
  obtain ⟨c0, c1, c2, c3⟩ := ho.same (hW.block go h2)
  have hs := flo_small hT (n := o.b) ⟨hb, by omega⟩
  have HF := fun w => Lib.hid (callsIn_wide (n := 8) |>.2 (floor_any t o.b ⟨hb, by omega⟩ hT w))
  obtain ⟨f, hf⟩ : ∃ f, flo t o.b = f := ⟨_, rfl⟩
  rw [hf] at hs HF
  have HAt : Hid (∀ k : Nat, slideAt t o.a o.b k = (f - o.a + o.b + k * o.b, f - o.a + o.b + k * o.b + o.a)) := Lib.hid (fun k => by unfold slideAt; rw [hf])
  have HY := Lib.hid hY
  have HO := Lib.hid (ho.same (hW.block go h2))
  have HQ := Lib.hid hq
  have HW := Lib.hid hW
  clear hY ht ho hq hf hW
  refine callsIn_of_wp Try.func39 rfl trivial ?_ rfl
  simp only [Try.ntmps39, List.size_toArray, List.length_cons, List.length_nil, Nat.reduceAdd, Nat.reduceSub, Array.replicate_succ, Array.replicate_zero, List.push_toArray, List.append_toArray, List.nil_append, List.cons_append]
  gi_wp2_with (refine ⟨trivial, ?_⟩
               gi_at_call 38
               (with_reducible refine (HF _).out.mono ?_)
               rintro e W ⟨rfl, rfl⟩)
  gi_loopw [5] (fun i wr => ∃ k : Nat, k ≤ q ∧ i = .int .i64 (f - o.a + o.b + k * o.b) ∧ J (slideM k t o.a o.b) wr ∧ Below w.heap.size W wr)
    (fun i _ => (f - intOf i + 1).toNat)
  case atStart => exact ⟨0, Nat.zero_le _, by simp, h0, Below.refl _ _⟩
  case round =>
    obtain ⟨k, hk, rfl, hJs, hnx⟩ := hrel
    obtain ⟨d0, d1, d2, d3⟩ := HO.out.same (W' := wr) (hnx.block go h2)
    obtain ⟨m, hm⟩ : ∃ m : Int, k * o.b = m := ⟨_, rfl⟩
    have hm1 : 0 ≤ m := by rw [← hm]; exact Int.mul_nonneg (by omega) (by omega)
    have hm2 : m ≤ o.a := by rw [← hm, HQ.out]; exact Int.mul_le_mul_of_nonneg_right (by omega) (by omega)
    by_cases hlt : k < q
    · have hm3 : m + o.b ≤ o.a := by
        rw [← hm, HQ.out]
        have : ((k : Int) + 1) * o.b ≤ q * o.b := Int.mul_le_mul_of_nonneg_right (by omega) (by omega)
        rw [Int.add_mul] at this; omega
      obtain ⟨fn, tmps, assign, body, hy, hRd⟩ := HY.out (slideM k t o.a o.b) (slideAt t o.a o.b k) wr hJs (by rw [slideM_len]; exact hlt)
      rw [HAt.out] at hy
      try dsimp only at hy
      rw [hm] at hy ⊢
      have HM := Lib.hid hm
      clear hm
      gi_wp2
      refine hRd.mono ?_
      rintro e W3 (⟨rfl, hJ3, hk3⟩ | ⟨rfl, hJx3⟩)
      · have hn3 : Below w.heap.size W W3 := hnx.trans hk3
        obtain ⟨e0, e1, e2, e3⟩ := HO.out.same (W' := W3) (hn3.block go h2)
        gi_wp2
        go_roundw
        case rel =>
          refine ⟨k + 1, by omega, ?_, by rw [slideM_succ]; exact hJ3, hn3⟩
          have : ((k + 1 : Nat) : Int) * o.b = m + o.b := by rw [Int.natCast_add, Int.add_mul, HM.out]; omega
          rw [this]
          congr 1
          omega
        case measure => simp [intOf]; omega
      · gi_wp2
        go_end0
        exact ⟨⟨_, rfl⟩, .inr ⟨_, trivial, hJx3⟩⟩
    · obtain rfl : k = q := by omega
      have hm4 : m = o.a := by rw [← hm, HQ.out]
      rw [hm]
      gi_wp2
      refine ⟨fun _ h => (by cases h), ?_⟩
      gi_wp2
      go_end0
      exact ⟨⟨_, rfl⟩, .inl ⟨_, rfl, hJs⟩⟩
end Go.Proofs.Yteiedknpmlemkaa
