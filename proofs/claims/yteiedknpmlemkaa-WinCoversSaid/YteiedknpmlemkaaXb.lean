/-
  The document's floor, Meet, Join, Same; drafts; whether a window has a time.
-/
import Derived.Test.YteiedknpmlemkaaXa
import Derived.BigQuiet
namespace Go.Proofs.Yteiedknpmlemkaa
open Go Go.RowKit Go.Lib Go.Shelf

theorem rmeet_any (a b : Win) (W : World) : Calls Try.prog 13 #[wv a, wv b] W fun e w' => e = .returned (.bool (meetM a b)) ∧ Below W.heap.size W w' := by
  obtain ⟨a0, a1⟩ := a
  obtain ⟨b0, b1⟩ := b
  unfold meetM
  dsimp only
  by_cases h1 : a0 < b1
  · by_cases h2 : b0 < a1
    · rw [decide_eq_true h1, decide_eq_true h2]
      go_enter Try.func13, Try.ntmps13
      go_wp2
      go_ret
      exact ⟨rfl, ((Below.refl _ _).alloc (Nat.le_refl _) _).alloc (by simp) _⟩
    · rw [decide_eq_true h1, decide_eq_false h2]
      go_enter Try.func13, Try.ntmps13
      go_wp2
      go_ret
      exact ⟨rfl, ((Below.refl _ _).alloc (Nat.le_refl _) _).alloc (by simp) _⟩
  · rw [decide_eq_false h1, Bool.false_and]
    go_enter Try.func13, Try.ntmps13
    go_wp2
    go_ret
    exact ⟨rfl, ((Below.refl _ _).alloc (Nat.le_refl _) _).alloc (by simp) _⟩

set_option maxRecDepth 100000 in
theorem rjoin_any (a b : Win) (W : World) : Calls Try.prog 15 #[wv a, wv b] W fun e w' => e = .returned (wv (joinM a b)) ∧ Below W.heap.size W w' := by
  obtain ⟨a0, a1⟩ := a
  obtain ⟨b0, b1⟩ := b
  unfold joinM
  dsimp only
  go_enter Try.func15, Try.ntmps15
  go_wp2
  go_returns
  exact ⟨rfl, (((Below.refl _ _).alloc (Nat.le_refl _) _).alloc (by simp) _).alloc (by simp; omega) _⟩


set_option maxHeartbeats 800000 in
theorem rfloor_any (t n : Int) (h : 1 ≤ n ∧ n ≤ 4294967296) (ht : isT t) (w : World) : Calls Try.prog 28 #[.int .i64 t, .int .i64 n] w fun e w' => e = .returned (.int .i64 (flo t n)) ∧ w' = w := by
  unfold isT at ht
  have h0 : n ≠ 0 := by omega
  have h1 : -n < t.tmod n := Int.lt_tmod_of_pos _ (by omega)
  have h2 : t.tmod n < n := Int.tmod_lt_of_pos _ (by omega)
  have h3 : t % n = if t.tmod n < 0 then t.tmod n + n else t.tmod n := by
    have q := rem_twice t n h.1
    split
    · rename_i hneg
      rw [← q, Int.tmod_eq_of_lt (by omega) (by omega)]
    · rename_i hpos
      rw [Int.tmod_eq_emod_of_nonneg (by omega), Int.add_emod_right, Int.emod_eq_of_lt (by omega) (by omega)] at q
      omega
  unfold flo
  obtain ⟨m, hm⟩ : ∃ m, t.tmod n = m := ⟨_, rfl⟩
  rw [hm] at h1 h2 h3
  by_cases hneg : m < 0
  · rw [if_pos hneg] at h3
    rw [h3]
    go_enter Try.func28, Try.ntmps28
    go_wp2
    go_ret
    exact ⟨rfl, rfl⟩
  · rw [if_neg hneg] at h3
    rw [h3]
    go_enter Try.func28, Try.ntmps28
    go_wp2
    go_ret
    exact ⟨rfl, rfl⟩

theorem has_any (x : Win) (t : Int) (W : World) : Calls Try.prog 20 #[wv x, .int .i64 t] W fun e w' => e = .returned (.bool (decide (x.1 ≤ t) && decide (t < x.2))) ∧ Below W.heap.size W w' := by
  obtain ⟨a0, a1⟩ := x
  dsimp only
  by_cases h1 : a0 ≤ t
  · by_cases h2 : t < a1
    · rw [decide_eq_true h1, decide_eq_true h2]
      go_enter Try.func20, Try.ntmps20
      go_wp2
      go_ret
      exact ⟨rfl, (Below.refl _ _).alloc (Nat.le_refl _) _⟩
    · rw [decide_eq_true h1, decide_eq_false h2]
      go_enter Try.func20, Try.ntmps20
      go_wp2
      go_ret
      exact ⟨rfl, (Below.refl _ _).alloc (Nat.le_refl _) _⟩
  · rw [decide_eq_false h1, Bool.false_and]
    go_enter Try.func20, Try.ntmps20
    go_wp2
    go_ret
    exact ⟨rfl, (Below.refl _ _).alloc (Nat.le_refl _) _⟩

set_option maxRecDepth 100000 in
set_option maxHeartbeats 1600000 in
/-- Lists that are alike. -/
theorem same_yes (l : List Win) (A B : Option Addr) (ca cb : Nat) (n : Nat) (w : World) (ha : Wins w n (.slice A l.length ca) l) (hb : Wins w n (.slice B l.length cb) l) (hlen : l.length ≤ 1000000000) :
    Calls Try.prog 9 #[.slice A l.length ca, .slice B l.length cb] w fun e w' => e = .returned (.bool true) ∧ Below w.heap.size w w' := by
  have HA := Lib.hid ha
  have HB := Lib.hid hb
  have hG := guard34
  have hE := win_eq
  clear ha hb
  go_enter Try.func9, Try.ntmps9
  go_wp2
  go_loopw [5] (fun i wr => ∃ k : Nat, k ≤ l.length ∧ i = .int .i64 k ∧ wr.heap = w.heap ∧ Below w.heap.size w wr) (fun i _ => l.length - (intOf i).toNat)
  case atStart => exact ⟨0, Nat.zero_le _, rfl, rfl, Below.refl _ _⟩
  case round =>
    obtain ⟨k, hk, rfl, hh, hbw⟩ := hrel
    by_cases hlt : k < l.length
    · obtain ⟨A', ca', hA, hn | ⟨g, hgA, hgl, hcs⟩⟩ := HA.out
      · rw [hn] at hlt; simp at hlt
      obtain ⟨rfl, rfl⟩ : A = A' ∧ ca = ca' := by simpa using hA
      subst hgA
      obtain ⟨B', cb', hB, hn | ⟨g2, hgB, hgl2, hcs2⟩⟩ := HB.out
      · rw [hn] at hlt; simp at hlt
      obtain ⟨rfl, rfl⟩ : B = B' ∧ cb = cb' := by simpa using hB
      subst hgB
      obtain ⟨x, hx⟩ : ∃ x, l[k] = x := ⟨_, rfl⟩
      obtain ⟨x0, x1⟩ := x
      obtain ⟨c0, c1⟩ := (hcs k (x0, x1) (by rw [List.getElem?_eq_getElem hlt, hx])).same (W' := wr) (by rw [hh])
      obtain ⟨d0, d1⟩ := (hcs2 k (x0, x1) (by rw [List.getElem?_eq_getElem hlt, hx])).same (W' := wr) (by rw [hh])
      dsimp only at c0 c1 d0 d1
      have hq0 : (0 : Int) ≤ (k : Int) := by omega
      have hq1 : (k : Int) < (l.length : Int) := by omega
      have W1 : IntKind.i64.wrap ((k : Int) + 1) = (k : Int) + 1 := IntWalk.i64_in _ (by omega)
      have HH := Lib.hid hh
      have HBW := Lib.hid hbw
      clear hx hcs hcs2 hA hB hh hbw
      go_wp2
      go_quiet (fail)
      go_wp2
      go_roundw
      case rel => exact ⟨k + 1, by omega, by go_num, by simpa using HH.out, ⟨HBW.out.os, HBW.out.tape, HBW.out.output, HBW.out.size, HBW.out.block⟩⟩
      case measure => simp [intOf]; omega
    · obtain rfl : k = l.length := by omega
      go_wp2
      go_ret
      exact ⟨rfl, hbw⟩

/-- What is drafted. -/
def draftM (x : KindD) : OpD :=
  if x.what % 5 = 0 then ⟨4, 1 + x.size % 1000000, 0, 0⟩ else if x.what % 5 = 1 then ⟨5, (1 + x.size % 1000000) * (1 + x.over % 4), 1 + x.size % 1000000, 0⟩
  else if x.what % 5 = 2 then ⟨6, 1 + x.size % 1000000, 0, 0⟩ else if x.what % 5 = 3 then ⟨7, 1 + x.size % 1000000, 0, 0⟩ else ⟨x.over, x.size, x.over, 0⟩

set_option maxRecDepth 100000 in
set_option maxHeartbeats 1600000 in
theorem drafted_0 (q s o : Int) (hq : 0 ≤ q ∧ q ≤ 255) (hs : 0 ≤ s ∧ s ≤ 4294967295) (ho : 0 ≤ o ∧ o ≤ 255) (hm : q % 5 = 0) (w : World) : Calls Try.prog 8 #[.agg #[.int .u8 q, .int .u32 s, .int .u8 o]] w fun e w' => e = .returned (.agg #[.int .i64 4, .int .i64 (1 + s % 1000000), .int .i64 0, .int .i64 0]) ∧ Below w.heap.size w w' := by
  have t1 : q.tmod 5 = 0 := by rw [Int.tmod_eq_emod_of_nonneg (by omega)]; exact hm
  have t2 : s.tmod 1000000 = s % 1000000 := Int.tmod_eq_emod_of_nonneg (by omega)
  have t3 : o.tmod 4 = o % 4 := Int.tmod_eq_emod_of_nonneg (by omega)
  have b2 : 0 ≤ s % 1000000 ∧ s % 1000000 < 1000000 := by omega
  have b3 : 0 ≤ o % 4 ∧ o % 4 < 4 := by omega
  go_enter Try.func8, Try.ntmps8
  go_wp2
  go_returns
  exact ⟨rfl, ((Below.refl _ _).alloc (Nat.le_refl _) _).alloc (by simp) _⟩

set_option maxRecDepth 100000 in
set_option maxHeartbeats 1600000 in
theorem drafted_1 (q s o : Int) (hq : 0 ≤ q ∧ q ≤ 255) (hs : 0 ≤ s ∧ s ≤ 4294967295) (ho : 0 ≤ o ∧ o ≤ 255) (hm : q % 5 = 1) (w : World) : Calls Try.prog 8 #[.agg #[.int .u8 q, .int .u32 s, .int .u8 o]] w fun e w' => e = .returned (.agg #[.int .i64 5, .int .i64 ((1 + s % 1000000) * (1 + o % 4)), .int .i64 (1 + s % 1000000), .int .i64 0]) ∧ Below w.heap.size w w' := by
  have t1 : q.tmod 5 = 1 := by rw [Int.tmod_eq_emod_of_nonneg (by omega)]; exact hm
  have t2 : s.tmod 1000000 = s % 1000000 := Int.tmod_eq_emod_of_nonneg (by omega)
  have t3 : o.tmod 4 = o % 4 := Int.tmod_eq_emod_of_nonneg (by omega)
  have b2 : 0 ≤ s % 1000000 ∧ s % 1000000 < 1000000 := by omega
  have b3 : 0 ≤ o % 4 ∧ o % 4 < 4 := by omega
  have b4 : 0 ≤ (1 + s % 1000000) * (1 + o % 4) ∧ (1 + s % 1000000) * (1 + o % 4) ≤ 4000000 := by
    refine ⟨Int.mul_nonneg (by omega) (by omega), ?_⟩
    have := Int.mul_le_mul (a := 1 + s % 1000000) (b := 1 + o % 4) (c := 1000000) (d := 4) (by omega) (by omega) (by omega) (by omega)
    omega
  go_enter Try.func8, Try.ntmps8
  go_wp2
  go_returns
  exact ⟨rfl, ((Below.refl _ _).alloc (Nat.le_refl _) _).alloc (by simp) _⟩

set_option maxRecDepth 100000 in
set_option maxHeartbeats 1600000 in
theorem drafted_2 (q s o : Int) (hq : 0 ≤ q ∧ q ≤ 255) (hs : 0 ≤ s ∧ s ≤ 4294967295) (ho : 0 ≤ o ∧ o ≤ 255) (hm : q % 5 = 2) (w : World) : Calls Try.prog 8 #[.agg #[.int .u8 q, .int .u32 s, .int .u8 o]] w fun e w' => e = .returned (.agg #[.int .i64 6, .int .i64 (1 + s % 1000000), .int .i64 0, .int .i64 0]) ∧ Below w.heap.size w w' := by
  have t1 : q.tmod 5 = 2 := by rw [Int.tmod_eq_emod_of_nonneg (by omega)]; exact hm
  have t2 : s.tmod 1000000 = s % 1000000 := Int.tmod_eq_emod_of_nonneg (by omega)
  have t3 : o.tmod 4 = o % 4 := Int.tmod_eq_emod_of_nonneg (by omega)
  have b2 : 0 ≤ s % 1000000 ∧ s % 1000000 < 1000000 := by omega
  have b3 : 0 ≤ o % 4 ∧ o % 4 < 4 := by omega
  go_enter Try.func8, Try.ntmps8
  go_wp2
  go_returns
  exact ⟨rfl, ((Below.refl _ _).alloc (Nat.le_refl _) _).alloc (by simp) _⟩

set_option maxRecDepth 100000 in
set_option maxHeartbeats 1600000 in
theorem drafted_3 (q s o : Int) (hq : 0 ≤ q ∧ q ≤ 255) (hs : 0 ≤ s ∧ s ≤ 4294967295) (ho : 0 ≤ o ∧ o ≤ 255) (hm : q % 5 = 3) (w : World) : Calls Try.prog 8 #[.agg #[.int .u8 q, .int .u32 s, .int .u8 o]] w fun e w' => e = .returned (.agg #[.int .i64 7, .int .i64 (1 + s % 1000000), .int .i64 0, .int .i64 0]) ∧ Below w.heap.size w w' := by
  have t1 : q.tmod 5 = 3 := by rw [Int.tmod_eq_emod_of_nonneg (by omega)]; exact hm
  have t2 : s.tmod 1000000 = s % 1000000 := Int.tmod_eq_emod_of_nonneg (by omega)
  have t3 : o.tmod 4 = o % 4 := Int.tmod_eq_emod_of_nonneg (by omega)
  have b2 : 0 ≤ s % 1000000 ∧ s % 1000000 < 1000000 := by omega
  have b3 : 0 ≤ o % 4 ∧ o % 4 < 4 := by omega
  go_enter Try.func8, Try.ntmps8
  go_wp2
  go_returns
  exact ⟨rfl, ((Below.refl _ _).alloc (Nat.le_refl _) _).alloc (by simp) _⟩

set_option maxRecDepth 100000 in
set_option maxHeartbeats 1600000 in
theorem drafted_4 (q s o : Int) (hq : 0 ≤ q ∧ q ≤ 255) (hs : 0 ≤ s ∧ s ≤ 4294967295) (ho : 0 ≤ o ∧ o ≤ 255) (hm : q % 5 = 4) (w : World) : Calls Try.prog 8 #[.agg #[.int .u8 q, .int .u32 s, .int .u8 o]] w fun e w' => e = .returned (.agg #[.int .i64 o, .int .i64 s, .int .i64 o, .int .i64 0]) ∧ Below w.heap.size w w' := by
  have t1 : q.tmod 5 = 4 := by rw [Int.tmod_eq_emod_of_nonneg (by omega)]; exact hm
  have t2 : s.tmod 1000000 = s % 1000000 := Int.tmod_eq_emod_of_nonneg (by omega)
  have t3 : o.tmod 4 = o % 4 := Int.tmod_eq_emod_of_nonneg (by omega)
  have b2 : 0 ≤ s % 1000000 ∧ s % 1000000 < 1000000 := by omega
  have b3 : 0 ≤ o % 4 ∧ o % 4 < 4 := by omega
  go_enter Try.func8, Try.ntmps8
  go_wp2
  go_returns
  exact ⟨rfl, ((Below.refl _ _).alloc (Nat.le_refl _) _).alloc (by simp) _⟩

theorem drafted_any (x : KindD) (ok : x.ok) (w : World) : Calls Try.prog 8 #[x.val] w fun e w' => e = .returned (draftM x).val ∧ Below w.heap.size w w' := by
  obtain ⟨q, s, o⟩ := x
  obtain ⟨h1, h2, h3⟩ := ok
  dsimp only at h1 h2 h3
  have hm : q % 5 = 0 ∨ q % 5 = 1 ∨ q % 5 = 2 ∨ q % 5 = 3 ∨ q % 5 = 4 := by omega
  unfold draftM
  dsimp only
  rcases hm with h | h | h | h | h <;> rw [h] <;> simp only [Int.reduceEq, if_true, if_false, reduceIte]
  · exact drafted_0 q s o h1 h2 h3 h w
  · exact drafted_1 q s o h1 h2 h3 h w
  · exact drafted_2 q s o h1 h2 h3 h w
  · exact drafted_3 q s o h1 h2 h3 h w
  · exact drafted_4 q s o h1 h2 h3 h w
end Go.Proofs.Yteiedknpmlemkaa
