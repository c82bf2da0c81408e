/-
  Aggregates as data; one value's; two merged; what is told.
-/
import Derived.Test.YtlkekcmphbpfbaaEvM
import Derived.Test.YtlkekcmphbpfbaaRows
import Derived.Maps.AppendAt
import Derived.Laws.AppendOwnNone
import Derived.Deep.AppendLies
import Derived.Deep.RegionHeld3
import Derived.OwnWalk
import Derived.Laws.Externs
import Derived.Lib.Hide
import Derived.BigQuiet
import Derived.ProofKit
import Derived.Handy
namespace Go.Proofs.Ytlkekcmphbpfbaa
open Go Go.RowKit Go.Lib

/-- An aggregate. -/
structure AccD where
  n : Int
  hi : Int
  lo : Int
  mn : Int
  mx : Int
  deriving DecidableEq
abbrev AccD.v (a : AccD) : Value := .agg #[.int .i64 a.n, .int .i64 a.hi, .int .u64 a.lo, .int .i64 a.mn, .int .i64 a.mx]
def I64 (x : Int) : Prop := -9223372036854775808 ≤ x ∧ x < 9223372036854775808
structure AccD.ok (a : AccD) : Prop where
  n : I64 a.n
  hi : I64 a.hi
  lo : 0 ≤ a.lo ∧ a.lo < 18446744073709551616
  mn : I64 a.mn
  mx : I64 a.mx
def upM (lo : Int) : Int := if lo < 9223372036854775808 then 0 else -1
def oneM (v : Int) : AccD := ⟨1, if v < 0 then -1 else 0, v % 18446744073709551616, v, v⟩
def mergeM (a b : AccD) : AccD :=
  if a.n = 0 then b else if b.n = 0 then a else
    ⟨wrap64 (a.n + b.n), wrap64 (wrap64 (a.hi + b.hi) + (a.lo + b.lo) / 18446744073709551616), (a.lo + b.lo) % 18446744073709551616, min a.mn b.mn, max a.mx b.mx⟩
def resM (a : AccD) (g : Int) : Int × Bool :=
  if g = 0 then (a.n, true) else if g = 2 then (a.mn, true) else if g = 3 then (a.mx, true)
  else if g = 1 ∧ a.hi = upM a.lo then (wrap64 a.lo, true) else (0, false)
theorem wrap64_ok (x : Int) : I64 (wrap64 x) := by unfold wrap64 I64; omega
theorem oneM_ok {v : Int} (h : I64 v) : (oneM v).ok := by
  unfold I64 at h
  constructor <;> simp only [oneM, I64] <;> (try split) <;> omega
theorem mergeM_ok {a b : AccD} (h : a.ok) (k : b.ok) : (mergeM a b).ok := by
  unfold mergeM
  split
  · exact k
  · split
    · exact h
    · refine ⟨wrap64_ok _, wrap64_ok _, ?_, ?_, ?_⟩
      · dsimp only; omega
      · have := h.mn; have := k.mn; unfold I64 at *; dsimp only; omega
      · have := h.mx; have := k.mx; unfold I64 at *; dsimp only; omega

theorem upper_any (lo : Int) (h : 0 ≤ lo ∧ lo < 18446744073709551616) (w : World) : Calls Try.prog 17 #[.int .u64 lo] w fun e w' => e = .returned (.int .i64 (upM lo)) ∧ w' = w := by
  obtain ⟨u, hu⟩ : ∃ u, upM lo = u := ⟨_, rfl⟩
  rw [hu]
  go_enter Try.func17, Try.ntmps17
  go_wp2
  go_ret
  have : wrap64 lo / 9223372036854775808 = u := by
    rw [← hu]; unfold wrap64 upM; split <;> omega
  simp [this]

theorem upM_one (v : Int) (h : I64 v) : upM (v % 18446744073709551616) = if v < 0 then -1 else 0 := by
  unfold upM I64 at *
  split <;> split <;> omega
theorem one_any (v : Int) (h : I64 v) (w : World) : Calls Try.prog 8 #[.int .i64 v] w fun e w' => e = .returned (oneM v).v ∧ Below w.heap.size w w' := by
  have H := Lib.hid (upM_one v h)
  have hx : Hid (IntKind.u64.wrap v = v % 18446744073709551616) := Lib.hid (by rw [IntKind.wrap_u64])
  unfold oneM AccD.v
  obtain ⟨hi, hhi⟩ : ∃ hi : Int, (if v < 0 then -1 else 0) = hi := ⟨_, rfl⟩
  dsimp only
  rw [hhi] at H ⊢
  clear hhi h
  go_enter Try.func8, Try.ntmps8
  go_wp2_with (go_at_call 17
               rw [hx.out]
               (with_reducible refine (upper_any _ (by omega) _).mono ?_)
               rw [H.out]
               rintro e w1 ⟨rfl, rfl⟩)
  go_returns
  rw [hx.out]
  exact ⟨rfl, (Below.refl _ _).alloc (Nat.le_refl _) _⟩

theorem add64_any (x y : Int) (hx : 0 ≤ x) (hy : 0 ≤ y) (w : World) :
    (callFunc 18 #[.int .u64 x, .int .u64 y, .int .u64 0]).run Try.prog w = .ok (.value (.tuple #[.int .u64 ((x + y) % 18446744073709551616), .int .u64 ((x + y) / 18446744073709551616)])) w := by
  rw [run_callFunc_extern (e := add64Entry) (fn := Try.f18) (by kernel_rfl) (by kernel_rfl) (by kernel_rfl) (by kernel_rfl) (by kernel_rfl), run_add64 x y 0 hx hy (by omega) (by omega)]
  simp [Result.andThen]

set_option maxRecDepth 100000 in
theorem merge_any (a b : AccD) (h : a.ok) (k : b.ok) (w : World) : Calls Try.prog 10 #[a.v, b.v] w fun e w' => e = .returned (mergeM a b).v ∧ Below w.heap.size w w' := by
  obtain ⟨an, ah, al, am, ax⟩ := a
  obtain ⟨bn, bh, bl, bm, bx⟩ := b
  have hal := h.lo.1
  have hbl := k.lo.1
  dsimp only at hal hbl
  have hq : ∀ w, (callFunc 18 #[.int .u64 al, .int .u64 bl, .int .u64 0]).run Try.prog w = .ok (.value (.tuple #[.int .u64 ((al + bl) % 18446744073709551616), .int .u64 ((al + bl) / 18446744073709551616)])) w := fun w => add64_any al bl hal hbl w
  have hc0 : 0 ≤ (al + bl) / 18446744073709551616 ∧ (al + bl) / 18446744073709551616 ≤ 1 := by have := h.lo.2; have := k.lo.2; dsimp only at *; omega
  clear h k hal hbl
  obtain ⟨lo, hlo⟩ : ∃ lo, (al + bl) % 18446744073709551616 = lo := ⟨_, rfl⟩
  obtain ⟨cy, hcy⟩ : ∃ cy, (al + bl) / 18446744073709551616 = cy := ⟨_, rfl⟩
  unfold mergeM AccD.v
  dsimp only
  rw [hcy] at hc0
  rw [hlo, hcy]
  simp only [hlo, hcy] at hq
  clear hlo hcy
  have hw : IntKind.i64.wrap cy = cy := IntWalk.i64_in _ (by omega)
  by_cases h1 : an = 0
  · rw [if_pos h1]
    subst h1
    go_enter Try.func10, Try.ntmps10
    go_wp2
    go_returns
    exact ⟨rfl, (((Below.refl _ _).alloc (Nat.le_refl _) _).alloc (by simp) _).alloc (by simp; omega) _⟩
  · by_cases h2 : bn = 0
    · rw [if_neg h1, if_pos h2]
      subst h2
      go_enter Try.func10, Try.ntmps10
      go_wp2
      go_returns
      exact ⟨rfl, (((Below.refl _ _).alloc (Nat.le_refl _) _).alloc (by simp) _).alloc (by simp; omega) _⟩
    · rw [if_neg h1, if_neg h2]
      go_enter Try.func10, Try.ntmps10
      go_wp2
      all_goals go_returns
      all_goals refine ⟨?_, (((Below.refl _ _).alloc (Nat.le_refl _) _).alloc (by simp) _).alloc (by simp; omega) _⟩
      all_goals rw [Int.min_def, Int.max_def]
      all_goals (repeat' split)
      all_goals (first | omega | rfl | (simp [hw]; done) | (simp [hw]; omega))


theorem radd_any (x y : Int) (hx : 0 ≤ x ∧ x < 18446744073709551616) (hy : 0 ≤ y ∧ y < 18446744073709551616) (w : World) :
    Calls Try.prog 19 #[.int .u64 x, .int .u64 y] w fun e w' => e = .returned (.tuple #[.int .u64 ((x + y) % 18446744073709551616), .int .u64 ((x + y) / 18446744073709551616)]) ∧ w' = w := by
  go_enter Try.func19, Try.ntmps19
  go_wp2
  go_ret2
  simp
  constructor <;> omega
theorem rone_any (v : Int) (h : I64 v) (w : World) : Calls Try.prog 9 #[.int .i64 v] w fun e w' => e = .returned (oneM v).v ∧ Below w.heap.size w w' := by
  have hx : Hid (IntKind.u64.wrap v = v % 18446744073709551616) := Lib.hid (by rw [IntKind.wrap_u64])
  unfold oneM AccD.v
  dsimp only
  by_cases hv : v < 0
  · rw [if_pos hv]
    go_enter Try.func9, Try.ntmps9
    go_wp2
    go_returns
    rw [hx.out]
    exact ⟨rfl, ((Below.refl _ _).alloc (Nat.le_refl _) _).alloc (by simp) _⟩
  · rw [if_neg hv]
    go_enter Try.func9, Try.ntmps9
    go_wp2
    go_returns
    rw [hx.out]
    exact ⟨rfl, ((Below.refl _ _).alloc (Nat.le_refl _) _).alloc (by simp) _⟩
end Go.Proofs.Ytlkekcmphbpfbaa
