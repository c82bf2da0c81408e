/-
  What the reference tells of an aggregate; aggregates that are equal.
-/
import Derived.Test.YtlkekcmphbpfbaaAd
import Derived.Laws.StructEq
import Derived.BigQuiet
namespace Go.Proofs.Ytlkekcmphbpfbaa
open Go Go.RowKit Go.Lib

theorem guard24 : Try.prog.eqGuardType Try.prog.depth 24 = false := by kernel_rfl
theorem stood24 : Try.prog.stoodInHeld 24 = false := by kernel_rfl
theorem str24 : Try.prog.underlying 24 = some (.struct (Try.prog.fieldsOf 24)) := by kernel_rfl
theorem flds24 : (Try.prog.fieldsOf 24).toList = [{ name := "N", type := 2, offset := 0, embedded := false, tag := "", pkgPath := "", byteOffset := 0 },
        { name := "Hi", type := 2, offset := 1, embedded := false, tag := "", pkgPath := "", byteOffset := 8 },
        { name := "Lo", type := 22, offset := 2, embedded := false, tag := "", pkgPath := "", byteOffset := 16 },
        { name := "Min", type := 2, offset := 3, embedded := false, tag := "", pkgPath := "", byteOffset := 24 },
        { name := "Max", type := 2, offset := 4, embedded := false, tag := "", pkgPath := "", byteOffset := 32 }] := by kernel_rfl
theorem prt (t : TypeId) (k : IntKind) (h : Try.prog.underlying t = some (.int k)) (xs : Array Value) (off : Nat) (v : Value) (hv : xs[off]? = some v) (w : World) : (part t xs off).run Try.prog w = .ok v w := by
  simp [part, isAgg, run_underlying h, hv]
theorem acc_eq (a : AccD) (w : World) : (Op.equalIn 10000 24 a.v a.v).run Try.prog w = .ok true w := by
  rw [run_equalIn_struct w 9999 24 _ _ str24 stood24, flds24]
  have q0 := fun w => prt 2 .i64 Try.underlying2 #[.int .i64 a.n, .int .i64 a.hi, .int .u64 a.lo, .int .i64 a.mn, .int .i64 a.mx] 0 (.int .i64 a.n) rfl w
  have q1 := fun w => prt 2 .i64 Try.underlying2 #[.int .i64 a.n, .int .i64 a.hi, .int .u64 a.lo, .int .i64 a.mn, .int .i64 a.mx] 1 (.int .i64 a.hi) rfl w
  have q2 := fun w => prt 22 .u64 Try.underlying22 #[.int .i64 a.n, .int .i64 a.hi, .int .u64 a.lo, .int .i64 a.mn, .int .i64 a.mx] 2 (.int .u64 a.lo) rfl w
  have q3 := fun w => prt 2 .i64 Try.underlying2 #[.int .i64 a.n, .int .i64 a.hi, .int .u64 a.lo, .int .i64 a.mn, .int .i64 a.mx] 3 (.int .i64 a.mn) rfl w
  have q4 := fun w => prt 2 .i64 Try.underlying2 #[.int .i64 a.n, .int .i64 a.hi, .int .u64 a.lo, .int .i64 a.mn, .int .i64 a.mx] 4 (.int .i64 a.mx) rfl w
  have e1 : ∀ n w, (Op.equalIn 9999 2 (.int .i64 n) (.int .i64 n)).run Try.prog w = .ok true w := fun n w => by rw [run_equalIn_int w 9998 2 .i64 .i64 _ _ Try.underlying2]; simp
  have e2 : ∀ n w, (Op.equalIn 9999 22 (.int .u64 n) (.int .u64 n)).run Try.prog w = .ok true w := fun n w => by rw [run_equalIn_int w 9998 22 .u64 .u64 _ _ Try.underlying22]; simp
  simp [Op.eqFields, q0, q1, q2, q3, q4, e1, e2]

set_option maxRecDepth 100000 in
theorem rresult_any (a : AccD) (g : Int) (hl : 0 ≤ a.lo ∧ a.lo < 18446744073709551616) (w : World) : Calls Try.prog 13 #[a.v, .int .i64 g] w fun e w' => e = .returned (Tells a g) ∧ Below w.heap.size w w' := by
  obtain ⟨an, ah, al, am, ax⟩ := a
  dsimp only at hl
  by_cases hg : g < 0 ∨ 3 < g
  · unfold Tells AccD.v
    rw [res_no _ g hg]
    have h0 : ¬ g = 0 := by omega
    have h1 : ¬ g = 1 := by omega
    have h2 : ¬ g = 2 := by omega
    have h3 : ¬ g = 3 := by omega
    clear hg
    go_enter Try.func13, Try.ntmps13
    go_wp2
    go_returns
    exact ⟨rfl, by go_grown⟩
  · obtain rfl | rfl | rfl | rfl : g = 0 ∨ g = 1 ∨ g = 2 ∨ g = 3 := by omega
    · unfold Tells AccD.v
      rw [res_0]
      go_enter Try.func13, Try.ntmps13
      go_wp2
      go_returns
      exact ⟨rfl, by go_grown⟩
    · unfold Tells AccD.v
      rw [res_1]
      dsimp only
      by_cases hs : al < 9223372036854775808
      · have hu : upM al = 0 := by unfold upM; rw [if_pos hs]
        have hw : wrap64 al = al := by unfold wrap64; omega
        have hp : 0 ≤ al := hl.1
        rw [hu, hw]
        by_cases h0 : ah = 0
        · rw [if_pos h0]
          subst h0
          go_enter Try.func13, Try.ntmps13
          go_wp2
          go_returns
          exact ⟨by simp [hw], by go_grown⟩
        · rw [if_neg h0]
          go_enter Try.func13, Try.ntmps13
          go_wp2
          go_returns
          exact ⟨rfl, by go_grown⟩
      · have hu : upM al = -1 := by unfold upM; rw [if_neg hs]
        have hw : wrap64 al = al - 18446744073709551616 := by unfold wrap64; omega
        have hn : ¬ 0 ≤ al - 18446744073709551616 := by omega
        have hn' : al - 18446744073709551616 < 0 := by omega
        rw [hu, hw]
        by_cases h0 : ah = -1
        · rw [if_pos h0]
          subst h0
          go_enter Try.func13, Try.ntmps13
          go_wp2
          go_returns
          exact ⟨by simp [hw], by go_grown⟩
        · rw [if_neg h0]
          go_enter Try.func13, Try.ntmps13
          go_wp2
          go_returns
          exact ⟨rfl, by go_grown⟩
    · unfold Tells AccD.v
      rw [res_2]
      go_enter Try.func13, Try.ntmps13
      go_wp2
      go_returns
      exact ⟨rfl, by go_grown⟩
    · unfold Tells AccD.v
      rw [res_3]
      go_enter Try.func13, Try.ntmps13
      go_wp2
      go_returns
      exact ⟨rfl, by go_grown⟩
end Go.Proofs.Ytlkekcmphbpfbaa
