/-
  Frames: the walk of the program's measured: its loop.
-/
import Derived.Test.YtoknpadkkokbgaaFc
namespace Go.Proofs.Ytoknpadkkokbgaa
open Go Go.RowKit Go.Lib

def MEnd (s : ByteArray) (a : Int) (w : World) (e : Ending) (w' : World) : Prop :=
  e = .returned (.tuple #[.int .i64 ((if wrong s a = 0 then len3 s a.toNat else 0 : Nat) : Int), .int .i64 (wrong s a)]) ∧ Below w.heap.size w w'
def MInv (s : ByteArray) (a : Int) (w : World) (i : Value) (wr : World) : Prop :=
  ∃ j : Nat, j ≤ 7 ∧ i = .int .i64 j ∧ (∀ i, i < j → bad s a i = false) ∧ Laid s a w.heap.size wr ∧ Below w.heap.size w wr ∧ w.heap.size + 5 ≤ wr.heap.size
theorem m_bad {s : ByteArray} {a : Int} {w w' : World} {j : Nat} {c : Nat} (hj : j < 7) (hc : code j = c) (hg : ∀ i, i < j → bad s a i = false) (h : bad s a j = true) (hb : Below w.heap.size w w') : MEnd s a w (.returned (.tuple #[.int .i64 0, .int .i64 (c : Nat)])) w' := by
  have e := wrong_bad hj hg h
  have hc0 : code j ≠ 0 := by unfold code; split <;> omega
  rw [hc] at e
  refine ⟨?_, hb⟩
  rw [e, if_neg (by rw [← hc]; exact hc0)]
  rfl
theorem m_step {s : ByteArray} {a : Int} {w wr w' : World} {j : Nat} (hj : j < 7) (hg : ∀ i, i < j → bad s a i = false) (h : bad s a j = false) (hl : Laid s a w.heap.size wr) (hb : Below w.heap.size w wr) (hz : w.heap.size + 5 ≤ wr.heap.size)
    (hw : Below wr.heap.size wr w') : MInv s a w (.int .i64 ((j + 1 : Nat) : Int)) w' :=
  ⟨j + 1, hj, rfl, fun i hi => by
    rcases Nat.lt_or_ge i j with h1 | h1
    · exact hg i h1
    · obtain rfl : i = j := by omega
      exact h, hl.below (hw.mono hz), hb.trans (hw.mono hb.size), Nat.le_trans hz hw.size⟩

theorem start_laid (s : ByteArray) (a : Int) (w : World) : Laid s a w.heap.size
    (((((w.alloc (.cells #[.string s] 9)).alloc (.cells #[.int .i64 a] 3)).alloc (.cells #[.int .i64 (wrap64 ((s.size : Int) - a))] 3)).alloc (.cells #[.func (.func 21) #[] #[.pointer (some ⟨w.heap.size, 0, none⟩), .pointer (some ⟨w.heap.size + 1, 0, none⟩)]] 54)).alloc
      (.cells #[.int .i64 2, chk w.heap.size 0, .int .i64 9, chk w.heap.size 1, .int .i64 5, chk w.heap.size 2, .int .i64 20, chk w.heap.size 3, .int .i64 5, chk w.heap.size 4, .int .i64 20, chk w.heap.size 5, .int .i64 5, chk w.heap.size 6] 55)) := by
  refine ⟨?_, ?_, ?_, ?_, fun j hj => ?_⟩
  · rw [World.cell?_alloc_lt _ _ _ (by simp <;> omega), World.cell?_alloc_lt _ _ _ (by simp <;> omega), World.cell?_alloc_lt _ _ _ (by simp <;> omega), World.cell?_alloc_lt _ _ _ (by simp), World.cell?_alloc_at _ _ _ _ (by simp)]; rfl
  · rw [World.cell?_alloc_lt _ _ _ (by simp <;> omega), World.cell?_alloc_lt _ _ _ (by simp <;> omega), World.cell?_alloc_lt _ _ _ (by simp), World.cell?_alloc_at _ _ _ _ (by simp)]; rfl
  · rw [World.cell?_alloc_lt _ _ _ (by simp <;> omega), World.cell?_alloc_lt _ _ _ (by simp), World.cell?_alloc_at _ _ _ _ (by simp)]; rfl
  · rw [World.cell?_alloc_lt _ _ _ (by simp), World.cell?_alloc_at _ _ _ _ (by simp)]; rfl
  · have : j = 0 ∨ j = 1 ∨ j = 2 ∨ j = 3 ∨ j = 4 ∨ j = 5 ∨ j = 6 := by omega
    rw [World.cell?_alloc_at _ _ _ _ (by simp), World.cell?_alloc_at _ _ _ _ (by simp)]
    rcases this with rfl | rfl | rfl | rfl | rfl | rfl | rfl <;> exact ⟨rfl, rfl⟩

set_option maxRecDepth 100000 in
set_option maxHeartbeats 3200000 in
theorem measured_any (s : ByteArray) (a : Int) (w : World) (hs : s.size ≤ 140737488355328) :
    Calls Try.prog 18 #[.string s, .int .i64 a] w (MEnd s a w) := by
  have SL := Lib.hid (start_laid s a w)
  have SB := Lib.hid (((((((Below.refl w.heap.size w).alloc (Nat.le_refl _) (.cells #[.string s] 9)).alloc (by simp) (.cells #[.int .i64 a] 3)).alloc (by simp <;> omega) (.cells #[.int .i64 (wrap64 ((s.size : Int) - a))] 3)).alloc (by simp <;> omega) (.cells #[.func (.func 21) #[] #[.pointer (some ⟨w.heap.size, 0, none⟩), .pointer (some ⟨w.heap.size + 1, 0, none⟩)]] 54)).alloc (by simp <;> omega)
      (.cells #[.int .i64 2, chk w.heap.size 0, .int .i64 9, chk w.heap.size 1, .int .i64 5, chk w.heap.size 2, .int .i64 20, chk w.heap.size 3, .int .i64 5, chk w.heap.size 4, .int .i64 20, chk w.heap.size 5, .int .i64 5, chk w.heap.size 6] 55)))
  go_enter Try.func18, Try.ntmps18
  go_wp2
  go_loopw [33] (fun i wr => MInv s a w i wr) (fun i _ => (7 - (Lib.intOf i).toNat))
  case atStart => exact ⟨0, by omega, rfl, fun _ h => by omega, SL.out, SB.out, by simp⟩
  case round =>
    clear SL SB
    obtain ⟨j, hj, rfl, hg, hL, hB, hz⟩ := hrel
    have HG := Lib.hid hg
    have HL := Lib.hid hL
    clear hg hL
    by_cases h7 : j = 7
    · subst h7
      have h0 : ¬ (a < 0 ∨ (s.size : Int) < a) := by simpa [bad] using HG.out 0 (by omega)
      have h3 : ¬ (s.size : Int) - a < 4 := of_decide_eq_false (HG.out 3 (by omega))
      obtain ⟨k, rfl⟩ : ∃ k : Nat, a = k := ⟨a.toNat, by omega⟩
      have K := Lib.hid (size_any w.heap.size (w.heap.size + 1) s k wr hs HL.out.cs HL.out.ca (by omega))
      have HW := Lib.hid (wrong_none HG.out)
      have g1 : wr.cell? ⟨w.heap.size + 1 + 1 + 1, 0, none⟩ = some (.func (.func 21) #[] #[.pointer (some ⟨w.heap.size, 0, none⟩), .pointer (some ⟨w.heap.size + 1, 0, none⟩)]) := HL.out.cz
      go_wp2_with (go_at_call 21; (with_reducible refine K.out.mono ?_); rintro e w1 ⟨rfl, n, rfl⟩)
      go_ret2
      refine ⟨?_, hB.trans (below_drewN _ _ _)⟩
      rw [HW.out, if_pos rfl]
      rfl
    · have : j = 0 ∨ j = 1 ∨ j = 2 ∨ j = 3 ∨ j = 4 ∨ j = 5 ∨ j = 6 := by omega
      clear h7 hj
      rcases this with rfl | rfl | rfl | rfl | rfl | rfl | rfl
      · have K : ∀ o, Calls Try.prog 22 #[.pointer (some ⟨w.heap.size + 1, 0, none⟩), .pointer (some ⟨w.heap.size, 0, none⟩)] (wr.alloc o) (QB (bad s a 0) (wr.alloc o)) :=
          fun o => chk_call (j := 0) hs (by omega) HG.out (HL.out.below ((Below.refl _ _).alloc hz o))
        have HK := Lib.hid K
        clear K
        have g1 : wr.cell? ⟨w.heap.size + 1 + 1 + 1 + 1, 0, none⟩ = some (.int .i64 2) := (HL.out.ct 0 (by omega)).1
        have g2 : wr.cell? ⟨w.heap.size + 1 + 1 + 1 + 1, 1, none⟩ = some (.func (.func 22) #[] #[.pointer (some ⟨w.heap.size + 1, 0, none⟩), .pointer (some ⟨w.heap.size, 0, none⟩)]) := (HL.out.ct 0 (by omega)).2
        cases hb : bad s a 0
        · rw [hb] at HK
          have HB := Lib.hid hb
          clear hb
          go_wp2_with (go_at_call 22; (with_reducible refine (HK.out _).mono ?_); rintro e w1 ⟨rfl, n, rfl⟩)
          exact ⟨m_step (j := 0) (by omega) HG.out HB.out HL.out hB hz (((Below.refl _ _).alloc (Nat.le_refl _) _).trans (below_drewN _ _ _)), by decide⟩
        · rw [hb] at HK
          have HB := Lib.hid hb
          clear hb
          go_wp2_with (go_at_call 22; (with_reducible refine (HK.out _).mono ?_); rintro e w1 ⟨rfl, n, rfl⟩)
          go_quiet (fail)
          go_wp2_with fail
          go_ret2
          exact m_bad (j := 0) (by omega) rfl HG.out HB.out (((hB.alloc (by omega) _).trans (below_drewN _ _ _)).trans (below_drewN _ _ _))
      · have K : ∀ o, Calls Try.prog 23 #[.pointer (some ⟨w.heap.size + 1 + 1, 0, none⟩)] (wr.alloc o) (QB (bad s a 1) (wr.alloc o)) :=
          fun o => chk_call (j := 1) hs (by omega) HG.out (HL.out.below ((Below.refl _ _).alloc hz o))
        have HK := Lib.hid K
        clear K
        have g1 : wr.cell? ⟨w.heap.size + 1 + 1 + 1 + 1, 2, none⟩ = some (.int .i64 9) := (HL.out.ct 1 (by omega)).1
        have g2 : wr.cell? ⟨w.heap.size + 1 + 1 + 1 + 1, 3, none⟩ = some (.func (.func 23) #[] #[.pointer (some ⟨w.heap.size + 1 + 1, 0, none⟩)]) := (HL.out.ct 1 (by omega)).2
        cases hb : bad s a 1
        · rw [hb] at HK
          have HB := Lib.hid hb
          clear hb
          go_wp2_with (go_at_call 23; (with_reducible refine (HK.out _).mono ?_); rintro e w1 ⟨rfl, n, rfl⟩)
          exact ⟨m_step (j := 1) (by omega) HG.out HB.out HL.out hB hz (((Below.refl _ _).alloc (Nat.le_refl _) _).trans (below_drewN _ _ _)), by decide⟩
        · rw [hb] at HK
          have HB := Lib.hid hb
          clear hb
          go_wp2_with (go_at_call 23; (with_reducible refine (HK.out _).mono ?_); rintro e w1 ⟨rfl, n, rfl⟩)
          go_quiet (fail)
          go_wp2_with fail
          go_ret2
          exact m_bad (j := 1) (by omega) rfl HG.out HB.out (((hB.alloc (by omega) _).trans (below_drewN _ _ _)).trans (below_drewN _ _ _))
      · have K : ∀ o, Calls Try.prog 24 #[.pointer (some ⟨w.heap.size, 0, none⟩), .pointer (some ⟨w.heap.size + 1, 0, none⟩)] (wr.alloc o) (QB (bad s a 2) (wr.alloc o)) :=
          fun o => chk_call (j := 2) hs (by omega) HG.out (HL.out.below ((Below.refl _ _).alloc hz o))
        have HK := Lib.hid K
        clear K
        have g1 : wr.cell? ⟨w.heap.size + 1 + 1 + 1 + 1, 4, none⟩ = some (.int .i64 5) := (HL.out.ct 2 (by omega)).1
        have g2 : wr.cell? ⟨w.heap.size + 1 + 1 + 1 + 1, 5, none⟩ = some (.func (.func 24) #[] #[.pointer (some ⟨w.heap.size, 0, none⟩), .pointer (some ⟨w.heap.size + 1, 0, none⟩)]) := (HL.out.ct 2 (by omega)).2
        cases hb : bad s a 2
        · rw [hb] at HK
          have HB := Lib.hid hb
          clear hb
          go_wp2_with (go_at_call 24; (with_reducible refine (HK.out _).mono ?_); rintro e w1 ⟨rfl, n, rfl⟩)
          exact ⟨m_step (j := 2) (by omega) HG.out HB.out HL.out hB hz (((Below.refl _ _).alloc (Nat.le_refl _) _).trans (below_drewN _ _ _)), by decide⟩
        · rw [hb] at HK
          have HB := Lib.hid hb
          clear hb
          go_wp2_with (go_at_call 24; (with_reducible refine (HK.out _).mono ?_); rintro e w1 ⟨rfl, n, rfl⟩)
          go_quiet (fail)
          go_wp2_with fail
          go_ret2
          exact m_bad (j := 2) (by omega) rfl HG.out HB.out (((hB.alloc (by omega) _).trans (below_drewN _ _ _)).trans (below_drewN _ _ _))
      · have K : ∀ o, Calls Try.prog 25 #[.pointer (some ⟨w.heap.size + 1 + 1, 0, none⟩)] (wr.alloc o) (QB (bad s a 3) (wr.alloc o)) :=
          fun o => chk_call (j := 3) hs (by omega) HG.out (HL.out.below ((Below.refl _ _).alloc hz o))
        have HK := Lib.hid K
        clear K
        have g1 : wr.cell? ⟨w.heap.size + 1 + 1 + 1 + 1, 6, none⟩ = some (.int .i64 20) := (HL.out.ct 3 (by omega)).1
        have g2 : wr.cell? ⟨w.heap.size + 1 + 1 + 1 + 1, 7, none⟩ = some (.func (.func 25) #[] #[.pointer (some ⟨w.heap.size + 1 + 1, 0, none⟩)]) := (HL.out.ct 3 (by omega)).2
        cases hb : bad s a 3
        · rw [hb] at HK
          have HB := Lib.hid hb
          clear hb
          go_wp2_with (go_at_call 25; (with_reducible refine (HK.out _).mono ?_); rintro e w1 ⟨rfl, n, rfl⟩)
          exact ⟨m_step (j := 3) (by omega) HG.out HB.out HL.out hB hz (((Below.refl _ _).alloc (Nat.le_refl _) _).trans (below_drewN _ _ _)), by decide⟩
        · rw [hb] at HK
          have HB := Lib.hid hb
          clear hb
          go_wp2_with (go_at_call 25; (with_reducible refine (HK.out _).mono ?_); rintro e w1 ⟨rfl, n, rfl⟩)
          go_quiet (fail)
          go_wp2_with fail
          go_ret2
          exact m_bad (j := 3) (by omega) rfl HG.out HB.out (((hB.alloc (by omega) _).trans (below_drewN _ _ _)).trans (below_drewN _ _ _))
      · have K : ∀ o, Calls Try.prog 26 #[.pointer (some ⟨w.heap.size + 1 + 1 + 1, 0, none⟩)] (wr.alloc o) (QB (bad s a 4) (wr.alloc o)) :=
          fun o => chk_call (j := 4) hs (by omega) HG.out (HL.out.below ((Below.refl _ _).alloc hz o))
        have HK := Lib.hid K
        clear K
        have g1 : wr.cell? ⟨w.heap.size + 1 + 1 + 1 + 1, 8, none⟩ = some (.int .i64 5) := (HL.out.ct 4 (by omega)).1
        have g2 : wr.cell? ⟨w.heap.size + 1 + 1 + 1 + 1, 9, none⟩ = some (.func (.func 26) #[] #[.pointer (some ⟨w.heap.size + 1 + 1 + 1, 0, none⟩)]) := (HL.out.ct 4 (by omega)).2
        cases hb : bad s a 4
        · rw [hb] at HK
          have HB := Lib.hid hb
          clear hb
          go_wp2_with (go_at_call 26; (with_reducible refine (HK.out _).mono ?_); rintro e w1 ⟨rfl, n, rfl⟩)
          exact ⟨m_step (j := 4) (by omega) HG.out HB.out HL.out hB hz (((Below.refl _ _).alloc (Nat.le_refl _) _).trans (below_drewN _ _ _)), by decide⟩
        · rw [hb] at HK
          have HB := Lib.hid hb
          clear hb
          go_wp2_with (go_at_call 26; (with_reducible refine (HK.out _).mono ?_); rintro e w1 ⟨rfl, n, rfl⟩)
          go_quiet (fail)
          go_wp2_with fail
          go_ret2
          exact m_bad (j := 4) (by omega) rfl HG.out HB.out (((hB.alloc (by omega) _).trans (below_drewN _ _ _)).trans (below_drewN _ _ _))
      · have K : ∀ o, Calls Try.prog 27 #[.pointer (some ⟨w.heap.size + 1 + 1, 0, none⟩), .pointer (some ⟨w.heap.size + 1 + 1 + 1, 0, none⟩)] (wr.alloc o) (QB (bad s a 5) (wr.alloc o)) :=
          fun o => chk_call (j := 5) hs (by omega) HG.out (HL.out.below ((Below.refl _ _).alloc hz o))
        have HK := Lib.hid K
        clear K
        have g1 : wr.cell? ⟨w.heap.size + 1 + 1 + 1 + 1, 10, none⟩ = some (.int .i64 20) := (HL.out.ct 5 (by omega)).1
        have g2 : wr.cell? ⟨w.heap.size + 1 + 1 + 1 + 1, 11, none⟩ = some (.func (.func 27) #[] #[.pointer (some ⟨w.heap.size + 1 + 1, 0, none⟩), .pointer (some ⟨w.heap.size + 1 + 1 + 1, 0, none⟩)]) := (HL.out.ct 5 (by omega)).2
        cases hb : bad s a 5
        · rw [hb] at HK
          have HB := Lib.hid hb
          clear hb
          go_wp2_with (go_at_call 27; (with_reducible refine (HK.out _).mono ?_); rintro e w1 ⟨rfl, n, rfl⟩)
          exact ⟨m_step (j := 5) (by omega) HG.out HB.out HL.out hB hz (((Below.refl _ _).alloc (Nat.le_refl _) _).trans (below_drewN _ _ _)), by decide⟩
        · rw [hb] at HK
          have HB := Lib.hid hb
          clear hb
          go_wp2_with (go_at_call 27; (with_reducible refine (HK.out _).mono ?_); rintro e w1 ⟨rfl, n, rfl⟩)
          go_quiet (fail)
          go_wp2_with fail
          go_ret2
          exact m_bad (j := 5) (by omega) rfl HG.out HB.out (((hB.alloc (by omega) _).trans (below_drewN _ _ _)).trans (below_drewN _ _ _))
      · have K : ∀ o, Calls Try.prog 28 #[.pointer (some ⟨w.heap.size, 0, none⟩), .pointer (some ⟨w.heap.size + 1, 0, none⟩), .pointer (some ⟨w.heap.size + 1 + 1 + 1, 0, none⟩)] (wr.alloc o) (QB (bad s a 6) (wr.alloc o)) :=
          fun o => chk_call (j := 6) hs (by omega) HG.out (HL.out.below ((Below.refl _ _).alloc hz o))
        have HK := Lib.hid K
        clear K
        have g1 : wr.cell? ⟨w.heap.size + 1 + 1 + 1 + 1, 12, none⟩ = some (.int .i64 5) := (HL.out.ct 6 (by omega)).1
        have g2 : wr.cell? ⟨w.heap.size + 1 + 1 + 1 + 1, 13, none⟩ = some (.func (.func 28) #[] #[.pointer (some ⟨w.heap.size, 0, none⟩), .pointer (some ⟨w.heap.size + 1, 0, none⟩), .pointer (some ⟨w.heap.size + 1 + 1 + 1, 0, none⟩)]) := (HL.out.ct 6 (by omega)).2
        cases hb : bad s a 6
        · rw [hb] at HK
          have HB := Lib.hid hb
          clear hb
          go_wp2_with (go_at_call 28; (with_reducible refine (HK.out _).mono ?_); rintro e w1 ⟨rfl, n, rfl⟩)
          exact ⟨m_step (j := 6) (by omega) HG.out HB.out HL.out hB hz (((Below.refl _ _).alloc (Nat.le_refl _) _).trans (below_drewN _ _ _)), by decide⟩
        · rw [hb] at HK
          have HB := Lib.hid hb
          clear hb
          go_wp2_with (go_at_call 28; (with_reducible refine (HK.out _).mono ?_); rintro e w1 ⟨rfl, n, rfl⟩)
          go_quiet (fail)
          go_wp2_with fail
          go_ret2
          exact m_bad (j := 6) (by omega) rfl HG.out HB.out (((hB.alloc (by omega) _).trans (below_drewN _ _ _)).trans (below_drewN _ _ _))
end Go.Proofs.Ytoknpadkkokbgaa
