/-
  Of two lists of numbers: alike; rising; the document's First and Rising.
-/
import Derived.Test.YtjffajbahnoilaaBf
namespace Go.Proofs.Ytjffajbahnoilaa
open Go Go.RowKit Go.Lib

theorem Row.below {W W' : World} {B B' : Nat} {A : Option Addr} {k : IntKind} {l : List Int} (h : Row W B A k l) (hb : Below B W W') (hB : B ≤ B') : Row W' B' A k l := by
  rcases h with h | ⟨ad, rfl, h1, h2⟩
  · exact .inl h
  · refine .inr ⟨ad, rfl, by omega, fun j z hj => ?_⟩
    have e : (ad.add j).block = ad.block := by unfold Addr.add; split <;> rfl
    exact (cell_same (by rw [e]; exact hb.block _ h1)).trans (h2 j z hj)
theorem Row.get {W : World} {B : Nat} {A : Option Addr} {k : IntKind} {l : List Int} (h : Row W B A k l) {j : Nat} (hj : j < l.length) : ∃ ad : Addr, A = some ad ∧ W.cell? (ad.add j) = some (.int k l[j]) := by
  rcases h with rfl | ⟨ad, rfl, h1, h2⟩
  · simp at hj
  · exact ⟨ad, rfl, h2 j _ (List.getElem?_eq_getElem hj)⟩

theorem cell_heapEq {W W' : World} (h : W'.heap = W.heap) (a : Addr) : W'.cell? a = W.cell? a := by unfold World.cell?; rw [h]

set_option maxRecDepth 100000 in
/-- Lists that are alike. -/
theorem ints_any (A1 A2 : Option Addr) (c1 c2 n : Nat) (l : List Int) (hn : l.length = n) (hm : n ≤ maxLen) (B : Nat) (w : World) (h1 : Row w B A1 .i64 l) (h2 : Row w B A2 .i64 l) :
    Calls Try.prog 10 #[.slice A1 n c1, .slice A2 n c2] w fun e w' => e = .returned (.bool true) ∧ Below w.heap.size w w' := by
  have HN := Lib.hid hn
  have HM := Lib.hid hm
  have H1 := Lib.hid h1
  have H2 := Lib.hid h2
  clear hn hm h1 h2
  go_enter Try.func10, Try.ntmps10
  go_wp2
  go_loopw [5] (fun i wr => ∃ j : Nat, j ≤ n ∧ i = .int .i64 j ∧ wr.heap = w.heap ∧ Below w.heap.size w wr) (fun i _ => n - (intOf i).toNat)
  case atStart => exact ⟨0, Nat.zero_le _, rfl, rfl, Below.refl _ _⟩
  case round =>
    obtain ⟨j, hj, rfl, hh, hbw⟩ := hrel
    by_cases hlt : j < n
    · obtain ⟨ad1, e1, q1⟩ := H1.out.get (j := j) (by rw [HN.out]; exact hlt)
      obtain ⟨ad2, e2, q2⟩ := H2.out.get (j := j) (by rw [HN.out]; exact hlt)
      subst e1 e2
      have d1 := (cell_heapEq hh (ad1.add j)).trans q1
      have d2 := (cell_heapEq hh (ad2.add j)).trans q2
      obtain ⟨x, hx⟩ : ∃ x, l[j]'(by rw [HN.out]; exact hlt) = x := ⟨_, rfl⟩
      rw [hx] at d1 d2
      have hq0 : (0 : Int) ≤ (j : Int) := by omega
      have hq1 : (j : Int) < (n : Int) := by omega
      have W1 : IntKind.i64.wrap ((j : Int) + 1) = (j : Int) + 1 := IntWalk.i64_in _ (by have := HM.out; unfold maxLen at this; omega)
      have HH := Lib.hid hh
      have HBW := Lib.hid hbw
      clear hx q1 q2 hh hbw
      go_wp2
      go_quiet (fail)
      go_wp2
      go_roundw
      case rel => exact ⟨j + 1, by omega, by go_num, by simpa using HH.out, ⟨HBW.out.os, HBW.out.tape, HBW.out.output, HBW.out.size, HBW.out.block⟩⟩
      case measure => simp [intOf]; omega
    · obtain rfl : j = n := by omega
      go_wp2
      go_ret
      exact ⟨rfl, hbw⟩

/-- Does a list rise, between what was last and 7? -/
def risM : Int → List Int → Bool
  | last, [] => decide (0 ≤ last)
  | last, b :: r => if b ≤ last ∨ 8 ≤ b then false else risM b r
theorem risM_drop (last : Int) {l : List Int} {j : Nat} (hj : j < l.length) : risM last (l.drop j) = if l[j] ≤ last ∨ 8 ≤ l[j] then false else risM l[j] (l.drop (j + 1)) := by
  rw [List.drop_eq_getElem_cons hj]; rfl

set_option maxRecDepth 100000 in
theorem rising_any (A : Option Addr) (c n : Nat) (l : List Int) (hn : l.length = n) (hm : n ≤ maxLen) (B : Nat) (w : World) (h1 : Row w B A .i64 l) :
    Calls Try.prog 13 #[.slice A n c] w fun e w' => e = .returned (.bool (risM (-1) l)) ∧ Below w.heap.size w w' := by
  have HN := Lib.hid hn
  have HM := Lib.hid hm
  have H1 := Lib.hid h1
  obtain ⟨r, hr⟩ : ∃ r, risM (-1) l = r := ⟨_, rfl⟩
  rw [hr]
  have HR := Lib.hid hr
  clear hn hm h1 hr
  go_enter Try.func13, Try.ntmps13
  go_wp2
  go_loopw [3, 8] (fun x i wr => ∃ (j : Nat) (last : Int), j ≤ n ∧ i = .int .i64 j ∧ x = .int .i64 last ∧ risM last (l.drop j) = r ∧ wr = w) (fun _ i _ => n - (intOf i).toNat)
  case atStart => exact ⟨0, -1, Nat.zero_le _, rfl, rfl, by simpa using HR.out, rfl⟩
  case round =>
    obtain ⟨j, last, hj, rfl, rfl, hrr, rfl⟩ := hrel
    by_cases hlt : j < n
    · obtain ⟨ad1, e1, q1⟩ := H1.out.get (j := j) (by rw [HN.out]; exact hlt)
      subst e1
      rw [risM_drop last (by rw [HN.out]; exact hlt)] at hrr
      obtain ⟨x, hx⟩ : ∃ x, l[j]'(by rw [HN.out]; exact hlt) = x := ⟨_, rfl⟩
      rw [hx] at q1 hrr
      have hq0 : (0 : Int) ≤ (j : Int) := by omega
      have hq1 : (j : Int) < (n : Int) := by omega
      have W1 : IntKind.i64.wrap ((j : Int) + 1) = (j : Int) + 1 := IntWalk.i64_in _ (by have := HM.out; unfold maxLen at this; omega)
      by_cases ha : x ≤ last
      · rw [if_pos (.inl ha)] at hrr
        subst hrr
        clear hx
        go_wp2
        go_ret
        exact ⟨rfl, Below.refl _ _⟩
      · by_cases hb : 8 ≤ x
        · rw [if_pos (.inr hb)] at hrr
          subst hrr
          have hb' : x ≥ 8 := hb
          clear hx
          go_wp2
          go_ret
          exact ⟨rfl, Below.refl _ _⟩
        · rw [if_neg (by omega)] at hrr
          have HRR := Lib.hid hrr
          clear hx hrr
          go_wp2
          go_roundw
          case rel => exact ⟨j + 1, x, by omega, by go_num, rfl, HRR.out, by first | rfl | trivial⟩
          case measure => simp [intOf]; omega
    · obtain rfl : j = n := by omega
      rw [List.drop_of_length_le (by rw [HN.out]; exact Nat.le_refl _)] at hrr
      simp only [risM] at hrr
      subst hrr
      go_wp2
      go_ret
      exact ⟨rfl, Below.refl _ _⟩

set_option maxRecDepth 100000 in
set_option maxHeartbeats 1600000 in
theorem rrising_any (A : Option Addr) (c n : Nat) (l : List Int) (hn : l.length = n) (hm : n ≤ maxLen) (B : Nat) (w : World) (h1 : Row w B A .i64 l) :
    Calls Try.prog 14 #[.slice A n c] w fun e w' => e = .returned (.bool (risM (-1) l)) ∧ Below w.heap.size w w' := by
  have HN := Lib.hid hn
  have HM := Lib.hid hm
  have H1 := Lib.hid h1
  obtain ⟨r, hr⟩ : ∃ r, risM (-1) l = r := ⟨_, rfl⟩
  rw [hr]
  have HR := Lib.hid hr
  clear hn hm h1 hr
  go_enter Try.func14, Try.ntmps14
  go_wp2
  go_loopw [3] (fun i wr => ∃ (j : Nat) (last : Int), j ≤ n ∧ i = .int .i64 j ∧ ((j = 0 ∧ last = -1) ∨ (0 < j ∧ 0 ≤ last ∧ l[j - 1]? = some last)) ∧ risM last (l.drop j) = r ∧ wr.heap = w.heap ∧ Below w.heap.size w wr) (fun i _ => n - (intOf i).toNat)
  case atStart => exact ⟨0, -1, Nat.zero_le _, rfl, .inl ⟨rfl, rfl⟩, by simpa using HR.out, rfl, Below.refl _ _⟩
  case round =>
    obtain ⟨j, last, hj, rfl, hlast, hrr, hh, hbw⟩ := hrel
    by_cases hlt : j < n
    · obtain ⟨ad1, e1, q1⟩ := H1.out.get (j := j) (by rw [HN.out]; exact hlt)
      rw [risM_drop last (by rw [HN.out]; exact hlt)] at hrr
      obtain ⟨x, hx⟩ : ∃ x, l[j]'(by rw [HN.out]; exact hlt) = x := ⟨_, rfl⟩
      rw [hx] at q1 hrr
      have hxs : l[j]? = some x := by rw [List.getElem?_eq_getElem (by rw [HN.out]; exact hlt), hx]
      subst e1
      have d1 := (cell_heapEq hh (ad1.add j)).trans q1
      have hq0 : (0 : Int) ≤ (j : Int) := by omega
      have hq1 : (j : Int) < (n : Int) := by omega
      have W1 : IntKind.i64.wrap ((j : Int) + 1) = (j : Int) + 1 := IntWalk.i64_in _ (by have := HM.out; unfold maxLen at this; omega)
      have HH := Lib.hid hh
      have HBW := Lib.hid hbw
      by_cases hb0 : x < 0
      · have hd0 : decide (x < 0) = true := by simpa using hb0
        have hr1 : r = false := by
          rw [← hrr, if_pos]
          rcases hlast with ⟨rfl, rfl⟩ | ⟨h1, h2, h3⟩ <;> omega
        subst hr1
        clear hx hrr q1 hh hbw hlast hxs
        go_wp2
        go_quiet (fail)
        go_wp2
        go_ret
        exact ⟨rfl, ⟨HBW.out.os, HBW.out.tape, HBW.out.output, HBW.out.size, HBW.out.block⟩⟩
      · have hd0 : decide (x < 0) = false := by simpa using hb0
        by_cases hb8 : 8 ≤ x
        · have hd8 : decide (8 ≤ x) = true := by simpa using hb8
          have hd8' : decide (x ≥ 8) = true := by simpa using hb8
          rw [if_pos (.inr hb8)] at hrr
          subst hrr
          clear hx q1 hh hbw hlast hxs
          go_wp2
          go_quiet (fail)
          go_wp2
          go_ret
          exact ⟨rfl, ⟨HBW.out.os, HBW.out.tape, HBW.out.output, HBW.out.size, HBW.out.block⟩⟩
        · have hd8 : decide (8 ≤ x) = false := by simpa using hb8
          have hd8' : decide (x ≥ 8) = false := by simp; omega
          rcases hlast with ⟨hj0, hl⟩ | ⟨hp, hl0, hl1⟩
          · have hd1 : decide ((j : Int) > 0) = false := by simp; omega
            have hd1' : decide ((0 : Int) < (j : Int)) = false := by simp; omega
            have hd1'' : decide (0 < j) = false := by simp; omega
            rw [if_neg (by omega)] at hrr
            have HJ0 := Lib.hid hj0
            clear hj0 hl
            have HRR := Lib.hid hrr
            have HXS := Lib.hid hxs
            clear hx hrr q1 hh hbw hxs
            go_wp2
            go_quiet (fail)
            go_wp2
            go_roundw
            case rel => exact ⟨j + 1, x, by omega, by go_num, .inr ⟨by omega, by omega, by simpa using HXS.out⟩, HRR.out, by simpa using HH.out, ⟨HBW.out.os, HBW.out.tape, HBW.out.output, HBW.out.size, HBW.out.block⟩⟩
            case measure => simp [intOf]; omega
          · obtain ⟨ad2, e2, q2⟩ := H1.out.get (j := j - 1) (by rw [HN.out]; omega)
            obtain rfl : ad1 = ad2 := by simpa using e2
            have hl2 : l[j - 1]'(by rw [HN.out]; omega) = last := by
              rw [List.getElem?_eq_getElem (by rw [HN.out]; omega)] at hl1
              simpa using hl1
            rw [hl2] at q2
            obtain ⟨m, hm⟩ : ∃ m, j - 1 = m := ⟨_, rfl⟩
            rw [hm] at q2
            have d2 := (cell_heapEq hh (ad1.add m)).trans q2
            have W2 : IntKind.i64.wrap ((j : Int) - 1) = (m : Int) := by rw [IntWalk.i64_in _ (by have := HM.out; unfold maxLen at this; omega)]; omega
            have hm0 : (0 : Int) ≤ (m : Int) := by omega
            have hm1 : (m : Int) < (n : Int) := by omega
            have hd1 : decide ((j : Int) > 0) = true := by simp; omega
            have hd1' : decide ((0 : Int) < (j : Int)) = true := by simp; omega
            have hp1 : decide (0 < j) = true := by simpa using hp
            by_cases hc : x ≤ last
            · have hd2 : decide (x ≤ last) = true := by simpa using hc
              have hd2' : decide (last ≥ x) = true := by simpa using hc
              rw [if_pos (.inl hc)] at hrr
              subst hrr
              clear hx q1 q2 hl1 hl2 hh hbw hxs hm e2
              go_wp2
              go_quiet (fail)
              go_wp2
              go_ret
              exact ⟨rfl, ⟨HBW.out.os, HBW.out.tape, HBW.out.output, HBW.out.size, HBW.out.block⟩⟩
            · have hd2 : decide (x ≤ last) = false := by simpa using hc
              have hd2' : decide (last ≥ x) = false := by simp; omega
              rw [if_neg (by omega)] at hrr
              have HRR := Lib.hid hrr
              have HXS := Lib.hid hxs
              clear hx q1 q2 hl1 hl2 hh hbw hxs hm e2 hrr
              go_wp2
              go_quiet (fail)
              go_wp2
              go_roundw
              case rel => exact ⟨j + 1, x, by omega, by go_num, .inr ⟨by omega, by omega, by simpa using HXS.out⟩, HRR.out, by simpa using HH.out, ⟨HBW.out.os, HBW.out.tape, HBW.out.output, HBW.out.size, HBW.out.block⟩⟩
              case measure => simp [intOf]; omega
    · obtain rfl : j = n := by omega
      rw [List.drop_of_length_le (by rw [HN.out]; exact Nat.le_refl _)] at hrr
      simp only [risM] at hrr
      have hr2 : r = decide (0 < j) := by
        rw [← hrr]
        rcases hlast with ⟨rfl, rfl⟩ | ⟨h1, h2, h3⟩
        · rfl
        · have e1 : decide (0 < j) = true := by simpa using h1
          have e2 : decide (0 ≤ last) = true := by simpa using h2
          rw [e1, e2]
      subst hr2
      clear hrr hlast
      go_wp2
      go_ret
      exact ⟨rfl, hbw⟩
end Go.Proofs.Ytjffajbahnoilaa
