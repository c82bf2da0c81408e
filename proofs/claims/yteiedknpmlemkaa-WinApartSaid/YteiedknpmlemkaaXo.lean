/-
  The walk of WinApart.
-/
import Derived.Test.YteiedknpmlemkaaXn
namespace Go.Proofs.Yteiedknpmlemkaa
open Go Go.RowKit Go.Lib Go.Shelf

theorem seen_next {M : List Win} {f : Win → Prop} {q : Nat} {x : Win} (hx : M[q]? = some x) (h : ∀ r z, r < q → M[r]? = some z → ¬ f z) (hn : ¬ f x) : ∀ r z, r < q + 1 → M[r]? = some z → ¬ f z := by
  intro r z h1 h2
  by_cases hr : r = q
  · subst hr
    rw [hx] at h2
    obtain rfl : x = z := by simpa using h2
    exact hn
  · exact h r z (by omega) h2

set_option maxRecDepth 100000 in
set_option maxHeartbeats 25600000 in
theorem apart_any (l : List Win) (A : Option Addr) (cp : Nat) (w : World) (hin : WinsIn w w.heap.size A l) (hlen : l.length ≤ maxLen) :
    Calls Try.prog 6 #[.slice A l.length cp] w fun e w' => e = .returned (.bool true) ∧ Below w.heap.size w w' := by
  obtain ⟨i0, hi, hz0, hz1, hz2⟩ := info_parts info34
  have HI := Lib.hid hi
  have HZ0 := Lib.hid hz0
  have HZ1 := Lib.hid hz1
  have HZ2 := Lib.hid hz2
  have HIN := Lib.hid hin
  obtain ⟨L, hL⟩ : ∃ L, l.take 40 = L := ⟨_, rfl⟩
  obtain ⟨M, hM⟩ : ∃ M, L.map small = M := ⟨_, rfl⟩
  obtain ⟨R, hR⟩ : ∃ R, gatherM M = R := ⟨_, rfl⟩
  have l1 : L.length ≤ 40 := by rw [← hL, List.length_take]; omega
  have l2 : M.length ≤ 40 := by rw [← hM, List.length_map]; exact l1
  have l3 : R.length ≤ M.length := by rw [← hR]; exact gather_len M
  have HR := Lib.hid hR
  have HFEW : Hid (∀ w1, Below w.heap.size w w1 → Calls Try.prog 17 #[.slice A l.length cp] w1 fun e w' => ∃ u v, e = .returned (.tuple #[u, v]) ∧ Two w1.heap.size w' u v L M ∧ Below w1.heap.size w1 w') := Lib.hid (fun w1 hb => by
    have := few_any l A cp w1 ((HIN.out.below hb).mono hb.size) hlen
    rw [hL, hM] at this
    exact this)
  clear hin hL hM hR hi hz0 hz1 hz2
  go_enter Try.func6, Try.ntmps6
  go_wp2_with (first
    | (go_at_call 16
       (with_reducible refine (works _).mono ?_)
       rintro e w1 ⟨rfl, p1⟩
       have HB1 : Hid (Below w.heap.size w w1) := Lib.hid p1
       clear p1)
    | (go_at_call 17
       (with_reducible refine (HFEW.out _ HB1.out).mono ?_)
       rintro e w2 ⟨u, v, rfl, hT, p1⟩
       obtain ⟨A1, c1, A2, c2, rfl, rfl, hw1, hw2⟩ := hT.wins
       have HW2 := Lib.hid hw2
       have HB2 : Hid (Below w.heap.size w w2) := Lib.hid (HB1.out.trans (p1.mono HB1.out.size))
       clear p1 hT hw1 hw2)
    | (go_at_call 18
       (with_reducible refine (gather_any M A2 c2 _ HW2.out (by omega)).mono ?_)
       rw [HR.out]
       rintro e w3 ⟨v3, rfl, p1, p2, p3⟩
       obtain ⟨A3, c3, hA, hA2⟩ := wins_of_row p1
       subst hA
       have HVR : Hid (Wins w3 w3.heap.size (.slice A3 R.length c3) R) := Lib.hid ⟨A3, c3, rfl, hA2⟩
       have HVM : Hid (Wins w3 w3.heap.size (.slice A2 M.length c2) M) := Lib.hid ((HW2.out.below p3).mono p3.size)
       have HB3 : Hid (Below w.heap.size w w3) := Lib.hid (HB2.out.trans (p3.mono HB2.out.size))
       clear p1 p2 p3 hA2))
  have HFM : Hid (∀ j x W', M[j]? = some x → Below w3.heap.size w3 W' → ∃ g, A2 = some ⟨g, 0, none⟩ ∧ WinIn W' g (j * 2) x ∧ g < w3.heap.size) := Lib.hid (fun j x W' hj hb => by
    obtain ⟨A', cap', hA, hn | ⟨g, hgA, hgl, hcs⟩⟩ := HVM.out
    · rw [hn] at hj; simp at hj
    · obtain ⟨rfl, rfl⟩ : A2 = A' ∧ c2 = cap' := by simpa using hA
      exact ⟨g, hgA, (hcs j x hj).same (hb.block g hgl), hgl⟩)
  have HFR : Hid (∀ j x W', R[j]? = some x → Below w3.heap.size w3 W' → ∃ g, A3 = some ⟨g, 0, none⟩ ∧ WinIn W' g (j * 2) x ∧ g < w3.heap.size) := Lib.hid (fun j x W' hj hb => by
    obtain ⟨A', cap', hA, hn | ⟨g, hgA, hgl, hcs⟩⟩ := HVR.out
    · rw [hn] at hj; simp at hj
    · obtain ⟨rfl, rfl⟩ : A3 = A' ∧ c3 = cap' := by simpa using hA
      exact ⟨g, hgA, (hcs j x hj).same (hb.block g hgl), hgl⟩)
  have W0 : IntKind.i64.wrap ((M.length : Int) - 1) = (M.length : Int) - 1 := IntWalk.i64_in _ (by omega)
  go_loopw [6] (fun i wr => ∃ p : Nat, p ≤ R.length ∧ i = .int .i64 p ∧ Below w3.heap.size w3 wr) (fun i _ => R.length - (intOf i).toNat)
  case atStart => exact ⟨0, Nat.zero_le _, rfl, Below.refl _ _⟩
  case round =>
    rename World => wu
    obtain ⟨p, hp, rfl, hbu⟩ := hrel
    have HBU := Lib.hid hbu
    clear hbu
    by_cases hlt : p < R.length
    · obtain ⟨y, hy⟩ : ∃ y, R[p]? = some y := ⟨_, List.getElem?_eq_getElem hlt⟩
      obtain ⟨y0, y1⟩ := y
      have HY := Lib.hid hy
      obtain ⟨gR, hgR, -, hgRl⟩ := HFR.out p _ _ hy HBU.out
      subst hgR
      obtain ⟨x, hx⟩ : ∃ x, M[0]? = some x := ⟨_, List.getElem?_eq_getElem (by omega)⟩
      obtain ⟨gM, hgM, -, hgMl⟩ := HFM.out 0 _ _ hx HBU.out
      subst hgM
      have hq0 : (0 : Int) ≤ (p : Int) := by omega
      have hq1 : (p : Int) < (R.length : Int) := by omega
      have W1 : IntKind.i64.wrap ((p : Int) + 1) = (p : Int) + 1 := IntWalk.i64_in _ (by omega)
      clear hy hx
      go_wp2_with fail
      go_loopw [7, 8, 9] (fun b e k wr => ∃ (q : Nat) (β ε : Bool), q ≤ M.length ∧ b = .bool β ∧ e = .bool ε ∧ k = .int .i64 q ∧ (β = true ∨ ∀ r z, r < q → M[r]? = some z → ¬ (z.1 < z.2 ∧ z.1 = y0)) ∧ (ε = true ∨ ∀ r z, r < q → M[r]? = some z → ¬ (z.1 < z.2 ∧ z.2 = y1)) ∧ Below w3.heap.size w3 wr)
        (fun _ _ k _ => M.length - (intOf k).toNat)
      case atStart => exact ⟨0, false, false, Nat.zero_le _, rfl, rfl, rfl, .inr (fun r z h => by omega), .inr (fun r z h => by omega), HBU.out⟩
      case round =>
        obtain ⟨q, β, ε, hq, rfl, rfl, rfl, hb, he, hbr⟩ := hrel
        have HBE := Lib.hid hb
        have HEN := Lib.hid he
        have HBR := Lib.hid hbr
        clear hb he hbr
        by_cases hlt2 : q < M.length
        · obtain ⟨x, hx⟩ : ∃ x, M[q]? = some x := ⟨_, List.getElem?_eq_getElem hlt2⟩
          obtain ⟨x0, x1⟩ := x
          have HX := Lib.hid hx
          obtain ⟨c0, c1⟩ : WinIn wr gM (q * 2) (x0, x1) := by
            obtain ⟨g, hg, hc, _⟩ := HFM.out q _ wr hx HBR.out
            obtain rfl : gM = g := by simpa using hg
            exact hc
          obtain ⟨d0, d1⟩ : WinIn wr gR (p * 2) (y0, y1) := by
            obtain ⟨g, hg, hc, _⟩ := HFR.out p _ wr HY.out HBR.out
            obtain rfl : gR = g := by simpa using hg
            exact hc
          dsimp only at c0 c1 d0 d1
          have hq2 : (0 : Int) ≤ (q : Int) := by omega
          have hq3 : (q : Int) < (M.length : Int) := by omega
          have W2 : IntKind.i64.wrap ((q : Int) + 1) = (q : Int) + 1 := IntWalk.i64_in _ (by omega)
          clear hx
          by_cases hxx : x0 < x1
          · by_cases h1 : x0 = y0
            · by_cases h2 : x1 = y1
              · have hd : decide (y0 < y1) = true := decide_eq_true (by omega)
                cases β <;> cases ε
                · as_aux_lemma =>
                    go_wp2_with fail
                    go_quiet (fail)
                    go_wp2_with fail
                    go_quiet (fail)
                    go_wp2_with fail
                    go_roundw
                    case rel => exact ⟨q + 1, _, _, by omega, rfl, rfl, by go_num, by first | exact .inl rfl | exact .inr (seen_next HX.out (HBE.out.resolve_left (by simp)) (by simp; omega)), by first | exact .inl rfl | exact .inr (seen_next HX.out (HEN.out.resolve_left (by simp)) (by simp; omega)), below_drewN HBR.out _⟩
                    case measure => simp [intOf]; omega
                · as_aux_lemma =>
                    go_wp2_with fail
                    go_quiet (fail)
                    go_wp2_with fail
                    go_quiet (fail)
                    go_wp2_with fail
                    go_roundw
                    case rel => exact ⟨q + 1, _, _, by omega, rfl, rfl, by go_num, by first | exact .inl rfl | exact .inr (seen_next HX.out (HBE.out.resolve_left (by simp)) (by simp; omega)), by first | exact .inl rfl | exact .inr (seen_next HX.out (HEN.out.resolve_left (by simp)) (by simp; omega)), below_drewN HBR.out _⟩
                    case measure => simp [intOf]; omega
                · as_aux_lemma =>
                    go_wp2_with fail
                    go_quiet (fail)
                    go_wp2_with fail
                    go_quiet (fail)
                    go_wp2_with fail
                    go_roundw
                    case rel => exact ⟨q + 1, _, _, by omega, rfl, rfl, by go_num, by first | exact .inl rfl | exact .inr (seen_next HX.out (HBE.out.resolve_left (by simp)) (by simp; omega)), by first | exact .inl rfl | exact .inr (seen_next HX.out (HEN.out.resolve_left (by simp)) (by simp; omega)), below_drewN HBR.out _⟩
                    case measure => simp [intOf]; omega
                · as_aux_lemma =>
                    go_wp2_with fail
                    go_quiet (fail)
                    go_wp2_with fail
                    go_quiet (fail)
                    go_wp2_with fail
                    go_roundw
                    case rel => exact ⟨q + 1, _, _, by omega, rfl, rfl, by go_num, by first | exact .inl rfl | exact .inr (seen_next HX.out (HBE.out.resolve_left (by simp)) (by simp; omega)), by first | exact .inl rfl | exact .inr (seen_next HX.out (HEN.out.resolve_left (by simp)) (by simp; omega)), below_drewN HBR.out _⟩
                    case measure => simp [intOf]; omega
              · have hd : decide (y0 < x1) = true := decide_eq_true (by omega)
                cases β <;> cases ε
                · as_aux_lemma =>
                    go_wp2_with fail
                    go_quiet (fail)
                    go_wp2_with fail
                    go_quiet (fail)
                    go_wp2_with fail
                    go_roundw
                    case rel => exact ⟨q + 1, _, _, by omega, rfl, rfl, by go_num, by first | exact .inl rfl | exact .inr (seen_next HX.out (HBE.out.resolve_left (by simp)) (by simp; omega)), by first | exact .inl rfl | exact .inr (seen_next HX.out (HEN.out.resolve_left (by simp)) (by simp; omega)), below_drewN HBR.out _⟩
                    case measure => simp [intOf]; omega
                · as_aux_lemma =>
                    go_wp2_with fail
                    go_quiet (fail)
                    go_wp2_with fail
                    go_quiet (fail)
                    go_wp2_with fail
                    go_roundw
                    case rel => exact ⟨q + 1, _, _, by omega, rfl, rfl, by go_num, by first | exact .inl rfl | exact .inr (seen_next HX.out (HBE.out.resolve_left (by simp)) (by simp; omega)), by first | exact .inl rfl | exact .inr (seen_next HX.out (HEN.out.resolve_left (by simp)) (by simp; omega)), below_drewN HBR.out _⟩
                    case measure => simp [intOf]; omega
                · as_aux_lemma =>
                    go_wp2_with fail
                    go_quiet (fail)
                    go_wp2_with fail
                    go_quiet (fail)
                    go_wp2_with fail
                    go_roundw
                    case rel => exact ⟨q + 1, _, _, by omega, rfl, rfl, by go_num, by first | exact .inl rfl | exact .inr (seen_next HX.out (HBE.out.resolve_left (by simp)) (by simp; omega)), by first | exact .inl rfl | exact .inr (seen_next HX.out (HEN.out.resolve_left (by simp)) (by simp; omega)), below_drewN HBR.out _⟩
                    case measure => simp [intOf]; omega
                · as_aux_lemma =>
                    go_wp2_with fail
                    go_quiet (fail)
                    go_wp2_with fail
                    go_quiet (fail)
                    go_wp2_with fail
                    go_roundw
                    case rel => exact ⟨q + 1, _, _, by omega, rfl, rfl, by go_num, by first | exact .inl rfl | exact .inr (seen_next HX.out (HBE.out.resolve_left (by simp)) (by simp; omega)), by first | exact .inl rfl | exact .inr (seen_next HX.out (HEN.out.resolve_left (by simp)) (by simp; omega)), below_drewN HBR.out _⟩
                    case measure => simp [intOf]; omega
            · by_cases h2 : x1 = y1
              · have hd : decide (x0 < y1) = true := decide_eq_true (by omega)
                cases β <;> cases ε
                · as_aux_lemma =>
                    go_wp2_with fail
                    go_quiet (fail)
                    go_wp2_with fail
                    go_quiet (fail)
                    go_wp2_with fail
                    go_roundw
                    case rel => exact ⟨q + 1, _, _, by omega, rfl, rfl, by go_num, by first | exact .inl rfl | exact .inr (seen_next HX.out (HBE.out.resolve_left (by simp)) (by simp; omega)), by first | exact .inl rfl | exact .inr (seen_next HX.out (HEN.out.resolve_left (by simp)) (by simp; omega)), below_drewN HBR.out _⟩
                    case measure => simp [intOf]; omega
                · as_aux_lemma =>
                    go_wp2_with fail
                    go_quiet (fail)
                    go_wp2_with fail
                    go_quiet (fail)
                    go_wp2_with fail
                    go_roundw
                    case rel => exact ⟨q + 1, _, _, by omega, rfl, rfl, by go_num, by first | exact .inl rfl | exact .inr (seen_next HX.out (HBE.out.resolve_left (by simp)) (by simp; omega)), by first | exact .inl rfl | exact .inr (seen_next HX.out (HEN.out.resolve_left (by simp)) (by simp; omega)), below_drewN HBR.out _⟩
                    case measure => simp [intOf]; omega
                · as_aux_lemma =>
                    go_wp2_with fail
                    go_quiet (fail)
                    go_wp2_with fail
                    go_quiet (fail)
                    go_wp2_with fail
                    go_roundw
                    case rel => exact ⟨q + 1, _, _, by omega, rfl, rfl, by go_num, by first | exact .inl rfl | exact .inr (seen_next HX.out (HBE.out.resolve_left (by simp)) (by simp; omega)), by first | exact .inl rfl | exact .inr (seen_next HX.out (HEN.out.resolve_left (by simp)) (by simp; omega)), below_drewN HBR.out _⟩
                    case measure => simp [intOf]; omega
                · as_aux_lemma =>
                    go_wp2_with fail
                    go_quiet (fail)
                    go_wp2_with fail
                    go_quiet (fail)
                    go_wp2_with fail
                    go_roundw
                    case rel => exact ⟨q + 1, _, _, by omega, rfl, rfl, by go_num, by first | exact .inl rfl | exact .inr (seen_next HX.out (HBE.out.resolve_left (by simp)) (by simp; omega)), by first | exact .inl rfl | exact .inr (seen_next HX.out (HEN.out.resolve_left (by simp)) (by simp; omega)), below_drewN HBR.out _⟩
                    case measure => simp [intOf]; omega
              · have hd : decide (x0 < x1) = true := decide_eq_true (by omega)
                cases β <;> cases ε
                · as_aux_lemma =>
                    go_wp2_with fail
                    go_quiet (fail)
                    go_wp2_with fail
                    go_quiet (fail)
                    go_wp2_with fail
                    go_roundw
                    case rel => exact ⟨q + 1, _, _, by omega, rfl, rfl, by go_num, by first | exact .inl rfl | exact .inr (seen_next HX.out (HBE.out.resolve_left (by simp)) (by simp; omega)), by first | exact .inl rfl | exact .inr (seen_next HX.out (HEN.out.resolve_left (by simp)) (by simp; omega)), below_drewN HBR.out _⟩
                    case measure => simp [intOf]; omega
                · as_aux_lemma =>
                    go_wp2_with fail
                    go_quiet (fail)
                    go_wp2_with fail
                    go_quiet (fail)
                    go_wp2_with fail
                    go_roundw
                    case rel => exact ⟨q + 1, _, _, by omega, rfl, rfl, by go_num, by first | exact .inl rfl | exact .inr (seen_next HX.out (HBE.out.resolve_left (by simp)) (by simp; omega)), by first | exact .inl rfl | exact .inr (seen_next HX.out (HEN.out.resolve_left (by simp)) (by simp; omega)), below_drewN HBR.out _⟩
                    case measure => simp [intOf]; omega
                · as_aux_lemma =>
                    go_wp2_with fail
                    go_quiet (fail)
                    go_wp2_with fail
                    go_quiet (fail)
                    go_wp2_with fail
                    go_roundw
                    case rel => exact ⟨q + 1, _, _, by omega, rfl, rfl, by go_num, by first | exact .inl rfl | exact .inr (seen_next HX.out (HBE.out.resolve_left (by simp)) (by simp; omega)), by first | exact .inl rfl | exact .inr (seen_next HX.out (HEN.out.resolve_left (by simp)) (by simp; omega)), below_drewN HBR.out _⟩
                    case measure => simp [intOf]; omega
                · as_aux_lemma =>
                    go_wp2_with fail
                    go_quiet (fail)
                    go_wp2_with fail
                    go_quiet (fail)
                    go_wp2_with fail
                    go_roundw
                    case rel => exact ⟨q + 1, _, _, by omega, rfl, rfl, by go_num, by first | exact .inl rfl | exact .inr (seen_next HX.out (HBE.out.resolve_left (by simp)) (by simp; omega)), by first | exact .inl rfl | exact .inr (seen_next HX.out (HEN.out.resolve_left (by simp)) (by simp; omega)), below_drewN HBR.out _⟩
                    case measure => simp [intOf]; omega
          · have hd : decide (x0 < x1) = false := decide_eq_false hxx
            cases β <;> cases ε
            · as_aux_lemma =>
                go_wp2_with fail
                go_quiet (fail)
                go_wp2_with fail
                go_quiet (fail)
                go_wp2_with fail
                go_roundw
                case rel => exact ⟨q + 1, _, _, by omega, rfl, rfl, by go_num, by first | exact .inl rfl | exact .inr (seen_next HX.out (HBE.out.resolve_left (by simp)) (by simp; omega)), by first | exact .inl rfl | exact .inr (seen_next HX.out (HEN.out.resolve_left (by simp)) (by simp; omega)), below_drewN HBR.out _⟩
                case measure => simp [intOf]; omega
            · as_aux_lemma =>
                go_wp2_with fail
                go_quiet (fail)
                go_wp2_with fail
                go_quiet (fail)
                go_wp2_with fail
                go_roundw
                case rel => exact ⟨q + 1, _, _, by omega, rfl, rfl, by go_num, by first | exact .inl rfl | exact .inr (seen_next HX.out (HBE.out.resolve_left (by simp)) (by simp; omega)), by first | exact .inl rfl | exact .inr (seen_next HX.out (HEN.out.resolve_left (by simp)) (by simp; omega)), below_drewN HBR.out _⟩
                case measure => simp [intOf]; omega
            · as_aux_lemma =>
                go_wp2_with fail
                go_quiet (fail)
                go_wp2_with fail
                go_quiet (fail)
                go_wp2_with fail
                go_roundw
                case rel => exact ⟨q + 1, _, _, by omega, rfl, rfl, by go_num, by first | exact .inl rfl | exact .inr (seen_next HX.out (HBE.out.resolve_left (by simp)) (by simp; omega)), by first | exact .inl rfl | exact .inr (seen_next HX.out (HEN.out.resolve_left (by simp)) (by simp; omega)), below_drewN HBR.out _⟩
                case measure => simp [intOf]; omega
            · as_aux_lemma =>
                go_wp2_with fail
                go_quiet (fail)
                go_wp2_with fail
                go_quiet (fail)
                go_wp2_with fail
                go_roundw
                case rel => exact ⟨q + 1, _, _, by omega, rfl, rfl, by go_num, by first | exact .inl rfl | exact .inr (seen_next HX.out (HBE.out.resolve_left (by simp)) (by simp; omega)), by first | exact .inl rfl | exact .inr (seen_next HX.out (HEN.out.resolve_left (by simp)) (by simp; omega)), below_drewN HBR.out _⟩
                case measure => simp [intOf]; omega
        · obtain rfl : q = M.length := by omega
          obtain ⟨⟨z2, z1, j, k, m1, m2, m3, m4, m5, m6⟩, hyw⟩ := begins_at (M := M) (i := p) (by rw [HR.out]; exact HY.out)
          obtain rfl : β = true := HBE.out.resolve_right (fun h => h j z1 (List.getElem?_eq_some_iff.1 m1).1 m1 ⟨m2, m3⟩)
          obtain rfl : ε = true := HEN.out.resolve_right (fun h => h k z2 (List.getElem?_eq_some_iff.1 m4).1 m4 ⟨m5, m6⟩)
          clear m1 m2 m3 m4 m5 m6
          dsimp only at hyw
          have hyd : decide (y0 ≥ y1) = false := decide_eq_false (by omega)
          obtain ⟨d0, d1⟩ : WinIn wr gR (p * 2) (y0, y1) := by
            obtain ⟨g, hg, hc, _⟩ := HFR.out p _ wr HY.out HBR.out
            obtain rfl : gR = g := by simpa using hg
            exact hc
          dsimp only at d0 d1
          as_aux_lemma =>
            by_cases hp0 : p = 0
            · subst hp0
              have hz : decide ((0 : Int) > 0) = false := by decide
              go_wp2_with fail
              go_quiet (fail)
              go_wp2_with fail
              go_roundw
              case rel => exact ⟨0 + 1, by omega, by go_num, below_drewN HBR.out _⟩
              case measure => simp [intOf]; omega
            · obtain ⟨m, hm⟩ : ∃ m, p = m + 1 := ⟨p - 1, by omega⟩
              obtain ⟨x, hx⟩ : ∃ x, R[m]? = some x := ⟨_, List.getElem?_eq_getElem (by omega)⟩
              obtain ⟨x0, x1⟩ := x
              have HXm := Lib.hid hx
              obtain ⟨hnx, hmt⟩ := apart_next (by rw [← HR.out]; exact (gat_gather M).apart) hx (by rw [← hm]; exact HY.out)
              dsimp only at hnx
              have HMT := Lib.hid hmt
              have W3 : IntKind.i64.wrap ((p : Int) - 1) = (m : Int) := by rw [show (p : Int) - 1 = (m : Int) by omega]; exact IntWalk.i64_in _ (by omega)
              have hm0 : (0 : Int) ≤ (m : Int) := by omega
              have hm1 : (m : Int) < (R.length : Int) := by omega
              have hpN : 0 < p := by omega
              have hpI : (0 : Int) < (p : Int) := by omega
              have hxd : decide (y0 < x1) = false := decide_eq_false (by omega)
              have HF : Hid (∀ w', Below wr.heap.size wr w' → w'.cell? ⟨gR, p * 2, none⟩ = some (.int .i64 y0) ∧ w'.cell? ⟨gR, p * 2 + 1, none⟩ = some (.int .i64 y1) ∧ w'.cell? ⟨gR, m * 2, none⟩ = some (.int .i64 x0) ∧ w'.cell? ⟨gR, m * 2 + 1, none⟩ = some (.int .i64 x1) ∧ Below wr.heap.size wr w') := Lib.hid (fun w' h => by
                have hb := HBR.out.trans (h.mono HBR.out.size)
                obtain ⟨g, hg, hc, _⟩ := HFR.out _ _ w' HY.out hb
                obtain rfl : gR = g := by simpa using hg
                obtain ⟨g, hg, hc2, _⟩ := HFR.out _ _ w' HXm.out hb
                obtain rfl : gR = g := by simpa using hg
                exact ⟨hc.c0, hc.c1, hc2.c0, hc2.c1, h⟩)
              clear hx hmt d0 d1 hm hp0
              go_wp2_with fail
              go_region_held3 (fun w' => w'.cell? ⟨gR, p * 2, none⟩ = some (.int .i64 y0) ∧ w'.cell? ⟨gR, p * 2 + 1, none⟩ = some (.int .i64 y1) ∧ w'.cell? ⟨gR, m * 2, none⟩ = some (.int .i64 x0) ∧ w'.cell? ⟨gR, m * 2 + 1, none⟩ = some (.int .i64 x1) ∧ Below wr.heap.size wr w')
                (first | assumption | (exact HF.out _ ((Below.refl _ _).drew)) | (exact HF.out _ hs1))
                (first
                  | (go_at_call 12
                     (with_reducible refine (meet_any (x0, x1) (y0, y1) _).mono ?_)
                     rw [HMT.out]
                     rintro e w4 ⟨rfl, p1⟩
                     have hs1 : Below wr.heap.size wr w4 := (Below.refl _ _).drew.trans (p1.mono (by simp))
                     clear p1))
              have HBS := Lib.hid (HBR.out.trans (hs1.mono HBR.out.size))
              clear hs1
              go_wp2_with fail
              go_roundw
              case rel => exact ⟨p + 1, by omega, by go_num, HBS.out⟩
              case measure => simp [intOf]; omega
    · obtain rfl : p = R.length := by omega
      as_aux_lemma =>
        go_wp2_with fail
        go_loopw [10] (fun t wr => ∃ s : Int, t = .int .i64 s ∧ -220 ≤ s ∧ s ≤ 220 ∧ Below w3.heap.size w3 wr) (fun t _ => (220 - intOf t).toNat)
        case atStart => exact ⟨-220, rfl, by omega, by omega, HBU.out⟩
        case round =>
          rename World => wt
          obtain ⟨s, rfl, hs0, hs1, hbt⟩ := hrel
          have HBT := Lib.hid hbt
          clear hbt
          by_cases hlt3 : s < 220
          · as_aux_lemma =>
              have W5 : IntKind.i64.wrap (s + 1) = s + 1 := IntWalk.i64_in _ (by omega)
              go_wp2_with fail
              go_loopw [11, 13] (fun a k wr => ∃ (q : Nat) (β : Bool), q ≤ M.length ∧ a = .bool β ∧ (M.take q).any (hasB s) = β ∧ k = .int .i64 q ∧ Below w3.heap.size w3 wr) (fun _ k _ => M.length - (intOf k).toNat)
              case atStart => exact ⟨0, false, Nat.zero_le _, rfl, rfl, rfl, HBT.out⟩
              case round =>
                obtain ⟨q, β, hq, rfl, hβ, rfl, hbr⟩ := hrel
                have HBR := Lib.hid hbr
                have Hβ := Lib.hid hβ
                clear hbr hβ
                by_cases hlt2 : q < M.length
                · as_aux_lemma =>
                    obtain ⟨x, hx⟩ : ∃ x, M[q]? = some x := ⟨_, List.getElem?_eq_getElem hlt2⟩
                    obtain ⟨η, hη⟩ : ∃ η, hasB s x = η := ⟨_, rfl⟩
                    have hnext := any_take M s q x hx
                    rw [Hβ.out, hη] at hnext
                    have HNX := Lib.hid hnext
                    have hcall : ∀ W', Calls Try.prog 20 #[wv x, .int .i64 s] W' fun e w' => e = .returned (.bool η) ∧ Below W'.heap.size W' w' := fun W' => by rw [← hη]; exact has_any x s W'
                    have HCALL := Lib.hid hcall
                    obtain ⟨x0, x1⟩ := x
                    obtain ⟨gM, hgM, ⟨c0, c1⟩, hgMl⟩ := HFM.out q _ wr hx HBR.out
                    subst hgM
                    dsimp only at c0 c1
                    have hq2 : (0 : Int) ≤ (q : Int) := by omega
                    have hq3 : (q : Int) < (M.length : Int) := by omega
                    have W2 : IntKind.i64.wrap ((q : Int) + 1) = (q : Int) + 1 := IntWalk.i64_in _ (by omega)
                    clear hx hη hnext hcall
                    cases β with
                    | true =>
                      go_wp2_with fail
                      go_roundw
                      case rel => exact ⟨q + 1, true, by omega, rfl, by rw [HNX.out]; rfl, by go_num, HBR.out⟩
                      case measure => simp [intOf]; omega
                    | false =>
                      go_wp2_with (go_at_call 20
                                   (with_reducible refine (HCALL.out _).mono ?_)
                                   rintro e w4 ⟨rfl, p1⟩
                                   have HB4 : Hid (Below w3.heap.size w3 w4) := Lib.hid (HBR.out.trans (p1.mono HBR.out.size))
                                   clear p1)
                      go_roundw
                      case rel => exact ⟨q + 1, η, by omega, rfl, by rw [HNX.out]; rfl, by go_num, HB4.out⟩
                      case measure => simp [intOf]; omega
                · obtain rfl : q = M.length := by omega
                  have hmany : M.any (hasB s) = β := by have := Hβ.out; rwa [List.take_length] at this
                  have HMANY := Lib.hid hmany
                  clear hmany
                  go_wp2_with fail
                  go_loopw [12, 14] (fun c k wr => ∃ (q : Nat) (n : Int), q ≤ R.length ∧ c = .int .i64 n ∧ n = ((R.take q).filter (hasB s)).length ∧ k = .int .i64 q ∧ Below w3.heap.size w3 wr) (fun _ k _ => R.length - (intOf k).toNat)
                  case atStart => exact ⟨0, 0, Nat.zero_le _, rfl, rfl, rfl, HBR.out⟩
                  case round =>
                    rename World => wy
                    obtain ⟨q, n, hq, rfl, hn, rfl, hbv⟩ := hrel
                    have HBV := Lib.hid hbv
                    have HN := Lib.hid hn
                    have hnb : 0 ≤ n ∧ n ≤ 40 := by
                      have := List.length_filter_le (hasB s) (R.take q)
                      rw [List.length_take] at this
                      omega
                    clear hbv hn
                    by_cases hlt4 : q < R.length
                    · obtain ⟨x, hx⟩ : ∃ x, R[q]? = some x := ⟨_, List.getElem?_eq_getElem hlt4⟩
                      obtain ⟨η, hη⟩ : ∃ η, hasB s x = η := ⟨_, rfl⟩
                      have hnext := count_take R s q x hx
                      rw [hη] at hnext
                      have HNX := Lib.hid hnext
                      have hcall : ∀ W', Calls Try.prog 20 #[wv x, .int .i64 s] W' fun e w' => e = .returned (.bool η) ∧ Below W'.heap.size W' w' := fun W' => by rw [← hη]; exact has_any x s W'
                      have HCALL := Lib.hid hcall
                      obtain ⟨x0, x1⟩ := x
                      obtain ⟨gR, hgR, ⟨c0, c1⟩, hgRl⟩ := HFR.out q _ wy hx HBV.out
                      subst hgR
                      dsimp only at c0 c1
                      have hq2 : (0 : Int) ≤ (q : Int) := by omega
                      have hq3 : (q : Int) < (R.length : Int) := by omega
                      have W2 : IntKind.i64.wrap ((q : Int) + 1) = (q : Int) + 1 := IntWalk.i64_in _ (by omega)
                      have W6 : IntKind.i64.wrap (n + 1) = n + 1 := IntWalk.i64_in _ (by omega)
                      clear hx hη hnext hcall
                      go_wp2_with (go_at_call 20
                                   (with_reducible refine (HCALL.out _).mono ?_)
                                   rintro e w4 ⟨rfl, p1⟩
                                   have HB4 : Hid (Below w3.heap.size w3 w4) := Lib.hid (HBV.out.trans (p1.mono HBV.out.size))
                                   clear p1
                                   cases η)
                      · go_roundw
                        case rel => exact ⟨q + 1, n, by omega, rfl, by rw [HNX.out, HN.out]; simp, by go_num, HB4.out⟩
                        case measure => simp [intOf]; omega
                      · go_roundw
                        case rel => exact ⟨q + 1, n + 1, by omega, by go_num, by rw [HNX.out, HN.out]; simp, by go_num, HB4.out⟩
                        case measure => simp [intOf]; omega
                    · obtain rfl : q = R.length := by omega
                      have hcount := count_gather M s
                      rw [HR.out, HMANY.out] at hcount
                      have hn := HN.out
                      rw [List.take_length, hcount] at hn
                      cases β with
                      | true =>
                        obtain rfl : n = 1 := by simpa using hn
                        clear hn hcount
                        go_wp2_with fail
                        go_roundw
                        case rel => exact ⟨s + 1, by go_num, by omega, by omega, HBV.out⟩
                        case measure => simp [intOf]; omega
                      | false =>
                        obtain rfl : n = 0 := by simpa using hn
                        clear hn hcount
                        go_wp2_with fail
                        go_roundw
                        case rel => exact ⟨s + 1, by go_num, by omega, by omega, HBV.out⟩
                        case measure => simp [intOf]; omega
          · obtain rfl : s = 220 := by omega
            have hbsz := HBT.out.size
            go_wp2_with fail
            go_loopw [15, 16] (fun u i wr => ∃ (d : Nat) (z : Int), d ≤ M.length ∧ i = .int .i64 z ∧ z = (d : Int) - 1 ∧ wr.ownsRow w3.heap.size 34 2 u (M.drop d).reverse.length (cellsL (M.drop d).reverse) ∧ Below w3.heap.size w3 wr) (fun _ i _ => (intOf i + 1).toNat)
            case atStart => exact ⟨M.length, _, Nat.le_refl _, rfl, by go_num, by rw [List.drop_length]; exact World.ownsRow_nil _ _ _ _, HBT.out⟩
            case round =>
              obtain ⟨d, z, hd, rfl, hz, hrow, hbr⟩ := hrel
              have HBR := Lib.hid hbr
              have HROW := Lib.hid hrow
              clear hbr hrow
              have hszr := HBR.out.size
              by_cases hd0 : d = 0
              · as_aux_lemma =>
                  subst hd0
                  have hz1 : z < 0 := by omega
                  have hrow := HROW.out
                  rw [List.drop_zero] at hrow
                  obtain ⟨N, hN⟩ : ∃ N, M.reverse = N := ⟨_, rfl⟩
                  have hNR : gatherM N = R := by rw [← hN, gather_turned, HR.out]
                  have hRR : gatherM R = R := by rw [← HR.out, gather_twice]
                  have hNl : N.length ≤ 40 := by rw [← hN, List.length_reverse]; exact l2
                  rw [hN] at hrow
                  obtain ⟨A5, c5, hA, hA2⟩ := wins_of_row hrow
                  subst hA
                  have HVN : Hid (Wins wr wr.heap.size (.slice A5 N.length c5) N) := Lib.hid ⟨A5, c5, rfl, hA2⟩
                  have HNR := Lib.hid hNR
                  have HRR := Lib.hid hRR
                  have HB0 : Hid (Below w.heap.size w wr) := Lib.hid (HB3.out.trans (HBR.out.mono HB3.out.size))
                  have HVR0 := Lib.hid ((HVR.out.below HBR.out).mono hszr)
                  clear hrow hN hNR hRR hA2 hz hd
                  go_wp2_with (first
                    | (go_at_call 18
                       (with_reducible refine (gather_any N A5 c5 _ HVN.out (by omega)).mono ?_)
                       rw [HNR.out]
                       rintro e w4 ⟨v4, rfl, p1, p2, p3⟩
                       obtain ⟨A6, c6, hA, hA2⟩ := wins_of_row p1
                       subst hA
                       have HV6 : Hid (Wins w4 w4.heap.size (.slice A6 R.length c6) R) := Lib.hid ⟨A6, c6, rfl, hA2⟩
                       have HVR4 := Lib.hid ((HVR0.out.below p3).mono p3.size)
                       have HB4 : Hid (Below w.heap.size w w4) := Lib.hid (HB0.out.trans (p3.mono HB0.out.size))
                       clear p1 p2 p3 hA2)
                    | (go_at_call 18
                       (with_reducible refine (gather_any R A3 c3 _ HVR5.out (by omega)).mono ?_)
                       rw [HRR.out]
                       rintro e w6 ⟨v6, rfl, p1, p2, p3⟩
                       obtain ⟨A7, c7, hA, hA2⟩ := wins_of_row p1
                       subst hA
                       have HV7 : Hid (Wins w6 w6.heap.size (.slice A7 R.length c7) R) := Lib.hid ⟨A7, c7, rfl, hA2⟩
                       have HVR6 := Lib.hid ((HVR5.out.below p3).mono p3.size)
                       have HB6 : Hid (Below w.heap.size w w6) := Lib.hid (HB5.out.trans (p3.mono HB5.out.size))
                       clear p1 p2 p3 hA2)
                    | (go_at_call 9
                       (with_reducible refine (same_yes _ A6 A3 c6 c3 w4.heap.size _ HV6.out HVR4.out (by omega)).mono ?_)
                       rintro e w5 ⟨rfl, p3⟩
                       have HVR5 := Lib.hid ((HVR4.out.below p3).mono p3.size)
                       have HB5 : Hid (Below w.heap.size w w5) := Lib.hid (HB4.out.trans (p3.mono HB4.out.size))
                       clear p3)
                    | (go_at_call 9
                       (with_reducible refine (same_yes _ A7 A3 c7 c3 w6.heap.size _ HV7.out HVR6.out (by omega)).mono ?_)
                       rintro e w7 ⟨rfl, p3⟩
                       have HB7 : Hid (Below w.heap.size w w7) := Lib.hid (HB6.out.trans (p3.mono HB6.out.size))
                       clear p3))
                  go_ret
                  exact ⟨rfl, HB7.out⟩
              · as_aux_lemma =>
                  obtain ⟨m, rfl⟩ : ∃ m, d = m + 1 := ⟨d - 1, by omega⟩
                  obtain rfl : z = (m : Int) := by omega
                  obtain ⟨x, hx⟩ : ∃ x, M[m]? = some x := ⟨_, List.getElem?_eq_getElem (by omega)⟩
                  have hturn := drop_turned M m x hx
                  have hrow := HROW.out
                  obtain ⟨T, hT⟩ : ∃ T, (M.drop (m + 1)).reverse = T := ⟨_, rfl⟩
                  have hTl : T.length ≤ 40 := by rw [← hT, List.length_reverse, List.length_drop]; omega
                  rw [hT] at hrow hturn
                  obtain ⟨x0, x1⟩ := x
                  obtain ⟨gM, hgM, ⟨c0, c1⟩, hgMl⟩ := HFM.out m _ wr hx HBR.out
                  subst hgM
                  dsimp only at c0 c1
                  have hq2 : (0 : Int) ≤ (m : Int) := by omega
                  have hq3 : (m : Int) < (M.length : Int) := by omega
                  have W2 : IntKind.i64.wrap ((m : Int) - 1) = (m : Int) - 1 := IntWalk.i64_in _ (by omega)
                  have HTURN := Lib.hid hturn
                  have HTR := Lib.hid hrow
                  clear hx hrow hT hturn hd0 hz
                  go_wp2_with (at_builtin
                               refine wpList_append_one _ rfl (.tmp 189) _ 32 rfl w3.heap.size 34 i0 _ 2 16 Try.underlying32 HI.out HZ0.out HZ1.out HZ2.out rfl (by decide) _ T.length _ rfl (HTR.out.alloc _) ⟨wr.heap.size, 0, none⟩ 1 1 (wcells (x0, x1)) rfl rfl (news_new wr (x0, x1) 34) (oneCells _) (by omega) (by unfold maxLen; omega) (by omega) (by simp; omega) ?_
                               intro ga ca w6 own6 grow6 hat6 hga
                               have HB6 : Hid (Below w3.heap.size w3 w6) := Lib.hid ((HBR.out.alloc (by omega) _).grown grow6 (by simp; omega) (fun g e => by have := (own_lt HTR.out e).1; omega))
                               have HO6 := Lib.hid own6
                               clear grow6 hat6 own6 hga)
                  go_roundw
                  case rel =>
                    refine ⟨m, _, by omega, by go_num, rfl, ?_, HB6.out⟩
                    rw [HTURN.out, cellsL_snoc, List.length_append]
                    exact HO6.out
                  case measure => first | (simp [intOf]; done) | (simp [intOf]; omega)
  
end Go.Proofs.Yteiedknpmlemkaa
