/-
  The walk of WinGathers.
-/
import Derived.Test.YteiedknpmlemkaaXk
import Derived.Test.YteiedknpmlemkaaXh
import Derived.Test.YteiedknpmlemkaaWq
import Derived.Test.YteiedknpmlemkaaWu
namespace Go.Proofs.Yteiedknpmlemkaa
open Go Go.RowKit Go.Lib Go.Shelf

theorem WinsIn.below {W W' : World} {B : Nat} {A : Option Addr} {l : List Win} (h : WinsIn W B A l) (hb : Below B W W') : WinsIn W' B A l := by
  rcases h with h | ⟨ad, h1, h2, h3⟩
  · exact .inl h
  · refine .inr ⟨ad, h1, h2, fun j x hx => ?_⟩
    obtain ⟨a, b⟩ := h3 j x hx
    exact ⟨(hb.cell (by rw [addr_blk]; exact h2)).trans a, (hb.cell (by simpa [addr_blk] using h2)).trans b⟩
theorem WinsIn.mono {W : World} {B B' : Nat} {A : Option Addr} {l : List Win} (h : WinsIn W B A l) (hb : B ≤ B') : WinsIn W B' A l := by
  rcases h with h | ⟨ad, h1, h2, h3⟩
  · exact .inl h
  · exact .inr ⟨ad, h1, by omega, h3⟩
theorem pair_0 (A B : Option Addr) (n m c d : Nat) (w : World) : (Instr.index 41 (.agg #[.slice A n c, .slice B m d]) (.int .i64 0)).run Try.prog w = .ok (.slice A n c) w := by kernel_rfl
theorem pair_1 (A B : Option Addr) (n m c d : Nat) (w : World) : (Instr.index 41 (.agg #[.slice A n c, .slice B m d]) (.int .i64 1)).run Try.prog w = .ok (.slice B m d) w := by kernel_rfl

/-- Two rows as one reads them. -/
theorem Two.wins {n : Nat} {W : World} {u v : Value} {la lb : List Win} (h : Two n W u v la lb) :
    ∃ A c B d, u = .slice A la.length c ∧ v = .slice B lb.length d ∧ Wins W W.heap.size (.slice A la.length c) la ∧ Wins W W.heap.size (.slice B lb.length d) lb := by
  obtain ⟨A, c, e1, h1⟩ := wins_of_row h.ra
  obtain ⟨B, d, e2, h2⟩ := wins_of_row h.rb
  exact ⟨A, c, B, d, e1, e2, ⟨A, c, rfl, h1⟩, ⟨B, d, rfl, h2⟩⟩

set_option maxRecDepth 100000 in
set_option maxHeartbeats 6400000 in
theorem gathers_any (l : List Win) (A : Option Addr) (cp : Nat) (w : World) (hin : WinsIn w w.heap.size A l) (hlen : l.length ≤ maxLen) :
    Calls Try.prog 4 #[.slice A l.length cp] w fun e w' => e = .returned (.bool true) ∧ Below w.heap.size w w' := by
  have HIN := Lib.hid hin
  obtain ⟨L, hL⟩ : ∃ L, l.take 40 = L := ⟨_, rfl⟩
  obtain ⟨M, hM⟩ : ∃ M, L.map small = M := ⟨_, rfl⟩
  have l1 : L.length ≤ 40 := by rw [← hL, List.length_take]; omega
  have l2 : M.length ≤ 40 := by rw [← hM, List.length_map]; exact l1
  have g1 := gather_len L
  have g2 := gather_len M
  have HFEW : Hid (∀ w1, Below w.heap.size w w1 → Calls Try.prog 17 #[.slice A l.length cp] w1 fun e w' => ∃ u v, e = .returned (.tuple #[u, v]) ∧ Two w1.heap.size w' u v L M ∧ Below w1.heap.size w1 w') := Lib.hid (fun w1 hb => by
    have := few_any l A cp w1 ((HIN.out.below hb).mono hb.size) hlen
    rw [hL, hM] at this
    exact this)
  clear hin hL hM
  go_enter Try.func4, Try.ntmps4
  go_wp2_with (go_at_call 17
               (with_reducible refine (HFEW.out _ (Below.refl _ _)).mono ?_)
               rintro e w1 ⟨u, v, rfl, hT, p1⟩
               obtain ⟨A1, c1, A2, c2, rfl, rfl, hw1, hw2⟩ := hT.wins
               have HW1 := Lib.hid hw1
               have HW2 := Lib.hid hw2
               have hb1 : Below w.heap.size w w1 := p1
               clear p1 hT hw1 hw2)
  have HB1 := Lib.hid hb1
  have hz1 := hb1.size
  have I0 := fun w => pair_0 A1 A2 L.length M.length c1 c2 w
  have I1 := fun w => pair_1 A1 A2 L.length M.length c1 c2 w
  clear hb1
  go_wp2_with fail
  go_loopw [17] (fun i wr => ∃ j : Nat, i = .int .i64 j ∧ j ≤ 2 ∧ Below w1.heap.size w1 wr) (fun i _ => 2 - (intOf i).toNat)
  case atStart => exact ⟨0, rfl, by omega, Below.refl _ _⟩
  case round =>
    rename World => wu
    obtain ⟨j, rfl, hj, hbr⟩ := hrel
    have BR := Lib.hid hbr
    clear hbr
    obtain rfl | rfl | rfl : j = 0 ∨ j = 1 ∨ j = 2 := by omega
    · go_wp2_with (first
        | (go_at_call 18
           (with_reducible refine (gather_any L A1 c1 _ ((HW1.out.below BR.out).mono BR.out.size) (by omega)).mono ?_)
           rintro e w2 ⟨v2, rfl, p1, p2, p3⟩
           have hb2 : Below w1.heap.size w1 w2 := BR.out.trans (p3.mono BR.out.size)
           obtain ⟨A3, c3, hA, hA2⟩ := wins_of_row p1
           subst hA
           have HW3 : Hid (Wins w2 w2.heap.size (.slice A3 _ c3) _) := Lib.hid ⟨A3, c3, rfl, hA2⟩
           have HB2 := Lib.hid hb2
           clear p1 p2 p3 hA2 hb2)
        | (go_at_call 19
           (with_reducible refine (rgather_any L A1 c1 _ ((HW1.out.below HB2.out).mono HB2.out.size) (by omega)).mono ?_)
           rintro e w3 ⟨v3, rfl, p1, p2, p3⟩
           have HB3 : Hid (Below w1.heap.size w1 w3) := Lib.hid (HB2.out.trans (p3.mono HB2.out.size))
           obtain ⟨A4, c4, hA, hA2⟩ := wins_of_row p1
           subst hA
           have HW4 : Hid (Wins w3 w3.heap.size (.slice A4 _ c4) _) := Lib.hid ⟨A4, c4, rfl, hA2⟩
           have HW5 := Lib.hid ((HW3.out.below p3).mono p3.size)
           clear p1 p2 p3 hA2)
        | (go_at_call 9
           (with_reducible refine (same_yes _ A3 A4 c3 c4 w3.heap.size _ HW5.out HW4.out (by omega)).mono ?_)
           rintro e w4 ⟨rfl, p3⟩
           have HB4 : Hid (Below w1.heap.size w1 w4) := Lib.hid (HB3.out.trans (p3.mono HB3.out.size))
           clear p3))
      go_roundw
      case rel => exact ⟨1, rfl, by omega, HB4.out⟩
      case measure => simp [intOf]
    · go_wp2_with (first
        | (go_at_call 18
           (with_reducible refine (gather_any M A2 c2 _ ((HW2.out.below BR.out).mono BR.out.size) (by omega)).mono ?_)
           rintro e w2 ⟨v2, rfl, p1, p2, p3⟩
           have hb2 : Below w1.heap.size w1 w2 := BR.out.trans (p3.mono BR.out.size)
           obtain ⟨A3, c3, hA, hA2⟩ := wins_of_row p1
           subst hA
           have HW3 : Hid (Wins w2 w2.heap.size (.slice A3 _ c3) _) := Lib.hid ⟨A3, c3, rfl, hA2⟩
           have HB2 := Lib.hid hb2
           clear p1 p2 p3 hA2 hb2)
        | (go_at_call 19
           (with_reducible refine (rgather_any M A2 c2 _ ((HW2.out.below HB2.out).mono HB2.out.size) (by omega)).mono ?_)
           rintro e w3 ⟨v3, rfl, p1, p2, p3⟩
           have HB3 : Hid (Below w1.heap.size w1 w3) := Lib.hid (HB2.out.trans (p3.mono HB2.out.size))
           obtain ⟨A4, c4, hA, hA2⟩ := wins_of_row p1
           subst hA
           have HW4 : Hid (Wins w3 w3.heap.size (.slice A4 _ c4) _) := Lib.hid ⟨A4, c4, rfl, hA2⟩
           have HW5 := Lib.hid ((HW3.out.below p3).mono p3.size)
           clear p1 p2 p3 hA2)
        | (go_at_call 9
           (with_reducible refine (same_yes _ A3 A4 c3 c4 w3.heap.size _ HW5.out HW4.out (by omega)).mono ?_)
           rintro e w4 ⟨rfl, p3⟩
           have HB4 : Hid (Below w1.heap.size w1 w4) := Lib.hid (HB3.out.trans (p3.mono HB3.out.size))
           clear p3))
      go_roundw
      case rel => exact ⟨2, rfl, by omega, HB4.out⟩
      case measure => simp [intOf]
    · have HB1F := Lib.hid (HB1.out.trans (BR.out.mono hz1))
      go_wp2_with (first
        | (go_at_call 17
           (with_reducible refine (HFEW.out _ HB1F.out).mono ?_)
           rintro e w2 ⟨u, v, rfl, hT, p1⟩
           obtain ⟨A3, c3, A4, c4, rfl, rfl, hw3, hw4⟩ := hT.wins
           have hb2 : Below w1.heap.size w1 w2 := BR.out.trans (p1.mono BR.out.size)
           have HW3 := Lib.hid hw3
           have HW4 := Lib.hid hw4
           have HV1 := Lib.hid ((HW1.out.below hb2).mono hb2.size)
           have HV2 := Lib.hid ((HW2.out.below hb2).mono hb2.size)
           have HB2 : Hid (Below w.heap.size w w2) := Lib.hid (HB1.out.trans (hb2.mono hz1))
           have hz2 := HB2.out.size
           clear p1 hT hw3 hw4 hb2)
        | (go_at_call 9
           (with_reducible refine (same_yes _ A1 A3 c1 c3 w2.heap.size _ HV1.out HW3.out (by omega)).mono ?_)
           rintro e w3 ⟨rfl, p3⟩
           have hz3 := p3.size
           have HU2 := Lib.hid ((HV2.out.mono (Nat.le_refl _)).below p3)
           have HU4 := Lib.hid (HW4.out.below p3)
           have HB3 : Hid (Below w.heap.size w w3) := Lib.hid (HB2.out.trans (p3.mono hz2))
           clear p3)
        | (go_at_call 9
           (with_reducible refine (same_yes _ A2 A4 c2 c4 w2.heap.size _ HU2.out HU4.out (by omega)).mono ?_)
           rintro e w4 ⟨rfl, p3⟩
           have HB4 : Hid (Below w.heap.size w w4) := Lib.hid (HB3.out.trans (p3.mono (by omega)))
           clear p3)
        | (go_at_call 16
           (with_reducible refine (works _).mono ?_)
           rintro e w5 ⟨rfl, p3⟩
           have HB5 : Hid (Below w.heap.size w w5) := Lib.hid (HB4.out.trans (p3.mono HB4.out.size))
           clear p3))
      go_ret
      exact ⟨rfl, HB5.out⟩
end Go.Proofs.Yteiedknpmlemkaa
