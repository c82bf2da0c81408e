/-
  Frames: works: the chapter's examples.
-/
import Derived.Test.YtoknpadkkokbgaaFh
namespace Go.Proofs.Ytoknpadkkokbgaa
open Go Go.RowKit Go.Lib

def Put' (t : ByteArray) (x : Int) (w : World) (e : Ending) (w' : World) : Prop := e = .returned (.tuple #[.string t, .int .i64 x]) ∧ Below w.heap.size w w'
def Next' (b : ByteArray) (i : Int) (x : Int) (w : World) (e : Ending) (w' : World) : Prop := e = .returned (.tuple #[.string b, .int .i64 i, .int .i64 x]) ∧ Below w.heap.size w w'
theorem put_ok (s : ByteArray) (h : s.size ≤ 1048576) (w : World) : Calls Try.prog 7 #[.string s] w (Put' (frm s) 0 w) := by
  refine (put_any s w (by omega)).mono fun e w' h' => ⟨?_, h'.2⟩
  rw [h'.1, if_neg (by omega)]
theorem put_at {s t : ByteArray} (e : frm s = t) (h : s.size ≤ 1048576) (w : World) : Calls Try.prog 7 #[.string s] w (Put' t 0 w) := e ▸ put_ok s h w
theorem next_at {s b : ByteArray} {a i x : Int} (h : s.size ≤ 140737488355328) (e : read s a = .tuple #[.string b, .int .i64 i, .int .i64 x]) (w : World) : Calls Try.prog 14 #[.string s, .int .i64 a] w (Next' b i x w) :=
  (next_any s a w h).mono fun e' w' h' => ⟨h'.1.trans (by rw [e]), h'.2⟩
theorem lit_lst (x : ByteArray) (w : World) : Lst (w.alloc (.cells #[.string x] 9)) (.slice (some ⟨w.heap.size, 0, none⟩) 1 1) [x] :=
  ⟨_, 1, rfl, .inr ⟨⟨w.heap.size, 0, none⟩, rfl, by simp, fun j y hy => one_cell x w j (.string y) (by
      match j with
      | 0 => simpa using hy
      | j + 1 => simp at hy)⟩⟩
theorem ex_all (w : World) : Calls Try.prog 12 #[.string (⟨#[165, 0, 0, 2, 97, 98, 90]⟩ ++ ⟨#[165]⟩)] w fun e w' => ∃ v, e = .returned (.tuple #[v, .int .i64 7, .int .i64 20]) ∧ Lst w' v [⟨#[97, 98]⟩] ∧ Below w.heap.size w w' := by
  refine (all_any ⟨#[165, 0, 0, 2, 97, 98, 90, 165]⟩ w (by decide)).mono ?_
  rintro e w' ⟨n, v, hn, rfl, ho, hb⟩
  have e1 : st ⟨#[165, 0, 0, 2, 97, 98, 90, 165]⟩ 1 = (7, [⟨#[97, 98]⟩]) := by kernel_rfl
  have hw : wrong ⟨#[165, 0, 0, 2, 97, 98, 90, 165]⟩ ((7 : Nat) : Int) = 20 := by kernel_rfl
  have hq := st_one (m := 1) hn (by rw [e1]; show wrong _ ((7 : Nat) : Int) ≠ 0; rw [hw]; omega)
  rw [hq, e1] at ho ⊢
  have L := own_lst ho
  refine ⟨v, ?_, L, hb⟩
  show Ending.returned (.tuple #[v, .int .i64 ((7 : Nat) : Int), .int .i64 (whyOf _ 7)]) = _
  have hy : whyOf ⟨#[165, 0, 0, 2, 97, 98, 90, 165]⟩ 7 = 20 := by
    unfold whyOf
    rw [show wrong ⟨#[165, 0, 0, 2, 97, 98, 90, 165]⟩ ((7 : Nat) : Int) = 20 from hw]
    rfl
  rw [hy]
  rfl

set_option maxRecDepth 100000 in
set_option maxHeartbeats 1600000 in
theorem works_any (w : World) : Calls Try.prog 9 #[] w (Yes w) := by
  have P1 := Lib.hid (put_at (s := ⟨#[97, 98]⟩) (t := ⟨#[165, 0, 0, 2, 97, 98, 90]⟩) (by kernel_rfl) (by decide))
  have P2 := Lib.hid (put_at (s := ⟨#[]⟩) (t := ⟨#[165, 0, 0, 0, 90]⟩) (by kernel_rfl) (by decide))
  have N0 := Lib.hid (next_at (s := ⟨#[165, 0, 0, 2, 97, 98, 90]⟩) (b := ⟨#[97, 98]⟩) (a := 0) (i := 7) (x := 0) (by decide) (by kernel_rfl))
  have N7 := Lib.hid (next_at (s := ⟨#[165, 0, 0, 2, 97, 98, 90]⟩) (b := ⟨#[]⟩) (a := 7) (i := 7) (x := 9) (by decide) (by kernel_rfl))
  have N8 := Lib.hid (next_at (s := ⟨#[165, 0, 0, 2, 97, 98, 90]⟩) (b := ⟨#[]⟩) (a := 8) (i := 8) (x := 2) (by decide) (by kernel_rfl))
  have N1 := Lib.hid (next_at (s := ⟨#[165, 0, 0, 2, 97, 98, 90]⟩) (b := ⟨#[]⟩) (a := 1) (i := 1) (x := 5) (by decide) (by kernel_rfl))
  have NT := Lib.hid (next_at (s := ⟨#[165, 0, 0, 2, 97]⟩) (b := ⟨#[]⟩) (a := 0) (i := 0) (x := 20) (by decide) (by kernel_rfl))
  have A := Lib.hid ex_all
  obtain ⟨w0, hw0⟩ : ∃ w0 : World, w0 = w := ⟨w, rfl⟩
  have B0 : Below w.heap.size w w := Below.refl _ _
  clear hw0
  go_enter Try.func9, Try.ntmps9
  go_wp2_with (first
    | (go_at_call 7
       first
         | ((with_reducible refine (P1.out _).mono ?_); rintro e w1 ⟨rfl, hb1⟩; have hb1s := hb1.size)
         | ((with_reducible refine (P2.out _).mono ?_); rintro e w8 ⟨rfl, hb8'⟩; have hb8 := hb7.trans (hb8'.mono hb7.size)))
    | (go_at_call 14
       first
         | ((with_reducible refine (N0.out _).mono ?_); rintro e w2 ⟨rfl, hb2'⟩; have hb2 := hb1.trans (hb2'.mono hb1.size); clear hb2')
         | ((with_reducible refine (N7.out _).mono ?_); rintro e w3 ⟨rfl, hb3'⟩; have hb3 := hb2.trans (hb3'.mono hb2.size); clear hb3')
         | ((with_reducible refine (N8.out _).mono ?_); rintro e w4 ⟨rfl, hb4'⟩; have hb4 := hb3.trans (hb4'.mono hb3.size); clear hb4')
         | ((with_reducible refine (N1.out _).mono ?_); rintro e w5 ⟨rfl, hb5'⟩; have hb5 := hb4.trans (hb5'.mono hb4.size); clear hb5')
         | ((with_reducible refine (NT.out _).mono ?_); rintro e w6 ⟨rfl, hb6'⟩; have hb6 := hb5.trans (hb6'.mono hb5.size); clear hb6'))
    | (go_at_call 12
       (with_reducible refine (A.out _).mono ?_); rintro e w7 ⟨v, rfl, hL, hb7'⟩; have hb7 := hb6.trans (hb7'.mono hb6.size); have L := Lib.hid hL; clear hb7' hL)
    | (go_at_call 13
       (with_reducible refine (texts_any [⟨#[97, 98]⟩] _ _ _ ((L.out.below hb8').below ((Below.refl _ _).alloc (Nat.le_refl _) _)) (lit_lst _ w8) (by decide)).mono ?_)
       rintro e w9 ⟨rfl, n9, rfl⟩))
  go_ret
  exact ⟨rfl, (hb8.alloc hb8.size _).trans (below_drewN _ _ _)⟩
end Go.Proofs.Ytoknpadkkokbgaa
