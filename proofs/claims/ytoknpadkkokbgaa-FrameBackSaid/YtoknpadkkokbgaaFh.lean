/-
  Frames: alike, and works.
-/
import Derived.Test.YtoknpadkkokbgaaFg
namespace Go.Proofs.Ytoknpadkkokbgaa
open Go Go.RowKit Go.Lib

def Yes (w : World) (e : Ending) (w' : World) : Prop := e = .returned (.bool true) ∧ Below w.heap.size w w'

set_option maxRecDepth 100000 in
set_option maxHeartbeats 1600000 in
theorem alike_any (s : ByteArray) (a : Int) (w : World) (hs : s.size ≤ 1073741824) : Calls Try.prog 11 #[.string s, .int .i64 a] w (Yes w) := by
  have K1 : ∀ w, Calls Try.prog 14 #[.string s, .int .i64 a] w fun e w' => e = .returned (.tuple #[.string (bodyOf s a), .int .i64 (nextOf s a), .int .i64 (wrong s a)]) ∧ Below w.heap.size w w' := fun w => next_any s a w (by omega)
  have K2 : ∀ w, Calls Try.prog 16 #[.string s, .int .i64 a] w fun e w' => e = .returned (.tuple #[.string (bodyOf s a), .int .i64 (nextOf s a), .int .i64 (wrong s a)]) ∧ Below w.heap.size w w' := fun w => ref_next_any s a w (by omega)
  have K3 := fun w => all_any s w hs
  have K4 := fun w => ref_all_any s w hs
  have H1 := Lib.hid K1; clear K1
  have H2 := Lib.hid K2; clear K2
  have H3 := Lib.hid K3; clear K3
  have H4 := Lib.hid K4; clear K4
  go_enter Try.func11, Try.ntmps11
  go_wp2_with (first
    | (go_at_call 14
       (with_reducible refine (H1.out _).mono ?_)
       rintro e w1 ⟨rfl, hb1⟩
       have hb1s := hb1.size)
    | (go_at_call 16
       (with_reducible refine (H2.out _).mono ?_)
       rintro e w2 ⟨rfl, hb2'⟩
       have hb2 : Below w.heap.size w w2 := hb1.trans (hb2'.mono hb1s)
       have hb2s := hb2.size
       clear hb2')
    | (go_at_call 12
       (with_reducible refine (H3.out _).mono ?_)
       rintro e w3 ⟨n3, v3, hn3, rfl, ho3, hb3'⟩
       have hb3 : Below w.heap.size w w3 := hb2.trans (hb3'.mono hb2s)
       have hb3s := hb3.size
       have L3 := Lib.hid (own_lst ho3)
       have N3 := Lib.hid hn3
       clear hb3' ho3 hn3)
    | (go_at_call 17
       (with_reducible refine (H4.out _).mono ?_)
       rintro e w4 ⟨n4, v4, hn4, rfl, ho4, hb4'⟩
       have hb4 : Below w.heap.size w w4 := hb3.trans (hb4'.mono hb3s)
       have hb4s := hb4.size
       have L4 := Lib.hid (own_lst ho4)
       have L34 := Lib.hid (L3.out.below hb4')
       have Q := Lib.hid (st_one hn4 N3.out)
       rw [Q.out] at L4 ⊢
       have hlen := st_le s n3
       clear hb4' ho4 hn4)
    | (go_at_call 13
       (with_reducible refine (texts_any _ _ _ _ L34.out L4.out (by omega)).mono ?_)
       rintro e w5 ⟨rfl, n5, rfl⟩))
  go_ret
  exact ⟨rfl, hb4.trans (below_drewN _ _ _)⟩
end Go.Proofs.Ytoknpadkkokbgaa
