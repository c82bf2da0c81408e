/-
  Numbers read: the walks of New, Place, Left, End, and of text and Text.
-/
import Derived.Test.YtllkflbkndfdeaaDoorEvBd
import Derived.Shelf.LaysM
import Derived.Shelf.Strconv.Clone
namespace Go.Proofs.YtllkflbkndfdeaaDoor
open Go Go.RowKit Go.Lib

theorem new_any (s : ByteArray) (w : World) : Calls Tryd.prog 8 #[.string s] w fun e w' => e = .returned (.pointer (some ⟨w.heap.size, 0, none⟩)) ∧ w' = w.alloc (.cells #[.string s, .int .i64 0] 79) := by
  go_enter Tryd.func8, Tryd.ntmps8
  go_wp2
  go_ret
  exact ⟨rfl, rfl⟩
theorem new_rdr (s : ByteArray) (w : World) : Rdr (w.alloc (.cells #[.string s, .int .i64 0] 79)) w.heap.size s 0 :=
  ⟨by simp, by simp, by simp, by simp⟩
theorem place_any (s : ByteArray) (k g : Nat) (w : World) (h : Rdr w g s k) : Calls Tryd.prog 20 #[.pointer (some ⟨g, 0, none⟩)] w fun e w' => e = .returned (.int .i64 k) ∧ w' = w := by
  have hc1 := h.c1
  go_enter Tryd.func20, Tryd.ntmps20
  go_wp2
  go_ret
  exact ⟨rfl, rfl⟩
theorem left_any (s : ByteArray) (k g : Nat) (w : World) (hs : s.size ≤ 140737488355328) (hk : k ≤ s.size) (h : Rdr w g s k) : Calls Tryd.prog 21 #[.pointer (some ⟨g, 0, none⟩)] w fun e w' => e = .returned (.int .i64 ((s.size : Int) - k)) ∧ ∃ n, w' = w.drewN n := by
  have hc0 := h.c0
  have hc1 := h.c1
  have W1 : IntKind.i64.wrap ((s.size : Int) - (k : Int)) = (s.size : Int) - (k : Int) := IntWalk.i64_in _ (by omega)
  go_enter Tryd.func21, Tryd.ntmps21
  go_wp2
  go_quiet (fail)
  go_wp2
  go_ret
  exact ⟨rfl, _, rfl⟩
theorem end_ok (s : ByteArray) (g : Nat) (w : World) (hs : s.size ≤ 140737488355328) (h : Rdr w g s s.size) : Calls Tryd.prog 22 #[.pointer (some ⟨g, 0, none⟩)] w fun e w' => e = .returned .nilIface ∧ ∃ n, w' = w.drewN n := by
  have K := left_any s s.size g w hs (Nat.le_refl _) h
  rw [show (s.size : Int) - (s.size : Nat) = 0 by omega] at K
  have HK := Lib.hid K
  clear K
  go_enter Tryd.func22, Tryd.ntmps22
  go_wp2_with fail
  refine HK.out.mono ?_
  rintro e w1 ⟨rfl, n, rfl⟩
  go_wp2_with fail
  go_ret
  exact ⟨rfl, _, rfl⟩
theorem end_bad (s : ByteArray) (k g : Nat) (w : World) (hs : s.size ≤ 140737488355328) (hk : k < s.size) (h : Rdr w g s k) :
    Calls Tryd.prog 22 #[.pointer (some ⟨g, 0, none⟩)] w fun e w' => ∃ n, e = .returned (.iface 84 (.pointer (some ⟨w.heap.size, 0, none⟩))) ∧ w' = (w.drewN n).alloc (.cells #[.int .i64 4, .int .i64 k] 36) := by
  have K := Lib.hid (left_any s k g w hs (by omega) h)
  have hq : (0 : Int) < (s.size : Int) - (k : Int) := by omega
  have hc1 := h.c1
  go_enter Tryd.func22, Tryd.ntmps22
  go_wp2_with fail
  refine K.out.mono ?_
  rintro e w1 ⟨rfl, n, rfl⟩
  go_wp2_with fail
  go_ret
  exact ⟨n, by simp, by simp⟩
end Go.Proofs.YtllkflbkndfdeaaDoor
