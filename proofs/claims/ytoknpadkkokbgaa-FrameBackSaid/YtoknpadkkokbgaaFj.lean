/-
  Promise P2.1's law FrameLays: its walk.
-/
import Derived.Test.YtoknpadkkokbgaaFi
import Derived.Deep.OwnRows
namespace Go.Proofs.Ytoknpadkkokbgaa
open Go Go.RowKit Go.Lib

theorem u8_info : (Try.prog.info? 5).map (fun i => (i.zero, i.size, i.bytes)) = some (some (.int .u8 0), 1, 1) := by kernel_rfl
/-- So many noughts. -/
def zs (n : Nat) : ByteArray := ⟨(List.replicate n 0).toArray⟩
theorem zs_size (n : Nat) : (zs n).size = n := by
  show (List.replicate n (0 : UInt8)).toArray.size = n
  simp
theorem make_u8 (n : Nat) (h : n ≤ 140737488355328) (w : World) : (Instr.makeSlice 24 (.int .i64 (n : Int)) (.int .i64 (n : Int))).run Try.prog w = .ok (.slice (some ⟨w.heap.size, 0, none⟩) n n) (w.alloc (.cells (madeCells #[.int .u8 0] n) 5)) :=
  run_make_row' 24 5 (.int .u8 0) 1 Try.underlying24 u8_info rfl .i64 .i64 n (by omega) (by omega) w
theorem conv_made (n : Nat) (w : World) : (convert 24 9 (.slice (some ⟨w.heap.size, 0, none⟩) n n)).run Try.prog (w.alloc (.cells (madeCells #[.int .u8 0] n) 5)) = .ok (.string (zs n)) (w.alloc (.cells (madeCells #[.int .u8 0] n) 5)) := by
  have := run_convert_bytes_back (P := Try.prog) (w.alloc (.cells (madeCells #[.int .u8 0] n) 5)) 24 9 5 ⟨w.heap.size, 0, none⟩ n (List.replicate n 0) Try.underlying24 Try.underlying5 Try.underlying9 (fun j hj => by
    have hj' : j < n := by simpa using hj
    rw [add_lit, Nat.zero_add, World.cell?_alloc_at _ _ _ _ rfl]
    simp [madeCells, hj', Nat.mod_one])
  rw [List.length_replicate] at this
  exact this
theorem both_put (s : ByteArray) (h : s.size ≤ 140737488355328) : ∃ b x, (∀ w, Calls Try.prog 7 #[.string s] w (Put' b x w)) ∧ ∀ w, Calls Try.prog 8 #[.string s] w (Put' b x w) := by
  by_cases c : 1048576 < s.size
  · exact ⟨⟨#[]⟩, 4, fun w => (put_any s w h).mono fun e w' h' => ⟨by rw [h'.1, if_pos c], h'.2⟩, fun w => (ref_put_any s w h).mono fun e w' h' => ⟨by rw [h'.1, if_pos c], h'.2⟩⟩
  · exact ⟨frm s, 0, fun w => (put_any s w h).mono fun e w' h' => ⟨by rw [h'.1, if_neg c], h'.2⟩, fun w => (ref_put_any s w h).mono fun e w' h' => ⟨by rw [h'.1, if_neg c], h'.2⟩⟩

set_option maxRecDepth 100000 in
set_option maxHeartbeats 1600000 in
theorem lays_any (s : ByteArray) (m : Nat) (w : World) (hs : s.size ≤ 9223372036854775807) (hm : m < 4294967296) : Calls Try.prog 3 #[.string s, .int .u32 m] w (Yes w) := by
  go_enter Try.func3, Try.ntmps3
  go_upto_region 1 with (fail)
  go_cut [0] (fun v wx => (∃ t : ByteArray, t.size ≤ 1000 ∧ v = .string t) ∧ wx = w)
  case first =>
    go_wp2_with fail
    go_meet
    exact ⟨⟨_, by simp; omega, rfl⟩, rfl⟩
  case rest =>
    obtain ⟨⟨t, ht, rfl⟩, rfl⟩ := hcut
    have i0 : ∀ w, (Instr.index 23 (.agg #[.int .i64 0, .int .i64 ((m : Int) % 1048579)]) (.int .i64 0)).run Try.prog w = .ok (.int .i64 0) w := fun _ => by kernel_rfl
    have i1 : ∀ w, (Instr.index 23 (.agg #[.int .i64 0, .int .i64 ((m : Int) % 1048579)]) (.int .i64 1)).run Try.prog w = .ok (.int .i64 ((m : Int) % 1048579)) w := fun _ => by kernel_rfl
    go_wp2
    go_loopw [21] (fun i wr => (i = .int .i64 0 ∨ i = .int .i64 1 ∨ i = .int .i64 2) ∧ Below wc.heap.size wc wr) (fun i _ => 2 - (Lib.intOf i).toNat)
    case atStart => exact ⟨.inl rfl, Below.refl _ _⟩
    case round =>
      obtain ⟨hi, hb⟩ := hrel
      rcases hi with rfl | rfl | rfl
      · have M : ∀ w : World, (Instr.makeSlice 24 (.int .i64 0) (.int .i64 0)).run Try.prog w = .ok (.slice (some ⟨w.heap.size, 0, none⟩) (0) (0)) (w.alloc (.cells (madeCells #[.int .u8 0] (0)) 5)) := fun w => by simpa using make_u8 (0) (by omega) w
        have C := conv_made (0)
        have Z := zs_size (0)
        have Z2 : (t ++ zs (0)).size = t.size + (0) := by rw [ByteArray.size_append, Z]
        obtain ⟨b, x, B1, B2⟩ := both_put (t ++ zs (0)) (by rw [Z2]; omega)
        have K1 := Lib.hid B1
        have K2 := Lib.hid B2
        clear B1 B2
        have hn : t.size + (0) ≤ 1049580 := by omega
        have hm' : (0) < 1048579 := by omega
        go_wp2_with (first
          | (go_at_call 7; (with_reducible refine (K1.out _).mono ?_); rintro e w1 ⟨rfl, hb1⟩; have hb1s := hb1.size)
          | (go_at_call 8; (with_reducible refine (K2.out _).mono ?_); rintro e w2 ⟨rfl, hb2⟩))
        go_roundw
        case rel => exact ⟨by simp, (((hb.alloc hb.size _).trans (hb1.mono (by simp; have := hb.size; omega))).trans (hb2.mono (by simp at hb1s; have := hb.size; omega)))⟩
        case measure => decide
      · have M : ∀ w : World, (Instr.makeSlice 24 (.int .i64 ((m : Int) % 1048579)) (.int .i64 ((m : Int) % 1048579))).run Try.prog w = .ok (.slice (some ⟨w.heap.size, 0, none⟩) (m % 1048579) (m % 1048579)) (w.alloc (.cells (madeCells #[.int .u8 0] (m % 1048579)) 5)) := fun w => by simpa using make_u8 (m % 1048579) (by omega) w
        have C := conv_made (m % 1048579)
        have Z := zs_size (m % 1048579)
        have Z2 : (t ++ zs (m % 1048579)).size = t.size + (m % 1048579) := by rw [ByteArray.size_append, Z]
        obtain ⟨b, x, B1, B2⟩ := both_put (t ++ zs (m % 1048579)) (by rw [Z2]; omega)
        have K1 := Lib.hid B1
        have K2 := Lib.hid B2
        clear B1 B2
        have hn : t.size + (m % 1048579) ≤ 1049580 := by omega
        have hm' : (m % 1048579) < 1048579 := by omega
        go_wp2_with (first
          | (go_at_call 7; (with_reducible refine (K1.out _).mono ?_); rintro e w1 ⟨rfl, hb1⟩; have hb1s := hb1.size)
          | (go_at_call 8; (with_reducible refine (K2.out _).mono ?_); rintro e w2 ⟨rfl, hb2⟩))
        go_roundw
        case rel => exact ⟨by simp, (((hb.alloc hb.size _).trans (hb1.mono (by simp; have := hb.size; omega))).trans (hb2.mono (by simp at hb1s; have := hb.size; omega)))⟩
        case measure => decide
      · have W := works_any wr
        have HW := Lib.hid W
        clear W
        go_wp2_with (go_at_call 9; (with_reducible refine HW.out.mono ?_); rintro e w1 ⟨rfl, hb1⟩)
        go_ret
        exact ⟨rfl, hb.trans (hb1.mono hb.size)⟩
end Go.Proofs.Ytoknpadkkokbgaa
