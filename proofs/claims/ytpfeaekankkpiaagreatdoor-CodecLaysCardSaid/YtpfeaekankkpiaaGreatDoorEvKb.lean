/-
  The codec's writer: the writing of each kind of part.
-/
import Derived.Test.YtpfeaekankkpiaaGreatDoorEvKa
namespace Go.Proofs.YtpfeaekankkpiaaGreatDoor
open Go Go.RowKit Go.Lib

theorem rd_of_own {w : World} {B n : Nat} {v : Value} {xs : List Value} (h : w.ownsRow B 5 1 v n xs) : ∃ A c, v = .slice A n c ∧ Rd w w.heap.size A n c xs := by
  have hl := h.1
  have hc := fun g hg => h.cells (g := g) hg
  have hlt := h.lt
  rcases h.2 with ⟨rfl, rfl⟩ | ⟨g, cap, cur, rfl, _⟩
  · exact ⟨none, 0, rfl, by simpa using hl, fun _ => ⟨rfl, rfl⟩, fun _ e => by cases e⟩
  · refine ⟨some ⟨g, 0, none⟩, cap, rfl, by simpa using hl, (fun e => by cases e), ?_⟩
    rintro ad e
    cases e
    exact ⟨fun _ => (hlt g rfl).2, hc g rfl⟩
/-- Bytes laid behind nothing, as what a reader of them needs. -/
theorem lays_rd {W w' : World} {l : List Nat} {e : Ending} (h : Lays W 0 [] l e w') : ∃ A c, e = .returned (.slice A l.length c) ∧ Rd w' w'.heap.size A l.length c (u8s l) ∧ Below W.heap.size W w' := by
  obtain ⟨v, rfl, ho, hb⟩ := h
  simp only [Nat.zero_add, List.nil_append] at ho
  obtain ⟨A, c, rfl, hr⟩ := rd_of_own ho
  exact ⟨A, c, rfl, hr, hb⟩
/-- A truth as a number. -/
def tr (b : Bool) : Nat := if b then 1 else 0
theorem nil_one : ∀ u ∈ ([] : List Value), u.oneCell' = true := by simp
theorem PBool_tr (b : Bool) (W : World) : Calls Tryz.prog 93 #[.slice none 0 0, .bool b] W (Lays W 0 [] (enc (tr b))) := PBool_any none 0 0 [] b W (rd_nil W) nil_one (by omega)

set_option maxRecDepth 100000 in
set_option maxHeartbeats 800000 in
theorem number_any (B g : Nat) (L : List Nat) (N : Nat) (p : Addr) (W : World) (h : Wtr W B g L) (hc : W.cell? p = some (.int .u64 (N : Nat))) (hN : N < 18446744073709551616) (hm : L.length + 10 ≤ 140737488355328) :
    Calls Tryz.prog 86 #[.pointer (some ⟨g, 0, none⟩), .pointer (some p)] W fun e w' => e = .returned (.tuple #[]) ∧ Wtr w' B g (L ++ enc N) ∧ Below B W w' := by
  have HH := Lib.hid h
  have hlt := h.lt
  have hB := h.base
  have HL : Hid ((enc N).length ≤ 10) := Lib.hid (enc_len hN).2
  clear h
  go_enter Tryz.func86, Tryz.ntmps86
  go_wp2_with (first
    | (go_at_call 91
       (with_reducible refine (P_any none 0 0 [] N _ (rd_nil W) nil_one hN (by omega)).mono ?_)
       rintro e w5 h5
       obtain ⟨A5, c5, rfl, hr5, hb5⟩ := lays_rd h5
       have HR5 := Lib.hid hr5
       have HB5 := Lib.hid hb5
       clear h5 hr5 hb5)
    | (go_at_call 90
       (with_reducible refine (add_any B g L _ A5 _ c5 _ (HH.out.kept HB5.out) HR5.out (by have := HL.out; omega)).mono ?_)
       rintro e w6 ⟨rfl, hw6, hb6⟩
       have HW6 := Lib.hid hw6
       have HB6 := Lib.hid hb6
       clear hw6 hb6))
  go_end0
  exact ⟨rfl, HW6.out, (HB5.out.mono (by omega)).trans HB6.out⟩

set_option maxRecDepth 100000 in
set_option maxHeartbeats 800000 in
theorem integer_any (B g : Nat) (L : List Nat) (N : Int) (p : Addr) (W : World) (h : Wtr W B g L) (hc : W.cell? p = some (.int .i64 N)) (h1 : -9223372036854775808 ≤ N) (h2 : N < 9223372036854775808) (hm : L.length + 10 ≤ 140737488355328) :
    Calls Tryz.prog 83 #[.pointer (some ⟨g, 0, none⟩), .pointer (some p)] W fun e w' => e = .returned (.tuple #[]) ∧ Wtr w' B g (L ++ enc (zz N)) ∧ Below B W w' := by
  have HH := Lib.hid h
  have hlt := h.lt
  have hB := h.base
  have HL : Hid ((enc (zz N)).length ≤ 10) := Lib.hid (enc_len (zz_lt h1 h2)).2
  clear h
  go_enter Tryz.func83, Tryz.ntmps83
  go_wp2_with (first
    | (go_at_call 92
       (with_reducible refine (PI_any none 0 0 [] N _ (rd_nil W) nil_one h1 h2 (by omega)).mono ?_)
       rintro e w5 h5
       obtain ⟨A5, c5, rfl, hr5, hb5⟩ := lays_rd h5
       have HR5 := Lib.hid hr5
       have HB5 := Lib.hid hb5
       clear h5 hr5 hb5)
    | (go_at_call 90
       (with_reducible refine (add_any B g L _ A5 _ c5 _ (HH.out.kept HB5.out) HR5.out (by have := HL.out; omega)).mono ?_)
       rintro e w6 ⟨rfl, hw6, hb6⟩
       have HW6 := Lib.hid hw6
       have HB6 := Lib.hid hb6
       clear hw6 hb6))
  go_end0
  exact ⟨rfl, HW6.out, (HB5.out.mono (by omega)).trans HB6.out⟩

set_option maxRecDepth 100000 in
set_option maxHeartbeats 800000 in
theorem whole_any (B g : Nat) (L : List Nat) (N : Int) (p : Addr) (W : World) (h : Wtr W B g L) (hc : W.cell? p = some (.int .i64 N)) (h1 : -9223372036854775808 ≤ N) (h2 : N < 9223372036854775808) (hm : L.length + 10 ≤ 140737488355328) :
    Calls Tryz.prog 89 #[.pointer (some ⟨g, 0, none⟩), .pointer (some p)] W fun e w' => e = .returned (.tuple #[]) ∧ Wtr w' B g (L ++ enc (zz N)) ∧ Below B W w' := by
  have HH := Lib.hid h
  have hlt := h.lt
  have hB := h.base
  have HL : Hid ((enc (zz N)).length ≤ 10) := Lib.hid (enc_len (zz_lt h1 h2)).2
  clear h
  go_enter Tryz.func89, Tryz.ntmps89
  go_wp2_with (first
    | (go_at_call 92
       (with_reducible refine (PI_any none 0 0 [] N _ (rd_nil W) nil_one h1 h2 (by omega)).mono ?_)
       rintro e w5 h5
       obtain ⟨A5, c5, rfl, hr5, hb5⟩ := lays_rd h5
       have HR5 := Lib.hid hr5
       have HB5 := Lib.hid hb5
       clear h5 hr5 hb5)
    | (go_at_call 90
       (with_reducible refine (add_any B g L _ A5 _ c5 _ (HH.out.kept HB5.out) HR5.out (by have := HL.out; omega)).mono ?_)
       rintro e w6 ⟨rfl, hw6, hb6⟩
       have HW6 := Lib.hid hw6
       have HB6 := Lib.hid hb6
       clear hw6 hb6))
  go_end0
  exact ⟨rfl, HW6.out, (HB5.out.mono (by omega)).trans HB6.out⟩

set_option maxRecDepth 100000 in
set_option maxHeartbeats 800000 in
theorem truth_any (B g : Nat) (L : List Nat) (b : Bool) (p : Addr) (W : World) (h : Wtr W B g L) (hc : W.cell? p = some (.bool b))  (hm : L.length + 10 ≤ 140737488355328) :
    Calls Tryz.prog 88 #[.pointer (some ⟨g, 0, none⟩), .pointer (some p)] W fun e w' => e = .returned (.tuple #[]) ∧ Wtr w' B g (L ++ enc (tr b)) ∧ Below B W w' := by
  have HH := Lib.hid h
  have hlt := h.lt
  have hB := h.base
  have HL : Hid ((enc (tr b)).length ≤ 10) := Lib.hid (enc_len (by unfold tr; split <;> omega)).2
  clear h
  go_enter Tryz.func88, Tryz.ntmps88
  go_wp2_with (first
    | (go_at_call 93
       (with_reducible refine (PBool_tr b W).mono ?_)
       rintro e w5 h5
       obtain ⟨A5, c5, rfl, hr5, hb5⟩ := lays_rd h5
       have HR5 := Lib.hid hr5
       have HB5 := Lib.hid hb5
       clear h5 hr5 hb5)
    | (go_at_call 90
       (with_reducible refine (add_any B g L _ A5 _ c5 _ (HH.out.kept HB5.out) HR5.out (by have := HL.out; omega)).mono ?_)
       rintro e w6 ⟨rfl, hw6, hb6⟩
       have HW6 := Lib.hid hw6
       have HB6 := Lib.hid hb6
       clear hw6 hb6))
  go_end0
  exact ⟨rfl, HW6.out, (HB5.out.mono (by omega)).trans HB6.out⟩

set_option maxRecDepth 100000 in
set_option maxHeartbeats 800000 in
theorem key_any (B g : Nat) (L : List Nat) (N : Nat) (p : Addr) (W : World) (h : Wtr W B g L) (hc : W.cell? p = some (.int .u32 (N : Nat))) (hN : N < 4294967296) (hm : L.length + 10 ≤ 140737488355328) :
    Calls Tryz.prog 84 #[.pointer (some ⟨g, 0, none⟩), .pointer (some p)] W fun e w' => e = .returned (.tuple #[]) ∧ Wtr w' B g (L ++ enc N) ∧ Below B W w' := by
  have HH := Lib.hid h
  have hlt := h.lt
  have hB := h.base
  have HL : Hid ((enc N).length ≤ 10) := Lib.hid (enc_len (by omega)).2
  clear h
  have W1 : IntKind.u64.wrap (N : Int) = (N : Int) := IntWalk.u64_in _ (by omega)
  go_enter Tryz.func84, Tryz.ntmps84
  go_wp2_with (first
    | (go_at_call 91
       (with_reducible refine (P_any none 0 0 [] N _ (rd_nil W) nil_one (by omega) (by omega)).mono ?_)
       rintro e w5 h5
       obtain ⟨A5, c5, rfl, hr5, hb5⟩ := lays_rd h5
       have HR5 := Lib.hid hr5
       have HB5 := Lib.hid hb5
       clear h5 hr5 hb5)
    | (go_at_call 90
       (with_reducible refine (add_any B g L _ A5 _ c5 _ (HH.out.kept HB5.out) HR5.out (by have := HL.out; omega)).mono ?_)
       rintro e w6 ⟨rfl, hw6, hb6⟩
       have HW6 := Lib.hid hw6
       have HB6 := Lib.hid hb6
       clear hw6 hb6))
  go_end0
  exact ⟨rfl, HW6.out, (HB5.out.mono (by omega)).trans HB6.out⟩

set_option maxRecDepth 100000 in
theorem kind_any (B g : Nat) (L : List Nat) (N : Int) (p : Addr) (W : World) (h : Wtr W B g L) (hc : W.cell? p = some (.int .i64 N)) (h1 : -9223372036854775808 ≤ N) (h2 : N < 9223372036854775808) (hm : L.length + 10 ≤ 140737488355328) :
    Calls Tryz.prog 85 #[.pointer (some ⟨g, 0, none⟩), .pointer (some p)] W fun e w' => e = .returned (.tuple #[]) ∧ Wtr w' B g (L ++ enc (zz N)) ∧ Below B W w' := by
  have HK := Lib.hid (whole_any B g L N p W h hc h1 h2 hm)
  clear h hc
  go_enter Tryz.func85, Tryz.ntmps85
  go_wp2_with (go_at_call 89; (with_reducible refine HK.out.mono ?_); rintro e w6 ⟨rfl, hw6, hb6⟩; have HW6 := Lib.hid hw6; have HB6 := Lib.hid hb6; clear hw6 hb6)
  go_end0
  exact ⟨rfl, HW6.out, HB6.out⟩

set_option maxRecDepth 100000 in
set_option maxHeartbeats 800000 in
theorem count_any (B g : Nat) (L : List Nat) (N : Nat) (most : Int) (W : World) (h : Wtr W B g L) (hN : N < 9223372036854775808) (hm : L.length + 10 ≤ 140737488355328) :
    Calls Tryz.prog 82 #[.pointer (some ⟨g, 0, none⟩), .int .i64 N, .int .i64 most] W fun e w' => e = .returned (.int .i64 N) ∧ Wtr w' B g (L ++ enc N) ∧ Below B W w' := by
  have HH := Lib.hid h
  have hlt := h.lt
  have hB := h.base
  have HL : Hid ((enc N).length ≤ 10) := Lib.hid (enc_len (by omega)).2
  have W1 : IntKind.u64.wrap (N : Int) = (N : Int) := IntWalk.u64_in _ (by omega)
  clear h
  go_enter Tryz.func82, Tryz.ntmps82
  go_wp2_with (first
    | (go_at_call 91
       (with_reducible refine (P_any none 0 0 [] N _ (rd_nil W) nil_one (by omega) (by omega)).mono ?_)
       rintro e w5 h5
       obtain ⟨A5, c5, rfl, hr5, hb5⟩ := lays_rd h5
       have HR5 := Lib.hid hr5
       have HB5 := Lib.hid hb5
       clear h5 hr5 hb5)
    | (go_at_call 90
       (with_reducible refine (add_any B g L _ A5 _ c5 _ (HH.out.kept HB5.out) HR5.out (by have := HL.out; omega)).mono ?_)
       rintro e w6 ⟨rfl, hw6, hb6⟩
       have HW6 := Lib.hid hw6
       have HB6 := Lib.hid hb6
       clear hw6 hb6))
  go_ret
  exact ⟨rfl, HW6.out, (HB5.out.mono (by omega)).trans HB6.out⟩
end Go.Proofs.YtpfeaekankkpiaaGreatDoor
