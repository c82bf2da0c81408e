/-
  The codec's things, laid behind any bytes: put.
-/
import Derived.Test.YtpfeaekankkpiaaGreatDoorEvKh
namespace Go.Proofs.YtpfeaekankkpiaaGreatDoor
open Go Go.RowKit Go.Lib

/-- Bytes are handed back, in a row of the call's own. -/
def Out (W : World) (L : List Nat) (e : Ending) (w' : World) : Prop :=
  ∃ A c, e = .returned (.slice A L.length c) ∧ Rd w' w'.heap.size A L.length c (u8s L) ∧ Below W.heap.size W w'

theorem clone_below {W w2 : World} {o : Obj} (hg : (W.alloc o).grownBy w2 (Value.ownBlock (.slice (some ⟨W.heap.size, 0, none⟩) 0 0))) : Below W.heap.size W w2 := by
  refine ((Below.refl W.heap.size W).alloc (Nat.le_refl _) o).grown hg (by simp) (fun k hk => ?_)
  have e : W.heap.size = k := by simpa [Value.ownBlock] using hk
  omega
theorem none_is (w : World) : (binOp .eql 22 (.slice none 0 0) (.slice none 0 0)).run Tryz.prog w = .ok (.bool true) w := by kernel_rfl
theorem some_not (ad : Addr) (n c : Nat) (w : World) : (binOp .eql 22 (.slice (some ad) n c) (.slice none 0 0)).run Tryz.prog w = .ok (.bool false) w := by kernel_rfl

set_option maxRecDepth 100000 in
set_option maxHeartbeats 800000 in
theorem clone_any (A : Option Addr) (c : Nat) (Y : List Nat) (W : World) (h : Rd W W.heap.size A Y.length c (u8s Y)) (hm : Y.length ≤ 140737488355328) :
    Calls Tryz.prog 46 #[.slice A Y.length c] W fun e w' => ∃ v, e = .returned v ∧ w'.ownsRow W.heap.size 5 1 v Y.length (u8s Y) ∧ Below W.heap.size W w' := by
  obtain ⟨i0, hi0, hz0, hz1, hz2⟩ := info_parts u8_info
  have n0 := none_is
  have n1 := some_not
  have HR := Lib.hid h
  cases A with
  | none =>
    have hY : Y = [] := List.eq_nil_of_length_eq_zero (h.2.1 rfl).1
    have hc := (h.2.1 rfl).2
    subst hY
    subst hc
    clear h
    go_enter Tryz.func46, Tryz.ntmps46
    go_wp2_with fail
    go_ret
    exact ⟨_, rfl, World.ownsRow_nil _ _ _ _, Below.refl _ _⟩
  | some ad =>
    have HI := Lib.hid hi0; clear hi0
    have HZ0 := Lib.hid hz0; clear hz0
    have HZ1 := Lib.hid hz1; clear hz1
    have HZ2 := Lib.hid hz2; clear hz2
    clear h
    go_enter Tryz.func46, Tryz.ntmps46
    go_wp2_with (at_builtin
                 refine wl_append rfl (.tmp 5) (.tmp 6) 22 rfl W.heap.size 5 i0 _ Tryz.underlying22 HI.out HZ0.out HZ1.out HZ2.out rfl _ 0 [] rfl (World.ownsRow_lit W #[] 0 (Nat.le_refl _) (by simp [maxLen]) rfl) W.heap.size (some ad) Y.length c (u8s Y) rfl (HR.out.below ((Below.refl _ _).alloc (Nat.le_refl _) _)) (u8s_one Y) (by unfold maxLen; omega) (by omega) (by simp) ?_
                 intro v2 w2 hown2 hg2 hat2
                 have hb2 := clone_below hg2
                 have OW2 := Lib.hid hown2
                 clear hown2 hg2 hat2)
    go_ret
    exact ⟨_, rfl, by have hh := OW2.out; rw [Nat.zero_add, List.nil_append] at hh; exact hh, hb2⟩

/-- A new writer holds what its row holds. -/
theorem wtr_new {W : World} {B : Nat} {v : Value} {Y : List Nat} (ho : W.ownsRow B 5 1 v Y.length (u8s Y)) (hB : B ≤ W.heap.size) : Wtr (W.alloc (.cells #[v] 105)) B W.heap.size Y := by
  refine ⟨hB, v, heap_alloc_new W _, ho.alloc _, fun e => ?_⟩
  have := (ho.lt _ e).2
  omega
theorem wtr_out {W w' : World} {g : Nat} {L : List Nat} (h : Wtr w' W.heap.size g L) (hb : Below W.heap.size W w') : ∃ v, w'.cell? ⟨g, 0, none⟩ = some v ∧ Out W L (.returned v) w' := by
  obtain ⟨_, v, hk, ho, _⟩ := h
  obtain ⟨A, c, rfl, hr⟩ := rd_of_own ho
  exact ⟨_, by rw [hk.cell 0]; rfl, A, c, rfl, hr, hb⟩

set_option maxRecDepth 100000 in
set_option maxHeartbeats 1600000 in
theorem put_rec (A : Option Addr) (c : Nat) (p : Addr) (Y : List Nat) (x : RecD) (W : World) (h : Rd W W.heap.size A Y.length c (u8s Y)) (hx : RecAt W p x) (ok : x.ok) (hq : p.block < W.heap.size) (hm : Y.length + 70 ≤ 140737488355328) :
    Calls Tryz.prog 29 #[.slice A Y.length c, .pointer (some p), .func (.func 30) #[] #[]] W (Out W (Y ++ x.by_)) := by
  have HR := Lib.hid h
  have HX := Lib.hid hx
  have HO := Lib.hid ok
  have HQ := Lib.hid hq
  clear h hx ok
  go_enter Tryz.func29, Tryz.ntmps29
  go_wp2_with (first
    | (go_at_call 46
       (with_reducible refine (clone_any A c Y _ HR.out (by omega)).mono ?_)
       rintro e w1 ⟨v1, rfl, ho1, hb1⟩
       obtain ⟨A1, c1, rfl⟩ := owns_slice ho1
       have O1 := Lib.hid ho1
       have B1 := Lib.hid hb1
       have s1 := hb1.size
       clear ho1 hb1)
    | (go_at_call 30
       (with_reducible refine (rec_any W.heap.size w1.heap.size p Y x _ (wtr_new O1.out s1) (HX.out.below (B1.out.alloc s1 _) HQ.out) HO.out HQ.out (by omega)).mono ?_)
       rintro e w2 ⟨rfl, hw2, hb2⟩
       obtain ⟨v2, c2, ho2⟩ := wtr_out hw2 ((B1.out.alloc s1 _).trans hb2)
       have O2 := Lib.hid ho2
       clear hw2 hb2 ho2))
  go_ret
  exact O2.out

set_option maxRecDepth 100000 in
set_option maxHeartbeats 1600000 in
theorem put_opn (A : Option Addr) (c : Nat) (p : Addr) (Y : List Nat) (x : OpnD) (W : World) (h : Rd W W.heap.size A Y.length c (u8s Y)) (hx : OpnAt W p x) (ok : x.ok) (hq : p.block < W.heap.size) (hm : Y.length + 50 ≤ 140737488355328) :
    Calls Tryz.prog 34 #[.slice A Y.length c, .pointer (some p), .func (.func 35) #[] #[]] W (Out W (Y ++ x.by_)) := by
  have HR := Lib.hid h
  have HX := Lib.hid hx
  have HO := Lib.hid ok
  have HQ := Lib.hid hq
  clear h hx ok
  go_enter Tryz.func34, Tryz.ntmps34
  go_wp2_with (first
    | (go_at_call 46
       (with_reducible refine (clone_any A c Y _ HR.out (by omega)).mono ?_)
       rintro e w1 ⟨v1, rfl, ho1, hb1⟩
       obtain ⟨A1, c1, rfl⟩ := owns_slice ho1
       have O1 := Lib.hid ho1
       have B1 := Lib.hid hb1
       have s1 := hb1.size
       clear ho1 hb1)
    | (go_at_call 35
       (with_reducible refine (opn_any W.heap.size w1.heap.size p Y x _ (wtr_new O1.out s1) (HX.out.below (B1.out.alloc s1 _) HQ.out) HO.out HQ.out (by omega)).mono ?_)
       rintro e w2 ⟨rfl, hw2, hb2⟩
       obtain ⟨v2, c2, ho2⟩ := wtr_out hw2 ((B1.out.alloc s1 _).trans hb2)
       have O2 := Lib.hid ho2
       clear hw2 hb2 ho2))
  go_ret
  exact O2.out

set_option maxRecDepth 100000 in
set_option maxHeartbeats 1600000 in
theorem put_acc (A : Option Addr) (c : Nat) (p : Addr) (Y : List Nat) (x : AccD) (W : World) (h : Rd W W.heap.size A Y.length c (u8s Y)) (hx : AccAt W p x) (ok : x.ok) (hq : p.block < W.heap.size) (hm : Y.length + 60 ≤ 140737488355328) :
    Calls Tryz.prog 38 #[.slice A Y.length c, .pointer (some p), .func (.func 39) #[] #[]] W (Out W (Y ++ x.by_)) := by
  have HR := Lib.hid h
  have HX := Lib.hid hx
  have HO := Lib.hid ok
  have HQ := Lib.hid hq
  clear h hx ok
  go_enter Tryz.func38, Tryz.ntmps38
  go_wp2_with (first
    | (go_at_call 46
       (with_reducible refine (clone_any A c Y _ HR.out (by omega)).mono ?_)
       rintro e w1 ⟨v1, rfl, ho1, hb1⟩
       obtain ⟨A1, c1, rfl⟩ := owns_slice ho1
       have O1 := Lib.hid ho1
       have B1 := Lib.hid hb1
       have s1 := hb1.size
       clear ho1 hb1)
    | (go_at_call 39
       (with_reducible refine (acc_any W.heap.size w1.heap.size p Y x _ (wtr_new O1.out s1) (HX.out.below (B1.out.alloc s1 _) HQ.out) HO.out HQ.out (by omega)).mono ?_)
       rintro e w2 ⟨rfl, hw2, hb2⟩
       obtain ⟨v2, c2, ho2⟩ := wtr_out hw2 ((B1.out.alloc s1 _).trans hb2)
       have O2 := Lib.hid ho2
       clear hw2 hb2 ho2))
  go_ret
  exact O2.out

set_option maxRecDepth 100000 in
set_option maxHeartbeats 1600000 in
theorem put_item (A : Option Addr) (c : Nat) (p : Addr) (Y : List Nat) (x : ItemD) (W : World) (h : Rd W W.heap.size A Y.length c (u8s Y)) (hx : ItemAt W p x) (ok : x.ok) (hq : p.block < W.heap.size) (hm : Y.length + 90 ≤ 140737488355328) :
    Calls Tryz.prog 26 #[.slice A Y.length c, .pointer (some p), .func (.func 27) #[] #[]] W (Out W (Y ++ x.by_)) := by
  have HR := Lib.hid h
  have HX := Lib.hid hx
  have HO := Lib.hid ok
  have HQ := Lib.hid hq
  clear h hx ok
  go_enter Tryz.func26, Tryz.ntmps26
  go_wp2_with (first
    | (go_at_call 46
       (with_reducible refine (clone_any A c Y _ HR.out (by omega)).mono ?_)
       rintro e w1 ⟨v1, rfl, ho1, hb1⟩
       obtain ⟨A1, c1, rfl⟩ := owns_slice ho1
       have O1 := Lib.hid ho1
       have B1 := Lib.hid hb1
       have s1 := hb1.size
       clear ho1 hb1)
    | (go_at_call 27
       (with_reducible refine (item_any W.heap.size w1.heap.size p Y x _ (wtr_new O1.out s1) (HX.out.below (B1.out.alloc s1 _) HQ.out) HO.out HQ.out (by omega)).mono ?_)
       rintro e w2 ⟨rfl, hw2, hb2⟩
       obtain ⟨v2, c2, ho2⟩ := wtr_out hw2 ((B1.out.alloc s1 _).trans hb2)
       have O2 := Lib.hid ho2
       clear hw2 hb2 ho2))
  go_ret
  exact O2.out

set_option maxRecDepth 100000 in
set_option maxHeartbeats 1600000 in
theorem put_ent (A : Option Addr) (c : Nat) (p : Addr) (Y : List Nat) (x : EntD) (W : World) (h : Rd W W.heap.size A Y.length c (u8s Y)) (hx : EntAt W p x) (ok : x.ok) (hq : p.block < W.heap.size) (hm : Y.length + 110 ≤ 140737488355328) :
    Calls Tryz.prog 36 #[.slice A Y.length c, .pointer (some p), .func (.func 37) #[] #[]] W (Out W (Y ++ x.by_)) := by
  have HR := Lib.hid h
  have HX := Lib.hid hx
  have HO := Lib.hid ok
  have HQ := Lib.hid hq
  clear h hx ok
  go_enter Tryz.func36, Tryz.ntmps36
  go_wp2_with (first
    | (go_at_call 46
       (with_reducible refine (clone_any A c Y _ HR.out (by omega)).mono ?_)
       rintro e w1 ⟨v1, rfl, ho1, hb1⟩
       obtain ⟨A1, c1, rfl⟩ := owns_slice ho1
       have O1 := Lib.hid ho1
       have B1 := Lib.hid hb1
       have s1 := hb1.size
       clear ho1 hb1)
    | (go_at_call 37
       (with_reducible refine (ent_any W.heap.size w1.heap.size p Y x _ (wtr_new O1.out s1) (HX.out.below (B1.out.alloc s1 _) HQ.out) HO.out HQ.out (by omega)).mono ?_)
       rintro e w2 ⟨rfl, hw2, hb2⟩
       obtain ⟨v2, c2, ho2⟩ := wtr_out hw2 ((B1.out.alloc s1 _).trans hb2)
       have O2 := Lib.hid ho2
       clear hw2 hb2 ho2))
  go_ret
  exact O2.out

set_option maxRecDepth 100000 in
set_option maxHeartbeats 1600000 in
theorem put_cmd (A : Option Addr) (c : Nat) (p : Addr) (Y : List Nat) (x : CmdD) (W : World) (h : Rd W W.heap.size A Y.length c (u8s Y)) (hx : CmdAt W W.heap.size p x) (ok : x.ok) (hq : p.block < W.heap.size) (hm : Y.length + (100 + 10 * x.bins.length) + 200 ≤ 140737488355328) :
    Calls Tryz.prog 32 #[.slice A Y.length c, .pointer (some p), .func (.func 33) #[] #[]] W (Out W (Y ++ x.by_)) := by
  have HR := Lib.hid h
  have HX := Lib.hid hx
  have HO := Lib.hid ok
  have HQ := Lib.hid hq
  clear h hx ok
  go_enter Tryz.func32, Tryz.ntmps32
  go_wp2_with (first
    | (go_at_call 46
       (with_reducible refine (clone_any A c Y _ HR.out (by omega)).mono ?_)
       rintro e w1 ⟨v1, rfl, ho1, hb1⟩
       obtain ⟨A1, c1, rfl⟩ := owns_slice ho1
       have O1 := Lib.hid ho1
       have B1 := Lib.hid hb1
       have s1 := hb1.size
       clear ho1 hb1)
    | (go_at_call 33
       (with_reducible refine (cmd_any W.heap.size w1.heap.size p Y x _ (wtr_new O1.out s1) (HX.out.below (B1.out.alloc s1 _) HQ.out) HO.out HQ.out (by omega)).mono ?_)
       rintro e w2 ⟨rfl, hw2, hb2⟩
       obtain ⟨v2, c2, ho2⟩ := wtr_out hw2 ((B1.out.alloc s1 _).trans hb2)
       have O2 := Lib.hid ho2
       clear hw2 hb2 ho2))
  go_ret
  exact O2.out

set_option maxRecDepth 100000 in
set_option maxHeartbeats 1600000 in
theorem put_chk (A : Option Addr) (c : Nat) (p : Addr) (Y : List Nat) (x : ChkD) (W : World) (h : Rd W W.heap.size A Y.length c (u8s Y)) (hx : ChkAt W W.heap.size p x) (ok : x.ok) (hq : p.block < W.heap.size) (hm : Y.length + (40 + 100 * x.entries.length) + 200 ≤ 140737488355328) :
    Calls Tryz.prog 40 #[.slice A Y.length c, .pointer (some p), .func (.func 41) #[] #[]] W (Out W (Y ++ x.by_)) := by
  have HR := Lib.hid h
  have HX := Lib.hid hx
  have HO := Lib.hid ok
  have HQ := Lib.hid hq
  clear h hx ok
  go_enter Tryz.func40, Tryz.ntmps40
  go_wp2_with (first
    | (go_at_call 46
       (with_reducible refine (clone_any A c Y _ HR.out (by omega)).mono ?_)
       rintro e w1 ⟨v1, rfl, ho1, hb1⟩
       obtain ⟨A1, c1, rfl⟩ := owns_slice ho1
       have O1 := Lib.hid ho1
       have B1 := Lib.hid hb1
       have s1 := hb1.size
       clear ho1 hb1)
    | (go_at_call 41
       (with_reducible refine (chk_any W.heap.size w1.heap.size p Y x _ (wtr_new O1.out s1) (HX.out.below (B1.out.alloc s1 _) HQ.out) HO.out HQ.out (by omega)).mono ?_)
       rintro e w2 ⟨rfl, hw2, hb2⟩
       obtain ⟨v2, c2, ho2⟩ := wtr_out hw2 ((B1.out.alloc s1 _).trans hb2)
       have O2 := Lib.hid ho2
       clear hw2 hb2 ho2))
  go_ret
  exact O2.out

set_option maxRecDepth 100000 in
set_option maxHeartbeats 1600000 in
theorem put_msg (A : Option Addr) (c : Nat) (p : Addr) (Y : List Nat) (x : MsgD) (W : World) (h : Rd W W.heap.size A Y.length c (u8s Y)) (hx : MsgAt W W.heap.size p x) (ok : x.ok) (hq : p.block < W.heap.size) (hm : Y.length + (10 * x.cmd.bins.length + 100 * x.chunk.entries.length + 300) + 200 ≤ 140737488355328) :
    Calls Tryz.prog 22 #[.slice A Y.length c, .pointer (some p), .func (.func 23) #[] #[]] W (Out W (Y ++ x.by_)) := by
  have HR := Lib.hid h
  have HX := Lib.hid hx
  have HO := Lib.hid ok
  have HQ := Lib.hid hq
  clear h hx ok
  go_enter Tryz.func22, Tryz.ntmps22
  go_wp2_with (first
    | (go_at_call 46
       (with_reducible refine (clone_any A c Y _ HR.out (by omega)).mono ?_)
       rintro e w1 ⟨v1, rfl, ho1, hb1⟩
       obtain ⟨A1, c1, rfl⟩ := owns_slice ho1
       have O1 := Lib.hid ho1
       have B1 := Lib.hid hb1
       have s1 := hb1.size
       clear ho1 hb1)
    | (go_at_call 23
       (with_reducible refine (msg_any W.heap.size w1.heap.size p Y x _ (wtr_new O1.out s1) (HX.out.below (B1.out.alloc s1 _) HQ.out) HO.out HQ.out (by omega)).mono ?_)
       rintro e w2 ⟨rfl, hw2, hb2⟩
       obtain ⟨v2, c2, ho2⟩ := wtr_out hw2 ((B1.out.alloc s1 _).trans hb2)
       have O2 := Lib.hid ho2
       clear hw2 hb2 ho2))
  go_ret
  exact O2.out

end Go.Proofs.YtpfeaekankkpiaaGreatDoor
