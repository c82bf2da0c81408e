/-
  The codec's writer: what it holds; add, and the writing of each kind of part.
-/
import Derived.Test.YtpfeaekankkpiaaGreatDoorEvZ
import Derived.StillTactics
import Derived.Deep.RegionHeld3
namespace Go.Proofs.YtpfeaekankkpiaaGreatDoor
open Go Go.RowKit Go.Lib

/-- A writer's block g holds the bytes L, in a row of its own above B. -/
structure Wtr (W : World) (B g : Nat) (L : List Nat) : Prop where
  base : B ≤ g
  own : ∃ v, Blk W g 105 #[v] ∧ W.ownsRow B 5 1 v L.length (u8s L) ∧ v.ownBlock ≠ some g
theorem Wtr.lt {W : World} {B g : Nat} {L : List Nat} (h : Wtr W B g L) : g < W.heap.size := by
  obtain ⟨_, v, hb, _⟩ := h
  exact hb.lt
theorem u8s_app (a b : List Nat) : u8s (a ++ b) = u8s a ++ u8s b := by simp [u8s]
theorem u8s_len (a : List Nat) : (u8s a).length = a.length := by simp [u8s]
/-- What is made and written above the writer's row leaves it. -/
theorem Wtr.kept {W W' : World} {B g : Nat} {L : List Nat} (h : Wtr W B g L) (hb : Below W.heap.size W W') : Wtr W' B g L := by
  obtain ⟨hB, v, hk, ho, hn⟩ := h
  have hlt := hk.lt
  have hg : W.grownBy W' none := ⟨hb.os, hb.tape, hb.output, hb.size, fun k hk _ => hb.block k hk⟩
  refine ⟨hB, v, ?_, ho.kept hg (by cases hv : v.ownBlock <;> simp), hn⟩
  unfold Blk
  rw [hb.block g hlt]
  exact hk
theorem grown_set (W : World) (g : Nat) (u : Value) : W.grownBy (W.setCell ⟨g, 0, none⟩ u) (some g) :=
  ⟨rfl, rfl, rfl, by simp [World.setCell], fun k _ hg => Below.heap_setCell _ _ _ _ (by intro e; exact hg (by rw [e]))⟩

theorem owns_slice {w : World} {b s n : Nat} {e : TypeId} {v : Value} {xs : List Value} (h : w.ownsRow b e s v n xs) : ∃ A c, v = .slice A n c := by
  rcases h.2 with ⟨rfl, rfl⟩ | ⟨g, cap, cur, rfl, _⟩
  · exact ⟨_, _, rfl⟩
  · exact ⟨_, _, rfl⟩

set_option maxRecDepth 100000 in
set_option maxHeartbeats 800000 in
theorem add_any (B g : Nat) (L P : List Nat) (A : Option Addr) (m c : Nat) (W : World) (h : Wtr W B g L) (hr : Rd W W.heap.size A m c (u8s P)) (hm : L.length + P.length ≤ 140737488355328) :
    Calls Tryz.prog 90 #[.pointer (some ⟨g, 0, none⟩), .slice A m c] W fun e w' => e = .returned (.tuple #[]) ∧ Wtr w' B g (L ++ P) ∧ Below B W w' := by
  obtain ⟨i0, hi0, hz0, hz1, hz2⟩ := info_parts u8_info
  have HI := Lib.hid hi0; clear hi0
  have HZ0 := Lib.hid hz0; clear hz0
  have HZ1 := Lib.hid hz1; clear hz1
  have HZ2 := Lib.hid hz2; clear hz2
  obtain ⟨hB, v, hk, ho, hn⟩ := h
  have hlt := hk.lt
  have hmm : m = P.length := by rw [← hr.1, u8s_len]
  subst hmm
  have hc : W.cell? ⟨g, 0, none⟩ = some v := by rw [hk.cell 0]; rfl
  have HK := Lib.hid hk
  have HO := Lib.hid ho
  have HN := Lib.hid hn
  have HR := Lib.hid hr
  clear hk ho hn hr
  go_enter Tryz.func90, Tryz.ntmps90
  go_wp2_with (at_builtin
               refine wl_append rfl (.tmp 8) (.tmp 9) 22 rfl B 5 i0 _ Tryz.underlying22 HI.out HZ0.out HZ1.out HZ2.out rfl v L.length (u8s L) rfl HO.out W.heap.size A P.length c (u8s P) rfl HR.out (u8s_one P) (by unfold maxLen; omega) (by omega) (by omega) ?_
               intro v2 w2 hown2 hg2 hat2
               obtain ⟨A2, c2, rfl⟩ := owns_slice hown2
               have hne2 : (Value.slice A2 (L.length + P.length) c2).ownBlock ≠ some g := by
                 rcases hat2 with e | e
                 · rw [e]; exact HN.out
                 · rw [e]; intro e2; injection e2 with e3; omega
               have hk2 : Blk w2 g 105 #[v] := by
                 unfold Blk
                 rw [hg2.block g hlt (fun e => HN.out e.symm)]
                 exact HK.out
               have x2 : w2.cell? ⟨g, 0, none⟩ = some v := by rw [hk2.cell 0]; rfl
               have f2 : w2.frozen? ⟨g, 0, none⟩ = false := hk2.frozen 0
               have HOW := Lib.hid hown2
               have HG := Lib.hid hg2
               have HNE := Lib.hid hne2
               have HK2 := Lib.hid hk2
               clear hown2 hg2 hat2 hne2 hk2)
  go_end0
  refine ⟨rfl, ⟨hB, _, HK2.out.set_ 0 _, ?_, HNE.out⟩, ?_⟩
  · rw [u8s_app, List.length_append]
    exact HOW.out.kept (grown_set w2 g _) (.inr HNE.out)
  · exact ((Below.refl _ _).grown HG.out (by omega) (fun k hk => (HO.out.lt k hk).1)).setCell hB _
end Go.Proofs.YtpfeaekankkpiaaGreatDoor
