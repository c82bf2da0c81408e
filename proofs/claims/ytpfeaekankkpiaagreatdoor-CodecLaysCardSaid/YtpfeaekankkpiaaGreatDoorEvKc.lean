/-
  The codec's writer: the writing of a byte.
-/
import Derived.Test.YtpfeaekankkpiaaGreatDoorEvKb
import Derived.Deep.AppendLies
import Derived.Deep.RegionLaw
namespace Go.Proofs.YtpfeaekankkpiaaGreatDoor
open Go Go.RowKit Go.Lib

theorem octet_end {B g gg cap N : Nat} {L : List Nat} {W w1 : World} {v : Value} {o : Obj} (hB : B ≤ g) (hk : Blk W g 105 #[v]) (hn : v.ownBlock ≠ some g) (ho : W.ownsRow B 5 1 v L.length (u8s L))
    (hown : w1.ownsRow B 5 1 (.slice (some ⟨gg, 0, none⟩) (L.length + 1) cap) (L.length + 1) (u8s L ++ [.int .u8 N])) (hg : (W.alloc o).drew.grownBy w1 v.ownBlock) (hat : v.ownBlock = some gg ∨ gg = W.heap.size + 1) :
    Wtr (w1.setCell ⟨g, 0, none⟩ (.slice (some ⟨gg, 0, none⟩) (L.length + 1) cap)) B g (L ++ [N]) ∧ Below B W (w1.setCell ⟨g, 0, none⟩ (.slice (some ⟨gg, 0, none⟩) (L.length + 1) cap)) := by
  have hlt := hk.lt
  have hgg : gg ≠ g := by
    rcases hat with e | e
    · intro e2; subst e2; exact hn e
    · omega
  have hk1 : Blk w1 g 105 #[v] := by
    unfold Blk
    rw [hg.block g (by show g < (W.alloc o).heap.size; simp; omega) (fun e => hn e.symm)]
    exact (((Below.refl W.heap.size W).alloc (Nat.le_refl _) o).drew.block g hlt).trans hk
  refine ⟨⟨hB, _, hk1.set_ 0 _, ?_, ?_⟩, ?_⟩
  · rw [u8s_app, List.length_append]
    exact hown.kept (grown_set w1 g _) (.inr (by simp [Value.ownBlock]; exact hgg))
  · simp [Value.ownBlock]; exact hgg
  · exact ((((Below.refl B W).alloc (by omega) o).drew.grown hg (by show B ≤ (W.alloc o).heap.size; simp; omega) (fun k hk => (ho.lt k hk).1))).setCell hB _

set_option maxRecDepth 100000 in
set_option maxHeartbeats 3200000 in
theorem octet_any (B g : Nat) (L : List Nat) (N : Nat) (p : Addr) (W : World) (h : Wtr W B g L) (hc : W.cell? p = some (.int .u8 N)) (_ : p.block < B) (hm : L.length + 10 ≤ 140737488355328) :
    Calls Tryz.prog 87 #[.pointer (some ⟨g, 0, none⟩), .pointer (some p)] W fun e w' => e = .returned (.tuple #[]) ∧ Wtr w' B g (L ++ [N]) ∧ Below B W w' := by
  obtain ⟨i0, hi0, hz0, hz1, hz2⟩ := info_parts u8_info
  obtain ⟨hB, v, hk, ho, hn⟩ := h
  have hlt := hk.lt
  have c0 : W.cell? ⟨g, 0, none⟩ = some v := by rw [hk.cell 0]; rfl
  have f0 : W.frozen? ⟨g, 0, none⟩ = false := hk.frozen 0
  have f1 : ∀ o, (W.alloc o).drew.frozen? ⟨g, 0, none⟩ = false := fun o => ((((Below.refl W.heap.size W).alloc (Nat.le_refl _) o).drew).frozen (p := ⟨g, 0, none⟩) hlt).trans f0
  have c1 : ∀ o, (W.alloc o).drew.cell? ⟨g, 0, none⟩ = some v := fun o => ((((Below.refl W.heap.size W).alloc (Nat.le_refl _) o).drew).cell (p := ⟨g, 0, none⟩) hlt).trans c0
  have HK := Lib.hid hk
  have HN := Lib.hid hn
  have HO := Lib.hid ho
  clear hk hn ho
  go_enter Tryz.func87, Tryz.ntmps87
  go_wp2_with fail
  go_region_law
    ((refine step_append_lies _ (by rfl) _ _ _ (by rfl) B 5 i0 _ 1 1 Tryz.underlying22 hi0 hz0 hz1 hz2 rfl (by omega) v L.length (u8s L) (by rfl) ((HO.out.alloc _).drew)
        ⟨W.heap.size, 0, none⟩ 1 1 [.int .u8 N] (by rfl) (by rfl) (World.news_of_block (cs := #[.int .u8 N]) (t := 5) (fr := (0, 0)) (heap_alloc_new W _)) (by simp [Value.oneCell'])
        (by omega) (by unfold maxLen; omega) (by omega) (by simp; omega) (W.heap.size + 1) (by simp) ?_; intro gg cap w1 hown1 hgrow hat hlt1; have d0 : w1.cell? ⟨g, 0, none⟩ = some v := (hgrow.cell_far _ (by simp; omega) (Ne.symm HN.out)).trans (c1 _); have d1 : w1.frozen? ⟨g, 0, none⟩ = false := (hgrow.frozen_far _ (by simp; omega) (Ne.symm HN.out)).trans (f1 _)))
  all_goals
    go_end0
    exact ⟨rfl, octet_end hB HK.out HN.out HO.out hown1 hgrow hat⟩
end Go.Proofs.YtpfeaekankkpiaaGreatDoor
