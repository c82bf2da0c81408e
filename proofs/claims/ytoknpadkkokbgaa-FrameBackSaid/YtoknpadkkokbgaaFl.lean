/-
  Frames: the walk of row: some frames, one behind the other.
-/
import Derived.Test.YtoknpadkkokbgaaFk
import Derived.Deep.RegionHeld3
namespace Go.Proofs.Ytoknpadkkokbgaa
open Go Go.RowKit Go.Lib

def RowEnd (w : World) (e : Ending) (w' : World) : Prop := ∃ r : ByteArray, e = .returned (.string r) ∧ r.size ≤ 10100 ∧ Below w.heap.size w w'
def RowInv (w : World) (v i : Value) (wr : World) : Prop := ∃ (k : Nat) (r : ByteArray), i = .int .i64 k ∧ k ≤ 20 ∧ v = .string r ∧ r.size ≤ 505 * k ∧ Below w.heap.size w wr
theorem frm_size (s : ByteArray) : (frm s).size = s.size + 5 := by
  show ((([165] ++ (hd s.size).map UInt8.ofNat) ++ s.data.toList) ++ [90]).toArray.size = _
  simp [hd]

set_option maxRecDepth 100000 in
set_option maxHeartbeats 1600000 in
theorem row_any (l : List ByteArray) (v : Value) (w : World) (h : Lst w v l) (hl : l.length ≤ 9223372036854775807) (hls : ∀ x ∈ l, x.size ≤ 9223372036854775807) : Calls Try.prog 10 #[v] w (RowEnd w) := by
  obtain ⟨A, c, rfl, h⟩ := h
  have H := Lib.hid h; clear h
  have HS := Lib.hid hls; clear hls
  go_enter Try.func10, Try.ntmps10
  go_wp2
  go_loopw [3, 4] (fun v i wr => RowInv w v i wr) (fun _ i _ => 20 - (Lib.intOf i).toNat)
  case atStart => exact ⟨0, _, rfl, by omega, rfl, by decide, Below.refl _ _⟩
  case round =>
    obtain ⟨k, r, rfl, hk, rfl, hr, hb⟩ := hrel
    by_cases hlt : k < l.length ∧ k < 20
    · obtain ⟨h1, h2⟩ := hlt
      rcases H.out with h0 | ⟨g, rfl, hg, hc⟩
      · subst h0; simp at h1
      have k1 : wr.cell? (g.add k) = some (.string l[k]) := (hb.cell (p := g.add k) (by rw [blk_add]; exact hg)).trans (hc k _ (List.getElem?_eq_getElem h1))
      have hx := HS.out _ (List.getElem_mem h1)
      have hq : (k : Int) < (l.length : Int) := by omega
      have hgr : g.block < wr.heap.size := Nat.lt_of_lt_of_le hg hb.size
      clear hc
      obtain ⟨x, hxe⟩ : ∃ x, x = l[k] := ⟨_, rfl⟩
      rw [← hxe] at k1 hx
      clear hxe H HS
      have hz : (x.extract 0 (min (x.size : Int) 500).toNat).size ≤ 500 := by simp; omega
      have K : ∀ w, Calls Try.prog 8 #[.string (x.extract 0 (min (x.size : Int) 500).toNat)] w (Put' (frm (x.extract 0 (min (x.size : Int) 500).toNat)) 0 w) :=
        fun w => (ref_put_any _ w (by omega)).mono fun e w' h' => ⟨by rw [h'.1, if_neg (by omega)], h'.2⟩
      have HK := Lib.hid K
      have HF := Lib.hid (frm_size (x.extract 0 (min (x.size : Int) 500).toNat))
      clear K
      have hm1 : (0 : Int) ≤ min (x.size : Int) 500 := by omega
      have hm2 : min (x.size : Int) 500 ≤ (x.size : Int) := by omega
      go_upto_region 5 with (fail)
      go_region_held3 (fun w' => w'.cell? (g.add k) = some (.string x))
        (first | go_keep | exact (hb1.cell (p := g.add k) (by rw [blk_add]; simpa using hgr)).trans k1)
        ((go_at_call 8; (with_reducible refine (HK.out _).mono ?_); rintro e w1 ⟨rfl, hb1⟩))
      have HZ : (frm (x.extract 0 (min (x.size : Int) 500).toNat)).size ≤ 505 := by rw [HF.out]; omega
      have hs2 : (r ++ frm (x.extract 0 (min (x.size : Int) 500).toNat)).size ≤ 505 * (k + 1) := by rw [ByteArray.size_append]; omega
      have HB := Lib.hid hb1
      go_wp2_with fail
      go_roundw
      case rel =>
        refine ⟨k + 1, _, by go_num, by omega, rfl, hs2, hb.trans (Below.mono (B := wr.heap.size) ?_ hb.size)⟩
        exact Below.trans (Below.refl wr.heap.size wr).drew (show Below wr.heap.size wr.drew w1 from HB.out)
      case measure => simp [Lib.intOf]; omega
    · by_cases h1 : k < l.length
      · have h2 : ¬ k < 20 := by omega
        have t1 : decide ((k : Int) < 20) = false := decide_eq_false (by omega)
        go_wp2
        go_ret
        exact ⟨r, rfl, by omega, hb⟩
      · have t1 : decide ((k : Int) < (l.length : Int)) = false := decide_eq_false (by omega)
        go_wp2
        go_ret
        exact ⟨r, rfl, by omega, hb⟩
end Go.Proofs.Ytoknpadkkokbgaa
