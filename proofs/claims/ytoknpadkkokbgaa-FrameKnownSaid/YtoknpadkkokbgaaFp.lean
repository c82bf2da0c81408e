/-
  Promises P2.1 to P2.3: the law FrameKnown: its walk.
-/
import Derived.Test.YtoknpadkkokbgaaFo
import Derived.Deep.OwnRows
namespace Go.Proofs.Ytoknpadkkokbgaa
open Go Go.RowKit Go.Lib

theorem made_long : ∃ C : Array Value, ∃ Z : ByteArray, Z.size = 1048576 ∧ (∀ w : World, (Instr.makeSlice 24 (.int .i64 1048576) (.int .i64 1048576)).run Try.prog w = .ok (.slice (some ⟨w.heap.size, 0, none⟩) 1048576 1048576) (w.alloc (.cells C 5))) ∧
    ∀ w : World, (convert 24 9 (.slice (some ⟨w.heap.size, 0, none⟩) 1048576 1048576)).run Try.prog (w.alloc (.cells C 5)) = .ok (.string Z) (w.alloc (.cells C 5)) :=
  ⟨_, zs 1048576, zs_size _, fun w => make_u8 1048576 (by omega) w, fun w => conv_made 1048576 w⟩
theorem long_read {Z : ByteArray} (hz : Z.size = 1048576) : read (frm Z) 0 = .tuple #[.string Z, .int .i64 1048581, .int .i64 0] := by
  obtain ⟨h1, h2, h3⟩ := at_frame (s := frm Z) (k := 0) (b := Z) (post := []) (by omega) (by rw [frm_list]; simp)
  have e : ((0 : Nat) : Int) = 0 := rfl
  rw [e] at h1 h3
  unfold read
  rw [h3, h1]
  unfold nextOf
  rw [if_pos h1]
  show Value.tuple #[.string Z, .int .i64 (0 + 5 + (len3 (frm Z) 0 : Nat)), _] = _
  rw [h2, hz]
  rfl
theorem long_head {Z : ByteArray} (hz : Z.size = 1048576) : (frm Z).extract 0 4 = ⟨#[165, 16, 0, 0]⟩ := by
  apply ByteArray.ext
  apply Array.ext'
  rw [ByteArray.data_extract, Array.toList_extract, frm_list]
  simp only [List.extract_eq_take_drop, frmL, hz]
  rfl
theorem ex_none (w : World) : Calls Try.prog 12 #[.string ⟨#[]⟩] w fun e w' => ∃ A c, e = .returned (.tuple #[.slice A 0 c, .int .i64 0, .int .i64 0]) ∧ Below w.heap.size w w' := by
  refine (all_any ⟨#[]⟩ w (by decide)).mono ?_
  rintro e w' ⟨n, v, hn, rfl, ho, hb⟩
  have hq := st_one (m := 0) hn (by show wrong ⟨#[]⟩ ((0 : Nat) : Int) ≠ 0; decide)
  rw [hq] at ho ⊢
  obtain ⟨A, c, rfl, _⟩ := own_lst (l := []) ho
  exact ⟨A, c, rfl, hb⟩
def tab : Array Value := #[.string ⟨#[]⟩, .int .i64 0, .int .i64 9, .string ⟨#[]⟩, .int .i64 (-1), .int .i64 2, .string ⟨#[]⟩, .int .i64 1, .int .i64 2, .string ⟨#[165]⟩, .int .i64 0, .int .i64 20, .string ⟨#[165, 255, 255]⟩, .int .i64 0, .int .i64 20, .string ⟨#[165, 16, 0, 1]⟩, .int .i64 0, .int .i64 5, .string ⟨#[165, 16, 0, 0]⟩, .int .i64 0, .int .i64 20, .string ⟨#[165, 0, 0, 0]⟩, .int .i64 0, .int .i64 20, .string ⟨#[165, 0, 0, 0, 91]⟩, .int .i64 0, .int .i64 5, .string ⟨#[165, 0, 0, 1, 90]⟩, .int .i64 0, .int .i64 20, .string ⟨#[165, 0, 0, 0, 90]⟩, .int .i64 0, .int .i64 0, .string ⟨#[120, 165, 0, 0, 0, 90]⟩, .int .i64 1, .int .i64 0, .string ⟨#[164, 0, 0, 0, 90]⟩, .int .i64 0, .int .i64 5]
/-- What FrameKnown's table reads as. -/
def TabAt (w : World) (g : Nat) : Prop := g < w.heap.size ∧ ∀ j, w.cell? ⟨g, j, none⟩ = tab[j]?
theorem TabAt.below {w w' : World} {g : Nat} (h : TabAt w g) (hb : Below w.heap.size w w') : TabAt w' g := ⟨Nat.lt_of_lt_of_le h.1 hb.size, fun j => (hb.cell (p := ⟨g, j, none⟩) h.1).trans (h.2 j)⟩

theorem bcell {W w1 : World} (hb : Below W.heap.size W w1) : (∀ b o, b < W.heap.size → w1.cell? ⟨b, o, none⟩ = W.cell? ⟨b, o, none⟩) ∧ (∀ b o, b < W.heap.size → w1.frozen? ⟨b, o, none⟩ = W.frozen? ⟨b, o, none⟩) :=
  ⟨fun b o h => hb.cell (p := ⟨b, o, none⟩) h, fun b o h => hb.frozen (p := ⟨b, o, none⟩) h⟩

set_option maxRecDepth 100000 in
set_option maxHeartbeats 6400000 in
theorem known_any (w : World) : Calls Try.prog 6 #[] w (Yes w) := by
  obtain ⟨C, Z, hz, M, CV⟩ := made_long
  have W := Lib.hid (works_any w)
  have P1 := Lib.hid (put_ok Z (by omega))
  have zx : (Z ++ ⟨#[120]⟩ : ByteArray).size = 1048577 := by rw [ByteArray.size_append, hz]; rfl
  have P2 := Lib.hid (fun w : World => (put_any (Z ++ ⟨#[120]⟩) w (by omega)).mono (R' := Put' ⟨#[]⟩ 4 w) (fun e w' h' => ⟨by rw [h'.1, if_pos (by omega)], h'.2⟩))
  have fz : (frm Z).size = 1048581 := by rw [frm_size, hz]
  have N0 := Lib.hid (next_at (s := frm Z) (a := 0) (by omega) (long_read hz))
  have X := long_head hz
  have EN := Lib.hid ex_none
  go_enter Try.func6, Try.ntmps6
  go_upto_region 9 with (first
    | (go_at_call 9; (with_reducible refine W.out.mono ?_); rintro e w1 ⟨rfl, hb1⟩; have hb1s := hb1.size)
    | (go_at_call 7
       first
         | ((with_reducible refine (P1.out _).mono ?_); rintro e w2 ⟨rfl, hb2'⟩; have hb2 := (hb1.alloc hb1s _).trans (hb2'.mono (by simp; omega)); clear hb2')
         | ((with_reducible refine (P2.out _).mono ?_); rintro e w4 ⟨rfl, hb4'⟩; have hb4 := hb3.trans (hb4'.mono hb3.size); clear hb4'))
    | (go_at_call 14; (with_reducible refine (N0.out _).mono ?_); rintro e w3 ⟨rfl, hb3'⟩; have hb3 := hb2.trans (hb3'.mono hb2.size); clear hb3'))
  go_cut [82, 83, 84] (fun v n i wx => ∃ g, v = .slice (some ⟨g, 0, none⟩) 13 13 ∧ n = .int .i64 13 ∧ i = .int .i64 0 ∧ TabAt wx g ∧ Below w.heap.size w wx)
  case first =>
    clear M CV X
    go_wp2_with fail
    go_meet
    exact ⟨_, rfl, rfl, rfl, ⟨by simp, fun j => World.cell?_alloc_at _ _ _ _ rfl⟩, hb4.alloc hb4.size _⟩
  case rest =>
    clear M CV X W P1 P2 N0 hb1 hb1s hb2 hb3 hb4
    obtain ⟨g, rfl, rfl, rfl, hT, hw⟩ := hcut
    have HT := Lib.hid hT
    clear hT
    go_wp2
    go_loopw [84] (fun i wr => (∃ k : Nat, k ≤ 13 ∧ i = .int .i64 k) ∧ Below wc.heap.size wc wr) (fun i _ => 13 - (Lib.intOf i).toNat)
    case atStart => exact ⟨⟨0, by omega, rfl⟩, Below.refl _ _⟩
    case round =>
      obtain ⟨⟨k, hk, rfl⟩, hb⟩ := hrel
      have HR := Lib.hid (HT.out.below hb)
      by_cases h13 : k = 13
      · subst h13
        go_wp2_with (go_at_call 12; (with_reducible refine (EN.out _).mono ?_); rintro e w2 ⟨A, c, rfl, hb2⟩)
        go_ret
        exact ⟨rfl, (hw.trans (hb.mono hw.size)).trans (hb2.mono (Nat.le_trans hw.size hb.size))⟩
      · have hcase : k = 0 ∨ k = 1 ∨ k = 2 ∨ k = 3 ∨ k = 4 ∨ k = 5 ∨ k = 6 ∨ k = 7 ∨ k = 8 ∨ k = 9 ∨ k = 10 ∨ k = 11 ∨ k = 12 := by omega
        clear h13 hk
        rcases hcase with rfl | rfl | rfl | rfl | rfl | rfl | rfl | rfl | rfl | rfl | rfl | rfl | rfl
        · have k0 : wr.cell? ⟨g, 0, none⟩ = some (.string ⟨#[]⟩) := (HR.out.2 0).trans rfl
          have k1 : wr.cell? ⟨g, 1, none⟩ = some (.int .i64 0) := (HR.out.2 1).trans rfl
          have k2 : wr.cell? ⟨g, 2, none⟩ = some (.int .i64 9) := (HR.out.2 2).trans rfl
          have K := Lib.hid (next_at (s := ⟨#[]⟩) (b := ⟨#[]⟩) (a := 0) (i := 0) (x := 9) (by decide) (by kernel_rfl))
          go_wp2_with (go_at_call 14; (with_reducible refine (K.out _).mono ?_); rintro e w2 ⟨rfl, hb2⟩; obtain ⟨hc2, hf2⟩ := bcell hb2)
          exact ⟨⟨⟨1, by omega, rfl⟩, (hb.alloc hb.size _).trans (hb2.mono (by simp; have := hb.size; omega))⟩, by decide⟩
        · have k0 : wr.cell? ⟨g, 3, none⟩ = some (.string ⟨#[]⟩) := (HR.out.2 3).trans rfl
          have k1 : wr.cell? ⟨g, 4, none⟩ = some (.int .i64 (-1)) := (HR.out.2 4).trans rfl
          have k2 : wr.cell? ⟨g, 5, none⟩ = some (.int .i64 2) := (HR.out.2 5).trans rfl
          have K := Lib.hid (next_at (s := ⟨#[]⟩) (b := ⟨#[]⟩) (a := (-1)) (i := (-1)) (x := 2) (by decide) (by kernel_rfl))
          go_wp2_with (go_at_call 14; (with_reducible refine (K.out _).mono ?_); rintro e w2 ⟨rfl, hb2⟩; obtain ⟨hc2, hf2⟩ := bcell hb2)
          exact ⟨⟨⟨2, by omega, rfl⟩, (hb.alloc hb.size _).trans (hb2.mono (by simp; have := hb.size; omega))⟩, by decide⟩
        · have k0 : wr.cell? ⟨g, 6, none⟩ = some (.string ⟨#[]⟩) := (HR.out.2 6).trans rfl
          have k1 : wr.cell? ⟨g, 7, none⟩ = some (.int .i64 1) := (HR.out.2 7).trans rfl
          have k2 : wr.cell? ⟨g, 8, none⟩ = some (.int .i64 2) := (HR.out.2 8).trans rfl
          have K := Lib.hid (next_at (s := ⟨#[]⟩) (b := ⟨#[]⟩) (a := 1) (i := 1) (x := 2) (by decide) (by kernel_rfl))
          go_wp2_with (go_at_call 14; (with_reducible refine (K.out _).mono ?_); rintro e w2 ⟨rfl, hb2⟩; obtain ⟨hc2, hf2⟩ := bcell hb2)
          exact ⟨⟨⟨3, by omega, rfl⟩, (hb.alloc hb.size _).trans (hb2.mono (by simp; have := hb.size; omega))⟩, by decide⟩
        · have k0 : wr.cell? ⟨g, 9, none⟩ = some (.string ⟨#[165]⟩) := (HR.out.2 9).trans rfl
          have k1 : wr.cell? ⟨g, 10, none⟩ = some (.int .i64 0) := (HR.out.2 10).trans rfl
          have k2 : wr.cell? ⟨g, 11, none⟩ = some (.int .i64 20) := (HR.out.2 11).trans rfl
          have K := Lib.hid (next_at (s := ⟨#[165]⟩) (b := ⟨#[]⟩) (a := 0) (i := 0) (x := 20) (by decide) (by kernel_rfl))
          go_wp2_with (go_at_call 14; (with_reducible refine (K.out _).mono ?_); rintro e w2 ⟨rfl, hb2⟩; obtain ⟨hc2, hf2⟩ := bcell hb2)
          exact ⟨⟨⟨4, by omega, rfl⟩, (hb.alloc hb.size _).trans (hb2.mono (by simp; have := hb.size; omega))⟩, by decide⟩
        · have k0 : wr.cell? ⟨g, 12, none⟩ = some (.string ⟨#[165, 255, 255]⟩) := (HR.out.2 12).trans rfl
          have k1 : wr.cell? ⟨g, 13, none⟩ = some (.int .i64 0) := (HR.out.2 13).trans rfl
          have k2 : wr.cell? ⟨g, 14, none⟩ = some (.int .i64 20) := (HR.out.2 14).trans rfl
          have K := Lib.hid (next_at (s := ⟨#[165, 255, 255]⟩) (b := ⟨#[]⟩) (a := 0) (i := 0) (x := 20) (by decide) (by kernel_rfl))
          go_wp2_with (go_at_call 14; (with_reducible refine (K.out _).mono ?_); rintro e w2 ⟨rfl, hb2⟩; obtain ⟨hc2, hf2⟩ := bcell hb2)
          exact ⟨⟨⟨5, by omega, rfl⟩, (hb.alloc hb.size _).trans (hb2.mono (by simp; have := hb.size; omega))⟩, by decide⟩
        · have k0 : wr.cell? ⟨g, 15, none⟩ = some (.string ⟨#[165, 16, 0, 1]⟩) := (HR.out.2 15).trans rfl
          have k1 : wr.cell? ⟨g, 16, none⟩ = some (.int .i64 0) := (HR.out.2 16).trans rfl
          have k2 : wr.cell? ⟨g, 17, none⟩ = some (.int .i64 5) := (HR.out.2 17).trans rfl
          have K := Lib.hid (next_at (s := ⟨#[165, 16, 0, 1]⟩) (b := ⟨#[]⟩) (a := 0) (i := 0) (x := 5) (by decide) (by kernel_rfl))
          go_wp2_with (go_at_call 14; (with_reducible refine (K.out _).mono ?_); rintro e w2 ⟨rfl, hb2⟩; obtain ⟨hc2, hf2⟩ := bcell hb2)
          exact ⟨⟨⟨6, by omega, rfl⟩, (hb.alloc hb.size _).trans (hb2.mono (by simp; have := hb.size; omega))⟩, by decide⟩
        · have k0 : wr.cell? ⟨g, 18, none⟩ = some (.string ⟨#[165, 16, 0, 0]⟩) := (HR.out.2 18).trans rfl
          have k1 : wr.cell? ⟨g, 19, none⟩ = some (.int .i64 0) := (HR.out.2 19).trans rfl
          have k2 : wr.cell? ⟨g, 20, none⟩ = some (.int .i64 20) := (HR.out.2 20).trans rfl
          have K := Lib.hid (next_at (s := ⟨#[165, 16, 0, 0]⟩) (b := ⟨#[]⟩) (a := 0) (i := 0) (x := 20) (by decide) (by kernel_rfl))
          go_wp2_with (go_at_call 14; (with_reducible refine (K.out _).mono ?_); rintro e w2 ⟨rfl, hb2⟩; obtain ⟨hc2, hf2⟩ := bcell hb2)
          exact ⟨⟨⟨7, by omega, rfl⟩, (hb.alloc hb.size _).trans (hb2.mono (by simp; have := hb.size; omega))⟩, by decide⟩
        · have k0 : wr.cell? ⟨g, 21, none⟩ = some (.string ⟨#[165, 0, 0, 0]⟩) := (HR.out.2 21).trans rfl
          have k1 : wr.cell? ⟨g, 22, none⟩ = some (.int .i64 0) := (HR.out.2 22).trans rfl
          have k2 : wr.cell? ⟨g, 23, none⟩ = some (.int .i64 20) := (HR.out.2 23).trans rfl
          have K := Lib.hid (next_at (s := ⟨#[165, 0, 0, 0]⟩) (b := ⟨#[]⟩) (a := 0) (i := 0) (x := 20) (by decide) (by kernel_rfl))
          go_wp2_with (go_at_call 14; (with_reducible refine (K.out _).mono ?_); rintro e w2 ⟨rfl, hb2⟩; obtain ⟨hc2, hf2⟩ := bcell hb2)
          exact ⟨⟨⟨8, by omega, rfl⟩, (hb.alloc hb.size _).trans (hb2.mono (by simp; have := hb.size; omega))⟩, by decide⟩
        · have k0 : wr.cell? ⟨g, 24, none⟩ = some (.string ⟨#[165, 0, 0, 0, 91]⟩) := (HR.out.2 24).trans rfl
          have k1 : wr.cell? ⟨g, 25, none⟩ = some (.int .i64 0) := (HR.out.2 25).trans rfl
          have k2 : wr.cell? ⟨g, 26, none⟩ = some (.int .i64 5) := (HR.out.2 26).trans rfl
          have K := Lib.hid (next_at (s := ⟨#[165, 0, 0, 0, 91]⟩) (b := ⟨#[]⟩) (a := 0) (i := 0) (x := 5) (by decide) (by kernel_rfl))
          go_wp2_with (go_at_call 14; (with_reducible refine (K.out _).mono ?_); rintro e w2 ⟨rfl, hb2⟩; obtain ⟨hc2, hf2⟩ := bcell hb2)
          exact ⟨⟨⟨9, by omega, rfl⟩, (hb.alloc hb.size _).trans (hb2.mono (by simp; have := hb.size; omega))⟩, by decide⟩
        · have k0 : wr.cell? ⟨g, 27, none⟩ = some (.string ⟨#[165, 0, 0, 1, 90]⟩) := (HR.out.2 27).trans rfl
          have k1 : wr.cell? ⟨g, 28, none⟩ = some (.int .i64 0) := (HR.out.2 28).trans rfl
          have k2 : wr.cell? ⟨g, 29, none⟩ = some (.int .i64 20) := (HR.out.2 29).trans rfl
          have K := Lib.hid (next_at (s := ⟨#[165, 0, 0, 1, 90]⟩) (b := ⟨#[]⟩) (a := 0) (i := 0) (x := 20) (by decide) (by kernel_rfl))
          go_wp2_with (go_at_call 14; (with_reducible refine (K.out _).mono ?_); rintro e w2 ⟨rfl, hb2⟩; obtain ⟨hc2, hf2⟩ := bcell hb2)
          exact ⟨⟨⟨10, by omega, rfl⟩, (hb.alloc hb.size _).trans (hb2.mono (by simp; have := hb.size; omega))⟩, by decide⟩
        · have k0 : wr.cell? ⟨g, 30, none⟩ = some (.string ⟨#[165, 0, 0, 0, 90]⟩) := (HR.out.2 30).trans rfl
          have k1 : wr.cell? ⟨g, 31, none⟩ = some (.int .i64 0) := (HR.out.2 31).trans rfl
          have k2 : wr.cell? ⟨g, 32, none⟩ = some (.int .i64 0) := (HR.out.2 32).trans rfl
          have K := Lib.hid (next_at (s := ⟨#[165, 0, 0, 0, 90]⟩) (b := ⟨#[]⟩) (a := 0) (i := 5) (x := 0) (by decide) (by kernel_rfl))
          go_wp2_with (go_at_call 14; (with_reducible refine (K.out _).mono ?_); rintro e w2 ⟨rfl, hb2⟩; obtain ⟨hc2, hf2⟩ := bcell hb2)
          exact ⟨⟨⟨11, by omega, rfl⟩, (hb.alloc hb.size _).trans (hb2.mono (by simp; have := hb.size; omega))⟩, by decide⟩
        · have k0 : wr.cell? ⟨g, 33, none⟩ = some (.string ⟨#[120, 165, 0, 0, 0, 90]⟩) := (HR.out.2 33).trans rfl
          have k1 : wr.cell? ⟨g, 34, none⟩ = some (.int .i64 1) := (HR.out.2 34).trans rfl
          have k2 : wr.cell? ⟨g, 35, none⟩ = some (.int .i64 0) := (HR.out.2 35).trans rfl
          have K := Lib.hid (next_at (s := ⟨#[120, 165, 0, 0, 0, 90]⟩) (b := ⟨#[]⟩) (a := 1) (i := 6) (x := 0) (by decide) (by kernel_rfl))
          go_wp2_with (go_at_call 14; (with_reducible refine (K.out _).mono ?_); rintro e w2 ⟨rfl, hb2⟩; obtain ⟨hc2, hf2⟩ := bcell hb2)
          exact ⟨⟨⟨12, by omega, rfl⟩, (hb.alloc hb.size _).trans (hb2.mono (by simp; have := hb.size; omega))⟩, by decide⟩
        · have k0 : wr.cell? ⟨g, 36, none⟩ = some (.string ⟨#[164, 0, 0, 0, 90]⟩) := (HR.out.2 36).trans rfl
          have k1 : wr.cell? ⟨g, 37, none⟩ = some (.int .i64 0) := (HR.out.2 37).trans rfl
          have k2 : wr.cell? ⟨g, 38, none⟩ = some (.int .i64 5) := (HR.out.2 38).trans rfl
          have K := Lib.hid (next_at (s := ⟨#[164, 0, 0, 0, 90]⟩) (b := ⟨#[]⟩) (a := 0) (i := 0) (x := 5) (by decide) (by kernel_rfl))
          go_wp2_with (go_at_call 14; (with_reducible refine (K.out _).mono ?_); rintro e w2 ⟨rfl, hb2⟩; obtain ⟨hc2, hf2⟩ := bcell hb2)
          exact ⟨⟨⟨13, by omega, rfl⟩, (hb.alloc hb.size _).trans (hb2.mono (by simp; have := hb.size; omega))⟩, by decide⟩
end Go.Proofs.Ytoknpadkkokbgaa
