/-
  Frames: the walks of both All: the bodies from 0 on, as far as they go.
-/
import Derived.Test.YtoknpadkkokbgaaFe
import Derived.Maps.AppendAt
import Derived.Laws.AppendOwnNone
import Derived.OwnWalk
import Derived.Laws.OwnMore
import Derived.WalkMore
import Derived.Scope
namespace Go.Proofs.Ytoknpadkkokbgaa
open Go Go.RowKit Go.Lib

theorem own_below {w w' : World} {B e size n : Nat} {v : Value} {xs : List Value} (h : w.ownsRow B e size v n xs) (hb : Below w.heap.size w w') : w'.ownsRow B e size v n xs := by
  refine ⟨h.1, ?_⟩
  rcases h.2 with hn | ⟨g, cap, cur, hv, hB, hg, rest⟩
  · exact .inl hn
  · refine .inr ⟨g, cap, cur, hv, hB, ?_, rest⟩
    rw [hb.block g (by
      rcases Nat.lt_or_ge g w.heap.size with h1 | h1
      · exact h1
      · rw [Array.getElem?_eq_none h1] at hg; cases hg)]
    exact hg
/-- How far the first n frames reach, and their bodies. -/
def st (s : ByteArray) : Nat → Nat × List ByteArray
  | 0 => (0, [])
  | n + 1 => if wrong s (st s n).1 = 0 then ((st s n).1 + 5 + len3 s (st s n).1, (st s n).2 ++ [bodyOf s (st s n).1]) else st s n
theorem wrong_fits {s : ByteArray} {k : Nat} (h : wrong s k = 0) : k + len3 s k + 5 ≤ s.size := by
  unfold wrong at h
  repeat (split at h; · simp at h)
  simp at *
  omega
theorem st_le (s : ByteArray) : ∀ n, (st s n).1 ≤ s.size ∧ 5 * (st s n).2.length ≤ (st s n).1
  | 0 => ⟨Nat.zero_le _, Nat.le_refl _⟩
  | n + 1 => by
    have ih := st_le s n
    unfold st
    split
    · rename_i h
      have := wrong_fits h
      simp
      omega
    · exact ih
theorem st_ok {s : ByteArray} {n : Nat} (h : wrong s (st s n).1 = 0) : st s (n + 1) = ((st s n).1 + 5 + len3 s (st s n).1, (st s n).2 ++ [bodyOf s (st s n).1]) := by
  rw [st, if_pos h]
theorem st_stay {s : ByteArray} {n : Nat} (h : wrong s (st s n).1 ≠ 0) : ∀ m, n ≤ m → st s m = st s n := by
  intro m hm
  obtain ⟨d, rfl⟩ := Nat.exists_eq_add_of_le hm
  clear hm
  induction d with
  | zero => rfl
  | succ d ih => rw [← Nat.add_assoc, st, ih, if_neg h]
theorem st_one {s : ByteArray} {n m : Nat} (h : wrong s (st s n).1 ≠ 0) (h' : wrong s (st s m).1 ≠ 0) : st s n = st s m := by
  rcases Nat.le_total n m with hm | hm
  · exact (st_stay h m hm).symm
  · exact st_stay h' n hm
def strs (l : List ByteArray) : List Value := l.map Value.string
theorem strs_one (l : List ByteArray) : ∀ u ∈ strs l, u.oneCell' = true := by
  intro u hu
  simp only [strs, List.mem_map] at hu
  obtain ⟨_, _, rfl⟩ := hu
  rfl
def whyOf (s : ByteArray) (k : Nat) : Nat := if wrong s k = 9 then 0 else wrong s k
def AllEnd (s : ByteArray) (w : World) (e : Ending) (w' : World) : Prop :=
  ∃ n v, wrong s (st s n).1 ≠ 0 ∧ e = .returned (.tuple #[v, .int .i64 (st s n).1, .int .i64 (whyOf s (st s n).1)]) ∧ w'.ownsRow w.heap.size 9 1 v (st s n).2.length (strs (st s n).2) ∧ Below w.heap.size w w'
def AllInv (s : ByteArray) (w : World) (v i : Value) (wr : World) : Prop :=
  ∃ n, i = .int .i64 (st s n).1 ∧ wr.ownsRow w.heap.size 9 1 v (st s n).2.length (strs (st s n).2) ∧ Below w.heap.size w wr
theorem str_info : (Try.prog.info? 9).map (fun i => (i.zero, i.size, i.bytes)) = some (some (.string ⟨#[]⟩), 1, 16) := by kernel_rfl

theorem one_cell (x : ByteArray) (W : World) : ∀ (j : Nat) u, [Value.string x][j]? = some u → (W.alloc (.cells #[.string x] 9)).cell? ((⟨W.heap.size, 0, none⟩ : Addr).add j) = some u := by
  intro j u hu
  rw [add_lit, Nat.zero_add, World.cell?_alloc_at _ _ _ _ rfl]
  simpa using hu
theorem one_one (x : ByteArray) : ∀ u ∈ [Value.string x], u.oneCell' = true := by
  intro u hu
  simp at hu
  subst hu
  rfl
theorem all_step {s : ByteArray} {w w2 : World} {n : Nat} {v2 : Value} (h0 : wrong s (st s n).1 = 0)
    (hown : w2.ownsRow w.heap.size 9 1 v2 ((st s n).2.length + 1) (strs (st s n).2 ++ [.string (cutOf s ((st s n).1 + 4) (len3 s (st s n).1))])) (hb : Below w.heap.size w w2) :
    AllInv s w v2 (.int .i64 (((st s n).1 : Int) + 5 + (len3 s (st s n).1 : Nat))) w2 := by
  refine ⟨n + 1, by rw [st_ok h0]; simp, ?_, hb⟩
  rw [st_ok h0]
  have e : bodyOf s (st s n).1 = cutOf s ((st s n).1 + 4) (len3 s (st s n).1) := by simp [bodyOf, h0]
  simpa [strs, e] using hown

set_option maxRecDepth 100000 in
set_option maxHeartbeats 1600000 in
theorem ref_all_any (s : ByteArray) (w : World) (hs : s.size ≤ 1073741824) : Calls Try.prog 17 #[.string s] w (AllEnd s w) := by
  obtain ⟨i0, hi0, hz0, hz1, hz2⟩ := info_parts str_info
  have HI := Lib.hid hi0; clear hi0
  have HZ0 := Lib.hid hz0; clear hz0
  have HZ1 := Lib.hid hz1; clear hz1
  have HZ2 := Lib.hid hz2; clear hz2
  go_enter Try.func17, Try.ntmps17
  go_wp2
  go_loopw [5, 6] (fun v i wr => AllInv s w v i wr) (fun _ i _ => s.size - (Lib.intOf i).toNat)
  case atStart => exact ⟨0, rfl, World.ownsRow_nil _ _ _ _, Below.refl _ _⟩
  case round =>
    obtain ⟨n, rfl, hown, hbw⟩ := hrel
    have HO := Lib.hid hown
    clear hown
    have K := Lib.hid (ref_next_any s (st s n).1 wr (by omega))
    have hle := st_le s n
    have hbs := hbw.size
    by_cases h0 : wrong s (st s n).1 = 0
    · have hfit := wrong_fits h0
      have HR := Lib.hid (read_good h0)
      have HB := Lib.hid h0
      have hl3 := len3_lt s (st s n).1
      clear h0
      go_wp2_with (first
        | (go_at_call 16
           (with_reducible refine K.out.mono ?_)
           rintro e w1 ⟨rfl, hb1⟩
           rw [HR.out]
           have hb1s := hb1.size)
        | (at_builtin
           refine wpList_append_own_at _ rfl (.tmp 26) (.tmp 28) 30 rfl w.heap.size 9 i0 _ 1 16 Try.underlying30 HI.out HZ0.out HZ1.out HZ2.out rfl (by omega) _ _ _ rfl ((own_below HO.out hb1).alloc _) ⟨w1.heap.size, 0, none⟩ 1 1 [.string (cutOf s ((st s n).1 + 4) (len3 s (st s n).1))] rfl rfl (one_cell _ w1) (one_one _) (by unfold maxLen; omega) (by omega) (by simp; omega) ?_
           intro v2 w2 hown2 hg2 _ hat2
           have hb2 : Below w.heap.size w w2 := ((hbw.trans (hb1.mono hbs)).alloc (Nat.le_trans hbs hb1s) _).grown hg2 (by simp; omega) (fun k hk => (HO.out.lt k hk).1)
           have HO2 := Lib.hid hown2
           clear hown2 hg2 hat2))
      go_roundw
      case rel => exact all_step HB.out HO2.out hb2
      case measure => simp [Lib.intOf]; omega
    · by_cases h9 : wrong s (st s n).1 = 9
      · have HR := Lib.hid (read_bad h9 (by omega))
        have HW : Hid (whyOf s (st s n).1 = 0) := Lib.hid (by rw [whyOf, if_pos h9])
        have HB := Lib.hid h0
        clear h9 h0
        go_wp2_with (go_at_call 16
                     (with_reducible refine K.out.mono ?_)
                     rintro e w1 ⟨rfl, hb1⟩
                     rw [HR.out])
        go_ret3
        exact ⟨n, _, HB.out, by rw [HW.out]; rfl, own_below HO.out hb1, hbw.trans (hb1.mono hbs)⟩
      · have HR := Lib.hid (read_bad rfl h0)
        have HW : Hid (whyOf s (st s n).1 = wrong s (st s n).1) := Lib.hid (by rw [whyOf, if_neg h9])
        have t9 : ((wrong s (st s n).1 : Int) == 9) = false := by simp; omega
        have t0 : ((wrong s (st s n).1 : Int) != 0) = true := by simp; omega
        have HB := Lib.hid h0
        clear h9 h0
        go_wp2_with (go_at_call 16
                     (with_reducible refine K.out.mono ?_)
                     rintro e w1 ⟨rfl, hb1⟩
                     rw [HR.out])
        go_ret3
        exact ⟨n, _, HB.out, by rw [HW.out]; rfl, own_below HO.out hb1, hbw.trans (hb1.mono hbs)⟩
set_option maxRecDepth 100000 in
set_option maxHeartbeats 1600000 in
theorem all_any (s : ByteArray) (w : World) (hs : s.size ≤ 1073741824) : Calls Try.prog 12 #[.string s] w (AllEnd s w) := by
  obtain ⟨i0, hi0, hz0, hz1, hz2⟩ := info_parts str_info
  have HI := Lib.hid hi0; clear hi0
  have HZ0 := Lib.hid hz0; clear hz0
  have HZ1 := Lib.hid hz1; clear hz1
  have HZ2 := Lib.hid hz2; clear hz2
  go_enter Try.func12, Try.ntmps12
  go_wp2
  go_step3
  go_wp2
  go_step3
  go_wp2
  go_loopw [2, 3, 4] (fun v i z wr => z = .int .i64 0 ∧ AllInv s w v i wr) (fun _ i _ _ => s.size - (Lib.intOf i).toNat)
  case atStart => exact ⟨rfl, 0, rfl, World.ownsRow_nil _ _ _ _, Below.refl _ _⟩
  case round =>
    obtain ⟨rfl, n, rfl, hown, hbw⟩ := hrel
    have HO := Lib.hid hown
    clear hown
    have K := Lib.hid (next_any s (st s n).1 wr (by omega))
    have hle := st_le s n
    have hbs := hbw.size
    by_cases h0 : wrong s (st s n).1 = 0
    · have hfit := wrong_fits h0
      have HR := Lib.hid (read_good h0)
      have HB := Lib.hid h0
      have hl3 := len3_lt s (st s n).1
      clear h0
      go_wp2_with (first
        | (go_at_call 14
           (with_reducible refine K.out.mono ?_)
           rintro e w1 ⟨rfl, hb1⟩
           rw [HR.out]
           have hb1s := hb1.size)
        | (at_builtin
           refine wpList_append_own_at _ rfl (.tmp 19) (.tmp 21) 30 rfl w.heap.size 9 i0 _ 1 16 Try.underlying30 HI.out HZ0.out HZ1.out HZ2.out rfl (by omega) _ _ _ rfl ((own_below HO.out hb1).alloc _) ⟨w1.heap.size, 0, none⟩ 1 1 [.string (cutOf s ((st s n).1 + 4) (len3 s (st s n).1))] rfl rfl (one_cell _ w1) (one_one _) (by unfold maxLen; omega) (by omega) (by simp; omega) ?_
           intro v2 w2 hown2 hg2 _ hat2
           have hb2 : Below w.heap.size w w2 := ((hbw.trans (hb1.mono hbs)).alloc (Nat.le_trans hbs hb1s) _).grown hg2 (by simp; omega) (fun k hk => (HO.out.lt k hk).1)
           have HO2 := Lib.hid hown2
           clear hown2 hg2 hat2))
      go_roundw
      case rel => exact ⟨rfl, all_step HB.out HO2.out hb2⟩
      case measure => simp [Lib.intOf]; omega
    · by_cases h9 : wrong s (st s n).1 = 9
      · have HR := Lib.hid (read_bad h9 (by omega))
        have HW : Hid (whyOf s (st s n).1 = 0) := Lib.hid (by rw [whyOf, if_pos h9])
        have HB := Lib.hid h0
        clear h9 h0
        go_wp2_with (go_at_call 14
                     (with_reducible refine K.out.mono ?_)
                     rintro e w1 ⟨rfl, hb1⟩
                     rw [HR.out])
        try rw [Exit.noGoto_ret]
        go_ret3
        exact ⟨n, _, HB.out, by rw [HW.out]; rfl, own_below HO.out hb1, hbw.trans (hb1.mono hbs)⟩
      · have HR := Lib.hid (read_bad rfl h0)
        have HW : Hid (whyOf s (st s n).1 = wrong s (st s n).1) := Lib.hid (by rw [whyOf, if_neg h9])
        have t9 : ((wrong s (st s n).1 : Int) == 9) = false := by simp; omega
        have t0 : ((wrong s (st s n).1 : Int) != 0) = true := by simp; omega
        have HB := Lib.hid h0
        clear h9 h0
        go_wp2_with (go_at_call 14
                     (with_reducible refine K.out.mono ?_)
                     rintro e w1 ⟨rfl, hb1⟩
                     rw [HR.out])
        try rw [Exit.noGoto_ret]
        go_ret3
        exact ⟨n, _, HB.out, by rw [HW.out]; rfl, own_below HO.out hb1, hbw.trans (hb1.mono hbs)⟩
end Go.Proofs.Ytoknpadkkokbgaa
