/-
  The theorem NumsBack: its walk.
-/
import Derived.Test.YtllkflbkndfdeaaDoorEvBi
namespace Go.Proofs.YtllkflbkndfdeaaDoor
open Go Go.RowKit Go.Lib

theorem rdr_below {w w' : World} {g : Nat} {s : ByteArray} {a : Nat} (h : Rdr w g s a) (hb : Below w.heap.size w w') : Rdr w' g s a := by
  refine ⟨?_, ?_, ?_, Nat.lt_of_lt_of_le h.lt hb.size⟩
  · rw [hb.cell (p := ⟨g, 0, none⟩) h.lt]; exact h.c0
  · rw [hb.cell (p := ⟨g, 1, none⟩) h.lt]; exact h.c1
  · rw [hb.frozen (p := ⟨g, 1, none⟩) h.lt]; exact h.f1

theorem off_below {w w0 w2 W : World} (h0 : Below w.heap.size w w0) (h1 : Off w0.heap.size w0 w2) (h2 : Off w2.heap.size w2 W) : Below w.heap.size w W := by
  have s0 := h0.size
  have s1 := h1.size
  refine ⟨h2.os.trans (h1.os.trans h0.os), h2.tape.trans (h1.tape.trans h0.tape), h2.output.trans (h1.output.trans h0.output), Nat.le_trans s0 (Nat.le_trans s1 h2.size), fun k hk => ?_⟩
  rw [h2.block k (by omega) (by omega), h1.block k (by omega) (by omega)]
  exact h0.block k hk
theorem last_conv {wr W : World} {g o c3 : Nat} {X : ByteArray} {A3 : Option Addr} (ho : o ≤ X.size) (hw : wr.ownsRow (g + 1) 5 1 (.slice A3 o c3) o (u8s ((byts X).take o))) (hO : Off g wr W) :
    (convert 61 9 (.slice A3 o c3)).run Tryd.prog W = .ok (.string (X.extract 0 o)) W := by
  have hl : ((byts X).take o).length = o := by rw [List.length_take, byts_len]; omega
  have h1 := own_off hw hO (Nat.lt_succ_self g)
  have h2 := own_text (l := (byts X).take o) (A := A3) (c := c3) (fun y hy => byts_lt X y (List.mem_of_mem_take hy)) (by rw [hl]; exact h1)
  rw [hl, sb_take] at h2
  exact h2

set_option maxRecDepth 100000 in
set_option maxHeartbeats 6400000 in
theorem back_walk (A : Option Addr) (cp : Nat) (l : List Th) (s : ByteArray) (w : World) (_ : cp ≤ 9223372036854775807) (hl : l.length ≤ cp) (hA : l = [] ∨ ∃ ad : Addr, A = some ad ∧ ad.block < w.heap.size ∧ ∀ j x, l[j]? = some x → w.cell? (ad.add (j * 3)) = some (.int .u8 x.kd) ∧ w.cell? (ad.add (j * 3 + 1)) = some (.int .u64 x.n) ∧ w.cell? (ad.add (j * 3 + 2)) = some (.string x.str))
    (hok : ∀ x ∈ l, okTh x) (hs : s.size ≤ 9223372036854775807) (W : Calls Tryd.prog 24 #[] w fun e w' => e = .returned (.bool true) ∧ Below w.heap.size w w') :
    Calls Tryd.prog 5 #[.slice A l.length cp, .string s] w fun e w' => e = .returned (.bool true) ∧ Below w.heap.size w w' := by
  have HW := Lib.hid W
  clear W
  have HA := Lib.hid hA
  clear hA
  go_enter Tryd.func5, Tryd.ntmps5
  go_upto_region 3 with (go_at_call 24; (with_reducible refine HW.out.mono ?_); rintro e w1 ⟨rfl, hb1⟩)
  go_cut [0] (fun v wx => v = .slice A (l.take 30).length cp ∧ Below w.heap.size w wx)
  case first =>
    go_wp2_with fail
    go_meet
    exact ⟨congrArg (fun z => Value.slice A z cp) (by simp; omega), hb1⟩
  case rest =>
    clear HW hb1
    obtain ⟨rfl, hbw⟩ := hcut
    obtain ⟨t, ht⟩ : ∃ t, t = l.take 30 := ⟨_, rfl⟩
    have hok' : ∀ x ∈ t, okTh x := fun x hx => hok x (by rw [ht] at hx; exact List.mem_of_mem_take hx)
    have ht30 : t.length ≤ 30 := by rw [ht, List.length_take]; omega
    have HA2 := Lib.hid (show t = [] ∨ ∃ ad : Addr, A = some ad ∧ ad.block < w.heap.size ∧ ∀ j x, t[j]? = some x → w.cell? (ad.add (j * 3)) = some (.int .u8 x.kd) ∧ w.cell? (ad.add (j * 3 + 1)) = some (.int .u64 x.n) ∧ w.cell? (ad.add (j * 3 + 2)) = some (.string x.str) from by
      rcases HA.out with h0 | ⟨ad, h1, h2, h3⟩
      · left; rw [ht, h0]; rfl
      · refine .inr ⟨ad, h1, h2, fun j x hx => h3 j x ?_⟩
        rw [ht, List.getElem?_take] at hx
        split at hx
        · exact hx
        · cases hx)
    have HOK := Lib.hid hok'
    rw [← ht]
    clear ht hok' HA hok hl
    obtain ⟨i0, hi0, hz0, hz1, hz2⟩ := info_parts u8_info
    obtain ⟨i1, hj0, hy0, hy1, hy2⟩ := info_parts int_info
    have HI := Lib.hid hi0; clear hi0
    have HZ0 := Lib.hid hz0; clear hz0
    have HZ1 := Lib.hid hz1; clear hz1
    have HZ2 := Lib.hid hz2; clear hz2
    have HJ := Lib.hid hj0; clear hj0
    have HY0 := Lib.hid hy0; clear hy0
    have HY1 := Lib.hid hy1; clear hy1
    have HY2 := Lib.hid hy2; clear hy2
    go_wp2_with fail
    go_loopw [5, 6, 7] (fun b p i wr => ∃ k : Nat, i = .int .i64 k ∧ B1 t w b p k wr) (fun _ _ i _ => t.length - (Lib.intOf i).toNat)
    case atStart => exact ⟨0, rfl, Nat.zero_le _, World.ownsRow_nil _ _ _ _, World.ownsRow_nil _ _ _ _, (fun b hb => by cases hb), hbw⟩
    case round =>
      obtain ⟨k, rfl, hB⟩ := hrel
      have hbb := hB.hb
      have hbel := hB.below
      have hbs := hbel.size
      obtain ⟨Ab, cb, rfl, hrd⟩ := own_rd hB.hb
      have HB := Lib.hid hB
      have hkl := hB.kl
      have hlen : (tbs (t.take k)).length ≤ 3300 := by
        have := tbs_len (t.take k) (fun x hx => HOK.out x (List.mem_of_mem_take hx))
        rw [List.length_take] at this
        omega
      clear hB hbb hrd
      obtain ⟨Bs, hBs⟩ : ∃ Bs, Bs = tbs (t.take k) := ⟨_, rfl⟩
      rw [← hBs] at hlen ⊢
      have HBS := Lib.hid hBs
      clear hBs
      by_cases hlt : k < t.length
      · as_aux_lemma =>
        have hq : (k : Int) < (t.length : Int) := by omega
        rcases HA2.out with h0 | ⟨ad, rfl, hg, hcl⟩
        · subst h0; simp at hlt
        obtain ⟨c0, c1, c2⟩ := hcl k _ (List.getElem?_eq_getElem hlt)
        have hxo := HOK.out _ (List.getElem_mem hlt)
        obtain ⟨x, hxe⟩ : ∃ x, x = t[k] := ⟨_, rfl⟩
        rw [← hxe] at c0 c1 c2 hxo
        have HX := Lib.hid hxe
        clear hxe hcl
        obtain ⟨ox1, ox2, ox3⟩ := hxo
        have hq1 : wr.ownsRow w.heap.size 3 1 u6 k (plc t k) := HB.out.hp
        go_upto_region 9 with (fail)
        go_cut [6] (fun p wx => Below w.heap.size w wx ∧ wx.ownsRow w.heap.size 3 1 p (k + 1) (plc t (k + 1)) ∧ wx.ownsRow w.heap.size 5 1 (.slice Ab Bs.length cb) Bs.length (u8s Bs) ∧ ∀ x, (Value.slice Ab Bs.length cb).ownBlock = some x → p.ownBlock ≠ some x)
        case first =>
          have hpo := HB.out.hp
          have hbo := HB.out.hb
          have hap := HB.out.ap
          have hsn := plc_snoc t k
          rw [← HBS.out] at hbo hap hsn
          have HPO := Lib.hid hpo
          have HBO := Lib.hid hbo
          have HAP := Lib.hid hap
          have HSN := Lib.hid hsn
          clear hpo hbo hap hsn
          go_wp2_with (at_builtin
                       refine wpList_append_own_at _ rfl (.tmp 40) (.tmp 43) 72 rfl w.heap.size 3 i1 _ 1 8 Tryd.underlying72 HJ.out HY0.out HY1.out HY2.out rfl (by omega) _ _ _ rfl (HPO.out.alloc _) ⟨wr.heap.size, 0, none⟩ 1 1 [.int .i64 (Bs.length : Int)] rfl rfl (int_cell _ wr) (int_one _ _) (by unfold maxLen; omega) (by omega) (by simp; omega) ?_
                       intro v3 w3 hown3 hg3 _ hat3)
          go_wp2_with fail
          go_meet
          exact ⟨(hbel.alloc hbs _).grown hg3 (by simp; omega) (fun k hk => (HPO.out.lt k hk).1), by rw [HSN.out]; exact hown3, (HBO.out.alloc _).kept hg3 (apart_ne (apart_flip HAP.out)), fun x hx hpx => fresh_apart (apart_flip HAP.out) (HBO.out.alloc _) hat3 x hpx hx⟩
        case rest =>
          have HBk := Lib.hid HB.out.kl
          clear HB hbel hbs
          obtain ⟨hbel, hpo, hbo, hap⟩ := hcut
          have hbs := hbel.size
          have e0 : wc.cell? (ad.add (k * 3)) = some (.int .u8 x.kd) := (hbel.cell (p := ad.add (k * 3)) (by rw [blk_add]; exact hg)).trans c0
          have e1 : wc.cell? (ad.add (k * 3 + 1)) = some (.int .u64 x.n) := (hbel.cell (p := ad.add (k * 3 + 1)) (by rw [blk_add]; exact hg)).trans c1
          have e2 : wc.cell? (ad.add (k * 3 + 2)) = some (.string x.str) := (hbel.cell (p := ad.add (k * 3 + 2)) (by rw [blk_add]; exact hg)).trans c2
          rw [← addr_next ad (k * 3) 1 (by omega)] at e1
          rw [← addr_next ad (k * 3) 2 (by omega)] at e2
          have HPO := Lib.hid hpo
          have HBO := Lib.hid hbo
          have HAP := Lib.hid hap
          clear hpo hbo hap c0 c1 c2
          go_upto_region 10 with (fail)
          go_cut [8] (fun p wx => p = .pointer (some ⟨wc.heap.size, 0, none⟩) ∧ wx = wc.alloc (.cells #[.int .u8 x.kd, .int .u64 x.n, .string x.str] 74))
          case first =>
            go_wp2_with fail
            go_meet
            exact ⟨rfl, rfl⟩
          case rest =>
            clear e0 e1 e2
            obtain ⟨rfl, rfl⟩ := hcut
            have hR0 : Rd (wc.alloc (.cells #[.int .u8 x.kd, .int .u64 x.n, .string x.str] 74)) (wc.alloc (.cells #[.int .u8 x.kd, .int .u64 x.n, .string x.str] 74)).heap.size Ab Bs.length cb (u8s Bs) := own_rd' (HBO.out.alloc _)
            have h1 := hlt
            have hz0 : w.heap.size ≤ (wc.alloc (.cells #[.int .u8 x.kd, .int .u64 x.n, .string x.str] 74)).heap.size := by simp; omega
            have HZB := Lib.hid hz0
            clear hz0
            have hkd : x.kd % 5 = 0 ∨ x.kd % 5 = 1 ∨ x.kd % 5 = 2 ∨ x.kd % 5 = 3 ∨ x.kd % 5 = 4 := by omega
            rcases hkd with hkd | hkd | hkd | hkd | hkd
            · as_aux_lemma =>
              have hr : (x.kd : Int) % 5 = 0 := by omega
              have K := Lib.hid (P_any Ab Bs.length cb (u8s Bs) x.n _ hR0 (u8s_one _) ox2 (by omega))
              have HT : Hid (tb x = enc x.n) := Lib.hid (by unfold tb; rw [if_pos hkd])
              clear hR0 hkd
              go_wp2_with (go_at_call 25; (with_reducible refine K.out.mono ?_); rintro e w4 ⟨v4, rfl, ho4, hb4⟩; have HO4 := Lib.hid ho4; have HB4 := Lib.hid hb4; clear ho4 hb4)
              go_roundw
              case rel => exact ⟨k + 1, by go_num, b1_step HX.out h1 HBS.out HT.out (HO4.out.mono HZB.out) (own_below (HPO.out.alloc _) HB4.out) (new_apart HO4.out (HPO.out.alloc _)) ((hbel.alloc hbs _).trans (HB4.out.mono HZB.out))⟩
              case measure => simp [Lib.intOf]; omega
            · as_aux_lemma =>
              have hr : (x.kd : Int) % 5 = 1 := by omega
              have K := Lib.hid (PI_any Ab Bs.length cb (u8s Bs) (wrap64 x.n) _ hR0 (u8s_one _) (wrap64_range _).1 (wrap64_range _).2 (by omega))
              have HT : Hid (tb x = enc (zz (wrap64 x.n))) := Lib.hid (by unfold tb; rw [if_neg (by omega), if_pos hkd])
              clear hR0 hkd
              go_wp2_with (go_at_call 27; (with_reducible refine K.out.mono ?_); rintro e w4 ⟨v4, rfl, ho4, hb4⟩; have HO4 := Lib.hid ho4; have HB4 := Lib.hid hb4; clear ho4 hb4)
              go_roundw
              case rel => exact ⟨k + 1, by go_num, b1_step HX.out h1 HBS.out HT.out (HO4.out.mono HZB.out) (own_below (HPO.out.alloc _) HB4.out) (new_apart HO4.out (HPO.out.alloc _)) ((hbel.alloc hbs _).trans (HB4.out.mono HZB.out))⟩
              case measure => simp [Lib.intOf]; omega
            · as_aux_lemma =>
              have hr : (x.kd : Int) % 5 = 2 := by omega
              have HT : Hid (tb x = [x.n % 256]) := Lib.hid (by unfold tb; rw [if_neg (by omega), if_neg (by omega), if_pos hkd])
              have hon : ∀ u ∈ [Value.int .u8 ((x.n : Int) % 256)], u.oneCell' = true := int_one .u8 _
              have hcell : ∀ (j : Nat) u, [Value.int .u8 ((x.n : Int) % 256)][j]? = some u → ((wc.alloc (.cells #[.int .u8 x.kd, .int .u64 x.n, .string x.str] 74)).alloc (.cells #[.int .u8 ((x.n : Int) % 256)] 5)).cell? ((⟨wc.heap.size + 1, 0, none⟩ : Addr).add j) = some u := by
                have h := byte_cell ((x.n : Int) % 256) (wc.alloc (.cells #[.int .u8 x.kd, .int .u64 x.n, .string x.str] 74))
                rw [World.size_alloc] at h
                exact h
              have HC := Lib.hid hcell
              have HON := Lib.hid hon
              clear hR0 hkd hcell hon
              go_wp2_with (at_builtin
                           refine wpList_append_own_at _ rfl (.tmp 76) (.tmp 80) 61 rfl w.heap.size 5 i0 _ 1 1 Tryd.underlying61 HI.out HZ0.out HZ1.out HZ2.out rfl (by omega) _ _ _ rfl ((HBO.out.alloc _).alloc _) ⟨wc.heap.size + 1, 0, none⟩ 1 1 [.int .u8 ((x.n : Int) % 256)] rfl rfl HC.out HON.out (by unfold maxLen; omega) (by omega) (by simp; omega) ?_
                           intro v4 w4 hown4 hg4 _ hat4)
              go_roundw
              case rel => exact ⟨k + 1, by go_num, b1_step HX.out h1 HBS.out HT.out hown4 (((HPO.out.alloc _).alloc _).kept hg4 (apart_ne HAP.out)) (fresh_apart HAP.out ((HPO.out.alloc _).alloc _) hat4) (((hbel.alloc hbs _).alloc (by simp; omega) _).grown hg4 (by simp; omega) (fun k hk => (HBO.out.lt k hk).1))⟩
              case measure => simp [Lib.intOf]; omega
            · as_aux_lemma =>
              have hr : (x.kd : Int) % 5 = 3 := by omega
              have hp2 : x.n % 2 = 1 ∨ x.n % 2 = 0 := by omega
              rcases hp2 with hp2 | hp2
              · have hr2 : (x.n : Int) % 2 = 1 := by omega
                have K := Lib.hid (PBool_any Ab Bs.length cb (u8s Bs) true _ hR0 (u8s_one _) (by omega))
                have HT : Hid (tb x = enc (if true then 1 else 0)) := Lib.hid (by unfold tb; rw [if_neg (by omega), if_neg (by omega), if_neg (by omega), if_pos hkd, hp2]; rfl)
                clear hR0 hkd hp2
                go_wp2_with (go_at_call 29; (with_reducible refine K.out.mono ?_); rintro e w4 ⟨v4, rfl, ho4, hb4⟩; have HO4 := Lib.hid ho4; have HB4 := Lib.hid hb4; clear ho4 hb4)
                go_roundw
                case rel => exact ⟨k + 1, by go_num, b1_step HX.out h1 HBS.out HT.out (HO4.out.mono HZB.out) (own_below (HPO.out.alloc _) HB4.out) (new_apart HO4.out (HPO.out.alloc _)) ((hbel.alloc hbs _).trans (HB4.out.mono HZB.out))⟩
                case measure => simp [Lib.intOf]; omega
              · have hr2 : (x.n : Int) % 2 = 0 := by omega
                have K := Lib.hid (PBool_any Ab Bs.length cb (u8s Bs) false _ hR0 (u8s_one _) (by omega))
                have HT : Hid (tb x = enc (if false then 1 else 0)) := Lib.hid (by unfold tb; rw [if_neg (by omega), if_neg (by omega), if_neg (by omega), if_pos hkd, hp2]; rfl)
                clear hR0 hkd hp2
                go_wp2_with (go_at_call 29; (with_reducible refine K.out.mono ?_); rintro e w4 ⟨v4, rfl, ho4, hb4⟩; have HO4 := Lib.hid ho4; have HB4 := Lib.hid hb4; clear ho4 hb4)
                go_roundw
                case rel => exact ⟨k + 1, by go_num, b1_step HX.out h1 HBS.out HT.out (HO4.out.mono HZB.out) (own_below (HPO.out.alloc _) HB4.out) (new_apart HO4.out (HPO.out.alloc _)) ((hbel.alloc hbs _).trans (HB4.out.mono HZB.out))⟩
                case measure => simp [Lib.intOf]; omega
            · as_aux_lemma =>
              have hr : (x.kd : Int) % 5 = 4 := by omega
              have hcz := cut_size x.str
              have K : Hid (Calls Tryd.prog 31 #[.slice Ab Bs.length cb, .string (x.str.extract 0 (min (x.str.size : Int) 100).toNat)] (wc.alloc (.cells #[.int .u8 x.kd, .int .u64 x.n, .string x.str] 74)) _) := Lib.hid (PText_any Ab Bs.length cb (u8s Bs) (cut x.str) _ hR0 (u8s_one _) (by omega))
              have HT : Hid (tb x = enc (cut x.str).size ++ byts (cut x.str)) := Lib.hid (by unfold tb; rw [if_neg (by omega), if_neg (by omega), if_neg (by omega), if_neg (by omega)])
              have m1 : (0 : Int) ≤ min (x.str.size : Int) 100 := by omega
              have m2 : min (x.str.size : Int) 100 ≤ (x.str.size : Int) := by omega
              clear hR0 hkd
              go_wp2_with (go_at_call 31; (with_reducible refine K.out.mono ?_); rintro e w4 ⟨v4, rfl, ho4, hb4⟩; have HO4 := Lib.hid (text_own ho4); have HB4 := Lib.hid hb4; clear ho4 hb4)
              go_roundw
              case rel => exact ⟨k + 1, by go_num, b1_step HX.out h1 HBS.out HT.out (HO4.out.mono HZB.out) (own_below (HPO.out.alloc _) HB4.out) (new_apart HO4.out (HPO.out.alloc _)) ((hbel.alloc hbs _).trans (HB4.out.mono HZB.out))⟩
              case measure => simp [Lib.intOf]; omega
      · as_aux_lemma =>
        have hke : k = t.length := by omega
        subst hke
        obtain ⟨w0, hw0⟩ : ∃ w0, w0 = wr := ⟨_, rfl⟩
        subst hw0
        have hq : ¬ (t.length : Int) < (t.length : Int) := by omega
        have hown : w0.ownsRow w.heap.size 5 1 (.slice Ab Bs.length cb) Bs.length (u8s Bs) := by
          have := HB.out.hb
          rw [← HBS.out] at this
          exact this
        have hbt : Bs = tbs t := by rw [HBS.out, List.take_length]
        have hpl := HB.out.hp
        obtain ⟨AP, cpl, rfl, hrp⟩ := own_rd hpl
        have HB8 : Hid (∀ y ∈ Bs, y < 256) := Lib.hid (by rw [hbt]; exact tbs_lt t)
        obtain ⟨S, hS⟩ : ∃ S, S = sb Bs := ⟨_, rfl⟩
        have cv := own_text HB8.out hown
        rw [← hS] at cv
        have hSs : S.size = Bs.length := by rw [hS, sb_size]
        rw [← hSs] at cv ⊢
        have HLA : Hid (∀ k (h : k < t.length), (byts S).drop (tbs (t.take k)).length = tb (t[k]'h) ++ tbs (t.drop (k + 1))) := Lib.hid (by rw [hS, hbt]; exact laid_at t)
        have HSS := Lib.hid hSs
        have HRP := Lib.hid hrp
        have HBT := Lib.hid hbt
        clear hS hown hpl hrp HB hbt hSs
        go_wp2_with (go_at_call 8; (with_reducible refine (new_any S w0).mono ?_); rintro e w4 ⟨rfl, rfl⟩)
        have HCE := Lib.hid (plc_at t t.length)
        have hS3 : S.size ≤ 3300 := by rw [HSS.out]; exact hlen
        have HOL : Hid (∀ k, (tbs (t.take k)).length ≤ S.size) := Lib.hid (fun k => by rw [HSS.out, HBT.out]; exact off_le t k)
        clear cv hlen
        go_loopw [10] (fun i wr => ∃ k : Nat, i = .int .i64 k ∧ k ≤ t.length ∧ Rdr wr w0.heap.size S (tbs (t.take k)).length ∧ Off w0.heap.size w0 wr) (fun i _ => t.length - (Lib.intOf i).toNat)
        case atStart => exact ⟨0, rfl, Nat.zero_le _, new_rdr S w0, Off.below ((Below.refl _ _).alloc (Nat.le_refl _) _)⟩
        case round =>
          obtain ⟨k, rfl, hkl2, hR, hO⟩ := hrel
          by_cases hlt2 : k < t.length
          · as_aux_lemma =>
            have hq2 : (k : Int) < (t.length : Int) := by omega
            rcases HA2.out with h0 | ⟨ad, rfl, hg, hcl⟩
            · subst h0; simp at hlt2
            obtain ⟨c0, c1, c2⟩ := hcl k _ (List.getElem?_eq_getElem hlt2)
            have hxo := HOK.out _ (List.getElem_mem hlt2)
            have hla := HLA.out k hlt2
            have hsn := off_next t k hlt2
            have hol := HOL.out k
            have hce := HCE.out k hlt2
            obtain ⟨x, hxe⟩ : ∃ x, x = t[k] := ⟨_, rfl⟩
            rw [← hxe] at c0 c1 c2 hxo hla hsn
            clear hxe hcl
            have HSN := Lib.hid hsn
            clear hsn
            obtain ⟨off, hoff⟩ : ∃ o, o = (tbs (t.take k)).length := ⟨_, rfl⟩
            rw [← hoff] at hR hla hol hce
            have HOF := Lib.hid hoff
            clear hoff
            have HLX := Lib.hid hla
            obtain ⟨ox1, ox2, ox3⟩ := hxo
            obtain ⟨aP, rfl, hpb, hpc⟩ : ∃ aP, AP = some aP ∧ aP.block < w0.heap.size ∧ w0.cell? (aP.add k) = some (.int .i64 off) := by
              have hr := HRP.out
              cases AP with
              | none => have := (hr.2.1 rfl).1; omega
              | some aP => exact ⟨aP, rfl, (hr.2.2 aP rfl).1 (by omega), (hr.2.2 aP rfl).2 k _ hce⟩
            clear hla hce
            have hgx := hR.lt
            have hrs := hbs
            have e0 : wr.cell? (ad.add (k * 3)) = some (.int .u8 x.kd) := (hO.cellE (p := ad.add (k * 3)) (by rw [blk_add]; omega) (by rw [blk_add]; omega)).trans ((hbel.cell (p := ad.add (k * 3)) (by rw [blk_add]; exact hg)).trans c0)
            have e1 : wr.cell? (ad.add (k * 3 + 1)) = some (.int .u64 x.n) := (hO.cellE (p := ad.add (k * 3 + 1)) (by rw [blk_add]; omega) (by rw [blk_add]; omega)).trans ((hbel.cell (p := ad.add (k * 3 + 1)) (by rw [blk_add]; exact hg)).trans c1)
            have e2 : wr.cell? (ad.add (k * 3 + 2)) = some (.string x.str) := (hO.cellE (p := ad.add (k * 3 + 2)) (by rw [blk_add]; omega) (by rw [blk_add]; omega)).trans ((hbel.cell (p := ad.add (k * 3 + 2)) (by rw [blk_add]; exact hg)).trans c2)
            rw [← addr_next ad (k * 3) 1 (by omega)] at e1
            rw [← addr_next ad (k * 3) 2 (by omega)] at e2
            have ep : wr.cell? (aP.add k) = some (.int .i64 off) := (hO.cellE (p := aP.add k) (by rw [blk_add]; omega) (by rw [blk_add]; omega)).trans hpc
            have HEP := Lib.hid ep
            have HRX := Lib.hid hR
            clear c0 c1 c2 hpc ep hR
            go_upto_region 27 with (fail)
            go_cut [11] (fun p wy => p = .pointer (some ⟨wr.heap.size, 0, none⟩) ∧ wy = wr.alloc (.cells #[.int .u8 x.kd, .int .u64 x.n, .string x.str] 74))
            case first =>
              go_wp2_with fail
              go_meet
              exact ⟨rfl, rfl⟩
            case rest =>
              clear e0 e1 e2
              obtain ⟨rfl, rfl⟩ := hcut
              have HW1 : IntKind.i64.wrap ((S.size : Int) - (off : Int)) = (S.size : Int) - (off : Int) := IntWalk.i64_in _ (by omega)
              have hpx : (wr.alloc (.cells #[.int .u8 x.kd, .int .u64 x.n, .string x.str] 74)).cell? (aP.add k) = some (.int .i64 off) := by
                rw [((Below.refl wr.heap.size wr).alloc (Nat.le_refl _) _).cell (p := aP.add k) (by rw [blk_add]; omega)]
                exact HEP.out
              have hrx : Rdr (wr.alloc (.cells #[.int .u8 x.kd, .int .u64 x.n, .string x.str] 74)) w0.heap.size S off := HRX.out.alloc _
              have HO := Lib.hid hO
              have ho0 : Off w0.heap.size (wr.alloc (.cells #[.int .u8 x.kd, .int .u64 x.n, .string x.str] 74)) (wr.alloc (.cells #[.int .u8 x.kd, .int .u64 x.n, .string x.str] 74)) := Off.refl _ _
              clear hO
              obtain ⟨wa, hwa⟩ : ∃ wa, wa = wr.alloc (.cells #[.int .u8 x.kd, .int .u64 x.n, .string x.str] 74) := ⟨_, rfl⟩
              rw [← hwa] at hpx hrx ho0 ⊢
              have HWA := Lib.hid hwa
              clear hwa
              go_upto_region 29 with (fail)
              go_region_held3 (fun w' => w'.cell? (aP.add k) = some (.int .i64 off) ∧ Rdr w' w0.heap.size S off ∧ Off w0.heap.size wa w')
                (first | assumption | (exact ⟨hpx, Rdr.drewN hrx _, Off.drewN ho0 _⟩) | (exact ⟨by assumption, Rdr.drewN (by assumption) 1, Off.drewN (by assumption) 1⟩) | (have hs := ‹_ ∧ Rdr _ w0.heap.size S off ∧ Off w0.heap.size wa _›; exact ⟨hs.1, Rdr.drewN hs.2.1 _, Off.drewN hs.2.2 _⟩))
                (first | (go_at_call 20; (with_reducible refine (place_any S off w0.heap.size _ (‹_ ∧ Rdr _ w0.heap.size S off ∧ Off w0.heap.size wa _›).2.1).mono ?_); rintro e w5 ⟨rfl, rfl⟩) | (go_at_call 21; (with_reducible refine (left_any S off w0.heap.size _ (by omega) (by omega) (‹_ ∧ Rdr _ w0.heap.size S off ∧ Off w0.heap.size wa _›).2.1).mono ?_); rintro e w5 ⟨rfl, n5, rfl⟩))
              all_goals
                have hrw := hrx.drewN (1 + n5)
                have how := ho0.drewN (1 + n5)
                have hgl : wr.heap.size < wa.heap.size := by rw [HWA.out]; simp
                have D0 : (wa.drewN (1 + n5)).cell? ⟨wr.heap.size, 0, none⟩ = some (.int .u8 x.kd) := by rw [HWA.out]; simp
                have D1 : Hid ((wa.drewN (1 + n5)).cell? ⟨wr.heap.size, 1, none⟩ = some (.int .u64 x.n)) := Lib.hid (by rw [HWA.out]; simp)
                have D2 : Hid ((wa.drewN (1 + n5)).cell? ⟨wr.heap.size, 2, none⟩ = some (.string x.str)) := Lib.hid (by rw [HWA.out]; simp)
                have HRW := Lib.hid hrw
                have HOA : Hid (Off w0.heap.size w0 (wa.drewN (1 + n5))) := Lib.hid (by rw [HWA.out]; exact (HO.out.trans (Off.below ((Below.refl _ _).alloc (Nat.le_refl _) _))).drewN _)
                have HGL := Lib.hid hgl
                clear hpx hrx ho0 hrw how hgl HWA
              obtain ⟨wb, hwb⟩ : ∃ wb, wb = wa.drewN (1 + n5) := ⟨_, rfl⟩
              have hgb : wr.heap.size < wb.heap.size := by rw [hwb]; exact HGL.out
              rw [← hwb] at D0 D1 D2 HRW HOA ⊢
              clear hwb HGL
              have hz1 : S.size ≤ 140737488355328 := by omega
              have hkd : x.kd % 5 = 0 ∨ x.kd % 5 = 1 ∨ x.kd % 5 = 2 ∨ x.kd % 5 = 3 ∨ x.kd % 5 = 4 := by omega
              rcases hkd with hkd | hkd | hkd | hkd | hkd
              · as_aux_lemma =>
                have hr : (x.kd : Int) % 5 = 0 := by omega
                obtain ⟨b1, b2, b3⟩ := back_u ⟨ox1, ox2, ox3⟩ HLX.out hkd
                have K := U_any S off w0.heap.size wb hz1 hol HRW.out
                rw [b1, b2, b3] at K
                have HK := Lib.hid K
                clear K b1 b2 b3
                go_wp2_with (go_at_call 9; (with_reducible refine HK.out.mono ?_); rintro e w6 h6; obtain ⟨rfl, ho6, hr6⟩ := h6.good rfl; have d1 := (ho6.cellE (p := ⟨wr.heap.size, 1, none⟩) hgb (by show wr.heap.size ≠ w0.heap.size; omega)).trans D1.out; have HO6 := Lib.hid ho6; have HR6 := Lib.hid hr6; clear ho6 hr6)
                go_roundw
                case rel => exact ⟨k + 1, by go_num, by omega, (by have hh := HR6.out; rw [HOF.out, ← HSN.out] at hh; exact hh), HOA.out.trans ⟨HO6.out.os, HO6.out.tape, HO6.out.output, HO6.out.size, HO6.out.block⟩⟩
                case measure => simp [Lib.intOf]; omega
              · as_aux_lemma =>
                have hr : (x.kd : Int) % 5 = 1 := by omega
                obtain ⟨b1, b2, b3⟩ := back_i HLX.out hkd
                have K := I_any S off w0.heap.size wb hz1 hol HRW.out
                rw [b1, b2, b3] at K
                have HK := Lib.hid K
                clear K b1 b2 b3
                go_wp2_with (go_at_call 12; (with_reducible refine HK.out.mono ?_); rintro e w6 h6; obtain ⟨rfl, ho6, hr6⟩ := h6.good rfl; have d1 := (ho6.cellE (p := ⟨wr.heap.size, 1, none⟩) hgb (by show wr.heap.size ≠ w0.heap.size; omega)).trans D1.out; have HO6 := Lib.hid ho6; have HR6 := Lib.hid hr6; clear ho6 hr6)
                go_roundw
                case rel => exact ⟨k + 1, by go_num, by omega, (by have hh := HR6.out; rw [HOF.out, ← HSN.out] at hh; exact hh), HOA.out.trans ⟨HO6.out.os, HO6.out.tape, HO6.out.output, HO6.out.size, HO6.out.block⟩⟩
                case measure => simp [Lib.intOf]; omega
              · as_aux_lemma =>
                have hr : (x.kd : Int) % 5 = 2 := by omega
                obtain ⟨b1, b2, b3⟩ := back_b HLX.out hkd
                have K := Byte_any S off w0.heap.size wb hz1 hol HRW.out
                rw [b1, b2, b3] at K
                have HK := Lib.hid K
                clear K b1 b2 b3
                go_wp2_with (go_at_call 14; (with_reducible refine HK.out.mono ?_); rintro e w6 h6; obtain ⟨rfl, ho6, hr6⟩ := h6.good rfl; have d1 := (ho6.cellE (p := ⟨wr.heap.size, 1, none⟩) hgb (by show wr.heap.size ≠ w0.heap.size; omega)).trans D1.out; have HO6 := Lib.hid ho6; have HR6 := Lib.hid hr6; clear ho6 hr6)
                go_roundw
                case rel => exact ⟨k + 1, by go_num, by omega, (by have hh := HR6.out; rw [HOF.out, ← HSN.out] at hh; exact hh), HOA.out.trans ⟨HO6.out.os, HO6.out.tape, HO6.out.output, HO6.out.size, HO6.out.block⟩⟩
                case measure => simp [Lib.intOf]; omega
              · as_aux_lemma =>
                have hr : (x.kd : Int) % 5 = 3 := by omega
                have hp2 : x.n % 2 = 1 ∨ x.n % 2 = 0 := by omega
                rcases hp2 with hp2 | hp2
                · have hr2 : (x.n : Int) % 2 = 1 := by omega
                  obtain ⟨b1, b2, b3⟩ := back_t HLX.out hkd
                  have K := Bool_any S off w0.heap.size wb hz1 hol HRW.out
                  rw [b1, b2, b3, show decide (x.n % 2 = 1) = true from decide_eq_true hp2] at K
                  have HK := Lib.hid K
                  clear K b1 b2 b3
                  go_wp2_with (go_at_call 16; (with_reducible refine HK.out.mono ?_); rintro e w6 h6; obtain ⟨rfl, ho6, hr6⟩ := h6.good rfl; have d1 := (ho6.cellE (p := ⟨wr.heap.size, 1, none⟩) hgb (by show wr.heap.size ≠ w0.heap.size; omega)).trans D1.out; have HO6 := Lib.hid ho6; have HR6 := Lib.hid hr6; clear ho6 hr6)
                  go_roundw
                  case rel => exact ⟨k + 1, by go_num, by omega, (by have hh := HR6.out; rw [HOF.out, ← HSN.out] at hh; exact hh), HOA.out.trans ⟨HO6.out.os, HO6.out.tape, HO6.out.output, HO6.out.size, HO6.out.block⟩⟩
                  case measure => simp [Lib.intOf]; omega
                · have hr2 : (x.n : Int) % 2 = 0 := by omega
                  obtain ⟨b1, b2, b3⟩ := back_t HLX.out hkd
                  have K := Bool_any S off w0.heap.size wb hz1 hol HRW.out
                  rw [b1, b2, b3, show decide (x.n % 2 = 1) = false from decide_eq_false (by omega)] at K
                  have HK := Lib.hid K
                  clear K b1 b2 b3
                  go_wp2_with (go_at_call 16; (with_reducible refine HK.out.mono ?_); rintro e w6 h6; obtain ⟨rfl, ho6, hr6⟩ := h6.good rfl; have d1 := (ho6.cellE (p := ⟨wr.heap.size, 1, none⟩) hgb (by show wr.heap.size ≠ w0.heap.size; omega)).trans D1.out; have HO6 := Lib.hid ho6; have HR6 := Lib.hid hr6; clear ho6 hr6)
                  go_roundw
                  case rel => exact ⟨k + 1, by go_num, by omega, (by have hh := HR6.out; rw [HOF.out, ← HSN.out] at hh; exact hh), HOA.out.trans ⟨HO6.out.os, HO6.out.tape, HO6.out.output, HO6.out.size, HO6.out.block⟩⟩
                  case measure => simp [Lib.intOf]; omega
              · as_aux_lemma =>
                have hr : (x.kd : Int) % 5 = 4 := by omega
                have m1 : (0 : Int) ≤ min (x.str.size : Int) 100 := by omega
                have m2 : min (x.str.size : Int) 100 ≤ (x.str.size : Int) := by omega
                obtain ⟨b1, b2, b3⟩ := back_x HLX.out hkd
                have K := Text_any S off w0.heap.size 100 wb (by omega) (by omega) hz1 hol HRW.out
                rw [b1, b2, b3, show cut x.str = x.str.extract 0 (min (x.str.size : Int) 100).toNat from rfl] at K
                have HK := Lib.hid K
                clear K b1 b2 b3
                go_wp2_with (go_at_call 18; (with_reducible refine HK.out.mono ?_); rintro e w6 h6; obtain ⟨rfl, ho6, hr6⟩ := h6.good rfl; have d1 := (ho6.cellE (p := ⟨wr.heap.size, 2, none⟩) hgb (by show wr.heap.size ≠ w0.heap.size; omega)).trans D2.out; have HO6 := Lib.hid ho6; have HR6 := Lib.hid hr6; clear ho6 hr6)
                go_roundw
                case rel => exact ⟨k + 1, by go_num, by omega, (by have hh := HR6.out; rw [HOF.out, ← HSN.out] at hh; exact hh), HOA.out.trans ⟨HO6.out.os, HO6.out.tape, HO6.out.output, HO6.out.size, HO6.out.block⟩⟩
                case measure => simp [Lib.intOf]; omega
          · as_aux_lemma =>
            have hke2 : k = t.length := by omega
            subst hke2
            have hq2 : ¬ (t.length : Int) < (t.length : Int) := by omega
            have hz1 : S.size ≤ 140737488355328 := by omega
            have hR9 : Rdr wr w0.heap.size S S.size := by
              have hh := hR
              rw [List.take_length, ← HBT.out, ← HSS.out] at hh
              exact hh
            have HE := Lib.hid (end_ok S w0.heap.size wr hz1 hR9)
            have m1 : (0 : Int) ≤ min (s.size : Int) 100 := by omega
            have m2 : min (s.size : Int) 100 ≤ (s.size : Int) := by omega
            have HO2 := Lib.hid hO
            clear hR hR9 hO
            obtain ⟨w2, hw2⟩ : ∃ w2, w2 = wr := ⟨_, rfl⟩
            subst hw2
            go_wp2_with (first | (go_at_call 22; (with_reducible refine HE.out.mono ?_); rintro e w6 ⟨rfl, n6, rfl⟩) | (go_at_call 8; (with_reducible refine (new_any _ _).mono ?_); rintro e w7 ⟨rfl, rfl⟩))
            obtain ⟨X, hX⟩ : ∃ X, X = s.extract 0 (min (s.size : Int) 100).toNat := ⟨_, rfl⟩
            have hXs : X.size ≤ 100 := by rw [hX]; exact cut_size s
            rw [← hX]
            clear hX m1 m2 HE
            go_loopw [24] (fun v wx => ∃ o : Nat, o ≤ X.size ∧ Rdr wx w2.heap.size X o ∧ wx.ownsRow (w2.heap.size + 1) 5 1 v o (u8s ((byts X).take o)) ∧ Off w2.heap.size w2 wx) (fun _ wx => X.size - atOf wx w2.heap.size)
            case atStart => exact ⟨0, Nat.zero_le _, new_rdr X (w2.drewN n6), World.ownsRow_nil _ _ _ _, ((Off.refl _ _).drewN n6).trans (Off.below ((Below.refl _ _).alloc (Nat.le_refl _) _))⟩
            case round =>
              obtain ⟨o, ho, hR, hw, hO⟩ := hrel
              have HW3 := Lib.hid hw
              have HR3 := Lib.hid hR
              have HO3 := Lib.hid hO
              have hz2 : X.size ≤ 140737488355328 := by omega
              have LF := Lib.hid (left_any X o w2.heap.size wr hz2 ho hR)
              obtain ⟨A3, c3, rfl, hrd⟩ := own_rd hw
              clear hw hR hO hrd
              by_cases hlo : o < X.size
              · as_aux_lemma =>
                have hqo : (0 : Int) < (X.size : Int) - (o : Int) := by omega
                by_cases hb : bad X o = 0
                · as_aux_lemma =>
                  have HBD := Lib.hid hb
                  clear hb
                  go_wp2_with (first | (go_at_call 21; (with_reducible refine LF.out.mono ?_); rintro e w6 ⟨rfl, n7, rfl⟩) | (go_at_call 9; (with_reducible refine (U_any X o w2.heap.size _ hz2 ho (HR3.out.drewN _)).mono ?_); rintro e w7 h7; obtain ⟨rfl, ho7, hr7⟩ := h7.good HBD.out; have HO7 := Lib.hid ho7; have HR7 := Lib.hid hr7; clear ho7 hr7 h7) | (go_at_call 25; (with_reducible refine (P_any A3 o c3 (u8s ((byts X).take o)) (num X o) _ (own_rd' (own_off HW3.out (((Off.refl _ _).drewN _).trans HO7.out) (Nat.lt_succ_self _))) (u8s_one _) (num_lt X o) (by omega)).mono ?_); rintro e w8 ⟨v8, rfl, ho8, hb8⟩; have HO8 := Lib.hid ho8; have HB8 := Lib.hid hb8; clear ho8 hb8))
                  have hnx := again_len HBD.out
                  have hel := (enc_read HBD.out).2
                  have hen : 0 < (enc (num X o)).length := by unfold enc; simp
                  have m1 : atOf wr w2.heap.size = o := by unfold atOf; rw [HR3.out.c1]; simp [RowKit.intOf]
                  have hR8 : Rdr w8 w2.heap.size X (nxt X o) := rdr_below HR7.out HB8.out
                  have m2 : atOf w8 w2.heap.size = nxt X o := by unfold atOf; rw [hR8.c1]; simp [RowKit.intOf]
                  have HF := Lib.hid (show nxt X o ≤ X.size ∧ X.size - nxt X o < X.size - o by omega)
                  have HM := Lib.hid (show atOf wr w2.heap.size = o ∧ atOf w8 w2.heap.size = nxt X o from ⟨m1, m2⟩)
                  have HR8 := Lib.hid hR8
                  clear hnx hel hen m1 m2 hR8
                  go_roundw
                  case rel => exact ⟨nxt X o, HF.out.1, HR8.out, again_row HBD.out (HO8.out.mono HR7.out.lt), ((HO3.out.drewN _).trans HO7.out).trans (Off.below HB8.out)⟩
                  case measure => rw [HM.out.1, HM.out.2]; exact HF.out.2
                · as_aux_lemma =>
                  have HBD := Lib.hid hb
                  clear hb
                  go_wp2_with (first | (go_at_call 21; (with_reducible refine LF.out.mono ?_); rintro e w6 ⟨rfl, n7, rfl⟩) | (go_at_call 9; (with_reducible refine (U_any X o w2.heap.size _ hz2 ho (HR3.out.drewN _)).mono ?_); rintro e w7 h7; obtain ⟨F7, rfl, ho7, hr7⟩ := h7.fault HBD.out; have HO7 := Lib.hid ho7; have HR7 := Lib.hid hr7; clear ho7 hr7 h7))
                  have hR9 := HR7.out
                  have hoff := ((Off.refl w2.heap.size wr).drewN n7).trans HO7.out
                  obtain ⟨W, hWe⟩ : ∃ W, W = w7 := ⟨_, rfl⟩
                  subst hWe
                  clear HR7 HO7
                  have HCV := Lib.hid (fun W' (h : Off w2.heap.size wr W') => last_conv ho HW3.out h)
                  have hcv := HCV.out _ hoff
                  have e0 : ((o : Int) == (o : Int)) = true := by simp
                  have e1 : (0 : Int) ≤ (o : Int) := by omega
                  have e2 : (o : Int) ≤ (X.size : Int) := by omega
                  have HBW : Hid (Below w.heap.size w W) := Lib.hid (off_below hbel HO2.out (HO3.out.trans hoff))
                  clear HW3 HR3 HO3 LF
                  go_region_held3 (fun w' => (convert 61 9 (.slice A3 o c3)).run Tryd.prog w' = .ok (.string (X.extract 0 o)) w' ∧ Rdr w' w2.heap.size X o ∧ Off w2.heap.size wr w')
                    (first | assumption | (exact ⟨HCV.out _ (Off.drewN hoff _), Rdr.drewN hR9 _, Off.drewN hoff _⟩) | (have hs := ‹_ ∧ Rdr _ w2.heap.size X o ∧ Off w2.heap.size wr _›; exact ⟨HCV.out _ (Off.drewN hs.2.2 _), Rdr.drewN hs.2.1 _, Off.drewN hs.2.2 _⟩))
                    (first | (go_at_call 20; (with_reducible refine (place_any X o w2.heap.size _ (‹_ ∧ Rdr _ w2.heap.size X o ∧ Off w2.heap.size wr _›).2.1).mono ?_); rintro e w5 ⟨rfl, rfl⟩))
                  go_wp2_with fail
                  go_ret
                  exact ⟨rfl, HBW.out.drew⟩
              · as_aux_lemma =>
                have hqo : ¬ (0 : Int) < (X.size : Int) - (o : Int) := by omega
                go_wp2_with (go_at_call 21; (with_reducible refine LF.out.mono ?_); rintro e w6 ⟨rfl, n7, rfl⟩)
                have hR9 := HR3.out.drewN n7
                have hoff := (Off.refl w2.heap.size wr).drewN n7
                obtain ⟨W, hWe⟩ : ∃ W, W = wr.drewN n7 := ⟨_, rfl⟩
                rw [← hWe] at hR9 hoff ⊢
                clear hWe
                have HCV := Lib.hid (fun W' (h : Off w2.heap.size wr W') => last_conv ho HW3.out h)
                have hcv := HCV.out _ hoff
                have e0 : ((o : Int) == (o : Int)) = true := by simp
                have e1 : (0 : Int) ≤ (o : Int) := by omega
                have e2 : (o : Int) ≤ (X.size : Int) := by omega
                have HBW : Hid (Below w.heap.size w W) := Lib.hid (off_below hbel HO2.out (HO3.out.trans hoff))
                clear HW3 HR3 HO3 LF
                go_region_held3 (fun w' => (convert 61 9 (.slice A3 o c3)).run Tryd.prog w' = .ok (.string (X.extract 0 o)) w' ∧ Rdr w' w2.heap.size X o ∧ Off w2.heap.size wr w')
                  (first | assumption | (exact ⟨HCV.out _ (Off.drewN hoff _), Rdr.drewN hR9 _, Off.drewN hoff _⟩) | (have hs := ‹_ ∧ Rdr _ w2.heap.size X o ∧ Off w2.heap.size wr _›; exact ⟨HCV.out _ (Off.drewN hs.2.2 _), Rdr.drewN hs.2.1 _, Off.drewN hs.2.2 _⟩))
                  (first | (go_at_call 20; (with_reducible refine (place_any X o w2.heap.size _ (‹_ ∧ Rdr _ w2.heap.size X o ∧ Off w2.heap.size wr _›).2.1).mono ?_); rintro e w5 ⟨rfl, rfl⟩))
                go_wp2_with fail
                go_ret
                exact ⟨rfl, HBW.out.drew⟩
end Go.Proofs.YtllkflbkndfdeaaDoor
