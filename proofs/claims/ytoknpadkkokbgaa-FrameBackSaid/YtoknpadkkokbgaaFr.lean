/-
  The frames' theorem FrameBack: its walk: the rows that it lays.
-/
import Derived.Test.YtoknpadkkokbgaaFo
import Derived.Test.YtoknpadkkokbgaaFn
import Derived.Deep.CutBlock
namespace Go.Proofs.Ytoknpadkkokbgaa
open Go Go.RowKit Go.Lib

/-- A body that is cut to five hundred bytes. -/
def short (x : ByteArray) : ByteArray := x.extract 0 (min (x.size : Int) 500).toNat
theorem short_size (x : ByteArray) : (short x).size ≤ 500 := by unfold short; simp; omega
/-- How long the frames of the first bodies are, one behind the other: after each. -/
def places (L : List ByteArray) : List Value := (List.range L.length).map fun i => Value.int .i64 ((flat (L.take (i + 1))).length : Int)
theorem places_one (L : List ByteArray) : ∀ u ∈ places L, u.oneCell' = true := by
  intro u hu
  simp only [places, List.mem_map] at hu
  obtain ⟨_, _, rfl⟩ := hu
  rfl
theorem places_snoc (L : List ByteArray) (x : ByteArray) : places (L ++ [x]) = places L ++ [.int .i64 ((flat (L ++ [x])).length : Int)] := by
  unfold places
  rw [List.length_append, List.length_singleton, List.range_succ, List.map_append]
  congr 1
  · apply List.map_congr_left
    intro i hi
    have hi' : i < L.length := List.mem_range.1 hi
    rw [List.take_append_of_le_length (by omega)]
  · simp [List.take_of_length_le]
theorem flat_len (L : List ByteArray) (h : ∀ b ∈ L, b.size ≤ 500) : (flat L).length ≤ 505 * L.length := by
  induction L with
  | nil => simp [flat]
  | cons b L ih =>
    have := ih (fun x hx => h x (by simp [hx]))
    have hb := h b (by simp)
    simp [flat, frmL_len]
    omega
def lst (r : ByteArray) : List UInt8 := r.data.toList
/-- What stands behind k bodies. -/
structure Rows3 (l : List ByteArray) (w : World) (r own pl : Value) (k : Nat) (wr : World) : Prop where
  k20 : k ≤ 20
  kl : k ≤ l.length
  hr : ∃ R : ByteArray, r = .string R ∧ R.data.toList = flat ((l.take k).map short)
  ho : wr.ownsRow w.heap.size 9 1 own k (strs ((l.take k).map short))
  hp : wr.ownsRow w.heap.size 3 1 pl k (places ((l.take k).map short))
  apart : ∀ b, own.ownBlock = some b → pl.ownBlock ≠ some b
  below : Below w.heap.size w wr
theorem int_cell (x : Int) (W : World) : ∀ (j : Nat) u, [Value.int .i64 x][j]? = some u → (W.alloc (.cells #[.int .i64 x] 3)).cell? ((⟨W.heap.size, 0, none⟩ : Addr).add j) = some u := by
  intro j u hu
  rw [add_lit, Nat.zero_add, World.cell?_alloc_at _ _ _ _ rfl]
  simpa using hu
theorem int_one (x : Int) : ∀ u ∈ [Value.int .i64 x], u.oneCell' = true := by
  intro u hu
  simp at hu
  subst hu
  rfl
theorem int_info : (Try.prog.info? 3).map (fun i => (i.zero, i.size, i.bytes)) = some (some (.int .i64 0), 1, 8) := by kernel_rfl

theorem apart_ne {a b : Option Nat} (h : ∀ x, a = some x → b ≠ some x) : b = none ∨ b ≠ a := by
  cases b with
  | none => exact .inl rfl
  | some y => exact .inr fun e => h y e.symm rfl
theorem apart_flip {a b : Option Nat} (h : ∀ x, a = some x → b ≠ some x) : ∀ x, b = some x → a ≠ some x := fun x hb ha => h x ha hb
/-- A row that has grown is apart from another one, as it was. -/
theorem fresh_apart {w : World} {B e n : Nat} {v v' u : Value} {xs : List Value} (h : ∀ x, v.ownBlock = some x → u.ownBlock ≠ some x) (hu : w.ownsRow B e 1 u n xs) (hat : v'.ownBlock = v.ownBlock ∨ v'.ownBlock = some w.heap.size) : ∀ x, v'.ownBlock = some x → u.ownBlock ≠ some x := by
  intro x hx hux
  rcases hat with e1 | e1
  · exact h x (e1.symm.trans hx) hux
  · rw [e1] at hx
    cases hx
    have := (hu.lt _ hux).2
    omega
theorem rows3_step {l : List ByteArray} {w wr w4 : World} {R : ByteArray} {own pl v3 v4 : Value} {k : Nat} {x : ByteArray} (_h : Rows3 l w (.string R) own pl k wr) (h1 : k < l.length) (h2 : k < 20) (hx : x = l[k]) (hR : R.data.toList = flat ((l.take k).map short))
    (ho : w4.ownsRow w.heap.size 9 1 v3 (k + 1) (strs ((l.take k).map short) ++ [.string (short x)])) (hp : w4.ownsRow w.heap.size 3 1 v4 (k + 1) (places ((l.take k).map short) ++ [.int .i64 ((R.size : Int) + ((short x).size : Int) + 5)]))
    (ha : ∀ x, v3.ownBlock = some x → v4.ownBlock ≠ some x) (hb : Below w.heap.size w w4) : Rows3 l w (.string (R ++ frm (short x))) v3 v4 (k + 1) w4 := by
  have ht : (l.take (k + 1)).map short = (l.take k).map short ++ [short x] := by
    rw [List.take_succ_eq_append_getElem h1, List.map_append, hx]; rfl
  have hf : (R ++ frm (short x)).data.toList = flat ((l.take (k + 1)).map short) := by
    rw [ht, flat_append, ByteArray.data_append, Array.toList_append, hR, frm_list]
    simp [flat]
  refine ⟨by omega, by omega, ⟨_, rfl, hf⟩, ?_, ?_, ha, hb⟩
  · rw [ht]; simpa [strs] using ho
  · have e : ((R.size : Int) + ((short x).size : Int) + 5) = (((R ++ frm (short x)).size : Nat) : Int) := by
      rw [ByteArray.size_append, frm_size]; omega
    rw [e] at hp
    rw [ht, places_snoc, ← ht, ← hf, list_size]; exact hp

theorem all_flat {R : ByteArray} {L : List ByteArray} {post : List UInt8} (w : World) (hz : R.size ≤ 1073741824) (hl : ∀ b ∈ L, b.size ≤ 1048576) (hR : R.data.toList = flat L ++ post) (he : wrong R (flat L).length ≠ 0) :
    Calls Try.prog 12 #[.string R] w fun e w' => ∃ v, e = .returned (.tuple #[v, .int .i64 (flat L).length, .int .i64 (whyOf R (flat L).length)]) ∧ Lst w' v L ∧ Below w.heap.size w w' := by
  refine (all_any R w hz).mono ?_
  rintro e w' ⟨n, v, hn, rfl, ho, hb⟩
  have h1 := st_flat hl hR L.length (Nat.le_refl _)
  rw [List.take_length] at h1
  have hq := st_one (m := L.length) hn (by rw [h1]; exact he)
  rw [hq, h1] at ho ⊢
  exact ⟨v, rfl, own_lst ho, hb⟩
theorem own_lst' {w : World} {B k : Nat} {v : Value} {l : List ByteArray} (hk : l.length = k) (h : w.ownsRow B 9 1 v k (strs l)) : Lst w v l := by
  subst hk
  exact own_lst h

theorem cut_rows {R : ByteArray} {L : List ByteArray} {N q : Nat} (hR : R.data.toList = flat L ++ []) (hN : N ≤ R.size) (hF : (flat (L.take q)).length ≤ N) (he : q = L.length ∨ N < (flat (L.take (q + 1))).length) (hl : ∀ b ∈ L, b.size ≤ 1048576) :
    ∃ post, (R.extract 0 N).data.toList = flat (L.take q) ++ post ∧ wrong (R.extract 0 N) (flat (L.take q)).length = if (flat (L.take q)).length = N then 9 else 20 := by
  rw [List.append_nil] at hR
  have hz : (R.extract 0 N).size = N := by simp; omega
  have hlist : (R.extract 0 N).data.toList = (flat L).take N := by
    rw [ByteArray.data_extract, Array.toList_extract, hR]
    simp [List.extract_eq_take_drop]
  have hsplit : flat L = flat (L.take q) ++ flat (L.drop q) := by rw [← flat_append, List.take_append_drop]
  have h2 : (flat L).take N = flat (L.take q) ++ (flat (L.drop q)).take (N - (flat (L.take q)).length) := by
    rw [hsplit, List.take_append, List.take_of_length_le hF]
  refine ⟨_, hlist.trans h2, ?_⟩
  rcases Nat.lt_or_ge q L.length with h | h
  · have hd : L.drop q = L[q] :: L.drop (q + 1) := List.drop_eq_getElem_cons h
    have ht : L.take (q + 1) = L.take q ++ [L[q]] := List.take_succ_eq_append_getElem h
    have hlt : N < (flat (L.take q)).length + (L[q].size + 5) := by
      rcases he with he | he
      · omega
      · rw [ht, flat_append, List.length_append] at he
        simp [flat, frmL_len] at he
        omega
    have := at_torn (s := R.extract 0 N) (k := (flat (L.take q)).length) (m := N - (flat (L.take q)).length) (b := L[q]) (hl _ (List.getElem_mem _)) (by omega) (by omega) (by
      rw [hlist, h2, List.drop_left, hd]
      show (frmL L[q] ++ flat (L.drop (q + 1))).take _ = _
      rw [List.take_append_of_le_length (by rw [frmL_len]; omega)])
    rw [this]
    by_cases e : (flat (L.take q)).length = N
    · rw [if_pos (by omega), if_pos e]
    · rw [if_neg (by omega), if_neg e]
  · have e : L.take q = L := List.take_of_length_le h
    have e2 : (flat (L.take q)).length = N := by
      rw [e] at hF ⊢
      rw [← list_size, hR] at hN
      omega
    rw [if_pos e2, e2]
    unfold wrong
    rw [if_neg (by omega), if_pos (by omega)]

set_option maxRecDepth 100000 in
set_option maxHeartbeats 6400000 in
theorem back_any (v : Value) (l : List ByteArray) (c : Nat) (s : ByteArray) (w : World) (h : Lst w v l) (hl : l.length ≤ 9223372036854775807) (hls : ∀ x ∈ l, x.size ≤ 9223372036854775807) (hc : c < 65536) (hs : s.size ≤ 9223372036854775807) :
    Calls Try.prog 5 #[v, .int .u16 c, .string s] w (Yes w) := by
  obtain ⟨i0, hi0, hz0, hz1, hz2⟩ := info_parts str_info
  obtain ⟨i1, hj0, hy0, hy1, hy2⟩ := info_parts int_info
  have HI := Lib.hid hi0; clear hi0
  have HZ0 := Lib.hid hz0; clear hz0
  have HZ1 := Lib.hid hz1; clear hz1
  have HZ2 := Lib.hid hz2; clear hz2
  have HJ := Lib.hid hj0; clear hj0
  have HY0 := Lib.hid hy0; clear hy0
  have HY1 := Lib.hid hy1; clear hy1
  have HY2 := Lib.hid hy2; clear hy2
  obtain ⟨A, cp, rfl, h⟩ := h
  have H := Lib.hid h; clear h
  have HS := Lib.hid hls; clear hls
  have W := Lib.hid (works_any w)
  go_enter Try.func5, Try.ntmps5
  go_upto_block 0 with (go_at_call 9; (with_reducible refine W.out.mono ?_); rintro e w1 ⟨rfl, hb1⟩)
  go_cut [7, 8, 9] (fun r o p wx => ∃ k : Nat, Rows3 l w r o p k wx)
  case first =>
    go_wp2_with fail
    go_loopw [7, 8, 9, 10] (fun r o p i wr => ∃ k : Nat, i = .int .i64 k ∧ Rows3 l w r o p k wr) (fun _ _ _ i _ => 20 - (Lib.intOf i).toNat)
    case atStart =>
      exact ⟨0, rfl, Nat.zero_le _, Nat.zero_le _, ⟨⟨#[]⟩, rfl, rfl⟩, World.ownsRow_nil _ _ _ _, World.ownsRow_nil _ _ _ _, (fun b hb => by cases hb), hb1⟩
    case round =>
      clear W
      obtain ⟨k, rfl, hR⟩ := hrel
      have HR := Lib.hid hR
      clear hR
      by_cases hlt : k < l.length ∧ k < 20
      · obtain ⟨h1, h2⟩ := hlt
        rcases H.out with h0 | ⟨ad, rfl, hg, hcl⟩
        · subst h0; simp at h1
        have hb := HR.out.below
        have hbs := hb.size
        have k1 : wr.cell? (ad.add k) = some (.string l[k]) := (hb.cell (p := ad.add k) (by rw [blk_add]; exact hg)).trans (hcl k _ (List.getElem?_eq_getElem h1))
        have hx := HS.out _ (List.getElem_mem h1)
        have hq : (k : Int) < (l.length : Int) := by omega
        clear hcl
        obtain ⟨x, hxe⟩ : ∃ x, x = l[k] := ⟨_, rfl⟩
        rw [← hxe] at k1 hx
        have HX := Lib.hid hxe
        clear hxe
        have hm1 : (0 : Int) ≤ min (x.size : Int) 500 := by omega
        have hm2 : min (x.size : Int) 500 ≤ (x.size : Int) := by omega
        go_upto_region 9 with (fail)
        go_cut [11] (fun v wx => v = .string (short x) ∧ ∃ n, wx = wr.drewN n)
        case first =>
          go_quiet (fail)
          go_wp2_with fail
          go_meet
          exact ⟨rfl, _, rfl⟩
        case rest =>
          clear k1 hx hm1 hm2
          obtain ⟨rfl, n, rfl⟩ := hcut
          obtain ⟨R, rfl, hR⟩ := HR.out.hr
          have HRL := Lib.hid hR
          clear hR
          have hlk : (l.take k).length = k := by rw [List.length_take]; have := HR.out.kl; omega
          have hRz : R.size ≤ 505 * k := by
            have := flat_len ((l.take k).map short) (by intro b hb; obtain ⟨y, _, rfl⟩ := List.mem_map.1 hb; exact short_size y)
            rw [← list_size, HRL.out]
            rw [List.length_map, hlk] at this
            exact this
          have hsx := short_size x
          have hfx := frm_size (short x)
          have P := Lib.hid (put_ok (short x) (by omega))
          have zz : (R ++ frm (short x)).size = R.size + (short x).size + 5 := by rw [ByteArray.size_append, hfx]; omega
          clear hlk
          have h20 := HR.out.k20
          go_wp2_with (first
            | (go_at_call 7
               (with_reducible refine (P.out _).mono ?_)
               rintro e w2 ⟨rfl, hb2⟩
               have hb2s := hb2.size
               have hbr2 : Below wr.heap.size wr w2 := (below_drewN _ _ _).trans hb2
               have HO2 := Lib.hid (own_below HR.out.ho hbr2)
               have HP2 := Lib.hid (own_below HR.out.hp hbr2)
               have hbw2 : Below w.heap.size w w2 := hb.trans (hbr2.mono hbs)
               have hbw2s := hbw2.size)
            | (at_builtin
               refine wpList_append_own_at _ rfl (.tmp 57) (.tmp 59) 30 rfl w.heap.size 9 i0 _ 1 16 Try.underlying30 HI.out HZ0.out HZ1.out HZ2.out rfl (by omega) _ _ _ rfl (HO2.out.alloc _) ⟨w2.heap.size, 0, none⟩ 1 1 [.string (short x)] rfl rfl (one_cell _ w2) (one_one _) (by unfold maxLen; omega) (by omega) (by simp; omega) ?_
               intro v3 w3 hown3 hg3 _ hat3
               have hb3 : Below w.heap.size w w3 := (hbw2.alloc hbw2s _).grown hg3 (by simp; omega) (fun k hk => (HO2.out.lt k hk).1)
               have hb3s := hb3.size
               have HP3 := Lib.hid ((HP2.out.alloc _).kept hg3 (apart_ne HR.out.apart))
               have HO3 := Lib.hid hown3
               have HA3 := Lib.hid (fresh_apart HR.out.apart (HP2.out.alloc _) hat3)
               clear hown3 hg3 hat3)
            | (at_builtin
               refine wpList_append_own_at _ rfl (.tmp 64) (.tmp 67) 39 rfl w.heap.size 3 i1 _ 1 8 Try.underlying39 HJ.out HY0.out HY1.out HY2.out rfl (by omega) _ _ _ rfl (HP3.out.alloc _) ⟨w3.heap.size, 0, none⟩ 1 1 [.int .i64 ((R.size : Int) + ((short x).size : Int) + 5)] rfl rfl (int_cell _ w3) (int_one _) (by unfold maxLen; omega) (by omega) (by simp; omega) ?_
               intro v4 w4 hown4 hg4 _ hat4
               have hb4 : Below w.heap.size w w4 := (hb3.alloc hb3s _).grown hg4 (by simp; omega) (fun k hk => (HP3.out.lt k hk).1)
               have HO4 := Lib.hid ((HO3.out.alloc _).kept hg4 (apart_ne (apart_flip HA3.out)))
               have HP4 := Lib.hid hown4
               have HA4 := Lib.hid (fresh_apart (apart_flip HA3.out) (HO3.out.alloc _) hat4)
               clear hown4 hg4 hat4))
          go_roundw
          case rel => exact ⟨k + 1, by go_num, rows3_step HR.out h1 h2 HX.out HRL.out HO4.out HP4.out (apart_flip HA4.out) hb4⟩
          case measure => simp [Lib.intOf]; omega
      · by_cases h1 : k < l.length
        · have h2 : k = 20 := by
            have := HR.out.k20
            omega
          have t1 : decide ((k : Int) < 20) = false := decide_eq_false (by omega)
          go_wp2
          go_meet
          exact ⟨k, HR.out⟩
        · have t1 : decide ((k : Int) < (l.length : Int)) = false := decide_eq_false (by omega)
          go_wp2
          go_meet
          exact ⟨k, HR.out⟩
  case rest =>
    clear W hb1 HS
    obtain ⟨k, hR⟩ := hcut
    have HR := Lib.hid hR
    obtain ⟨R, rfl, hRL⟩ := hR.hr
    clear hR
    obtain ⟨L, hL⟩ : ∃ L, L = (l.take k).map short := ⟨_, rfl⟩
    have hlk : L.length = k := by rw [hL, List.length_map, List.length_take]; have := HR.out.kl; omega
    have h20 := HR.out.k20
    have hLs : ∀ b ∈ L, b.size ≤ 500 := by
      intro b hb
      rw [hL] at hb
      obtain ⟨y, _, rfl⟩ := List.mem_map.1 hb
      exact short_size y
    have HO := Lib.hid (HR.out.ho)
    have HP := Lib.hid (HR.out.hp)
    rw [← hL] at HO HP hRL
    have hbw := HR.out.below
    have hRz : R.size ≤ 10100 := by
      have := flat_len L hLs
      rw [← list_size, hRL]
      omega
    clear hL HR HI HZ0 HZ1 HZ2 HJ HY0 HY1 HY2 H
    have hbws := hbw.size
    have hRe : wrong R (flat L).length = 9 := by
      have e : (flat L).length = R.size := by rw [← hRL, list_size]
      rw [e]
      unfold wrong
      rw [if_neg (by omega), if_pos rfl]
    have hL1 : ∀ b ∈ L, b.size ≤ 1048576 := fun b hb => by have := hLs b hb; omega
    have K1 := Lib.hid (fun w => all_flat (R := R) (L := L) (post := []) w (by omega) hL1 (by rw [List.append_nil]; exact hRL) (by rw [hRe]; omega))
    have e1 : (flat L).length = R.size := by rw [← hRL, list_size]
    have e2 : whyOf R (flat L).length = 0 := by unfold whyOf; rw [if_pos hRe]
    rw [e2, e1] at K1
    have HRL := Lib.hid hRL
    have HE := Lib.hid e1
    have HLS := Lib.hid hL1
    have HK := Lib.hid hlk
    clear e2 e1 hRe hRL hLs hL1 hlk
    obtain ⟨Nn, hNn⟩ : ∃ Nn, Nn = c % (R.size + 1) := ⟨_, rfl⟩
    have hN1 : Nn ≤ R.size := by have := Nat.mod_lt c (show 0 < R.size + 1 by omega); omega
    have W0 : IntKind.i64.wrap (c : Int) = (c : Int) := IntWalk.i64_in _ (by omega)
    have W1 : IntKind.i64.wrap ((R.size : Int) + 1) = (R.size : Int) + 1 := IntWalk.i64_in _ (by omega)
    have T0 : (c : Int).tmod ((R.size : Int) + 1) = (c : Int) % ((R.size : Int) + 1) := Int.tmod_eq_emod_of_nonneg (by omega)
    have nz' : (R.size : Int) + 1 ≠ 0 := by omega
    have HNn := Lib.hid (show (c : Int) % ((R.size : Int) + 1) = (Nn : Int) by rw [hNn]; simp)
    clear hNn
    go_upto_region 19 with (first
      | (go_at_call 12
         (with_reducible refine (K1.out _).mono ?_)
         rintro e w2 ⟨v2, rfl, hL2, hb2⟩
         have hb2s := hb2.size
         have L2 := Lib.hid hL2
         have LO := Lib.hid ((own_lst' HK.out (own_below HO.out hb2)))
         clear hL2)
      | (go_at_call 13
         (with_reducible refine (texts_any L _ _ _ L2.out LO.out (by rw [HK.out]; omega)).mono ?_)
         rintro e w3 ⟨rfl, n3, rfl⟩))
    go_cut [17] (fun v wx => v = .int .i64 (Nn : Int) ∧ Below w.heap.size w wx ∧ wx.ownsRow w.heap.size 9 1 u8 k (strs L) ∧ wx.ownsRow w.heap.size 3 1 u9 k (places L))
    case first =>
      go_wp2_with fail
      go_meet
      have hb3 := hb2.trans (below_drewN _ w2 n3)
      exact ⟨by rw [HNn.out], hbw.trans (hb3.mono hbws), own_below HO.out hb3, own_below HP.out hb3⟩
    case rest =>
      clear HO HP K1 L2 LO hb2 hb2s W0 W1 T0 nz' HNn
      obtain ⟨rfl, hbw, hO, hP⟩ := hcut
      have HO := Lib.hid hO
      have HP := Lib.hid hP
      clear hO hP
      go_upto_block 2 with (fail)
      go_cut [18, 19] (fun i E wx => wx = wc ∧ ∃ q : Nat, i = .int .i64 q ∧ E = .int .i64 (flat (L.take q)).length ∧ q ≤ k ∧ (flat (L.take q)).length ≤ Nn ∧ (q = k ∨ Nn < (flat (L.take (q + 1))).length))
      case first =>
        go_wp2_with fail
        go_loopw [18, 19] (fun i E wr => wr = wc ∧ ∃ q : Nat, i = .int .i64 q ∧ E = .int .i64 (flat (L.take q)).length ∧ q ≤ k ∧ (flat (L.take q)).length ≤ Nn) (fun i _ _ => k - (Lib.intOf i).toNat)
        case atStart => exact ⟨rfl, 0, rfl, rfl, Nat.zero_le _, Nat.zero_le _⟩
        case round =>
          obtain ⟨rfl, q, rfl, rfl, hqk, hqN⟩ := hrel
          by_cases h1 : q < k
          · rcases HP.out.2 with ⟨_, h0⟩ | ⟨g, cap, cur, hu, _⟩
            · omega
            · subst hu
              have hc := HP.out.cells (g := g) rfl q (.int .i64 ((flat (L.take (q + 1))).length : Nat)) (by simp [places, HK.out, h1])
              rw [add_lit, Nat.zero_add] at hc
              have hq : (q : Int) < (k : Int) := by omega
              obtain ⟨F, hF⟩ : ∃ F, F = (flat (L.take (q + 1))).length := ⟨_, rfl⟩
              obtain ⟨E, hE⟩ : ∃ E, E = (flat (L.take q)).length := ⟨_, rfl⟩
              rw [← hF] at hc
              rw [← hE] at hqN ⊢
              have HF := Lib.hid hF
              have HEq := Lib.hid hE
              clear hF hE
              by_cases h2 : F ≤ Nn
              · have hq2 : (F : Int) ≤ (Nn : Int) := by omega
                go_wp2
                go_roundw
                case rel => exact ⟨(by first | trivial | rfl), q + 1, by go_num, by rw [HF.out], by omega, by rw [← HF.out]; exact h2⟩
                case measure => simp [Lib.intOf]; omega
              · have hq2 : (Nn : Int) < (F : Int) := by omega
                go_wp2
                go_meet
                exact ⟨(by first | trivial | rfl), q, rfl, by rw [HEq.out], hqk, by rw [← HEq.out]; exact hqN, .inr (by rw [← HF.out]; omega)⟩
          · have t1 : decide ((q : Int) < (k : Int)) = false := decide_eq_false (by omega)
            rcases HP.out.2 with ⟨hu, h0⟩ | ⟨g, cap, cur, hu, _⟩
            all_goals
              subst hu
              have hkq : ¬ (q : Int) < (k : Int) := by omega
              go_wp2
              go_meet
              exact ⟨(by first | trivial | rfl), q, rfl, rfl, hqk, hqN, .inl (by omega)⟩
      case rest =>
        clear HP
        obtain ⟨rfl, q, rfl, rfl, hqk, hqN, hq⟩ := hcut
        obtain ⟨post, hp1, hp2⟩ := cut_rows (L := L) (by rw [List.append_nil]; exact HRL.out) hN1 hqN (by rw [HK.out]; exact hq) HLS.out
        have hps : (R.extract 0 Nn).size = Nn := by simp; omega
        have K2 := Lib.hid (fun w => all_flat (R := R.extract 0 Nn) (L := L.take q) (post := post) w (by omega) (fun b hb => HLS.out b (List.mem_of_mem_take hb)) hp1 (by rw [hp2]; split <;> omega))
        obtain ⟨Y, hY⟩ : ∃ Y : Nat, Y = whyOf (R.extract 0 Nn) (flat (L.take q)).length := ⟨_, rfl⟩
        have hYc : (flat (L.take q)).length = Nn ∧ Y = 0 ∨ (flat (L.take q)).length ≠ Nn ∧ Y = 20 := by
          rw [hY, whyOf, hp2]
          by_cases e : (flat (L.take q)).length = Nn
          · left; simp [e]
          · right; simp [e]
        rw [← hY] at K2
        obtain ⟨E, hE⟩ : ∃ E, E = (flat (L.take q)).length := ⟨_, rfl⟩
        rw [← hE] at K2 hYc hqN ⊢
        clear hE hY hp1 hp2 hq
        have hbws2 := hbw.size
        go_upto_region 25 with (go_at_call 12; (with_reducible refine (K2.out _).mono ?_); rintro e w2 ⟨v2, rfl, hL2, hb2⟩)
        go_cut [147] (fun v wx => v = .bool false ∧ Below w.heap.size w wx)
        case first =>
          have L2 := Lib.hid hL2
          have HO2 := Lib.hid (own_below HO.out hb2)
          clear hL2
          have hqi : (q : Int) ≤ (k : Int) := by omega
          have hbw2 := hbw.trans (hb2.mono hbws2)
          have hlq : (L.take q).length = q := by rw [List.length_take, HK.out]; omega
          have HLQ := Lib.hid hlq
          clear hlq
          rcases HO2.out.2 with ⟨hu, h0⟩ | ⟨g, cap, cur, hu, hgB, hgh, hkc, hcm, _⟩
          · subst hu
            obtain rfl : q = 0 := by omega
            have T1 := Lib.hid (texts_any [] v2 (.slice none 0 0) w2 L2.out ⟨none, 0, rfl, .inl rfl⟩ (by simp))
            clear HLQ L2 HO2 K2
            rcases hYc with ⟨rfl, rfl⟩ | ⟨hne, rfl⟩
            · go_wp2_with (go_at_call 13; (with_reducible refine T1.out.mono ?_); rintro e w3 ⟨rfl, n3, rfl⟩)
              go_meet
              exact ⟨rfl, hbw2.trans (below_drewN _ _ _)⟩
            · have hne' : ((E : Int) == (Nn : Int)) = false := by simp; omega
              go_wp2_with (go_at_call 13; (with_reducible refine T1.out.mono ?_); rintro e w3 ⟨rfl, n3, rfl⟩)
              go_meet
              exact ⟨rfl, hbw2.trans (below_drewN _ _ _)⟩
          · subst hu
            have hgw : g < w2.heap.size := by
              rcases Nat.lt_or_ge g w2.heap.size with h1 | h1
              · exact h1
              · rw [Array.getElem?_eq_none h1] at hgh; cases hgh
            have LL : Lst w2 (.slice (some ⟨g, 0, none⟩) q cap) (L.take q) := by
              refine ⟨some ⟨g, 0, none⟩, cap, by rw [HLQ.out], .inr ⟨⟨g, 0, none⟩, rfl, hgw, fun j x hx => ?_⟩⟩
              have hj : j < q := by
                have := (List.getElem?_eq_some_iff.1 hx).1
                rw [HLQ.out] at this
                exact this
              rw [List.getElem?_take, if_pos hj] at hx
              exact HO2.out.cells (g := g) rfl j (.string x) (by simp [strs, hx])
            have T1 := Lib.hid (texts_any (L.take q) v2 _ w2 L2.out LL (by rw [HLQ.out]; omega))
            have hgh' := Lib.hid hgh
            clear HLQ L2 HO2 K2 LL hgh hgB
            rcases hYc with ⟨rfl, rfl⟩ | ⟨hne, rfl⟩
            · go_wp2_with (go_at_call 13; (with_reducible refine T1.out.mono ?_); rintro e w3 ⟨rfl, n3, rfl⟩)
              go_meet
              exact ⟨rfl, hbw2.trans (below_drewN _ _ _)⟩
            · have hne' : ((E : Int) == (Nn : Int)) = false := by simp; omega
              go_wp2_with (go_at_call 13; (with_reducible refine T1.out.mono ?_); rintro e w3 ⟨rfl, n3, rfl⟩)
              go_meet
              exact ⟨rfl, hbw2.trans (below_drewN _ _ _)⟩
        case rest =>
          clear hYc K2 HO HK HLS HE HRL hbws2 hb2 hL2
          obtain ⟨rfl, hbw⟩ := hcut
          go_upto_region 27 with (fail)
          go_cut [2] (fun v wx => (∃ t : ByteArray, v = .string t ∧ t.size ≤ 500) ∧ wx = wc)
          case first =>
            have m1 : (0 : Int) ≤ min (s.size : Int) 500 := by omega
            have m2 : min (s.size : Int) 500 ≤ (s.size : Int) := by omega
            go_wp2_with fail
            go_meet
            exact ⟨⟨short s, rfl, short_size s⟩, (by first | trivial | rfl)⟩
          case rest =>
            obtain ⟨⟨t, rfl, ht⟩, rfl⟩ := hcut
            have K3 := Lib.hid (all_any t wc (by omega))
            have hbws := hbw.size
            go_wp2_with (go_at_call 12; (with_reducible refine K3.out.mono ?_); rintro e w2 ⟨n, v, _, rfl, ho, hb2⟩)
            have hL := own_lst ho
            have hst := st_le t n
            have hag := st_again (s := t) n
            have hsm := st_small (s := t) n
            obtain ⟨B, hB⟩ : ∃ B, B = (st t n).2 := ⟨_, rfl⟩
            obtain ⟨a, ha⟩ : ∃ a, a = (st t n).1 := ⟨_, rfl⟩
            rw [← hB, ← ha] at hst hag
            rw [← hB] at hL hsm
            rw [← ha]
            clear hB ha ho
            obtain ⟨A2, c2, rfl, hL⟩ := hL
            have HL := Lib.hid hL
            have HAG := Lib.hid hag
            have HSM := Lib.hid hsm
            clear hL hag hsm
            have hbw2 := hbw.trans (hb2.mono hbws)
            have hBl : B.length ≤ 500 := by omega
            go_loopw [23, 24] (fun g i wr => (∃ (j : Nat) (G : ByteArray), i = .int .i64 j ∧ j ≤ B.length ∧ g = .string G ∧ G.data.toList = flat (B.take j)) ∧ Below w2.heap.size w2 wr) (fun _ i _ => B.length - (Lib.intOf i).toNat)
            case atStart => exact ⟨⟨0, ⟨#[]⟩, rfl, Nat.zero_le _, rfl, rfl⟩, Below.refl _ _⟩
            case round =>
              obtain ⟨⟨j, G, rfl, hj, rfl, hG⟩, hbr⟩ := hrel
              have HG := Lib.hid hG
              clear hG
              by_cases hlt : j < B.length
              · rcases HL.out with h0 | ⟨ad, rfl, hg, hcl⟩
                · subst h0; simp at hlt
                have k1 : wr.cell? (ad.add j) = some (.string B[j]) := (hbr.cell (p := ad.add j) (by rw [blk_add]; exact hg)).trans (hcl j _ (List.getElem?_eq_getElem hlt))
                have hx := HSM.out _ (List.getElem_mem hlt)
                have hq : (j : Int) < (B.length : Int) := by omega
                have hnx : (G ++ frm B[j]).data.toList = flat (B.take (j + 1)) := by
                  rw [List.take_succ_eq_append_getElem hlt, flat_append, ByteArray.data_append, Array.toList_append, HG.out, frm_list]
                  simp [flat]
                have hnz : (G ++ frm B[j]).size ≤ 500 := by
                  rw [← list_size, hnx]
                  have h1 : (flat B).length ≤ 500 := by rw [← HAG.out, List.length_take, list_size]; omega
                  have h2 : flat B = flat (B.take (j + 1)) ++ flat (B.drop (j + 1)) := by rw [← flat_append, List.take_append_drop]
                  rw [h2, List.length_append] at h1
                  omega
                have hz1 : G.size ≤ 500 := by rw [ByteArray.size_append] at hnz; omega
                have hz2 : (frm B[j]).size ≤ 500 := by rw [ByteArray.size_append] at hnz; omega
                have HN := Lib.hid hnx
                clear hnx hnz hcl
                obtain ⟨x, hxe⟩ : ∃ x, x = B[j] := ⟨_, rfl⟩
                rw [← hxe] at k1 hx HN hz2
                clear hxe
                have P := Lib.hid (put_ok x hx)
                go_wp2_with (go_at_call 7; (with_reducible refine (P.out _).mono ?_); rintro e w3 ⟨rfl, hb3⟩)
                go_roundw
                case rel => exact ⟨⟨j + 1, _, by go_num, by omega, rfl, HN.out⟩, hbr.trans (hb3.mono hbr.size)⟩
                case measure => simp [Lib.intOf]; omega
              · obtain rfl : j = B.length := by omega
                have hfin : t.extract 0 a = G := by
                  apply ByteArray.ext
                  apply Array.ext'
                  rw [ByteArray.data_extract, Array.toList_extract, HG.out, List.take_length, ← HAG.out]
                  simp [List.extract_eq_take_drop]
                have a1 : (0 : Int) ≤ (a : Int) := by omega
                have a2 : (a : Int) ≤ (t.size : Int) := by omega
                go_wp2
                go_ret
                exact ⟨rfl, hbw2.trans (hbr.mono hbw2.size)⟩
end Go.Proofs.Ytoknpadkkokbgaa
