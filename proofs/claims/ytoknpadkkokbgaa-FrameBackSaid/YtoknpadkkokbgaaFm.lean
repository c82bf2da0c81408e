/-
  Promises P2.2, P2.3: the law FrameReads: its walk.
-/
import Derived.Test.YtoknpadkkokbgaaFl
import Derived.StillTailTactics
namespace Go.Proofs.Ytoknpadkkokbgaa
open Go Go.RowKit Go.Lib

/-- A block holds these bytes, and they may be written. -/
def BytesAt (w : World) (g : Nat) (L : List UInt8) : Prop := ∃ cs t fz, w.heap[g]? = some (.cells cs t fz) ∧ (∀ j, j < L.length → ¬ (fz.1 ≤ j ∧ j < fz.2)) ∧ ∀ j (h : j < L.length), cs[j]? = some (.int .u8 (L[j].toNat : Int))
theorem BytesAt.lt {w : World} {g : Nat} {L : List UInt8} (h : BytesAt w g L) : g < w.heap.size := by
  obtain ⟨cs, t, fz, h, _⟩ := h
  rcases Nat.lt_or_ge g w.heap.size with h1 | h1
  · exact h1
  · rw [Array.getElem?_eq_none h1] at h; cases h
theorem BytesAt.cell {w : World} {g : Nat} {L : List UInt8} (h : BytesAt w g L) (j : Nat) (hj : j < L.length) : w.cell? ⟨g, j, none⟩ = some (.int .u8 (L[j].toNat : Int)) := by
  obtain ⟨cs, t, fz, h, _, hc⟩ := h
  rw [cell_of_row w g j cs t fz h]
  exact hc j hj
theorem BytesAt.frozen {w : World} {g : Nat} {L : List UInt8} (h : BytesAt w g L) (j : Nat) (hj : j < L.length) : w.frozen? ⟨g, j, none⟩ = false := by
  obtain ⟨cs, t, fz, h, hf, _⟩ := h
  have := hf j hj
  simp [World.frozen?, h]
  omega
theorem BytesAt.back {w : World} {g : Nat} {L : List UInt8} (h : BytesAt w g L) (c : Nat) : (convert 24 9 (.slice (some ⟨g, 0, none⟩) L.length c)).run Try.prog w = .ok (.string ⟨L.toArray⟩) w :=
  run_convert_bytes_back (P := Try.prog) w 24 9 5 ⟨g, 0, none⟩ c L Try.underlying24 Try.underlying5 Try.underlying9 (fun j hj => by rw [add_lit, Nat.zero_add]; exact h.cell j hj)
theorem BytesAt.put {w : World} {g : Nat} {L : List UInt8} (h : BytesAt w g L) (j : Nat) (x : Nat) (hx : x < 256) : BytesAt (w.setCell ⟨g, j, none⟩ (.int .u8 (x : Int))) g (L.set j (UInt8.ofNat x)) := by
  obtain ⟨cs, t, fz, h, hf, hc⟩ := h
  refine ⟨cs.setIfInBounds j (.int .u8 (x : Int)), t, fz, by simp [World.setCell, Array.getElem?_modify, h], by simpa using hf, fun i hi => ?_⟩
  have hi' : i < L.length := by simpa using hi
  have := hc i hi'
  rw [Array.getElem?_setIfInBounds]
  split
  · rename_i e
    subst e
    have hlt : j < cs.size := (Array.getElem?_eq_some_iff.1 this).1
    simp [hlt]
    omega
  · rename_i e
    rw [this]
    simp [e]
theorem BytesAt.below {w w' : World} {g : Nat} {L : List UInt8} (h : BytesAt w g L) (hb : Below w.heap.size w w') : BytesAt w' g L := by
  have hl := h.lt
  obtain ⟨cs, t, fz, h, hf, hc⟩ := h
  exact ⟨cs, t, fz, (hb.block g hl).trans h, hf, hc⟩
theorem BytesAt.alloc_ {w : World} {g : Nat} {L : List UInt8} (h : BytesAt w g L) (o : Obj) : BytesAt (w.alloc o) g L := h.below ((Below.refl _ _).alloc (Nat.le_refl _) o)
theorem BytesAt.drew_ {w : World} {g : Nat} {L : List UInt8} (h : BytesAt w g L) : BytesAt w.drew g L := h.below (Below.refl _ _).drew
/-- What FrameReads has made so far: the turn in a box of its own. -/
structure T5 (w W : World) (a c b : Nat) : Prop where
  below : Below w.heap.size w W
  size : w.heap.size + 1 ≤ W.heap.size
  c0 : W.cell? ⟨w.heap.size, 0, none⟩ = some (.int .u16 a)
  c1 : W.cell? ⟨w.heap.size, 1, none⟩ = some (.int .u16 c)
  c2 : W.cell? ⟨w.heap.size, 2, none⟩ = some (.int .u8 b)
theorem T5.grow {w W W' : World} {a c b : Nat} (h : T5 w W a c b) (hb : Below (w.heap.size + 1) W W') : T5 w W' a c b :=
  ⟨h.below.trans (hb.mono (by omega)), Nat.le_trans h.size hb.size, (hb.cell (p := ⟨w.heap.size, 0, none⟩) (by show w.heap.size < _; omega)).trans h.c0, (hb.cell (p := ⟨w.heap.size, 1, none⟩) (by show w.heap.size < _; omega)).trans h.c1, (hb.cell (p := ⟨w.heap.size, 2, none⟩) (by show w.heap.size < _; omega)).trans h.c2⟩
theorem bytes_made (r : ByteArray) (w : World) : BytesAt (w.drew.alloc (.cells (bytesRow r (grownCap w r.size 0 5)) 5 ((bytesRow r (grownCap w r.size 0 5)).size, (bytesRow r (grownCap w r.size 0 5)).size + 1))) w.heap.size r.data.toList := by
  refine ⟨_, _, _, heap_alloc_new w.drew _, fun j hj => ?_, fun j hj => ?_⟩
  · have : r.size ≤ (bytesRow r (grownCap w r.size 0 5)).size := by
      unfold bytesRow
      simp
    have hj' : j < r.size := by simpa using hj
    simp only
    omega
  · have hj' : j < r.data.size := by simpa using hj
    unfold bytesRow
    rw [Array.getElem?_append_left (by simpa using hj')]
    simp only [Array.getElem?_map, Array.getElem?_eq_getElem hj', Option.map_some]
    rfl

def arr4 (x0 x1 x2 x3 : ByteArray) : Nat → ByteArray
  | 0 => x0 | 1 => x1 | 2 => x2 | _ => x3
theorem arr4_at (w : World) (x0 x1 x2 x3 : ByteArray) (h0 : x0.size ≤ 10100) (h1 : x1.size ≤ 10100) (h2 : x2.size ≤ 10100) (h3 : x3.size ≤ 10100) (i : Nat) (hi : i < 4) :
    ((w.alloc (.cells #[.string x0, .string x1, .string x2, .string x3] 35)).drew).cell? ⟨w.heap.size, i, none⟩ = some (.string (arr4 x0 x1 x2 x3 i)) ∧ (arr4 x0 x1 x2 x3 i).size ≤ 10100 := by
  have e : i = 0 ∨ i = 1 ∨ i = 2 ∨ i = 3 := by omega
  rcases e with rfl | rfl | rfl | rfl
  · exact ⟨by simp [arr4], h0⟩
  · exact ⟨by simp [arr4], h1⟩
  · exact ⟨by simp [arr4], h2⟩
  · exact ⟨by simp [arr4], h3⟩

set_option maxRecDepth 100000 in
set_option maxHeartbeats 1600000 in
theorem reads_any (s : ByteArray) (v : Value) (l : List ByteArray) (a c b : Nat) (w : World) (hs : s.size ≤ 9223372036854775807) (h : Lst w v l) (hl : l.length ≤ 9223372036854775807) (hls : ∀ x ∈ l, x.size ≤ 9223372036854775807) (ha : a < 65536) (hc : c < 65536) (hb : b < 256) :
    Calls Try.prog 4 #[.string s, v, .agg #[.int .u16 a, .int .u16 c, .int .u8 b]] w (Yes w) := by
  have R : ∀ o, Calls Try.prog 10 #[v] (w.alloc o) (RowEnd (w.alloc o)) := fun o => row_any l v _ (h.below ((Below.refl _ _).alloc (Nat.le_refl _) o)) hl hls
  have HR := Lib.hid R
  clear R h hls
  go_enter Try.func4, Try.ntmps4
  go_upto_region 1 with (fail)
  go_cut [7] (fun v wx => ∃ r : ByteArray, v = .string r ∧ r.size ≤ 10100 ∧ T5 w wx a c b)
  case first =>
    go_wp2_with (go_at_call 10; (with_reducible refine (HR.out _).mono ?_); rintro e w1 ⟨r, rfl, hr, hb1⟩)
    go_meet
    refine ⟨r, rfl, hr, ?_⟩
    have h0 : T5 w (w.alloc (.cells #[.int .u16 a, .int .u16 c, .int .u8 b] 33)) a c b := ⟨(Below.refl _ _).alloc (Nat.le_refl _) _, by simp, by simp, by simp, by simp⟩
    exact h0.grow (hb1.mono (by simp))
  case rest =>
    clear HR
    obtain ⟨r, rfl, hr, hT⟩ := hcut
    have CV := run_bytes_of_string (P := Try.prog) wc 9 24 5 r Try.underlying9 Try.underlying24 Try.underlying5
    have HT := Lib.hid hT
    clear hT
    go_upto_region 2 with (fail)
    go_cut [8] (fun v wx => ∃ (g n N : Nat) (L : List UInt8), v = .slice (some ⟨g, 0, none⟩) N n ∧ N ≤ 10100 ∧ L.length = N ∧ w.heap.size + 1 ≤ g ∧ BytesAt wx g L ∧ T5 w wx a c b)
    case first =>
      go_wp2_with fail
      go_meet
      have hsz := HT.out.size
      have e : r.data.toList.length = r.size := by simp
      refine ⟨_, _, _, r.data.toList, rfl, hr, e, hsz, ?_, HT.out.grow ?_⟩
      · exact bytes_made r wc
      · exact ((Below.refl _ _).drew.alloc (by simpa using hsz) _)
    case rest =>
      clear CV HT
      obtain ⟨g, n, N, L, rfl, hL, hN, hg, hBA, hT⟩ := hcut
      have HN := Lib.hid hN
      clear hN
      have HT := Lib.hid hT
      have HBA := Lib.hid hBA
      clear hT hBA
      go_upto_if 19 with (fail)
      go_cut [] (fun wx => ∃ M : List UInt8, M.length = N ∧ BytesAt wx g M ∧ T5 w wx a c b)
      case first =>
        by_cases h0 : 0 < N
        · have hi : a % N < N := Nat.mod_lt _ h0
          have k0 := HT.out.c0
          have k2 := HT.out.c2
          have hi' : a % N < L.length := by rw [HN.out]; exact hi
          obtain ⟨y, hy⟩ : ∃ y, y = L[a % N] := ⟨_, rfl⟩
          have ki : wc.cell? ⟨g, a % N, none⟩ = some (.int .u8 (y.toNat : Int)) := by rw [hy]; exact HBA.out.cell (a % N) hi'
          have kf := HBA.out.frozen (a % N) hi'
          have yl := UInt8.toNat_lt y
          have X := Lib.hid (u8_xor_nat y.toNat b yl hb)
          clear hy hi'
          have n1 : ((a : Int) % (N : Int)).toNat = a % N := by omega
          have n0 : (0 : Int) ≤ (a : Int) % (N : Int) := by omega
          have n2 : (a : Int) % (N : Int) < (N : Int) := by omega
          have nz : ((N : Int) == 0) = false := by simp; omega
          have nz' : (N : Int) ≠ 0 := by omega
          have nz2 : N ≠ 0 := by omega
          go_wp2_with fail
          have W0 : IntKind.i64.wrap (a : Int) = (a : Int) := IntWalk.i64_in _ (by omega)
          have T0 : (a : Int).tmod (N : Int) = (a : Int) % (N : Int) := Int.tmod_eq_emod_of_nonneg (by omega)
          go_still_tail 13, (by kernel_rfl)
          change wpList _ _ _ _ _ wc.drew
          go_wp2_with fail
          go_meet
          rw [X.out]
          have hgl := HBA.out.lt
          exact ⟨_, by rw [List.length_set]; exact HN.out, (HBA.out.below (Below.refl _ _).drew).put (a % N) _ (Nat.xor_lt_two_pow (n := 8) yl hb), HT.out.grow ((Below.refl _ _).drew.setCell hg _)⟩
        · go_wp2_with fail
          go_meet
          exact ⟨L, HN.out, HBA.out, HT.out⟩
      case rest =>
        clear HBA HT HN
        obtain ⟨M, hM, hBA, hT⟩ := hcut
        have HT := Lib.hid hT
        have HBA := Lib.hid hBA
        have HM := Lib.hid hM
        clear hT hBA hM
        go_upto_region 5 with (fail)
        go_cut [9] (fun v wx => ∃ (g : Nat) (X : Nat → ByteArray), v = .pointer (some ⟨g, 0, none⟩) ∧ g < wx.heap.size ∧ w.heap.size + 1 ≤ g ∧ (∀ i, i < 4 → wx.cell? ⟨g, i, none⟩ = some (.string (X i)) ∧ (X i).size ≤ 10100) ∧ T5 w wx a c b)
        case first =>
          have CVB : ∀ W, BytesAt W g M → (convert 24 9 (.slice (some ⟨g, 0, none⟩) N n)).run Try.prog W = .ok (.string ⟨M.toArray⟩) W := by
            intro W hW
            have := hW.back n
            rw [HM.out] at this
            exact this
          have B0 := HBA.out
          have k1 := HT.out.c1
          have W0 : IntKind.i64.wrap (c : Int) = (c : Int) := IntWalk.i64_in _ (by omega)
          have W1 : IntKind.i64.wrap ((r.size : Int) + 1) = (r.size : Int) + 1 := IntWalk.i64_in _ (by omega)
          have T0 : (c : Int).tmod ((r.size : Int) + 1) = (c : Int) % ((r.size : Int) + 1) := Int.tmod_eq_emod_of_nonneg (by omega)
          have n0 : (0 : Int) ≤ (c : Int) % ((r.size : Int) + 1) := Int.emod_nonneg _ (by omega)
          have n2 : (c : Int) % ((r.size : Int) + 1) ≤ (r.size : Int) := by have := Int.emod_lt_of_pos (c : Int) (show (0 : Int) < (r.size : Int) + 1 by omega); omega
          have nz' : (r.size : Int) + 1 ≠ 0 := by omega
          have nz : ((r.size : Int) + 1 == 0) = false := by simp; omega
          have m1 : (0 : Int) ≤ min (s.size : Int) 500 := by omega
          have m2 : min (s.size : Int) 500 ≤ (s.size : Int) := by omega
          go_region_held3 (fun w' => w'.cell? ⟨w.heap.size, 1, none⟩ = some (.int .u16 c) ∧ BytesAt w' g M)
            (first | (refine ⟨by assumption, by assumption⟩) | (refine ⟨(by simp [*, World.cell?_alloc_some]; done), ?_⟩; first | assumption | (exact BytesAt.alloc_ (by assumption) _) | (exact BytesAt.drew_ (by assumption)) | (exact BytesAt.drew_ (BytesAt.alloc_ (by assumption) _))))
            (fail)
          all_goals
            go_wp2_with fail
            go_meet
            refine ⟨_, arr4 (s.extract 0 (min (s.size : Int) 500).toNat) r ⟨M.toArray⟩ (r.extract 0 ((c : Int) % ((r.size : Int) + 1)).toNat), rfl, by simp, HT.out.size, arr4_at _ _ _ _ _ (by simp; omega) hr (by show M.toArray.size ≤ _; simp; have := HM.out; omega) (by simp; omega), HT.out.grow ((Below.refl _ _).alloc HT.out.size _).drew⟩
        case rest =>
          clear HBA HT HM
          obtain ⟨h, X, rfl, hh, hg', hX, hT⟩ := hcut
          have HT := Lib.hid hT
          have HX := Lib.hid hX
          clear hT hX
          go_wp2
          go_loopw [10] (fun i wr => (∃ k : Nat, k ≤ 4 ∧ i = .int .i64 k) ∧ Below wc.heap.size wc wr) (fun i _ => 4 - (Lib.intOf i).toNat)
          case atStart => exact ⟨⟨0, by omega, rfl⟩, Below.refl _ _⟩
          case round =>
            obtain ⟨⟨k, hk, rfl⟩, hbr⟩ := hrel
            obtain ⟨wo, rfl⟩ : ∃ wo : World, wo = wr := ⟨_, rfl⟩
            have hTo := Lib.hid (HT.out.grow (hbr.mono HT.out.size))
            by_cases h4 : k < 4
            · have hz := HT.out.size
              obtain ⟨hx0, hxs⟩ := HX.out k h4
              have kx : wo.cell? ⟨h, k, none⟩ = some (.string (X k)) := (hbr.cell (p := ⟨h, k, none⟩) hh).trans hx0
              have k0 := hTo.out.c0
              have k1 := hTo.out.c1
              clear hx0
              obtain ⟨x, hx⟩ : ∃ x, x = X k := ⟨_, rfl⟩
              rw [← hx] at kx hxs
              have AL := Lib.hid (fun (a : Int) (w : World) => alike_any x a w (by omega))
              have W0 : IntKind.i64.wrap (c : Int) = (c : Int) := IntWalk.i64_in _ (by omega)
              have WA : IntKind.i64.wrap (a : Int) = (a : Int) := IntWalk.i64_in _ (by omega)
              have W1 : IntKind.i64.wrap ((x.size : Int) + 2) = (x.size : Int) + 2 := IntWalk.i64_in _ (by omega)
              have T0 : (c : Int).tmod ((x.size : Int) + 2) = (c : Int) % ((x.size : Int) + 2) := Int.tmod_eq_emod_of_nonneg (by omega)
              have nz' : (x.size : Int) + 2 ≠ 0 := by omega
              have nz : ((x.size : Int) + 2 == 0) = false := by simp; omega
              have k4 : (k : Int) < 4 := by omega
              have i0 : ∀ w, (Instr.index 36 (.agg #[.int .i64 0, .int .i64 a, .int .i64 ((c : Int) % ((x.size : Int) + 2))]) (.int .i64 0)).run Try.prog w = .ok (.int .i64 0) w := fun _ => by kernel_rfl
              have i1 : ∀ w, (Instr.index 36 (.agg #[.int .i64 0, .int .i64 a, .int .i64 ((c : Int) % ((x.size : Int) + 2))]) (.int .i64 1)).run Try.prog w = .ok (.int .i64 a) w := fun _ => by kernel_rfl
              have i2 : ∀ w, (Instr.index 36 (.agg #[.int .i64 0, .int .i64 a, .int .i64 ((c : Int) % ((x.size : Int) + 2))]) (.int .i64 2)).run Try.prog w = .ok (.int .i64 ((c : Int) % ((x.size : Int) + 2))) w := fun _ => by kernel_rfl
              clear hx
              go_wp2
              go_quiet (fail)
              go_wp2
              go_loopw [68] (fun j wi => (j = .int .i64 0 ∨ j = .int .i64 1 ∨ j = .int .i64 2 ∨ j = .int .i64 3) ∧ Below wc.heap.size wc wi ∧ Below wo.heap.size wo wi) (fun j _ => 3 - (Lib.intOf j).toNat)
              case atStart => exact ⟨.inl rfl, hbr.trans (below_drewN _ _ _), below_drewN _ _ _⟩
              case round =>
                obtain ⟨hj, hbi, hbo⟩ := hrel
                have kx' : wr.cell? ⟨h, k, none⟩ = some (.string x) := (hbo.cell (p := ⟨h, k, none⟩) (Nat.lt_of_lt_of_le hh hbr.size)).trans kx
                rcases hj with rfl | rfl | rfl | rfl
                · go_wp2_with (go_at_call 11; (with_reducible refine (AL.out _ _).mono ?_); rintro e w2 ⟨rfl, hb2⟩)
                  exact ⟨⟨.inr (.inl rfl), hbi.trans (hb2.mono hbi.size), hbo.trans (hb2.mono hbo.size)⟩, by decide⟩
                · go_wp2_with (go_at_call 11; (with_reducible refine (AL.out _ _).mono ?_); rintro e w2 ⟨rfl, hb2⟩)
                  exact ⟨⟨.inr (.inr (.inl rfl)), hbi.trans (hb2.mono hbi.size), hbo.trans (hb2.mono hbo.size)⟩, by decide⟩
                · go_wp2_with (go_at_call 11; (with_reducible refine (AL.out _ _).mono ?_); rintro e w2 ⟨rfl, hb2⟩)
                  exact ⟨⟨.inr (.inr (.inr rfl)), hbi.trans (hb2.mono hbi.size), hbo.trans (hb2.mono hbo.size)⟩, by decide⟩
                · go_wp2
                  go_roundw
                  case rel => exact ⟨⟨k + 1, by omega, by go_num⟩, hbi⟩
                  case measure => simp [Lib.intOf]; omega
            · have hb0 := HT.out.below
              have W := Lib.hid (works_any wo)
              go_wp2_with (go_at_call 9; (with_reducible refine W.out.mono ?_); rintro e w2 ⟨rfl, hb2⟩)
              go_ret
              exact ⟨rfl, (hb0.trans (hbr.mono hb0.size)).trans (hb2.mono (Nat.le_trans hb0.size hbr.size))⟩
end Go.Proofs.Ytoknpadkkokbgaa
