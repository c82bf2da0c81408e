/-
  Numbers read: the walk of (*Reader).number.
-/
import Derived.Test.YtllkflbkndfdeaaDoorEvBa
import Derived.Laws.BitsAllLaws
import Derived.LoopTactic
import Derived.Lib.Hide
import Derived.Deep.Draws
import Derived.Deep.QuietTactic
import Derived.BigQuiet
import Derived.IntWalk
import Derived.Deep.DeepCutAuto
import Derived.Deep.CutBlock
import Derived.WalkLawsBesides
namespace Go.Proofs.YtllkflbkndfdeaaDoor
open Go Go.RowKit Go.Lib

/-- A reader's block. -/
structure Rdr (w : World) (g : Nat) (s : ByteArray) (a : Nat) : Prop where
  c0 : w.cell? ⟨g, 0, none⟩ = some (.string s)
  c1 : w.cell? ⟨g, 1, none⟩ = some (.int .i64 a)
  f1 : w.frozen? ⟨g, 1, none⟩ = false
  lt : g < w.heap.size
/-- All but that block is as it was. -/
structure Off (g : Nat) (w w' : World) : Prop where
  os : w'.os = w.os
  tape : w'.tape = w.tape
  output : w'.output = w.output
  size : w.heap.size ≤ w'.heap.size
  block : ∀ k, k < w.heap.size → k ≠ g → w'.heap[k]? = w.heap[k]?
theorem Off.refl (g : Nat) (w : World) : Off g w w := ⟨rfl, rfl, rfl, Nat.le_refl _, fun _ _ _ => rfl⟩
theorem Off.trans {g : Nat} {a b c : World} (h : Off g a b) (k : Off g b c) : Off g a c :=
  ⟨k.os.trans h.os, k.tape.trans h.tape, k.output.trans h.output, Nat.le_trans h.size k.size, fun i hi hg => (k.block i (Nat.lt_of_lt_of_le hi h.size) hg).trans (h.block i hi hg)⟩
theorem Off.below {g : Nat} {a b : World} (h : Below a.heap.size a b) : Off g a b := ⟨h.os, h.tape, h.output, h.size, fun k hk _ => h.block k hk⟩
theorem Off.drewN {g : Nat} {a w : World} (h : Off g a w) (n : Nat) : Off g a (w.drewN n) := by
  refine h.trans (Off.below ?_)
  induction n with
  | zero => exact Below.refl _ _
  | succ n ih => exact ih.drew
theorem Off.set {g : Nat} {a w : World} (h : Off g a w) (j : Nat) (u : Value) : Off g a (w.setCell ⟨g, j, none⟩ u) :=
  h.trans ⟨rfl, rfl, rfl, by simp [World.setCell], fun k _ hg => Below.heap_setCell _ _ _ _ hg⟩
theorem Rdr.drewN {w : World} {g : Nat} {s : ByteArray} {a : Nat} (h : Rdr w g s a) (n : Nat) : Rdr (w.drewN n) g s a := by
  induction n with
  | zero => exact h
  | succ n ih => exact ⟨ih.c0, ih.c1, ih.f1, ih.lt⟩
theorem Rdr.set {w : World} {g : Nat} {s : ByteArray} {a : Nat} (h : Rdr w g s a) (b : Nat) : Rdr (w.setCell ⟨g, 1, none⟩ (.int .i64 b)) g s b := by
  refine ⟨?_, ?_, ?_, ?_⟩
  · rw [World.cell?_setCell_other _ _ _ _ (by simp)]; exact h.c0
  · exact World.cell?_setCell_same _ _ _ h.c1
  · simpa using h.f1
  · simpa [World.setCell] using h.lt
def NEnd (s : ByteArray) (k g : Nat) (w : World) (e : Ending) (w' : World) : Prop :=
  Off g w w' ∧ (bad s k = 0 ∧ e = .returned (.int .u64 (num s k)) ∧ Rdr w' g s (nxt s k) ∨ bad s k ≠ 0 ∧ e = .panicked [{ v := .iface 34 (.int .i64 (bad s k)), recovered := false }] ∧ ∃ a, Rdr w' g s a)

theorem or_u64_nat (a b : Nat) (ha : a < 18446744073709551616) (hb : b < 18446744073709551616) : bits .or .u64 (a : Int) (b : Int) = ((a ||| b : Nat) : Int) := by
  have hx : a ||| b < 2 ^ 64 := Nat.or_lt_two_pow (by omega) (by omega)
  have h1 : (BitVec.ofInt 64 (a : Int)).toNat = a := by
    rw [BitVec.ofInt_natCast, BitVec.toNat_ofNat]; exact Nat.mod_eq_of_lt (by omega)
  have h2 : (BitVec.ofInt 64 (b : Int)).toNat = b := by
    rw [BitVec.ofInt_natCast, BitVec.toNat_ofNat]; exact Nat.mod_eq_of_lt (by omega)
  show IntKind.u64.wrap ((BitVec.ofInt 64 (a : Int) ||| BitVec.ofInt 64 (b : Int)).toNat : Int) = _
  rw [BitVec.toNat_or, h1, h2]
  exact IntWalk.u64_in _ (by omega)
theorem or_dig (v x : Nat) (hv : v < 144115188075855872) : bits .or .u64 ((v : Int) * 128) ((x % 128 : Nat) : Int) = ((v * 128 + x % 128 : Nat) : Int) := by
  have h := or_u64_nat (v * 128) (x % 128) (by omega) (by omega)
  rw [nat_join 7 (v * 128) (x % 128) (by omega) (by omega)] at h
  rw [← h]
  simp
/-- Where a reader is. -/
def atOf (w : World) (g : Nat) : Nat := match w.cell? ⟨g, 1, none⟩ with | some v => (intOf v).toNat | none => 0

set_option maxRecDepth 100000 in
set_option maxHeartbeats 3200000 in
theorem number_any (s : ByteArray) (k g : Nat) (w : World) (hs : s.size ≤ 140737488355328) (hk : k ≤ s.size) (h : Rdr w g s k) : Calls Tryd.prog 35 #[.pointer (some ⟨g, 0, none⟩)] w (NEnd s k g w) := by
  have hc0 := h.c0
  have hc1 := h.c1
  have hf1 := h.f1
  have H := Lib.hid h
  clear h
  obtain ⟨M, hM⟩ : ∃ M, M = k + runAt s k := ⟨_, rfl⟩
  have hkM : k ≤ M := by omega
  have hMs : M ≤ s.size := by rw [hM]; exact run_le hk
  have IN := Lib.hid (show ∀ L, k ≤ L → L < M → L < s.size ∧ 128 ≤ bt s L from fun L h1 h2 => by
    have := inRun (s := s) (k := k) (j := L - k) (by omega)
    rw [show k + (L - k) = L by omega] at this
    exact this)
  have EN := Lib.hid (show ¬ (M < s.size ∧ 128 ≤ bt s M) by rw [hM]; exact run_end s k)
  have HM := Lib.hid hM
  clear hM
  go_enter Tryd.func35, Tryd.ntmps35
  go_upto_block 0 with (fail)
  go_cut [3] (fun i wx => i = .int .i64 M ∧ wx = w)
  case first =>
    go_wp2_with fail
    go_loopw [3] (fun i wr => wr = w ∧ ∃ L : Nat, i = .int .i64 L ∧ k ≤ L ∧ L ≤ M) (fun i _ => M - (intOf i).toNat)
    case atStart => exact ⟨rfl, k, rfl, Nat.le_refl _, hkM⟩
    case round =>
      obtain ⟨rfl, L, rfl, hL1, hL2⟩ := hrel
      by_cases hlt : L < M
      · obtain ⟨h1, h2⟩ := IN.out L hL1 hlt
        rw [← bt_get s L h1] at h2
        have hq : (L : Int) < (s.size : Int) := by omega
        have hq2 : (128 : Int) ≤ (s[L].toNat : Int) := by omega
        clear h2
        go_wp2
        go_roundw
        case rel => exact ⟨(by first | trivial | rfl), L + 1, by go_num, by omega, by omega⟩
        case measure => simp [intOf]; omega
      · obtain rfl : L = M := by omega
        by_cases h1 : L < s.size
        · have h2 : (s[L].toNat : Int) < 128 := by have := EN.out; rw [bt_get _ _ h1]; omega
          have hq : (L : Int) < (s.size : Int) := by omega
          go_wp2
          go_meet
          exact ⟨rfl, (by first | trivial | rfl)⟩
        · have hq : ¬ (L : Int) < (s.size : Int) := by omega
          have hq2 : decide ((L : Int) < (s.size : Int)) = false := decide_eq_false hq
          go_wp2
          go_meet
          exact ⟨rfl, (by first | trivial | rfl)⟩
  case rest =>
    clear IN EN
    obtain ⟨rfl, rfl⟩ := hcut
    by_cases h3 : M = s.size
    · have hb : bad s k = 3 := by unfold bad; rw [if_pos (by have := HM.out; omega)]
      have HB := Lib.hid hb
      have hq : ((M : Int) == (s.size : Int)) = true := by simp; omega
      clear hb
      go_wp2
      exact ⟨rfl, Off.refl _ _, .inr ⟨by rw [HB.out]; omega, by rw [HB.out]; rfl, k, H.out⟩⟩
    · have hq : ((M : Int) == (s.size : Int)) = false := by simp; omega
      have hks : k < s.size := by omega
      have hj : (k : Int) < (s.size : Int) := by omega
      have hbb : (s[k].toNat : Int) = (bt s k : Int) := by rw [bt_get s k hks]
      have HBB := Lib.hid hbb
      clear hbb
      obtain ⟨b, hbe⟩ : ∃ b, b = bt s k := ⟨_, rfl⟩
      have HBE := Lib.hid hbe
      by_cases h5 : b = 128
      · have h5' : ((s[k].toNat : Int) == 128) = true := by rw [HBB.out, ← hbe, h5]; rfl
        have hb : bad s k = 5 := by
          unfold bad
          rw [if_neg (by have := HM.out; omega), if_pos (by omega)]
        have HB := Lib.hid hb
        clear hb hbe h5
        go_wp2
        go_quiet (fail)
        go_wp2
        exact ⟨rfl, (Off.refl _ _).drewN _, .inr ⟨by rw [HB.out]; omega, by rw [HB.out]; rfl, k, H.out.drewN _⟩⟩
      · have h5' : ((s[k].toNat : Int) == 128) = false := by rw [HBB.out, ← hbe]; simp; omega
        have H5 := Lib.hid (show bt s k ≠ 128 by omega)
        clear hbe h5
        go_wp2
        go_quiet (fail)
        go_wp2
        have hMlt : M < s.size := by omega
        go_loopw [4] (fun n wr => ∃ L : Nat, k ≤ L ∧ L ≤ M + 1 ∧ n = .int .u64 (val s k (L - k)) ∧ Rdr wr g s L ∧ Off g wc wr ∧ ∀ i, i < L - k → val s k i < 144115188075855872) (fun _ wr => M + 1 - atOf wr g)
        case atStart => exact ⟨k, Nat.le_refl _, by omega, by rw [Nat.sub_self]; rfl, H.out.drewN _, (Off.refl _ _).drewN _, fun i hi => by omega⟩
        case round =>
          obtain ⟨L, hL1, hL2, rfl, hR, hO, hS⟩ := hrel
          have HR := Lib.hid hR
          have HS := Lib.hid hS
          have d0 := hR.c0
          have d1 := hR.c1
          have e1 := hR.f1
          clear hR hS hc0 hc1 hf1
          obtain ⟨v, hv⟩ : ∃ v, v = val s k (L - k) := ⟨_, rfl⟩
          rw [← hv]
          have HV := Lib.hid hv
          by_cases hLM : L ≤ M
          · have hq1 : (L : Int) ≤ (M : Int) := by omega
            by_cases hbig : 144115188075855872 ≤ v
            · have hb : bad s k = 4 := by
                have hl := (long_iff (s := s) (k := k) H5.out).1 ⟨L - k, by have := HM.out; omega, by rw [← hv]; exact hbig⟩
                unfold bad
                rw [if_neg (by have := HM.out; omega), if_neg H5.out, if_pos hl]
              have HB := Lib.hid hb
              clear hb hv
              have hd1 : ((v : Int) / 144115188075855872 != 0) = true := by simp; omega
              go_wp2
              exact ⟨rfl, hO, .inr ⟨by rw [HB.out]; omega, by rw [HB.out]; rfl, L, HR.out⟩⟩
            · have hls : L < s.size := by omega
              have hd1 : ((v : Int) / 144115188075855872 != 0) = false := by simp; omega
              have hl : (L : Int) < (s.size : Int) := by omega
              have hl0 : (0 : Int) ≤ (L : Int) := by omega
              have E := Lib.hid (bt_get s L hls)
              have W7 : IntKind.u64.wrap ((v : Int) * 128) = (v : Int) * 128 := IntWalk.u64_in _ (by omega)
              have A7 : bits .and .u8 (s[L].toNat : Int) 127 = ((s[L].toNat % 128 : Nat) : Int) := by
                have := u8_and_nat s[L].toNat 127 (UInt8.toNat_lt _) (by omega)
                rw [nat_mask7] at this
                exact this
              have VB := Lib.hid hbig
              clear hv
              go_wp2
              go_quiet (fail)
              go_wp2
              go_roundw
              case rel =>
                refine ⟨L + 1, by omega, by omega, ?_, (HR.out.drewN _).set (L + 1), (hO.drewN _).set 1 _, fun i hi => ?_⟩
                · have e2 : (s[L].toNat : Int) % 128 = ((s[L].toNat % 128 : Nat) : Int) := by simp
                  rw [e2, or_dig v _ (by have := VB.out; omega), show L + 1 - k = (L - k) + 1 by omega, val, show k + (L - k) = L by omega, ← HV.out, E.out]
                · rcases Nat.lt_or_ge i (L - k) with h1 | h1
                  · exact HS.out i h1
                  · obtain rfl : i = L - k := by omega
                    rw [← HV.out]
                    have := VB.out
                    omega
              case measure =>
                have m1 : atOf wr g = L := by unfold atOf; rw [HR.out.c1]; simp [intOf]
                have m2 : atOf ((wr.drewN nq).setCell ⟨g, 1, none⟩ (.int .i64 ((L : Int) + 1))) g = L + 1 := by
                  have e := ((HR.out.drewN nq).set (L + 1)).c1
                  have e' : ((wr.drewN nq).setCell ⟨g, 1, none⟩ (.int .i64 ((L : Int) + 1))).cell? ⟨g, 1, none⟩ = some (.int .i64 ((L + 1 : Nat) : Int)) := e
                  unfold atOf
                  rw [e']
                  simp [intOf]
                rw [m1, m2]
                omega
          · obtain rfl : L = M + 1 := by omega
            have hq1 : ¬ ((M + 1 : Nat) : Int) ≤ (M : Int) := by omega
            have hm : runAt s k = M - k := by have := HM.out; omega
            have hb : bad s k = 0 := by
              have hl : ¬ (10 ≤ runAt s k ∨ (runAt s k = 9 ∧ 129 < bt s k)) := fun hh => by
                obtain ⟨j, hj1, hj2⟩ := (long_iff (s := s) (k := k) H5.out).2 hh
                have := HS.out j (by omega)
                omega
              unfold bad
              rw [if_neg (by omega), if_neg H5.out, if_neg hl]
            have hn : num s k = v := by rw [num, if_pos hb, hv, hm, show M - k + 1 = M + 1 - k by omega]
            have hx : nxt s k = M + 1 := by rw [nxt, if_pos hb]; omega
            have HB := Lib.hid hb
            have HN := Lib.hid hn
            have HX := Lib.hid hx
            clear hb hn hx hm hv
            go_wp2
            go_ret
            exact ⟨hO, .inl ⟨HB.out, by rw [HN.out]; rfl, by rw [HX.out]; exact HR.out⟩⟩
end Go.Proofs.YtllkflbkndfdeaaDoor
