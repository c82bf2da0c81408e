/-
  Numbers read: the walks of octet, truth and integer, and of the methods U, I, Byte, Bool.
-/
import Derived.Test.YtllkflbkndfdeaaDoorEvBc
import Derived.Laws.DeepNot64
namespace Go.Proofs.YtllkflbkndfdeaaDoor
open Go Go.RowKit Go.Lib

def badB (s : ByteArray) (k : Nat) : Nat := if s.size ≤ k then 3 else 0
def nxtB (s : ByteArray) (k : Nat) : Nat := if s.size ≤ k then k else k + 1
def octV (s : ByteArray) (k : Nat) : Value := .int .u8 (bt s k)
set_option maxRecDepth 100000 in
set_option maxHeartbeats 1600000 in
theorem octet_any (s : ByteArray) (k g : Nat) (w : World) (hs : s.size ≤ 140737488355328) (hk : k ≤ s.size) (h : Rdr w g s k) : Calls Tryd.prog 43 #[.pointer (some ⟨g, 0, none⟩)] w (TEnd (badB s k) (octV s k) (nxtB s k) g s w) := by
  have hc0 := h.c0
  have hc1 := h.c1
  have hf1 := h.f1
  have H := Lib.hid h
  clear h
  by_cases hk2 : k = s.size
  · have hb : badB s k = 3 := by unfold badB; rw [if_pos (by omega)]
    have HB := Lib.hid hb
    have hq : ((k : Int) == (s.size : Int)) = true := by simp; omega
    clear hb hk2
    go_enter Tryd.func43, Tryd.ntmps43
    go_wp2
    go_quiet (fail)
    go_wp2
    exact ⟨rfl, (Off.refl _ _).drewN _, .inr ⟨by rw [HB.out]; omega, by rw [HB.out]; rfl, k, H.out.drewN _⟩⟩
  · have hb : badB s k = 0 := by unfold badB; rw [if_neg (by omega)]
    have hx : nxtB s k = k + 1 := by unfold nxtB; rw [if_neg (by omega)]
    have HB := Lib.hid hb
    have HX := Lib.hid hx
    have hq : ((k : Int) == (s.size : Int)) = false := by simp; omega
    have hlt : k < s.size := by omega
    have E := Lib.hid (bt_get s k hlt)
    have hq2 : (k : Int) < (s.size : Int) := by omega
    have e1 := fun nq => (H.out.drewN nq).set (k + 1)
    have d0 : ∀ nq, ((w.drewN nq).setCell ⟨g, 1, none⟩ (.int .i64 ((k : Int) + 1))).cell? ⟨g, 0, none⟩ = some (.string s) := fun nq => (e1 nq).c0
    have d1 : ∀ nq, ((w.drewN nq).setCell ⟨g, 1, none⟩ (.int .i64 ((k : Int) + 1))).cell? ⟨g, 1, none⟩ = some (.int .i64 ((k : Int) + 1)) := fun nq => (e1 nq).c1
    have W1 : IntKind.i64.wrap ((k : Int) + 1 - 1) = (k : Int) := by rw [IntWalk.i64_in _ (by omega)]; omega
    have W2 : IntKind.i64.wrap (k : Int) = (k : Int) := IntWalk.i64_in _ (by omega)
    clear hb hx hk2 e1
    go_enter Tryd.func43, Tryd.ntmps43
    go_wp2
    go_quiet (fail)
    go_wp2
    go_quiet (fail)
    go_wp2
    go_ret
    refine ⟨(((Off.refl _ _).drewN _).set 1 _).drewN _, .inl ⟨HB.out, ?_, by rw [HX.out]; exact ((H.out.drewN _).set (k + 1)).drewN _⟩⟩
    show Ending.returned (.int .u8 (s[k].toNat : Int)) = _
    rw [E.out]
    rfl

def badT (s : ByteArray) (k : Nat) : Nat := if s.size ≤ k then 3 else if 1 < bt s k then 5 else 0
def nxtT (k : Nat) : Nat := k + 1
def truV (s : ByteArray) (k : Nat) : Value := .bool (decide (bt s k = 1))
set_option maxRecDepth 100000 in
set_option maxHeartbeats 1600000 in
theorem truth_any (s : ByteArray) (k g : Nat) (w : World) (hs : s.size ≤ 140737488355328) (hk : k ≤ s.size) (h : Rdr w g s k) : Calls Tryd.prog 45 #[.pointer (some ⟨g, 0, none⟩)] w (TEnd (badT s k) (truV s k) (nxtT k) g s w) := by
  have K := octet_any s k g w hs hk h
  by_cases h3 : s.size ≤ k
  · have K1 : Calls Tryd.prog 43 #[.pointer (some ⟨g, 0, none⟩)] w fun e w' => e = .panicked [{ v := .iface 34 (.int .i64 3), recovered := false }] ∧ Off g w w' ∧ ∃ a, Rdr w' g s a := K.mono fun e w' he => by
      have hb : badB s k = 3 := by unfold badB; rw [if_pos h3]
      unfold TEnd at he
      rw [hb] at he
      rcases he with ⟨ho, ⟨h0, _⟩ | ⟨_, h1, h2⟩⟩
      · omega
      · exact ⟨h1, ho, h2⟩
    have hb : badT s k = 3 := by unfold badT; rw [if_pos h3]
    have HB := Lib.hid hb
    have HK := Lib.hid K1
    clear K K1 hb h3
    go_enter Tryd.func45, Tryd.ntmps45
    go_wp2_with fail
    refine (HK.out).mono ?_
    rintro e w1 ⟨rfl, ho, a, hr1⟩
    exact ⟨rfl, ho, .inr ⟨by rw [HB.out]; omega, by rw [HB.out]; rfl, a, hr1⟩⟩
  · have K1 : Calls Tryd.prog 43 #[.pointer (some ⟨g, 0, none⟩)] w fun e w' => e = .returned (.int .u8 (bt s k)) ∧ Off g w w' ∧ Rdr w' g s (k + 1) := K.mono fun e w' he => by
      have hb : badB s k = 0 := by unfold badB; rw [if_neg h3]
      have hx : nxtB s k = k + 1 := by unfold nxtB; rw [if_neg h3]
      unfold TEnd at he
      rw [hb, hx] at he
      rcases he with ⟨ho, ⟨_, h1, h2⟩ | ⟨h0, _⟩⟩
      · exact ⟨h1, ho, h2⟩
      · omega
    have HK := Lib.hid K1
    obtain ⟨b, hbe⟩ : ∃ b, b = bt s k := ⟨_, rfl⟩
    have hbl := bt_lt s k
    have HT : Hid (badT s k = if 1 < b then 5 else 0) := Lib.hid (by unfold badT; rw [if_neg h3, hbe])
    have HV : Hid (truV s k = .bool (decide (b = 1))) := Lib.hid (by rw [truV, hbe])
    rw [← hbe] at HK hbl
    clear K K1 h3 hbe
    by_cases h1 : 1 < b
    · have hq : (1 : Int) < (b : Int) := by omega
      have hb : badT s k = 5 := by rw [HT.out, if_pos h1]
      have HB := Lib.hid hb
      clear hb
      go_enter Tryd.func45, Tryd.ntmps45
      go_wp2_with fail
      refine (HK.out).mono ?_
      rintro e w1 ⟨rfl, ho, hr1⟩
      go_wp2_with fail
      exact ⟨rfl, ho, .inr ⟨by rw [HB.out]; omega, by rw [HB.out]; rfl, k + 1, hr1⟩⟩
    · have hb : badT s k = 0 := by rw [HT.out, if_neg h1]
      have HB := Lib.hid hb
      have hq : ((b : Int) == 1) = decide (b = 1) := by rw [Bool.eq_iff_iff]; simp; omega
      have HQ := Lib.hid hq
      have hq2 : ¬ (1 : Int) < (b : Int) := by omega
      clear hb hq
      go_enter Tryd.func45, Tryd.ntmps45
      go_wp2_with fail
      refine (HK.out).mono ?_
      rintro e w1 ⟨rfl, ho, hr1⟩
      go_wp2_with fail
      go_ret
      refine ⟨ho, .inl ⟨HB.out, ?_, hr1⟩⟩
      rw [HV.out, ← HQ.out]
      rfl

/-- The whole number of a number. -/
def whole (n : Nat) : Int := if n % 2 = 0 then (n / 2 : Nat) else -((n / 2 : Nat) : Int) - 1
theorem xor_comm_i64 (a b : Int) : bits .xor .i64 a b = bits .xor .i64 b a := by
  show IntKind.i64.wrap ((BitVec.ofInt 64 a ^^^ BitVec.ofInt 64 b).toNat : Int) = IntKind.i64.wrap ((BitVec.ofInt 64 b ^^^ BitVec.ofInt 64 a).toNat : Int)
  rw [BitVec.xor_comm]
theorem xor_zero_i64 (a : Nat) (h : a < 9223372036854775808) : bits .xor .i64 (a : Int) 0 = (a : Int) := by
  have h1 : (BitVec.ofInt 64 (a : Int)).toNat = a := by
    rw [BitVec.ofInt_natCast, BitVec.toNat_ofNat]; exact Nat.mod_eq_of_lt (by omega)
  show IntKind.i64.wrap ((BitVec.ofInt 64 (a : Int) ^^^ BitVec.ofInt 64 0).toNat : Int) = _
  rw [show BitVec.ofInt 64 0 = 0#64 from rfl, BitVec.xor_zero, h1]
  exact IntWalk.i64_in _ (by omega)
theorem whole_bits (n : Nat) (h : n < 18446744073709551616) : bits .xor .i64 ((n : Int) / 2) (wrap64 (-wrap64 (bits .and .u64 (n : Int) 1))) = whole n := by
  have e1 : bits .and .u64 (n : Int) 1 = ((n % 2 : Nat) : Int) := by
    have := u64_and_nat n 1 h (by omega)
    rw [show n &&& 1 = n % 2 from Nat.and_one_is_mod n] at this
    exact this
  have e2 : ((n : Int) / 2) = ((n / 2 : Nat) : Int) := by simp
  rw [e1, e2]
  unfold whole
  rcases Nat.mod_two_eq_zero_or_one n with h0 | h0
  · rw [h0, if_pos rfl]
    rw [show wrap64 (-wrap64 ((0 : Nat) : Int)) = 0 by simp [wrap64]]
    exact xor_zero_i64 _ (by omega)
  · rw [h0, if_neg (by omega)]
    rw [show wrap64 (-wrap64 ((1 : Nat) : Int)) = -1 by simp [wrap64], xor_comm_i64, i64_not _ (by omega)]
    omega
set_option maxRecDepth 100000 in
set_option maxHeartbeats 1600000 in
theorem integer_any (s : ByteArray) (k g : Nat) (w : World) (hs : s.size ≤ 140737488355328) (hk : k ≤ s.size) (h : Rdr w g s k) (hn : num s k < 18446744073709551616) : Calls Tryd.prog 40 #[.pointer (some ⟨g, 0, none⟩)] w (TEnd (bad s k) (.int .i64 (whole (num s k))) (nxt s k) g s w) := by
  have K : Calls Tryd.prog 35 #[.pointer (some ⟨g, 0, none⟩)] w (TEnd (bad s k) (.int .u64 (num s k)) (nxt s k) g s w) := number_any s k g w hs hk h
  obtain ⟨n, hne⟩ : ∃ n, n = num s k := ⟨_, rfl⟩
  rw [← hne] at K hn ⊢
  clear hne
  by_cases hb : bad s k = 0
  · have K1 : Calls Tryd.prog 35 #[.pointer (some ⟨g, 0, none⟩)] w fun e w' => e = .returned (.int .u64 n) ∧ Off g w w' ∧ Rdr w' g s (nxt s k) := K.mono fun e w' he => by
      rcases he with ⟨ho, ⟨_, h1, h2⟩ | ⟨h0, _⟩⟩
      · exact ⟨h1, ho, h2⟩
      · exact absurd hb h0
    have HK := Lib.hid K1
    have HB := Lib.hid hb
    clear K K1 hb
    go_enter Tryd.func40, Tryd.ntmps40
    go_wp2_with fail
    refine (HK.out).mono ?_
    rintro e w1 ⟨rfl, ho, hr1⟩
    go_wp2_with fail
    go_ret
    refine ⟨ho, .inl ⟨HB.out, ?_, hr1⟩⟩
    rw [← whole_bits n hn]
    rfl
  · have K1 : Calls Tryd.prog 35 #[.pointer (some ⟨g, 0, none⟩)] w fun e w' => e = .panicked [{ v := .iface 34 (.int .i64 (bad s k)), recovered := false }] ∧ Off g w w' ∧ ∃ a, Rdr w' g s a := K.mono fun e w' he => by
      rcases he with ⟨ho, ⟨h0, _⟩ | ⟨_, h1, h2⟩⟩
      · exact absurd h0 hb
      · exact ⟨h1, ho, h2⟩
    have HK := Lib.hid K1
    have HB := Lib.hid hb
    clear K K1 hb
    go_enter Tryd.func40, Tryd.ntmps40
    go_wp2_with fail
    refine (HK.out).mono ?_
    rintro e w1 ⟨rfl, ho, a, hr1⟩
    exact ⟨rfl, ho, .inr ⟨HB.out, rfl, a, hr1⟩⟩

theorem num_lt (s : ByteArray) (k : Nat) : num s k < 18446744073709551616 := by
  unfold num
  split
  · rename_i h
    have p8 : (128 : Nat) ^ 8 = 72057594037927936 := by decide
    have p9 : (128 : Nat) ^ 9 = 9223372036854775808 := by decide
    have hb := bt_lt s k
    have h1 := (val_hi s k (runAt s k)).1
    unfold bad at h
    split at h
    · omega
    split at h
    · omega
    split at h
    · omega
    rename_i _ h5 hl
    have hr : runAt s k ≤ 9 := by omega
    rcases Nat.lt_or_ge (runAt s k) 9 with h9 | h9
    · have hp : (128 : Nat) ^ (runAt s k) ≤ 128 ^ 8 := Nat.pow_le_pow_right (by omega) (by omega)
      have : (128 : Nat) ^ (runAt s k) * (bt s k % 128 + 1) ≤ 128 ^ 8 * 128 := Nat.mul_le_mul hp (by omega)
      omega
    · have h9' : runAt s k = 9 := by omega
      have h129 : bt s k ≤ 129 := by omega
      have h128 := (inRun (s := s) (k := k) (j := 0) (by omega)).2
      simp only [Nat.add_zero] at h128
      rw [h9', p9] at h1
      have : 9223372036854775808 * (bt s k % 128 + 1) ≤ 9223372036854775808 * 2 := Nat.mul_le_mul_left _ (by omega)
      rw [h9']
      omega
  · omega

/-- The methods that read one thing. -/
theorem U_any (s : ByteArray) (k g : Nat) (w : World) (hs : s.size ≤ 140737488355328) (hk : k ≤ s.size) (h : Rdr w g s k) : Calls Tryd.prog 9 #[.pointer (some ⟨g, 0, none⟩)] w (KEnd (bad s k) (.int .u64 (num s k)) (.int .u64 0) (nxt s k) k g s w) := by
  have K := Lib.hid (take_u64 (bad s k) (.int .u64 (num s k)) (nxt s k) k g s w h (fun W hW => number_any s k g W hs hk hW))
  clear h
  go_enter Tryd.func9, Tryd.ntmps9
  go_wp2_with fail
  refine K.out.mono ?_
  rintro e w1 ⟨ho, ⟨hb, rfl, hr⟩ | ⟨hb, F, rfl, hF⟩⟩
  · have HB := Lib.hid hb
    clear hb
    go_wp2_with fail
    go_ret2
    exact ⟨ho, .inl ⟨HB.out, rfl, hr⟩⟩
  · have HB := Lib.hid hb
    have HF := Lib.hid hF
    clear hb hF
    go_wp2_with fail
    go_ret2
    exact ⟨ho, .inr ⟨HB.out, F, rfl, HF.out⟩⟩
theorem I_any (s : ByteArray) (k g : Nat) (w : World) (hs : s.size ≤ 140737488355328) (hk : k ≤ s.size) (h : Rdr w g s k) : Calls Tryd.prog 12 #[.pointer (some ⟨g, 0, none⟩)] w (KEnd (bad s k) (.int .i64 (whole (num s k))) (.int .i64 0) (nxt s k) k g s w) := by
  have K := Lib.hid (take_i64 (bad s k) (.int .i64 (whole (num s k))) (nxt s k) k g s w h (fun W hW => integer_any s k g W hs hk hW (num_lt s k)))
  clear h
  go_enter Tryd.func12, Tryd.ntmps12
  go_wp2_with fail
  refine K.out.mono ?_
  rintro e w1 ⟨ho, ⟨hb, rfl, hr⟩ | ⟨hb, F, rfl, hF⟩⟩
  · have HB := Lib.hid hb
    clear hb
    go_wp2_with fail
    go_ret2
    exact ⟨ho, .inl ⟨HB.out, rfl, hr⟩⟩
  · have HB := Lib.hid hb
    have HF := Lib.hid hF
    clear hb hF
    go_wp2_with fail
    go_ret2
    exact ⟨ho, .inr ⟨HB.out, F, rfl, HF.out⟩⟩
theorem Byte_any (s : ByteArray) (k g : Nat) (w : World) (hs : s.size ≤ 140737488355328) (hk : k ≤ s.size) (h : Rdr w g s k) : Calls Tryd.prog 14 #[.pointer (some ⟨g, 0, none⟩)] w (KEnd (badB s k) (octV s k) (.int .u8 0) (nxtB s k) k g s w) := by
  have K := Lib.hid (take_u8 (badB s k) (octV s k) (nxtB s k) k g s w h (fun W hW => octet_any s k g W hs hk hW))
  clear h
  go_enter Tryd.func14, Tryd.ntmps14
  go_wp2_with fail
  refine K.out.mono ?_
  rintro e w1 ⟨ho, ⟨hb, rfl, hr⟩ | ⟨hb, F, rfl, hF⟩⟩
  · have HB := Lib.hid hb
    clear hb
    go_wp2_with fail
    go_ret2
    exact ⟨ho, .inl ⟨HB.out, rfl, hr⟩⟩
  · have HB := Lib.hid hb
    have HF := Lib.hid hF
    clear hb hF
    go_wp2_with fail
    go_ret2
    exact ⟨ho, .inr ⟨HB.out, F, rfl, HF.out⟩⟩
theorem Bool_any (s : ByteArray) (k g : Nat) (w : World) (hs : s.size ≤ 140737488355328) (hk : k ≤ s.size) (h : Rdr w g s k) : Calls Tryd.prog 16 #[.pointer (some ⟨g, 0, none⟩)] w (KEnd (badT s k) (truV s k) (.bool false) (nxtT k) k g s w) := by
  have K := Lib.hid (take_bool (badT s k) (truV s k) (nxtT k) k g s w h (fun W hW => truth_any s k g W hs hk hW))
  clear h
  go_enter Tryd.func16, Tryd.ntmps16
  go_wp2_with fail
  refine K.out.mono ?_
  rintro e w1 ⟨ho, ⟨hb, rfl, hr⟩ | ⟨hb, F, rfl, hF⟩⟩
  · have HB := Lib.hid hb
    clear hb
    go_wp2_with fail
    go_ret2
    exact ⟨ho, .inl ⟨HB.out, rfl, hr⟩⟩
  · have HB := Lib.hid hb
    have HF := Lib.hid hF
    clear hb hF
    go_wp2_with fail
    go_ret2
    exact ⟨ho, .inr ⟨HB.out, F, rfl, HF.out⟩⟩
end Go.Proofs.YtllkflbkndfdeaaDoor
