/-
  NumsReads: whatever stands at a place, both readers come to the same.
-/
import Derived.Test.YtllkflbkndfdeaaDoorEvCd
namespace Go.Proofs.YtllkflbkndfdeaaDoor
open Go Go.RowKit Go.Lib

/-- A reader's error is none, or a fault above a block. -/
def Flt (B : Nat) (W : World) (b o : Nat) (er : Value) : Prop := b = 0 ∧ er = .nilIface ∨ b ≠ 0 ∧ ∃ F : Nat, er = .iface 84 (.pointer (some ⟨F, 0, none⟩)) ∧ B ≤ F ∧ FCell W F b o
theorem Flt.alloc {B : Nat} {W : World} {b o : Nat} {er : Value} (h : Flt B W b o er) (ob : Obj) : Flt B (W.alloc ob) b o er := by
  rcases h with h | ⟨h, F, h1, h2, h3⟩
  · exact .inl h
  · exact .inr ⟨h, F, h1, h2, h3.alloc _⟩
theorem Flt.off {B q : Nat} {W W' : World} {b o : Nat} {er : Value} (h : Flt B W b o er) (ho : Off q W W') (hq : q < B) : Flt B W' b o er := by
  rcases h with h | ⟨h, F, h1, h2, h3⟩
  · exact .inl h
  · exact .inr ⟨h, F, h1, h2, h3.off ho (by omega)⟩
theorem is_flt {B : Nat} {W : World} {b o : Nat} {er : Value} (h : Flt B W b o er) (hg : W.cell? ⟨0, 0, none⟩ = some (.iface 122 (.agg #[.pointer (some ⟨1, 31, none⟩)]))) :
    Calls Tryd.prog 11 #[er, .agg #[.int .i64 b, .int .i64 (if b = 0 then 0 else o : Nat)]] W fun e w' => e = .returned (.bool true) ∧ Below W.heap.size W w' := by
  rcases h with ⟨rfl, rfl⟩ | ⟨h, F, rfl, _, h3⟩
  · exact is_nil _ W
  · rw [if_neg h]
    exact is_hit F b o W (by omega) h3 hg

/-- Whatever stands there, both readers come to the same value, place and fault. -/
def Both (f1 f2 : Nat) (a1 a2 : Array Value) (X : ByteArray) (o r q : Nat) (K : Value → Prop) : Prop :=
  ∃ (b x : Nat) (v : Value), K v ∧ x ≤ X.size ∧
    (∀ W, Rdr W r X o → Calls Tryd.prog f1 a1 W fun e w' => ∃ er, e = .returned (.tuple #[v, er]) ∧ Off r W w' ∧ Rdr w' r X x ∧ Flt W.heap.size w' b o er) ∧
    (∀ W, Rdr W q X o → Calls Tryd.prog f2 a2 W fun e w' => e = .returned (.tuple #[v, .agg #[.int .i64 b, .int .i64 (if b = 0 then 0 else o : Nat)]]) ∧ Off q W w' ∧ Rdr w' q X x)

theorem good_U {X : ByteArray} {o : Nat} (ho : o ≤ X.size) (_ : bad X o = 0) : (Value.int .u64 (num X o)) = .int .u64 (num X o) ∧ nxt X o = nxt X o ∧ nxt X o ≤ X.size := ⟨rfl, rfl, nxt_le ho⟩
theorem bad_U {X : ByteArray} {o : Nat} (h : ¬ bad X o = 0) : (Value.int .u64 (num X o)) = .int .u64 0 ∧ nxt X o = o := ⟨by unfold num; rw [if_neg h]; rfl, nxt_stays h⟩
theorem good_I {X : ByteArray} {o : Nat} (ho : o ≤ X.size) (_ : bad X o = 0) : (Value.int .i64 (whole (num X o))) = .int .i64 (whole (num X o)) ∧ nxt X o = nxt X o ∧ nxt X o ≤ X.size := ⟨rfl, rfl, nxt_le ho⟩
theorem bad_I {X : ByteArray} {o : Nat} (h : ¬ bad X o = 0) : (Value.int .i64 (whole (num X o))) = .int .i64 0 ∧ nxt X o = o := ⟨by unfold num; rw [if_neg h]; rfl, nxt_stays h⟩
theorem good_B {X : ByteArray} {o : Nat} (_ : o ≤ X.size) (h : badB X o = 0) : octV X o = octV X o ∧ nxtB X o = nxtB X o ∧ nxtB X o ≤ X.size := by
  unfold badB at h
  split at h
  · cases h
  · exact ⟨rfl, rfl, by unfold nxtB; rw [if_neg (by assumption)]; omega⟩
theorem bad_B {X : ByteArray} {o : Nat} (h : ¬ badB X o = 0) : octV X o = .int .u8 0 ∧ nxtB X o = o := by
  unfold badB at h
  split at h
  · rename_i hc
    exact ⟨by unfold octV; rw [bt_past X o hc]; rfl, by unfold nxtB; rw [if_pos hc]⟩
  · exact absurd rfl h
theorem good_T {X : ByteArray} {o : Nat} (_ : o ≤ X.size) (h : badT X o = 0) : truV X o = truV X o ∧ nxtR X o = nxtT o ∧ nxtT o ≤ X.size := by
  refine ⟨rfl, nxtR_ok h, ?_⟩
  unfold badT at h
  split at h
  · cases h
  · unfold nxtT; omega
theorem bad_T {X : ByteArray} {o : Nat} (h : ¬ badT X o = 0) : truV X o = .bool false ∧ nxtR X o = o := by
  refine ⟨?_, nxtR_bad h⟩
  unfold badT at h
  split at h
  · rename_i hc
    unfold truV
    rw [bt_past X o hc]
    rfl
  · split at h
    · unfold truV
      rw [decide_eq_false (by omega)]
    · exact absurd rfl h
theorem good_X {X : ByteArray} {o : Nat} {m : Int} (_ : o ≤ X.size) (h : badX X o m = 0) : txtR X o m = txtV X o ∧ nxtXR X o m = nxtX X o ∧ nxtX X o ≤ X.size := by
  obtain ⟨_, h1, h2⟩ := goodX_R h
  refine ⟨h1, h2, ?_⟩
  unfold badX at h
  split at h
  · cases h
  split at h
  · exact absurd h (by assumption)
  split at h
  · cases h
  split at h
  · cases h
  · unfold nxtX; omega
theorem bad_X {X : ByteArray} {o : Nat} {m : Int} (h : ¬ badX X o m = 0) : txtR X o m = .string ⟨#[]⟩ ∧ nxtXR X o m = o := (badX_R rfl h).2

/-- Both readers at kind 0: what they come to, in one word. -/
theorem both_U (X : ByteArray) (o r q : Nat) (hXs : X.size ≤ 140737488355328) (ho : o ≤ X.size) :
    Both 9 10 #[.pointer (some ⟨r, 0, none⟩)] #[.pointer (some ⟨q, 0, none⟩)] X o r q (fun v => ∃ n : Int, v = .int .u64 n) := by
  have P := fun (W : World) (hW : Rdr W r X o) => U_any X o r W hXs ho hW
  have R := fun (W : World) (hW : Rdr W q X o) => ref_U_any X o q W hXs ho hW
  by_cases hb : (bad X o) = 0
  · have hv : ((.int .u64 (num X o)) : Value) = (.int .u64 (num X o)) ∧ (nxt X o) = (nxt X o) ∧ (nxt X o) ≤ X.size := good_U ho hb
    refine ⟨0, (nxt X o), (.int .u64 (num X o)), ⟨_, rfl⟩, hv.2.2, fun W hW => (P W hW).mono fun e w' h => ?_, fun W hW => (R W hW).mono fun e w' h => ?_⟩
    · obtain ⟨h1, h2, h3⟩ := h.good hb
      exact ⟨.nilIface, h1, h2, h3, .inl ⟨rfl, rfl⟩⟩
    · obtain ⟨h1, h2, h3⟩ := h
      rw [hb, hv.1] at h2
      rw [hv.2.1] at h3
      exact ⟨by rw [h2], h1, h3⟩
  · have hv : ((.int .u64 (num X o)) : Value) = (.int .u64 0) ∧ (nxt X o) = o := bad_U hb
    refine ⟨(bad X o), o, (.int .u64 0), ⟨_, rfl⟩, ho, fun W hW => (P W hW).mono fun e w' h => ?_, fun W hW => (R W hW).mono fun e w' h => ?_⟩
    · rcases h.2 with h1 | ⟨_, F, h1, h2, h3, h4, h6, h5⟩
      · exact absurd h1.1 hb
      · exact ⟨_, h1, h.1, h5, .inr ⟨hb, F, rfl, h6, ⟨h2, h3, h4⟩⟩⟩
    · obtain ⟨h1, h2, h3⟩ := h
      rw [hv.1, if_neg hb] at h2
      rw [hv.2] at h3
      exact ⟨by rw [h2, if_neg hb], h1, h3⟩

/-- Both readers at kind 1: what they come to, in one word. -/
theorem both_I (X : ByteArray) (o r q : Nat) (hXs : X.size ≤ 140737488355328) (ho : o ≤ X.size) :
    Both 12 13 #[.pointer (some ⟨r, 0, none⟩)] #[.pointer (some ⟨q, 0, none⟩)] X o r q (fun v => ∃ n : Int, v = .int .i64 n) := by
  have P := fun (W : World) (hW : Rdr W r X o) => I_any X o r W hXs ho hW
  have R := fun (W : World) (hW : Rdr W q X o) => ref_I_any X o q W hXs ho hW
  by_cases hb : (bad X o) = 0
  · have hv : ((.int .i64 (whole (num X o))) : Value) = (.int .i64 (whole (num X o))) ∧ (nxt X o) = (nxt X o) ∧ (nxt X o) ≤ X.size := good_I ho hb
    refine ⟨0, (nxt X o), (.int .i64 (whole (num X o))), ⟨_, rfl⟩, hv.2.2, fun W hW => (P W hW).mono fun e w' h => ?_, fun W hW => (R W hW).mono fun e w' h => ?_⟩
    · obtain ⟨h1, h2, h3⟩ := h.good hb
      exact ⟨.nilIface, h1, h2, h3, .inl ⟨rfl, rfl⟩⟩
    · obtain ⟨h1, h2, h3⟩ := h
      rw [hb, hv.1] at h2
      rw [hv.2.1] at h3
      exact ⟨by rw [h2], h1, h3⟩
  · have hv : ((.int .i64 (whole (num X o))) : Value) = (.int .i64 0) ∧ (nxt X o) = o := bad_I hb
    refine ⟨(bad X o), o, (.int .i64 0), ⟨_, rfl⟩, ho, fun W hW => (P W hW).mono fun e w' h => ?_, fun W hW => (R W hW).mono fun e w' h => ?_⟩
    · rcases h.2 with h1 | ⟨_, F, h1, h2, h3, h4, h6, h5⟩
      · exact absurd h1.1 hb
      · exact ⟨_, h1, h.1, h5, .inr ⟨hb, F, rfl, h6, ⟨h2, h3, h4⟩⟩⟩
    · obtain ⟨h1, h2, h3⟩ := h
      rw [hv.1, if_neg hb] at h2
      rw [hv.2] at h3
      exact ⟨by rw [h2, if_neg hb], h1, h3⟩

/-- Both readers at kind 2: what they come to, in one word. -/
theorem both_B (X : ByteArray) (o r q : Nat) (hXs : X.size ≤ 140737488355328) (ho : o ≤ X.size) :
    Both 14 15 #[.pointer (some ⟨r, 0, none⟩)] #[.pointer (some ⟨q, 0, none⟩)] X o r q (fun v => ∃ n : Int, v = .int .u8 n) := by
  have P := fun (W : World) (hW : Rdr W r X o) => Byte_any X o r W hXs ho hW
  have R := fun (W : World) (hW : Rdr W q X o) => ref_Byte_any X o q W hXs ho hW
  by_cases hb : (badB X o) = 0
  · have hv : ((octV X o) : Value) = (octV X o) ∧ (nxtB X o) = (nxtB X o) ∧ (nxtB X o) ≤ X.size := good_B ho hb
    refine ⟨0, (nxtB X o), (octV X o), ⟨_, rfl⟩, hv.2.2, fun W hW => (P W hW).mono fun e w' h => ?_, fun W hW => (R W hW).mono fun e w' h => ?_⟩
    · obtain ⟨h1, h2, h3⟩ := h.good hb
      exact ⟨.nilIface, h1, h2, h3, .inl ⟨rfl, rfl⟩⟩
    · obtain ⟨h1, h2, h3⟩ := h
      rw [hb, hv.1] at h2
      rw [hv.2.1] at h3
      exact ⟨by rw [h2], h1, h3⟩
  · have hv : ((octV X o) : Value) = (.int .u8 0) ∧ (nxtB X o) = o := bad_B hb
    refine ⟨(badB X o), o, (.int .u8 0), ⟨_, rfl⟩, ho, fun W hW => (P W hW).mono fun e w' h => ?_, fun W hW => (R W hW).mono fun e w' h => ?_⟩
    · rcases h.2 with h1 | ⟨_, F, h1, h2, h3, h4, h6, h5⟩
      · exact absurd h1.1 hb
      · exact ⟨_, h1, h.1, h5, .inr ⟨hb, F, rfl, h6, ⟨h2, h3, h4⟩⟩⟩
    · obtain ⟨h1, h2, h3⟩ := h
      rw [hv.1, if_neg hb] at h2
      rw [hv.2] at h3
      exact ⟨by rw [h2, if_neg hb], h1, h3⟩

/-- Both readers at kind 3: what they come to, in one word. -/
theorem both_T (X : ByteArray) (o r q : Nat) (hXs : X.size ≤ 140737488355328) (ho : o ≤ X.size) :
    Both 16 17 #[.pointer (some ⟨r, 0, none⟩)] #[.pointer (some ⟨q, 0, none⟩)] X o r q (fun v => ∃ t : Bool, v = .bool t) := by
  have P := fun (W : World) (hW : Rdr W r X o) => Bool_any X o r W hXs ho hW
  have R := fun (W : World) (hW : Rdr W q X o) => ref_Bool_any X o q W hXs ho hW
  by_cases hb : (badT X o) = 0
  · have hv : ((truV X o) : Value) = (truV X o) ∧ (nxtR X o) = (nxtT o) ∧ (nxtT o) ≤ X.size := good_T ho hb
    refine ⟨0, (nxtT o), (truV X o), ⟨_, rfl⟩, hv.2.2, fun W hW => (P W hW).mono fun e w' h => ?_, fun W hW => (R W hW).mono fun e w' h => ?_⟩
    · obtain ⟨h1, h2, h3⟩ := h.good hb
      exact ⟨.nilIface, h1, h2, h3, .inl ⟨rfl, rfl⟩⟩
    · obtain ⟨h1, h2, h3⟩ := h
      rw [hb, hv.1] at h2
      rw [hv.2.1] at h3
      exact ⟨by rw [h2], h1, h3⟩
  · have hv : ((truV X o) : Value) = (.bool false) ∧ (nxtR X o) = o := bad_T hb
    refine ⟨(badT X o), o, (.bool false), ⟨_, rfl⟩, ho, fun W hW => (P W hW).mono fun e w' h => ?_, fun W hW => (R W hW).mono fun e w' h => ?_⟩
    · rcases h.2 with h1 | ⟨_, F, h1, h2, h3, h4, h6, h5⟩
      · exact absurd h1.1 hb
      · exact ⟨_, h1, h.1, h5, .inr ⟨hb, F, rfl, h6, ⟨h2, h3, h4⟩⟩⟩
    · obtain ⟨h1, h2, h3⟩ := h
      rw [hv.1, if_neg hb] at h2
      rw [hv.2] at h3
      exact ⟨by rw [h2, if_neg hb], h1, h3⟩

/-- Both readers at kind 4: what they come to, in one word. -/
theorem both_X (X : ByteArray) (o r q : Nat) (z : Int) (hXs : X.size ≤ 140737488355328) (ho : o ≤ X.size) (hz1 : -32768 ≤ z) (hz2 : z < 32768) :
    Both 18 19 #[.pointer (some ⟨r, 0, none⟩), .int .i64 (z - 4)] #[.pointer (some ⟨q, 0, none⟩), .int .i64 (z - 4)] X o r q (fun v => ∃ t : ByteArray, v = .string t) := by
  have P := fun (W : World) (hW : Rdr W r X o) => Text_any X o r (z - 4) W (by omega) (by omega) hXs ho hW
  have R := fun (W : World) (hW : Rdr W q X o) => ref_Text_any X o q (z - 4) W (by omega) (by omega) hXs ho hW
  by_cases hb : (badX X o (z - 4)) = 0
  · have hv : ((txtR X o (z - 4)) : Value) = (txtV X o) ∧ (nxtXR X o (z - 4)) = (nxtX X o) ∧ (nxtX X o) ≤ X.size := good_X ho hb
    refine ⟨0, (nxtX X o), (txtV X o), ⟨_, rfl⟩, hv.2.2, fun W hW => (P W hW).mono fun e w' h => ?_, fun W hW => (R W hW).mono fun e w' h => ?_⟩
    · obtain ⟨h1, h2, h3⟩ := h.good hb
      exact ⟨.nilIface, h1, h2, h3, .inl ⟨rfl, rfl⟩⟩
    · obtain ⟨h1, h2, h3⟩ := h
      rw [hb, hv.1] at h2
      rw [hv.2.1] at h3
      exact ⟨by rw [h2], h1, h3⟩
  · have hv : ((txtR X o (z - 4)) : Value) = (.string ⟨#[]⟩) ∧ (nxtXR X o (z - 4)) = o := bad_X hb
    refine ⟨(badX X o (z - 4)), o, (.string ⟨#[]⟩), ⟨_, rfl⟩, ho, fun W hW => (P W hW).mono fun e w' h => ?_, fun W hW => (R W hW).mono fun e w' h => ?_⟩
    · rcases h.2 with h1 | ⟨_, F, h1, h2, h3, h4, h6, h5⟩
      · exact absurd h1.1 hb
      · exact ⟨_, h1, h.1, h5, .inr ⟨hb, F, rfl, h6, ⟨h2, h3, h4⟩⟩⟩
    · obtain ⟨h1, h2, h3⟩ := h
      rw [hv.1, if_neg hb] at h2
      rw [hv.2] at h3
      exact ⟨by rw [h2, if_neg hb], h1, h3⟩
end Go.Proofs.YtllkflbkndfdeaaDoor
