/-
  The codec's lists, laid by a writer.
-/
import Derived.Test.YtpfeaekankkpiaaGreatDoorEvKd
import Derived.LoopTactic
import Derived.Deep.CutBlock
namespace Go.Proofs.YtpfeaekankkpiaaGreatDoor
open Go Go.RowKit Go.Lib

/-- A list of whole numbers lies there. -/
def IntsAt (W : World) (B : Nat) (A : Option Addr) (l : List Int) : Prop := l = [] ∨ ∃ ad : Addr, A = some ad ∧ ad.block < B ∧ ∀ j z, l[j]? = some z → W.cell? (ad.add j) = some (.int .i64 z)
def wholesB (l : List Int) : List Nat := (l.map fun z => enc (zz z)).flatten
theorem wholesB_snoc {l : List Int} {j : Nat} (h : j < l.length) : wholesB (l.take (j + 1)) = wholesB (l.take j) ++ enc (zz l[j]) := by
  unfold wholesB
  rw [List.take_succ_eq_append_getElem h, List.map_append, List.flatten_append]
  simp
theorem wholesB_len {l : List Int} (h : ∀ z ∈ l, w64 z) : (wholesB l).length ≤ 10 * l.length := by
  induction l with
  | nil => simp [wholesB]
  | cons z r ih =>
    have h1 := ih (fun y hy => h y (List.mem_cons_of_mem _ hy))
    have hz := h z (List.mem_cons_self ..)
    have h2 := (enc_len (zz_lt hz.lo hz.hi)).2
    unfold wholesB at *
    simp only [List.map_cons, List.flatten_cons, List.length_append, List.length_cons]
    omega
theorem meth_of_whole (a : Addr) (w : World) : (Go.method 330 102 (.pointer (some a)) "anabranch/codec.whole").run Tryz.prog w = .ok (89, .pointer (some a)) w := by kernel_rfl

set_option maxRecDepth 100000 in
set_option maxHeartbeats 3200000 in
theorem ints_any (B g c : Nat) (A : Option Addr) (p : Addr) (most : Int) (L : List Nat) (l : List Int) (W : World) (h : Wtr W B g L) (hp : W.cell? p = some (.slice A l.length c)) (hq : p.block < B) (hl : IntsAt W B A l) (ok : ∀ z ∈ l, w64 z)
    (hm : L.length + 10 + 10 * l.length + 10 ≤ 140737488355328) :
    Calls Tryz.prog 47 #[.iface 102 (.pointer (some ⟨g, 0, none⟩)), .pointer (some p), .int .i64 most, .func (.methodOf 107 "anabranch/codec.whole") #[] #[]] W
      fun e w' => e = .returned (.tuple #[]) ∧ Wtr w' B g (L ++ (enc l.length ++ wholesB l)) ∧ Below B W w' := by
  have H0 := Lib.hid h
  have HL := Lib.hid hl
  have HO := Lib.hid ok
  have HQ := Lib.hid hq
  have HP := Lib.hid hp
  have E0 : Hid ((enc l.length).length ≤ 10) := Lib.hid (enc_len (by omega)).2
  have hp0 : ∀ w' : World, Below B W w' → w'.cell? p = some (.slice A l.length c) := fun w' hb => (hb.cell hq).trans hp
  have HP0 := Lib.hid hp0
  have Ncount := fun w => ahead_count ⟨g, 0, none⟩ w
  have Mcount := fun w => meth_count ⟨g, 0, none⟩ w
  have Mwhole := fun w => meth_of_whole ⟨g, 0, none⟩ w
  clear h hl ok hq hp0
  go_enter Tryz.func47, Tryz.ntmps47
  go_wp2_with fail
  go_region_held3 (fun w' => w'.cell? p = some (.slice A l.length c) ∧ Below B W w')
    (first | assumption | (exact ⟨HP0.out _ (Below.drew (Below.refl _ _)), Below.drew (Below.refl _ _)⟩) | (exact ⟨HP0.out _ hs1, hs1⟩))
    (first
      | (go_at_call 82
         (with_reducible refine (count_any B g L l.length most _ (H0.out.kept (Below.refl _ _).drew) (by omega) (by omega)).mono ?_)
         rintro e w1 ⟨rfl, hw, hb⟩
         have H1 := Lib.hid hw
         have hs1 : Below B W w1 := (Below.refl _ _).drew.trans hb
         have B1 := Lib.hid hs1
         clear hw hb))
  have c1 : w1.cell? p = some (.slice A l.length c) := HP0.out _ B1.out
  clear hs1 hp
  go_wp2_with fail
  go_loopw [34] (fun i wr => ∃ j : Nat, i = .int .i64 j ∧ j ≤ l.length ∧ Wtr wr B g (L ++ enc l.length ++ wholesB (l.take j)) ∧ Below B W wr) (fun i _ => l.length - (intOf i).toNat)
  case atStart => exact ⟨0, rfl, Nat.zero_le _, by simpa [wholesB] using H1.out, B1.out⟩
  case round =>
    obtain ⟨j, rfl, hj, hwr, hbr⟩ := hrel
    have HR := Lib.hid hwr
    have BR := Lib.hid hbr
    have cr : wr.cell? p = some (.slice A l.length c) := HP0.out _ hbr
    clear hwr hbr c1
    by_cases hlt : j < l.length
    · have hq1 : (j : Int) < (l.length : Int) := by omega
      have hq0 : (0 : Int) ≤ (j : Int) := by omega
      have W1 : IntKind.i64.wrap ((j : Int) + 1) = (j : Int) + 1 := IntWalk.i64_in _ (by omega)
      rcases HL.out with h0 | ⟨ad, rfl, hga, hcl⟩
      · rw [h0] at hlt; simp at hlt
      have hz := HO.out _ (List.getElem_mem hlt)
      have HC := Lib.hid (((BR.out.cell (p := ad.add j) (by rw [blk_add]; exact hga))).trans (hcl j _ (List.getElem?_eq_getElem hlt)))
      have HZ := Lib.hid hz
      have HE := Lib.hid (wholesB_snoc hlt)
      have HLN : Hid ((wholesB (l.take j)).length ≤ 10 * l.length) := Lib.hid (by
        have := wholesB_len (l := l.take j) (fun z hz => HO.out z (List.mem_of_mem_take hz))
        rw [List.length_take] at this
        omega)
      clear hcl hz
      go_wp2_with (go_at_call 89
                   (with_reducible refine (whole_any B g _ l[j] (ad.add j) _ HR.out HC.out HZ.out.lo HZ.out.hi (by have := HLN.out; have := E0.out; simp only [List.length_append]; omega)).mono ?_)
                   rintro e w2 ⟨rfl, hw2, hb2⟩
                   have H2 := Lib.hid hw2
                   have B2 := Lib.hid hb2
                   clear hw2 hb2)
      go_roundw
      case rel => exact ⟨j + 1, by go_num, by omega, by rw [HE.out, ← List.append_assoc]; exact H2.out, BR.out.trans B2.out⟩
      case measure => simp [intOf]; omega
    · obtain rfl : j = l.length := by omega
      have hq1 : ¬ ((l.length : Nat) : Int) < (l.length : Int) := by omega
      go_wp2_with fail
      go_end0
      exact ⟨rfl, by have hh := HR.out; rw [List.take_length, List.append_assoc] at hh; exact hh, BR.out⟩
end Go.Proofs.YtpfeaekankkpiaaGreatDoor
