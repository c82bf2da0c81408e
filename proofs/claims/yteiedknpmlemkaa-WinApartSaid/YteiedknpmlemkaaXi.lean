/-
  pair: two windows of a list that meet.
-/
import Derived.Test.YteiedknpmlemkaaXh
namespace Go.Proofs.Yteiedknpmlemkaa
open Go Go.RowKit Go.Lib Go.Shelf

/-- None of the windows ahead of i meets one behind it. -/
def NoPair (l : List Win) (i : Nat) : Prop := ∀ p q a b, p < i → p < q → l[p]? = some a → l[q]? = some b → meetM a b = false
/-- What pair tells. -/
def Paired (l : List Win) (e : Ending) : Prop :=
  (∃ i k a b, l[i]? = some a ∧ l[k]? = some b ∧ i < k ∧ meetM a b = true ∧ e = .returned (.tuple #[.int .i64 (i : Nat), .int .i64 (k : Nat), .bool true])) ∨
  (NoPair l l.length ∧ e = .returned (.tuple #[.int .i64 0, .int .i64 0, .bool false]))

set_option maxRecDepth 100000 in
set_option maxHeartbeats 3200000 in
theorem rpair_any (l : List Win) (A : Option Addr) (cap : Nat) (w : World) (hv : Wins w w.heap.size (.slice A l.length cap) l) (hlen : l.length ≤ 1000000) :
    Calls Try.prog 33 #[.slice A l.length cap] w fun e w' => Paired l e ∧ Below w.heap.size w w' := by
  have HV := Lib.hid hv
  clear hv
  go_enter Try.func33, Try.ntmps33
  go_wp2
  go_loopw [5] (fun i wr => ∃ p : Nat, p ≤ l.length ∧ i = .int .i64 p ∧ NoPair l p ∧ Below w.heap.size w wr) (fun i _ => l.length - (intOf i).toNat)
  case atStart => exact ⟨0, Nat.zero_le _, rfl, fun p q a b h => by omega, Below.refl _ _⟩
  case round =>
    rename World => wu
    obtain ⟨p, hp, rfl, hnp, hbu⟩ := hrel
    have HNP := Lib.hid hnp
    have HBU := Lib.hid hbu
    clear hnp hbu
    by_cases hlt : p < l.length
    · obtain ⟨A', cap', hA, hn | ⟨g, hgA, hgl, hcs⟩⟩ := HV.out
      · rw [hn] at hlt; simp at hlt
      obtain ⟨rfl, rfl⟩ : A = A' ∧ cap = cap' := by simpa using hA
      subst hgA
      obtain ⟨a, ha⟩ : ∃ a, l[p] = a := ⟨_, rfl⟩
      obtain ⟨a0, a1⟩ := a
      have HAt : Hid (l[p]? = some (a0, a1)) := Lib.hid (by rw [List.getElem?_eq_getElem hlt, ha])
      have HCS := Lib.hid hcs
      have hq0 : (0 : Int) ≤ (p : Int) := by omega
      have hq1 : (p : Int) < (l.length : Int) := by omega
      have W1 : IntKind.i64.wrap ((p : Int) + 1) = (p : Int) + 1 := IntWalk.i64_in _ (by omega)
      clear ha hcs hA
      go_wp2_with fail
      go_loopw [6] (fun i wr => ∃ q : Nat, p + 1 ≤ q ∧ q ≤ l.length ∧ i = .int .i64 q ∧ (∀ r b, p < r → r < q → l[r]? = some b → meetM (a0, a1) b = false) ∧ Below w.heap.size w wr) (fun i _ => l.length - (intOf i).toNat)
      case atStart => exact ⟨p + 1, Nat.le_refl _, by omega, by go_num, fun r b h1 h2 => by omega, HBU.out⟩
      case round =>
        obtain ⟨q, hpq, hq, rfl, hno, hbr⟩ := hrel
        have HNO := Lib.hid hno
        have HBR := Lib.hid hbr
        have hsr := hbr.size
        clear hno hbr
        by_cases hlt2 : q < l.length
        · obtain ⟨b, hb⟩ : ∃ b, l[q] = b := ⟨_, rfl⟩
          obtain ⟨b0, b1⟩ := b
          have HBt : Hid (l[q]? = some (b0, b1)) := Lib.hid (by rw [List.getElem?_eq_getElem hlt2, hb])
          have hq2 : (0 : Int) ≤ (q : Int) := by omega
          have hq3 : (q : Int) < (l.length : Int) := by omega
          have W2 : IntKind.i64.wrap ((q : Int) + 1) = (q : Int) + 1 := IntWalk.i64_in _ (by omega)
          obtain ⟨β, hβ⟩ : ∃ β, meetM (a0, a1) (b0, b1) = β := ⟨_, rfl⟩
          have Hβ := Lib.hid hβ
          have HX : Hid (∀ w', Below wr.heap.size wr w' → w'.cell? ⟨g, p * 2, none⟩ = some (.int .i64 a0) ∧ w'.cell? ⟨g, p * 2 + 1, none⟩ = some (.int .i64 a1) ∧ w'.cell? ⟨g, q * 2, none⟩ = some (.int .i64 b0) ∧ w'.cell? ⟨g, q * 2 + 1, none⟩ = some (.int .i64 b1) ∧ Below wr.heap.size wr w') := Lib.hid (fun w' h => by
            have e := (h.block g (by omega)).trans (HBR.out.block g hgl)
            have c := (HCS.out p _ HAt.out).same (W' := w') e
            have d := (HCS.out q _ HBt.out).same (W' := w') e
            exact ⟨c.c0, c.c1, d.c0, d.c1, h⟩)
          clear hb hβ
          go_wp2_with fail
          go_region_held3 (fun w' => w'.cell? ⟨g, p * 2, none⟩ = some (.int .i64 a0) ∧ w'.cell? ⟨g, p * 2 + 1, none⟩ = some (.int .i64 a1) ∧ w'.cell? ⟨g, q * 2, none⟩ = some (.int .i64 b0) ∧ w'.cell? ⟨g, q * 2 + 1, none⟩ = some (.int .i64 b1) ∧ Below wr.heap.size wr w')
            (first | assumption | (exact HX.out _ ((Below.refl _ _).drew)) | (exact HX.out _ hs1))
            (first
              | (go_at_call 13
                 (with_reducible refine (rmeet_any (a0, a1) (b0, b1) _).mono ?_)
                 rw [Hβ.out]
                 rintro e w1 ⟨rfl, p1⟩
                 have hs1 : Below wr.heap.size wr w1 := (Below.refl _ _).drew.trans (p1.mono (by simp))
                 clear p1))
          have HB1 := Lib.hid (HBR.out.trans (hs1.mono hsr))
          clear hs1
          cases β with
          | true =>
            go_wp2_with fail
            refine bodyPost_ret (v := .tuple #[.int .i64 (p : Nat), .int .i64 (q : Nat), .bool true]) (by simp [results, Try.results33, go_sem]) rfl ?_
            exact ⟨.inl ⟨p, q, _, _, HAt.out, HBt.out, by omega, Hβ.out, rfl⟩, HB1.out⟩
          | false =>
            go_wp2_with fail
            go_roundw
            case rel =>
              refine ⟨q + 1, by omega, by omega, by go_num, fun r b h1 h2 h3 => ?_, HB1.out⟩
              by_cases hr : r = q
              · subst hr
                rw [HBt.out] at h3
                obtain rfl : (b0, b1) = b := by simpa using h3
                exact Hβ.out
              · exact HNO.out r b h1 (by omega) h3
            case measure => simp [intOf]; omega
        · obtain rfl : q = l.length := by omega
          go_wp2_with fail
          go_roundw
          case rel =>
            refine ⟨p + 1, by omega, by go_num, fun p' q' a b h1 h2 h3 h4 => ?_, HBR.out⟩
            by_cases hr : p' = p
            · subst hr
              rw [HAt.out] at h3
              obtain rfl : (a0, a1) = a := by simpa using h3
              exact HNO.out q' b h2 (Array.getElem?_eq_some_iff.1 (by simpa using h4 : l.toArray[q']? = some b)).1 h4
            · exact HNP.out p' q' a b (by omega) h2 h3 h4
          case measure => simp [intOf]; omega
    · obtain rfl : p = l.length := by omega
      go_wp2_with fail
      refine bodyPost_ret (v := .tuple #[.int .i64 0, .int .i64 0, .bool false]) (by simp [results, Try.results33, go_sem]) rfl ?_
      exact ⟨.inr ⟨HNP.out, rfl⟩, HBU.out⟩
end Go.Proofs.Yteiedknpmlemkaa
