/-
  bin.cycle, whose iterator goes round without an end, and bin.deal.
-/
import Derived.Test.YtjffajbahnoilaaBa
namespace Go.Proofs.Ytjffajbahnoilaa
open Go Go.RowKit Go.Lib Go.Shelf
attribute [local go_sem] Oper.semAt_some

/-- A row of numbers lies behind a slice. -/
def Row (W : World) (B : Nat) (A : Option Addr) (k : IntKind) (l : List Int) : Prop := l = [] ∨ ∃ ad : Addr, A = some ad ∧ ad.block < B ∧ ∀ j z, l[j]? = some z → W.cell? (ad.add j) = some (.int k z)

theorem cell_same {W W' : World} {a : Addr} (h : W'.heap[a.block]? = W.heap[a.block]?) : W'.cell? a = W.cell? a := by
  unfold World.cell?; rw [h]

theorem Row.at {q : Nat} {ws : List Int} (hq : ws.length = q) {w : World} {ad : Addr} (hr : ∀ j z, ws[j]? = some z → w.cell? (ad.add j) = some (.int .i64 z)) {W : World} {n g : Nat} (hW : Old n g w W) (h1 : ad.block < n) (h2 : ad.block ≠ g)
    {j : Nat} (hj : j < q) : W.cell? (ad.add j) = some (.int .i64 (ws.getD j 0)) := by
  have h : ws[j]? = some (ws.getD j 0) := by
    rw [List.getD_eq_getElem?_getD, List.getElem?_eq_getElem (by omega)]; rfl
  rw [← hr j _ h]
  have e : (ad.add j).block = ad.block := by unfold Addr.add; split <;> rfl
  exact cell_same (by rw [e]; exact hW.old _ h1 h2)

theorem mod_at {k j q : Nat} (hk : k % q = 0) (hj : j < q) : (k + j) % q = j := by
  rw [Nat.add_mod, hk, Nat.zero_add, Nat.mod_mod, Nat.mod_eq_of_lt hj]

set_option maxRecDepth 100000 in
/-- The iterator: the k-th value is that worker whose index is k modulo how many there are. -/
theorem cyc_gives (gb c : Nat) (ad : Addr) (ws : List Int) (q : Nat) (hq : ws.length = q) (M n g : Nat) (w : World) (hws : 0 < q) (hlen : q ≤ maxLen) (h1 : gb < n) (h1' : gb ≠ g) (ha : ad.block < n) (ha' : ad.block ≠ g)
    (hb : w.cell? ⟨gb, 0, none⟩ = some (.slice (some ad) q c)) (hr : ∀ j z, ws[j]? = some z → w.cell? (ad.add j) = some (.int .i64 z)) :
    SeqUpTo 18 #[.pointer (some ⟨gb, 0, none⟩)] (fun k => .int .i64 (ws.getD (k % q) 0)) M n g w := fun l J Jx W hW hM hY h0 => by
  have HP := Lib.hid hws
  have HRow := fun (W' : World) (h : Old n g w W') (j : Nat) (hj : j < q) => Lib.hid (Row.at hq hr h ha ha' hj)
  have HY := Lib.hid hY
  have HM := Lib.hid hM
  have HW := Lib.hid hW
  have HB := fun (W' : World) (h : Old n g w W') => Lib.hid ((cell_same (a := ⟨gb, 0, none⟩) (h.old gb h1 h1')).trans hb)
  have HLen := Lib.hid hlen
  clear hlen hws hr hY hM hb hW hq
  refine callsIn_of_wp Try.func18 rfl trivial ?_ rfl
  simp only [Try.ntmps18, List.size_toArray, List.length_cons, List.length_nil, Nat.reduceAdd, Nat.reduceSub, Array.replicate_succ, Array.replicate_zero, List.push_toArray, List.append_toArray, List.nil_append, List.cons_append]
  gi_wp2
  gi_loopg [] (M + 1) (fun m wr => ∃ k : Nat, k % q = 0 ∧ m = M + 1 - k ∧ J k wr ∧ Old n g w wr)
  case atStart => exact ⟨0, by simp, by simp, h0, HW.out⟩
  case round =>
    obtain ⟨k, hk, rfl, hJ, hO⟩ := hrel
    have hbc := (HB wr hO).out
    have hq2 : (0 : Int) < (q : Int) := by have := HP.out; omega
    have hq3 : 0 < q := HP.out
    have HK := Lib.hid hk
    clear hk
    gi_wp2
    gi_loopw [10] (fun i wr => ∃ j : Nat, j ≤ q ∧ i = .int .i64 j ∧ J (k + j) wr ∧ Old n g w wr) (fun i _ => (q - intOf i).toNat)
    case atStart => exact ⟨0, Nat.zero_le _, rfl, hJ, hO⟩
    case round =>
      obtain ⟨j, hj, rfl, hJ2, hO2⟩ := hrel
      by_cases hlt : j < q
      · have hq1 : (j : Int) < (q : Int) := by omega
        have hq0 : (0 : Int) ≤ (j : Int) := by omega
        have hcell := (HRow _ hO2 j hlt).out
        obtain ⟨fn, tmps, assign, body, hy, hRd⟩ := HY.out (k + j) _ hJ2
        rw [mod_at HK.out hlt] at hy
        obtain ⟨x, hx⟩ : ∃ x, ws.getD j 0 = x := ⟨_, rfl⟩
        rw [hx] at hy hcell
        clear hx
        have W1 : IntKind.i64.wrap ((j : Int) + 1) = (j : Int) + 1 := IntWalk.i64_in _ (by have := HLen.out; unfold maxLen at this; omega)
        gi_wp2
        refine hRd.mono ?_
        rintro e W3 (⟨rfl, hJ3, hk3⟩ | ⟨rfl, hJx3⟩)
        · have hO3 := hO2.trans hk3
          gi_wp2
          go_roundw
          case rel => exact ⟨j + 1, by omega, rfl, hJ3, hO3⟩
          case measure => simp [intOf]; omega
        · gi_wp2
          exact bodyPost_ret (results_none rfl _ _ _) rfl ⟨⟨_, rfl⟩, _, hJx3⟩
      · obtain rfl : j = q := by omega
        have hq1 : ¬ (j : Int) < (j : Int) := by omega
        gi_wp2
        gi_roundg (M + 1 - (k + j))
        case measure => have := HM.out _ _ hJ2; have := HP.out; omega
        case rel => exact ⟨k + j, by have := HK.out; rw [Nat.add_mod_right]; exact this, rfl, hJ2, hO2⟩
end Go.Proofs.Ytjffajbahnoilaa
