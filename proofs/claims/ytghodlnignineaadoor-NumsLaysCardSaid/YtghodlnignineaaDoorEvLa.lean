/-
  Promise P1.1's law NumsLays: its walk.
-/
import Derived.Test.YtghodlnignineaaDoorEvLb
namespace Go.Proofs.YtghodlnignineaaDoor
open Go Go.RowKit Go.Lib Go.Ev

theorem rd_conv {w : World} {B : Nat} {A : Option Addr} {m c : Nat} {X : ByteArray} (hr : Rd w B A m c (strCells X)) : (convert 61 9 (.slice A m c)).run Tryd.prog w = .ok (.string X) w := by
  have hx : X.size = m := by
    have := hr.1
    rwa [strCells_length] at this
  cases A with
  | none =>
    obtain ⟨rfl, rfl⟩ := hr.2.1 rfl
    have hX : X.data = #[] := Array.eq_empty_of_size_eq_zero hx
    have := run_convert_bytes_nil (P := Tryd.prog) w 61 5 Tryd.underlying61 Tryd.underlying5 0 0 9 Tryd.underlying9
    rw [show X = ByteArray.empty from ByteArray.ext hX]
    exact this
  | some ad =>
    have := run_convert_bytes_back (P := Tryd.prog) w 61 9 5 ad c X.data.toList Tryd.underlying61 Tryd.underlying5 Tryd.underlying9 (fun j hj => (hr.2.2 ad rfl).2 j _ (by simp [strCells, List.getElem?_eq_getElem hj]))
    rw [Array.length_toList] at this
    have hx' : X.data.size = m := hx
    rw [hx'] at this
    exact this
def cutB (X : ByteArray) (m : Nat) : ByteArray := ⟨(X.data.toList.take m).toArray⟩
theorem rd_cut {w : World} {B : Nat} {A : Option Addr} {n c m : Nat} {X : ByteArray} (hr : Rd w B A n c (strCells X)) (hm : m ≤ n) : Rd w B A m c (strCells (cutB X m)) := by
  have e : strCells (cutB X m) = (strCells X).take m := by simp [strCells, cutB, List.map_take]
  have hl := hr.1
  refine ⟨by rw [e, List.length_take]; omega, fun h => ⟨by have := (hr.2.1 h).1; omega, (hr.2.1 h).2⟩, fun ad h => ⟨fun h0 => (hr.2.2 ad h).1 (by omega), fun j u hu => (hr.2.2 ad h).2 j u ?_⟩⟩
  rw [e, List.getElem?_take] at hu
  split at hu
  · exact hu
  · simp at hu

set_option maxRecDepth 100000 in
set_option maxHeartbeats 1000000 in
theorem lays_walk (A : Option Addr) (n c N m k : Nat) (X S : ByteArray) (w : World) (hn : n ≤ c) (hc : c ≤ 9223372036854775807) (hS : S.size ≤ 9223372036854775807)
    (hm : m = 100 ∧ ¬ n ≤ 100 ∨ m = n ∧ n ≤ 100) (hk : k = 300 ∧ ¬ S.size ≤ 300 ∨ k = S.size ∧ S.size ≤ 300)
    (rd : Rd w w.heap.size A m c (strCells X)) (hN : N < 18446744073709551616)
    (cl : w.cell? ⟨0, 0, none⟩ = some (.iface 122 (.agg #[.pointer (some ⟨1, 31, none⟩)]))) :
    Calls Tryd.prog 4 #[.slice A n c, .int .u64 N, .string S] w (WK w) := by
  have hcv := rd_conv rd
  have RD := Lib.hid rd; clear rd
  have HN := Lib.hid hN; clear hN
  have CL := Lib.hid cl; clear cl
  rcases hm with ⟨rfl, hm⟩ | ⟨rfl, hm⟩ <;> rcases hk with ⟨rfl, hk⟩ | ⟨rfl, hk⟩
  all_goals
    go_enter Tryd.func4, Tryd.ntmps4
    go_wp2
    rename_i K hK
    refine lays_region (A := A) (m := _) (c := c) (N := N) (S := _) (X := X) (W := w) ?_ ⟨rfl, rfl, rfl, rfl, RD.out, ?_, HN.out, ?_, CL.out⟩ rfl (Below.refl _ _) ?_
    · kernel_rfl
    · omega
    · first | exact hk | (rw [ByteArray.size_extract]; omega)
    · intro a w' e1 e2 e3 hb
      refine hK _ _ (wp_ret (bodyPost_ret (results_tmp rfl _ _ _) e1 ⟨?_, hb⟩))
      simp [e3]
end Go.Proofs.YtghodlnignineaaDoor
