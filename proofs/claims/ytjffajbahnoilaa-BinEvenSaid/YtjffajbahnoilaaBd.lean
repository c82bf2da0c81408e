/-
  bin.Of, bin.Rising, and the reference's.
-/
import Derived.Test.YtjffajbahnoilaaBc
import Derived.Deep.OwnRows
namespace Go.Proofs.Ytjffajbahnoilaa
open Go Go.RowKit Go.Lib

def ofM (key : Int) : Int := 2654435761 * key % 4294967296 / 536870912

set_option maxRecDepth 100000 in
theorem of_any (key : Int) (hk : 0 ≤ key ∧ key < 4294967296) (w : World) : Calls Try.prog 6 #[.int .u32 key] w fun e w' => e = .returned (.int .i64 (ofM key)) ∧ w' = w := by
  go_enter Try.func6, Try.ntmps6
  go_wp2
  go_ret
  exact ⟨rfl, rfl⟩

set_option maxRecDepth 100000 in
theorem rof_any (key : Int) (hk : 0 ≤ key ∧ key < 4294967296) (w : World) : Calls Try.prog 7 #[.int .u32 key] w fun e w' => e = .returned (.int .i64 (ofM key)) ∧ w' = w := by
  go_enter Try.func7, Try.ntmps7
  go_wp2
  rw [show key * 2654435761 = 2654435761 * key from Int.mul_comm _ _]
  go_ret
  exact ⟨rfl, rfl⟩

theorem int_info : (Try.prog.info? 3).map (fun i => (i.zero, i.size, i.bytes)) = some (some (.int .i64 0), 1, 8) := by kernel_rfl
theorem make_int (n : Nat) (h : n ≤ 50) (w : World) : (Instr.makeSlice 23 (.int .i64 (n : Int)) (.int .i64 (n : Int))).run Try.prog w = .ok (.slice (some ⟨w.heap.size, 0, none⟩) n n) (w.alloc (.cells (madeCells #[.int .i64 0] n) 3)) :=
  run_make_row' 23 3 (.int .i64 0) 8 Try.underlying23 int_info rfl .i64 .i64 n (by omega) (by omega) w

set_option maxRecDepth 100000 in
theorem turns_any (A : Option Addr) (n c : Nat) (ad : Addr) (ws : List Int) (q c2 : Nat) (hq : ws.length = q) (h0 : 0 < q) (hqm : q ≤ maxLen) (hn : n ≤ 50) (w : World) (ha : ad.block < w.heap.size)
    (hr : ∀ j z, ws[j]? = some z → w.cell? (ad.add j) = some (.int .i64 z)) :
    Calls Try.prog 11 #[.slice A n c, .slice (some ad) q c2] w fun e w' => ∃ g, e = .returned (.slice (some ⟨g, 0, none⟩) n n) ∧ w.heap.size ≤ g ∧ g < w'.heap.size ∧ w'.heap[g]? = some (.cells ((List.range n).map (turn ws q)).toArray 3 (0, 0)) ∧ Below w.heap.size w w' := by
  have HR := Lib.hid hr
  have HQ := Lib.hid hq
  have H0 := Lib.hid h0
  have hq1 : ¬ (q : Int) = 0 := by omega
  have hq2 : decide ((q : Int) = 0) = false := by simpa using hq1
  have hn1 : (0 : Int) ≤ (n : Int) := by omega
  have hmk := make_int n hn w
  obtain ⟨w1, hw1⟩ : ∃ w1, w.alloc (.cells (madeCells #[.int .i64 0] n) 3) = w1 := ⟨_, rfl⟩
  rw [hw1] at hmk
  have s1 : w1.heap.size = w.heap.size + 1 := by rw [← hw1]; simp
  have HD : Hid (Calls Try.prog 16 #[.slice (some ⟨w.heap.size, 0, none⟩) n n, .func (.func 18) #[] #[.pointer (some ⟨w.heap.size + 1, 0, none⟩)]] (w1.alloc (.cells #[.slice (some ad) q c2] 23)) fun e w' =>
      (∃ v, e = .returned v) ∧ w'.heap[w.heap.size]? = some (.cells ((List.range n).map (turn ws q)).toArray 3 (0, 0)) ∧ Below w.heap.size w w' ∧ w.heap.size < w'.heap.size) := by
    obtain ⟨w2, hw2⟩ : ∃ w2, w1.alloc (.cells #[.slice (some ad) q c2] 23) = w2 := ⟨_, rfl⟩
    have s2 : w2.heap.size = w.heap.size + 2 := by rw [← hw2]; simp [s1]
    have hml : (madeCells #[.int .i64 0] n).toList.length = n := by simp [madeCells]
    have hB : Below w.heap.size w w2 := by rw [← hw2, ← hw1]; exact ((Below.refl _ _).alloc (Nat.le_refl _) _).alloc (by simp) _
    rw [hw2]
    have := deal_any w.heap.size 3 ws q hq (madeCells #[.int .i64 0] n).toList c2 n (w.heap.size + 1) ad w2 h0 hqm (by rw [hml]; unfold maxLen; omega) (by omega) (by omega) (by omega) (by omega)
      (by rw [← hw2, Below.heap_alloc _ _ _ (by omega), ← hw1]; simpa using World.alloc_heap_new w (.cells (madeCells #[.int .i64 0] n) 3))
      (by rw [← hw2, ← s1]; exact Ev.cell_of_block (World.alloc_heap_new w1 _) |>.trans rfl)
      (fun j z h => (cell_same (by have e : (ad.add j).block = ad.block := by unfold Addr.add; split <;> rfl
                                   rw [e]; exact hB.block _ ha)).trans (hr j z h))
    rw [hml] at this
    refine this.mono ?_
    rintro e w3 ⟨h1, h2, h3⟩
    refine ⟨h1, h2, ⟨h3.os.trans hB.os, h3.tape.trans hB.tape, h3.output.trans hB.output, Nat.le_trans hB.size h3.size, fun k hk => (h3.old k (by omega) (by omega)).trans (hB.block k hk)⟩, by have := h3.size; omega⟩
  clear hr hq hw1
  go_enter Try.func11, Try.ntmps11
  go_wp2_with (first
    | (go_at_call 17
       (with_reducible refine (cycle_any _ _ _ _).mono ?_)
       rintro e w2 ⟨rfl, hw2⟩)
    | (go_at_call 16
       (with_reducible refine HD.out.mono ?_)
       rintro e w3 ⟨⟨v, rfl⟩, h1, h2, h3⟩))
  go_ret
  exact ⟨_, rfl, Nat.le_refl _, h3, h1, h2⟩
end Go.Proofs.Ytjffajbahnoilaa
