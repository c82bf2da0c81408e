/-
  bin.cycle and bin.deal.
-/
import Derived.Test.YtjffajbahnoilaaBb
namespace Go.Proofs.Ytjffajbahnoilaa
open Go Go.RowKit Go.Lib Go.Shelf
attribute [local go_sem] Oper.semAt_some

/-- The k-th worker of a round. -/
def turn (ws : List Int) (q k : Nat) : Value := .int .i64 (ws.getD (k % q) 0)
/-- What a block holds when k of its cells have been dealt. -/
def dealt (ws : List Int) (q k : Nat) (cs : List Value) : List Value := (List.range k).map (turn ws q) ++ cs.drop k
theorem dealt_len (ws : List Int) (q k : Nat) (cs : List Value) (h : k ≤ cs.length) : (dealt ws q k cs).length = cs.length := by simp [dealt]; omega
theorem dealt_step (ws : List Int) (q k : Nat) (cs : List Value) (h : k < cs.length) : (dealt ws q k cs).set k (turn ws q k) = dealt ws q (k + 1) cs := by
  unfold dealt
  rw [List.range_succ, List.map_append, List.set_append_right _ _ (by simp)]
  simp only [List.length_map, List.length_range, Nat.sub_self, List.append_assoc]
  congr 1
  rw [List.drop_eq_getElem_cons h]
  rfl

set_option maxRecDepth 100000 in
theorem cycle_any (A : Option Addr) (n c : Nat) (w : World) : Calls Try.prog 17 #[.slice A n c] w fun e w' => e = .returned (.func (.func 18) #[] #[.pointer (some ⟨w.heap.size, 0, none⟩)]) ∧ w' = w.alloc (.cells #[.slice A n c] 23) := by
  go_enter Try.func17, Try.ntmps17
  go_wp2
  go_ret
  exact ⟨rfl, rfl⟩

theorem leaves_marks1 {F : Fence} {n : Nat} {P : Program} {fn : Func} {tmps : Array Value} {v : Value} {D : Nat} {R : Ending → World → Prop} (hres : ∀ W, (results fn tmps).run P W = .ok v W) {W : World} (hD : W.heap[D]? = some (.deferred (some [])))
    (hR : R (.returned v) (W.putObj D (.deferred none))) : LeavesInM F n P fn tmps R [{ target := .collected D, args := #[] }] .returning W :=
  ⟨by simp, .inl ⟨D, _, rfl, run_takeDeferred hD, ⟨_, hres _, hR⟩⟩⟩

/-- Between two rounds of deal. -/
structure Dl (w : World) (g : Nat) (t : TypeId) (ws : List Int) (q : Nat) (cs : List Value) (sl : Value) (k : Nat) (W : World) : Prop where
  lt : k ≤ cs.length
  row : W.heap[g]? = some (.cells (dealt ws q k cs).toArray t (0, 0))
  own : W.heap[w.heap.size]? = some (.cells #[sl] 23 (0, 0))
  cnt : W.heap[w.heap.size + 1]? = some (.cells #[.int .i64 k] 3 (0, 0))
  old : Old w.heap.size g w W
theorem Dl.size {w : World} {g : Nat} {t : TypeId} {ws : List Int} {q : Nat} {cs : List Value} {sl : Value} {k : Nat} {W : World} (h : Dl w g t ws q cs sl k W) : w.heap.size + 2 ≤ W.heap.size := by
  have := (Array.getElem?_eq_some_iff.1 h.cnt).1; omega
theorem Dl.abid {w : World} {g : Nat} {t : TypeId} {ws : List Int} {q : Nat} {cs : List Value} {sl : Value} {k : Nat} (hg : g < w.heap.size) : Abid2 (w.heap.size + 2) (Dl w g t ws q cs sl k) := by
  refine ⟨fun A o h => ?_, fun A b o h h1 h2 => ?_⟩
  · have hs := h.size
    exact ⟨h.lt, (Below.heap_alloc _ _ _ (by omega)).trans h.row, (Below.heap_alloc _ _ _ (by omega)).trans h.own, (Below.heap_alloc _ _ _ (by omega)).trans h.cnt, h.old.trans (Old.alloc _ _ (by omega))⟩
  · exact ⟨h.lt, (World.putObj_heap_other (by omega)).trans h.row, (World.putObj_heap_other (by omega)).trans h.own, (World.putObj_heap_other (by omega)).trans h.cnt, h.old.trans (Old.put _ _ _ (by omega))⟩

set_option maxRecDepth 100000 in
set_option maxHeartbeats 1600000 in
theorem deal_any (g : Nat) (t : TypeId) (ws : List Int) (q : Nat) (hq : ws.length = q) (cs : List Value) (c c2 gb : Nat) (ad : Addr) (w : World) (hws : 0 < q) (hlen : q ≤ maxLen) (hcs : cs.length ≤ maxLen) (h1 : gb < w.heap.size) (h1' : gb ≠ g) (ha : ad.block < w.heap.size) (ha' : ad.block ≠ g)
    (hg : w.heap[g]? = some (.cells cs.toArray t (0, 0)))
    (hb : w.cell? ⟨gb, 0, none⟩ = some (.slice (some ad) q c)) (hr : ∀ j z, ws[j]? = some z → w.cell? (ad.add j) = some (.int .i64 z)) :
    Calls Try.prog 16 #[.slice (some ⟨g, 0, none⟩) cs.length c2, .func (.func 18) #[] #[.pointer (some ⟨gb, 0, none⟩)]] w fun e w' => (∃ v, e = .returned v) ∧ w'.heap[g]? = some (.cells ((List.range cs.length).map (turn ws q)).toArray t (0, 0)) ∧ Old w.heap.size g w w' := by
  refine (callsIn_wide (n := 10)).1 ?_
  have hgl : g < w.heap.size := (Array.getElem?_eq_some_iff.1 hg).1
  obtain ⟨n, hn⟩ : ∃ n, cs.length = n := ⟨_, rfl⟩
  have HSeq : Hid (SeqUpTo 18 #[.pointer (some ⟨gb, 0, none⟩)] (turn ws q) n w.heap.size g w) := Lib.hid (cyc_gives gb c ad ws q hq n w.heap.size g w hws hlen h1 h1' ha ha' hb hr)
  have HG := Lib.hid hg
  have HN := Lib.hid hn
  have HC := Lib.hid hcs
  rw [hn]
  clear hb hr hg hn hcs hq
  refine callsIn_of_wp_marks Try.func16 rfl trivial ?_ rfl
  simp only [Try.ntmps16, List.size_toArray, List.length_cons, List.length_nil, Nat.reduceAdd, Nat.reduceSub, Array.replicate_succ, Array.replicate_zero, List.push_toArray, List.append_toArray, List.nil_append, List.cons_append]
  gi_wp2
  obtain ⟨w1, hw1⟩ : ∃ w1, (w.alloc (.cells #[.slice (some ⟨g, 0, none⟩) n c2] 23)).alloc (.cells #[.int .i64 0] 3) = w1 := ⟨_, rfl⟩
  rw [hw1]
  have s1 : w1.heap.size = w.heap.size + 2 := by rw [← hw1]; simp
  have O1 : Old w.heap.size g w w1 := by rw [← hw1]; exact (Old.alloc _ _ (Nat.le_refl _)).trans (Old.alloc _ _ (by simp))
  have D0 : Dl w g t ws q cs (.slice (some ⟨g, 0, none⟩) n c2) 0 w1 := by
    refine ⟨Nat.zero_le _, ?_, ?_, ?_, O1⟩
    · rw [← hw1, Below.heap_alloc _ _ _ (by simp; omega), Below.heap_alloc _ _ _ hgl]; simpa [dealt] using HG.out
    · rw [← hw1, Below.heap_alloc _ _ _ (by simp)]; exact World.alloc_heap_new w _
    · have := World.alloc_heap_new (w.alloc (.cells #[.slice (some ⟨g, 0, none⟩) n c2] 23)) (.cells #[.int .i64 0] 3)
      rw [← hw1]; simpa using this
  have HD0 := Lib.hid D0
  have HO1 := Lib.hid O1
  clear D0 O1 hw1
  refine range_upto (gf := 18) (lb := #[.pointer (some ⟨gb, 0, none⟩)]) rfl (by intro args w; rfl) HSeq.out HO1.out rfl (by omega) hgl
    (Dl w g t ws q cs (.slice (some ⟨g, 0, none⟩) n c2)) (fun _ => Dl w g t ws q cs (.slice (some ⟨g, 0, none⟩) n c2) n) (fun k => by rw [s1]; exact Dl.abid hgl) (fun k => by rw [s1]; exact Dl.abid hgl) HD0.out (fun k A h => by have := h.lt; have := HN.out; omega)
    (fun k a' => a' = { tmps := #[.slice (some ⟨g, 0, none⟩) n c2, .func (.func 18) #[] #[.pointer (some ⟨gb, 0, none⟩)], .pointer (some ⟨w.heap.size, 0, none⟩), undef, .pointer (some ⟨w.heap.size + 1, 0, none⟩), turn ws q k, .func (.func 18) #[] #[.pointer (some ⟨gb, 0, none⟩)], turn ws q k, undef, undef, undef, undef, undef, undef, undef, undef, undef, undef], defers := [] })
    ?assign ?body ?stop
  case assign =>
    intro ll k W K hI hK
    have hK' := Lib.hid (hK _ rfl)
    clear hK
    gi_wp2
    exact hK'.out
  case body =>
    rintro ll k a' W hI rfl hs
    have c1 : W.cell? ⟨w.heap.size, 0, none⟩ = some (.slice (some ⟨g, 0, none⟩) n c2) := by rw [Ev.cell_of_block hI.own]; rfl
    have c2' : W.cell? ⟨w.heap.size + 1, 0, none⟩ = some (.int .i64 k) := by rw [Ev.cell_of_block hI.cnt]; rfl
    have f2 : W.frozen? ⟨w.heap.size + 1, 0, none⟩ = false := by simp [World.frozen?, hI.cnt]
    have HI := Lib.hid hI
    have hkn : k ≤ n := by have := hI.lt; have := HN.out; omega
    clear hI
    rcases Nat.lt_or_ge k n with hlt | hge
    · have hq1 : (k : Int) < (n : Int) := by omega
      have hq0 : (0 : Int) ≤ (k : Int) := by omega
      have hq2 : ¬ (k : Int) = (n : Int) := by omega
      have HLK := Lib.hid hlt
      have W1 : IntKind.i64.wrap ((k : Int) + 1) = (k : Int) + 1 := IntWalk.i64_in _ (by have := HC.out; have := HN.out; unfold maxLen at *; omega)
      obtain ⟨x, hx⟩ : ∃ x, W.cell? ⟨g, k, none⟩ = some x := by
        refine ⟨(dealt ws q k cs)[k]'(by rw [dealt_len _ _ _ _ HI.out.lt, HN.out]; exact hlt), ?_⟩
        rw [Ev.cell_of_block HI.out.row]
        simp
      have fx : W.frozen? ⟨g, k, none⟩ = false := by simp [World.frozen?, HI.out.row]
      have hd1 : decide ((k : Int) = (n : Int)) = false := by simpa using hq2
      have hd2 : decide (k = n) = false := by simp; omega
      obtain ⟨z, hz⟩ : ∃ z, turn ws q k = .int .i64 z := ⟨_, rfl⟩
      rw [hz]
      have HZ := Lib.hid hz
      obtain ⟨W2, hW2⟩ : ∃ W2, W.setCell ⟨g, k, none⟩ (.int .i64 z) = W2 := ⟨_, rfl⟩
      have o2 : ∀ b, b ≠ g → W2.heap[b]? = W.heap[b]? := fun b hb => by rw [← hW2]; exact Below.heap_setCell _ _ _ _ (by simpa using hb)
      have hne : w.heap.size + 1 ≠ g := by omega
      have c3 : W2.cell? ⟨w.heap.size + 1, 0, none⟩ = some (.int .i64 k) := (cell_same (a := ⟨w.heap.size + 1, 0, none⟩) (o2 _ hne)).trans c2'
      have f3 : W2.frozen? ⟨w.heap.size + 1, 0, none⟩ = false := by simp [World.frozen?, o2 (w.heap.size + 1) hne, HI.out.cnt]
      have HW2 := Lib.hid hW2
      have HO2 := Lib.hid o2
      clear hz hkn o2
      gi_wp2
      have hI := HI.out
      have e2 : W2.heap[g]? = some (.cells (dealt ws q (k + 1) cs).toArray t (0, 0)) := by
        rw [← HW2.out, ← dealt_step ws q k cs (by rw [HN.out]; exact hlt), HZ.out]
        simp [World.setCell, Array.getElem?_modify, hI.row]
      have oW : Old w.heap.size g W W2 := by rw [← HW2.out]; exact Old.set _ _ _ (.inr rfl)
      refine ⟨⟨oW.trans (Old.set _ _ _ (.inl (by simp))), fun b hb1 hb2 => ?_⟩, ⟨by have := HN.out; omega, ?_, ?_, ?_, (hI.old.trans oW).trans (Old.set _ _ _ (.inl (by simp)))⟩⟩
      · exact (Below.heap_setCell _ _ _ _ (by simp; omega)).trans (HO2.out b (by omega))
      · exact (Below.heap_setCell _ _ _ _ (by simp; omega)).trans e2
      · exact (Below.heap_setCell _ _ _ _ (by simp)).trans ((HO2.out _ (by omega)).trans hI.own)
      · have := one_setCell (u := .int .i64 ((k : Int) + 1)) ((HO2.out _ hne).trans hI.cnt)
        simpa using this
    · obtain rfl : k = n := by omega
      gi_wp2
      exact ⟨⟨Old.refl _ _ _, fun _ _ _ => rfl⟩, HI.out⟩
  case stop =>
    intro k W hI hk
    have HI := Lib.hid hI
    have HK := Lib.hid hk
    gi_wp2
    refine leaves_marks1 (fun W' => results_none rfl _ _ W') HK.out ?_
    refine ⟨⟨_, rfl⟩, ?_, ?_⟩
    · refine (World.putObj_heap_other (by omega)).trans ?_
      have := HI.out.row
      have h2 := HN.out
      unfold dealt at this
      rw [List.drop_of_length_le (by omega), List.append_nil] at this
      exact this
    · exact HI.out.old.trans (Old.put _ _ _ (by omega))
end Go.Proofs.Ytjffajbahnoilaa
