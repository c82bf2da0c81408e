/-
  The document's Turns; BinTells, walked.
-/
import Derived.Test.YtjffajbahnoilaaBh
import Derived.Deep.RegionHeld3
namespace Go.Proofs.Ytjffajbahnoilaa
open Go Go.RowKit Go.Lib

theorem wpList_append_one {P : Program} (w : World) {ops : Array Oper} {rest : List Oper} {o : Oper} {a : Act} {Q : Exit → Act → World → Prop} (hgd : o.guard = none) (s x : Operand) (t : TypeId)
    (ho : o.op = .call { callee := .builtin .append, args := #[s, x], argTypes := #[t, t] })
    (base : Nat) (e : TypeId) (i : TypeInfo) (z : Value) (size bytes : Nat) (ht : P.underlying t = some (.slice e)) (hi : P.info? e = some i) (hz : i.zero = some z)
    (hsize : i.size = size) (hby : i.bytes = bytes) (hzs : z.cells.size = size) (hsz : 0 < size)
    (v : Value) (k : Nat) (xs : List Value) (hs : a.eval s = v) (hown : w.ownsRow base e size v k xs)
    (ad : Addr) (m c : Nat) (news : List Value) (hx : a.eval x = .slice (some ad) m c) (hl : news.length = m * size) (hnews : ∀ j u, news[j]? = some u → w.cell? (ad.add j) = some u) (h1 : ∀ u ∈ news, u.oneCell' = true)
    (hm : 0 < m) (h63 : k + m ≤ maxLen) (hbytes : (k + m) * bytes ≤ 140737488355328) (hbase : base ≤ w.heap.size)
    (hK : ∀ g cap w', w'.ownsRow base e size (.slice (some ⟨g, 0, none⟩) (k + m) cap) (k + m) (xs ++ news) → w.grownBy w' v.ownBlock → (v.ownBlock = some g ∨ g = w.heap.size) → g < w'.heap.size → wpList P ops Q rest (a.put o.dst (.slice (some ⟨g, 0, none⟩) (k + m) cap)) w') :
    wpList P ops Q (o :: rest) a w := by
  refine wpList_plain hgd fun K hK' => ?_
  obtain ⟨g, cap, w', hrun, r1, r2, r3, r4⟩ := run_append_lies (P := P) w t o.type base e i z size bytes ht hi hz hsize hby hzs hsz v k xs hown ad m c news hl hnews h1 hm h63 hbytes hbase _ rfl
  unfold Oper.wp execOp
  simp only [ho, resolve, invoke, builtin, Sem.run_bind, Sem.run_pure, Result.andThen_ok, List.map_toArray, List.map_cons, List.map_nil, hs, hx, hrun]
  exact hK' _ _ (hK g cap w' r1 r2 r3 r4)

theorem own_lt {W : World} {base : Nat} {e : TypeId} {size : Nat} {v : Value} {k : Nat} {xs : List Value} (h : W.ownsRow base e size v k xs) {g : Nat} (hg : v.ownBlock = some g) : base ≤ g ∧ ∃ cur, W.heap[g]? = some (.cells cur e (0, 0)) := by
  rcases h.2 with ⟨rfl, _⟩ | ⟨g', cap, cur, rfl, hb, hc, _⟩
  · simp [Value.ownBlock] at hg
  · obtain rfl : g' = g := by simpa [Value.ownBlock] using hg
    exact ⟨hb, cur, hc⟩


theorem news1 (w : World) (x : Int) (t : TypeId) : ∀ j u, [Value.int .i64 x][j]? = some u → (w.alloc (.cells #[.int .i64 x] t)).cell? ((⟨w.heap.size, 0, none⟩ : Addr).add j) = some u := by
  intro j u h
  have hh : (w.alloc (.cells #[.int .i64 x] t)).heap[w.heap.size]? = some (.cells #[.int .i64 x] t) := World.alloc_heap_new w _
  simp only [Ev.add_lit, World.cell?, hh, Nat.zero_add]
  simpa using h
theorem one1 (x : Int) : ∀ u ∈ [Value.int .i64 x], u.oneCell' = true := by
  intro u hu
  simp only [List.mem_cons, List.not_mem_nil, or_false] at hu
  subst hu; rfl

set_option maxRecDepth 100000 in
theorem rturns_none (A B : Option Addr) (n c c2 : Nat) (w : World) : Calls Try.prog 12 #[.slice A n c, .slice B 0 c2] w fun e w' => e = .returned (.slice none 0 0) ∧ w' = w := by
  rcases Nat.eq_zero_or_pos n with rfl | hn
  · go_enter Try.func12, Try.ntmps12
    go_wp2
    refine wp_loop_rounds 1 ?_
    rw [rounds_succ]
    go_wp2
    go_ret
    exact ⟨rfl, rfl⟩
  · have h1 : (0 : Int) < (n : Int) := by omega
    go_enter Try.func12, Try.ntmps12
    go_wp2
    refine wp_loop_rounds 1 ?_
    rw [rounds_succ]
    go_wp2
    go_ret
    exact ⟨rfl, rfl⟩

set_option maxRecDepth 100000 in
set_option maxHeartbeats 1600000 in
theorem rturns_some (A : Option Addr) (n c : Nat) (ad : Addr) (ws : List Int) (q c2 : Nat) (hq : ws.length = q) (h0 : 0 < q) (hqm : q ≤ maxLen) (hn : n ≤ 50) (w : World) (ha : ad.block < w.heap.size)
    (hr : ∀ j z, ws[j]? = some z → w.cell? (ad.add j) = some (.int .i64 z)) :
    Calls Try.prog 12 #[.slice A n c, .slice (some ad) q c2] w fun e w' => ∃ v, e = .returned v ∧ w'.ownsRow w.heap.size 3 1 v n ((turnL ws q n).map (Value.int .i64)) ∧ Below w.heap.size w w' := by
  obtain ⟨i0, hi, hz0, hz1, hz2⟩ := info_parts int_info
  have HI := Lib.hid hi
  have HZ0 := Lib.hid hz0
  have HZ1 := Lib.hid hz1
  have HZ2 := Lib.hid hz2
  have HR := fun (W' : World) (h : Below w.heap.size w W') (j : Nat) (hj : j < q) => Lib.hid (Row.at (W := W') (n := w.heap.size) (g := w.heap.size) hq hr ⟨h.os, h.tape, h.output, h.size, fun b hb _ => h.block b hb⟩ ha (by omega) hj)
  have HQM := Lib.hid hqm
  have hq2 : (0 : Int) < (q : Int) := by omega
  have hq3 : (q : Int) > 0 := by omega
  have hq4 : ¬ (q : Int) = 0 := by omega
  have hml : (maxLen : Int) ≤ 9223372036854775807 := by decide
  clear hi hz0 hz1 hz2 hr hq
  go_enter Try.func12, Try.ntmps12
  go_wp2
  go_loopw [5, 6] (fun u i wr => ∃ j : Nat, j ≤ n ∧ i = .int .i64 j ∧ wr.ownsRow w.heap.size 3 1 u j ((turnL ws q j).map (Value.int .i64)) ∧ Below w.heap.size w wr) (fun _ i _ => n - (intOf i).toNat)
  case atStart => exact ⟨0, Nat.zero_le _, rfl, World.ownsRow_nil _ _ _ _, Below.refl _ _⟩
  case round =>
    obtain ⟨j, hj, rfl, hown, hb⟩ := hrel
    by_cases hlt : j < n
    · have hjq : j % q < q := Nat.mod_lt _ h0
      have hcell := (HR wr hb (j % q) hjq).out
      obtain ⟨x, hx⟩ : ∃ x, ws.getD (j % q) 0 = x := ⟨_, rfl⟩
      rw [hx] at hcell
      have ht : (j : Int).tmod (q : Int) = ((j % q : Nat) : Int) := by rw [Int.tmod_eq_emod_of_nonneg (by omega)]; rfl
      obtain ⟨m, hm⟩ : ∃ m, j % q = m := ⟨_, rfl⟩
      rw [hm] at ht hcell hjq
      have hq0 : (0 : Int) ≤ (j : Int) := by omega
      have hq1 : (j : Int) < (n : Int) := by omega
      have hm0 : (0 : Int) ≤ (m : Int) := by omega
      have hm1 : (m : Int) < (q : Int) := by omega
      have W1 : IntKind.i64.wrap ((j : Int) + 1) = (j : Int) + 1 := IntWalk.i64_in _ (by omega)
      have W2 : IntKind.i64.wrap (m : Int) = (m : Int) := IntWalk.i64_in _ (by have := HQM.out; unfold maxLen at this; omega)
      have hs : turnL ws q (j + 1) = turnL ws q j ++ [x] := by rw [turnL_succ, hm]; rw [hm] at hx; rw [hx]
      have HS := Lib.hid hs
      have HB := Lib.hid hb
      have HO := Lib.hid hown
      have hsz := hb.size
      clear hx hm hs hb hown
      go_wp2_with (at_builtin
                   refine wpList_append_one _ rfl (.tmp 18) _ 23 rfl w.heap.size 3 i0 _ 1 8 Try.underlying23 HI.out HZ0.out HZ1.out HZ2.out rfl (by decide) _ j _ rfl (HO.out.alloc _) ⟨wr.heap.size, 0, none⟩ 1 1 [.int .i64 x] rfl rfl (news1 wr x 3) (one1 _) (by omega) (by unfold maxLen; omega) (by omega) (by simp; omega) ?_
                   intro ga ca w6 own6 grow6 hat6 hga
                   have hb6 : Below w.heap.size w w6 := (HB.out.alloc (by omega) _).grown grow6 (by simp; omega) (fun g e => by have := (own_lt HO.out e).1; omega)
                   have HB6 := Lib.hid hb6
                   have HO6 := Lib.hid own6
                   clear hb6 own6 grow6 hat6 hga)
      go_roundw
      case rel => exact ⟨j + 1, by omega, by go_num, by rw [HS.out, List.map_append]; exact HO6.out, HB6.out⟩
      case measure => simp [intOf]; omega
    · obtain rfl : j = n := by omega
      have hq1 : ¬ (j : Int) < (j : Int) := by omega
      go_wp2
      go_ret
      exact ⟨_, rfl, hown, hb⟩

theorem tells_rturns (A B : Option Addr) (n c q c2 : Nat) (ws : List Int) (hq : ws.length = q) (hqm : q ≤ maxLen) (hn : n ≤ 50) (b : Nat) (w : World) (hb : b ≤ w.heap.size) (hr : Row w b B .i64 ws) :
    Calls Try.prog 12 #[.slice A n c, .slice B q c2] w fun e w' => Tells w (if q = 0 then 0 else n) (if q = 0 then [] else turnL ws q n) e w' := by
  by_cases h0 : q = 0
  · subst h0
    refine (rturns_none A B n c c2 w).mono ?_
    rintro e w' ⟨rfl, rfl⟩
    exact ⟨none, 0, rfl, .inl rfl, Below.refl _ _⟩
  · rw [if_neg h0, if_neg h0]
    rcases hr with rfl | ⟨ad, rfl, h1, h2⟩
    · simp at hq; omega
    · refine (rturns_some A n c ad ws q c2 hq (by omega) hqm hn w (by omega) h2).mono ?_
      rintro e w' ⟨v, rfl, g1, hb⟩
      have hv : ∃ A c, v = .slice A n c := by
        rcases g1.2 with ⟨rfl, h0⟩ | ⟨g, cap, cur, rfl, _⟩
        · exact ⟨none, 0, by rw [h0]⟩
        · exact ⟨_, _, rfl⟩
      obtain ⟨A, c, rfl⟩ := hv
      exact ⟨_, _, rfl, row_of_own g1 (turnL_len _ _ _), hb⟩
end Go.Proofs.Ytjffajbahnoilaa
