/-
  The document's Gather: the walk.
-/
import Derived.Test.YteiedknpmlemkaaXj
import Derived.Test.YteiedknpmlemkaaXc
import Derived.Deep.RegionLawGrows
namespace Go.Proofs.Yteiedknpmlemkaa
open Go Go.RowKit Go.Lib Go.Shelf

def sliceLen : Value → Nat
  | .slice _ n _ => n
  | _ => 0
theorem rpair_no (l : List Win) (A : Option Addr) (cap : Nat) (w : World) (hv : Wins w w.heap.size (.slice A l.length cap) l) (hlen : l.length ≤ 1000000) (hn : NoPair l l.length) :
    Calls Try.prog 33 #[.slice A l.length cap] w fun e w' => e = .returned (.tuple #[.int .i64 0, .int .i64 0, .bool false]) ∧ Below w.heap.size w w' :=
  (rpair_any l A cap w hv hlen).mono fun e w' ⟨h, hb⟩ => by
    rcases h with ⟨i, k, a, b, h1, h2, h3, h4, h5⟩ | ⟨h1, h2⟩
    · have := hn i k a b (List.getElem?_eq_some_iff.1 h1).1 h3 h1 h2
      rw [this] at h4; cases h4
    · exact ⟨h2, hb⟩
theorem rpair_yes (l : List Win) (A : Option Addr) (cap : Nat) (w : World) (hv : Wins w w.heap.size (.slice A l.length cap) l) (hlen : l.length ≤ 1000000) (hn : ¬ NoPair l l.length) :
    Calls Try.prog 33 #[.slice A l.length cap] w fun e w' => (∃ i k a b, l[i]? = some a ∧ l[k]? = some b ∧ i < k ∧ meetM a b = true ∧ e = .returned (.tuple #[.int .i64 (i : Nat), .int .i64 (k : Nat), .bool true])) ∧ Below w.heap.size w w' :=
  (rpair_any l A cap w hv hlen).mono fun e w' ⟨h, hb⟩ => ⟨h.resolve_right fun q => hn q.1, hb⟩

theorem row_base {W : World} {b b' n : Nat} {v : Value} {xs : List Value} (h : W.ownsRow b 34 2 v n xs) (hb : b' ≤ b) : W.ownsRow b' 34 2 v n xs := by
  refine ⟨h.1, ?_⟩
  rcases h.2 with h | ⟨g, c, cur, e1, e2, e3⟩
  · exact .inl h
  · exact .inr ⟨g, c, cur, e1, by omega, e3⟩
theorem Rw.base {W : World} {b b' : Nat} {v : Value} {l : List Win} (h : Rw b W v l) (hb : b' ≤ b) : Rw b' W v l := by
  obtain ⟨A, cap, rfl, h0 | ⟨g, cur, rfl, h1, h2⟩⟩ := h
  · exact ⟨A, cap, rfl, .inl h0⟩
  · exact ⟨_, cap, rfl, .inr ⟨g, cur, rfl, by omega, h2⟩⟩
theorem cellsL_app (l r : List Win) : cellsL l ++ cellsL r = cellsL (l ++ r) := by simp [cellsL]
theorem cells_split (l : List Win) (k : Nat) : cellsL l = cellsL (l.take k) ++ cellsL (l.drop k) := by rw [cellsL_app, List.take_append_drop]
theorem oneCellsL (l : List Win) : ∀ u ∈ cellsL l, u.oneCell' = true := by
  intro u hu
  obtain ⟨x, _, hx⟩ := List.mem_flatMap.1 hu
  exact oneCells x u hx
theorem step_append_none {P : Program} {ops : Array Oper} {o : Oper} {a : Act} {w : World} {K : Act → World → Prop} {Q : Exit → Act → World → Prop} {E : Prop}
    (hg : o.guard = none) (s x : Operand) (t : TypeId) (hop : o.op = Op.call { callee := Callee.builtin Builtin.append, args := #[s, x], argTypes := #[t, t] })
    (e : TypeId) (i : TypeInfo) (h1 : P.underlying t = some (.slice e)) (h2 : P.info? e = some i)
    (b : Addr) (n cap : Nat) (hs : a.eval s = .slice (some b) n cap) (hcap : n ≤ cap) (A : Option Addr) (c : Nat) (hx : a.eval x = .slice A 0 c)
    (hK : K (a.put o.dst (.slice (some b) n cap)) w) :
    if Region.wanted o (yielded ops a.tmps) = true then Oper.wp P o a w K Q else E := by
  have hw : Region.wanted o (yielded ops a.tmps) = true := by simp [Region.wanted, hg]
  rw [if_pos hw]
  have hrun : (Builtin.append_ #[t, t] o.type #[.slice (some b) n cap, .slice A 0 c]).run P w = .ok (.slice (some b) n cap) w := by
    cases A <;> simp [Builtin.append_, run_underlying h1, sizeOf, typeInfo, h2, Builtin.lenOf, Builtin.firstCells, hcap, storeCells, loadCells, loadCellsFrom]
  unfold Oper.wp execOp
  simp only [hop, resolve, invoke, builtin, Sem.run_bind, Sem.run_pure, Result.andThen_ok, List.map_toArray, List.map_cons, List.map_nil, hs, hx, hrun]
  exact hK

theorem Rw.at {W : World} {base g n cap : Nat} {l : List Win} (h : Rw base W (.slice (some ⟨g, 0, none⟩) n cap) l) (j : Nat) (u : Value) (hj : (cellsL l)[j]? = some u) : W.cell? ⟨g, j, none⟩ = some u := by
  obtain ⟨A, cap', e, h0 | ⟨g', cur, rfl, hb, hc, h1, h2, h3, h4⟩⟩ := h
  · rw [h0] at hj; simp [cellsL] at hj
  · simp only [Value.slice.injEq, Option.some.injEq, Addr.mk.injEq, and_true, true_and] at e
    obtain ⟨rfl, rfl, rfl⟩ := e
    rw [← h4, List.getElem?_take] at hj
    have h6 : j < l.length * 2 := Classical.byContradiction fun q => by rw [if_neg q] at hj; cases hj
    rw [if_pos h6] at hj
    simp only [World.cell?, hc]
    simpa using hj

set_option maxRecDepth 100000 in
set_option maxHeartbeats 6400000 in
theorem rgather_any (l : List Win) (A : Option Addr) (cap : Nat) (w : World) (hv : Wins w w.heap.size (.slice A l.length cap) l) (hlen : l.length ≤ 1000000) :
    Calls Try.prog 19 #[.slice A l.length cap] w fun e w' => Row w (gatherM l) e w' := by
  obtain ⟨i0, hi, hz0, hz1, hz2⟩ := info_parts info34
  have HI := Lib.hid hi
  have HZ0 := Lib.hid hz0
  have HZ1 := Lib.hid hz1
  have HZ2 := Lib.hid hz2
  have HV := Lib.hid hv
  clear hi hz0 hz1 hz2 hv
  go_enter Try.func19, Try.ntmps19
  go_wp2
  go_loopw [3, 4] (fun u i wr => ∃ k : Nat, k ≤ l.length ∧ i = .int .i64 k ∧ wr.ownsRow w.heap.size 34 2 u ((l.take k).filter isW).length (cellsL ((l.take k).filter isW)) ∧ Below w.heap.size w wr)
    (fun _ i _ => l.length - (intOf i).toNat)
  case atStart => exact ⟨0, Nat.zero_le _, rfl, World.ownsRow_nil _ _ _ _, Below.refl _ _⟩
  case round =>
    obtain ⟨k, hk, rfl, hrow, hb⟩ := hrel
    by_cases hlt : k < l.length
    · obtain ⟨A', cap', hA, hn | ⟨g, hgA, hgl, hcs⟩⟩ := HV.out
      · rw [hn] at hlt; simp at hlt
      obtain ⟨rfl, rfl⟩ : A = A' ∧ cap = cap' := by simpa using hA
      subst hgA
      obtain ⟨x, hx⟩ : ∃ x, l[k] = x := ⟨_, rfl⟩
      obtain ⟨x0, x1⟩ := x
      obtain ⟨c0, c1⟩ := (hcs k (x0, x1) (by rw [List.getElem?_eq_getElem hlt, hx])).same (W' := wr) (hb.block g hgl)
      dsimp only at c0 c1
      have hq0 : (0 : Int) ≤ (k : Int) := by omega
      have hq1 : (k : Int) < (l.length : Int) := by omega
      have W1 : IntKind.i64.wrap ((k : Int) + 1) = (k : Int) + 1 := IntWalk.i64_in _ (by omega)
      have hfl : ((l.take k).filter isW).length ≤ 1000000 := by have := List.length_filter_le isW (l.take k); simp at this; omega
      obtain ⟨n, hn⟩ : ∃ n, ((l.take k).filter isW).length = n := ⟨_, rfl⟩
      have HT : Hid ((l.take (k + 1)).filter isW = (l.take k).filter isW ++ (if isW (x0, x1) then [(x0, x1)] else [])) := Lib.hid (by rw [filter_take hlt, hx])
      rw [hn] at hfl hrow
      have HN := Lib.hid hn
      have HB := Lib.hid hb
      have HR := Lib.hid hrow
      have hsz := hb.size
      clear hx hcs hA hn hb hrow
      by_cases hlt2 : x0 < x1
      · go_wp2_with fail
        go_quiet (fail)
        generalize hwd : wr.drewN _ = wd
        have e0 : wd.cell? ⟨g, k * 2, none⟩ = some (.int .i64 x0) := by rw [← hwd]; exact c0
        have e1 : wd.cell? ⟨g, k * 2 + 1, none⟩ = some (.int .i64 x1) := by rw [← hwd]; exact c1
        have HR2 : Hid (wd.ownsRow w.heap.size 34 2 u3 n (cellsL ((l.take k).filter isW))) := Lib.hid (by rw [← hwd]; exact HR.out)
        have HB2 : Hid (Below w.heap.size w wd) := Lib.hid (by rw [← hwd]; exact below_drewN HB.out _)
        have hsd : w.heap.size ≤ wd.heap.size := HB2.out.size
        clear c0 c1 hwd
        go_wp2_with (at_builtin
                     refine wpList_append_one _ rfl (.tmp 29) _ 32 rfl w.heap.size 34 i0 _ 2 16 Try.underlying32 HI.out HZ0.out HZ1.out HZ2.out rfl (by decide) _ n _ rfl (HR2.out.alloc _) ⟨wd.heap.size, 0, none⟩ 1 1 (wcells (x0, x1)) rfl rfl (news_new wd (x0, x1) 34) (oneCells _) (by omega) (by unfold maxLen; omega) (by omega) (by simp; omega) ?_
                     intro ga ca w6 own6 grow6 hat6 hga
                     have HB6 : Hid (Below w.heap.size w w6) := Lib.hid ((HB2.out.alloc (by omega) _).grown grow6 (by simp; omega) (fun g e => by have := (own_lt HR2.out e).1; omega))
                     have HO6 := Lib.hid own6
                     clear grow6 hat6 own6)
        go_roundw
        case rel =>
          refine ⟨k + 1, by omega, by go_num, ?_, HB6.out⟩
          rw [HT.out, if_pos (by simpa [isW] using hlt2), cellsL_snoc, List.length_append, HN.out]
          exact HO6.out
        case measure => simp [intOf]; omega
      · go_wp2_with fail
        go_quiet (fail)
        go_wp2_with fail
        go_roundw
        case rel =>
          refine ⟨k + 1, by omega, by go_num, ?_, below_drewN HB.out _⟩
          rw [HT.out, if_neg (by simpa [isW] using hlt2), List.append_nil, HN.out]
          exact HR.out
        case measure => simp [intOf]; omega
    · obtain rfl : k = l.length := by omega
      rw [List.take_length] at hrow
      have HR := Lib.hid (rw_of_row hrow)
      have HB := Lib.hid hb
      clear hrow hb
      rename World => wa
      go_wp2_with fail
      go_loopw [3] (fun u wr => ∃ own : List Win, own.length ≤ 1000000 ∧ Merged (l.filter isW) own ∧ Rw w.heap.size wr u own ∧ Below w.heap.size w wr) (fun u _ => sliceLen u)
      case atStart => exact ⟨l.filter isW, Nat.le_trans (List.length_filter_le _ _) hlen, Merged.start l, HR.out, HB.out⟩
      case round =>
        obtain ⟨own, hol, hme, hrw, hbr⟩ := hrel
        rename World => wb
        have HME := Lib.hid hme
        have HRW := Lib.hid hrw
        have HBR := Lib.hid hbr
        have hsz := hbr.size
        have hwn := hrw.wins
        obtain ⟨A1, cap1, rfl, _⟩ := hrw
        have HWN := Lib.hid hwn
        clear hme hbr hwn
        by_cases hnp : NoPair own own.length
        · have HNP := Lib.hid hnp
          clear hnp
          go_wp2_with (go_at_call 33
                       (with_reducible refine (rpair_no own A1 cap1 _ HWN.out hol HNP.out).mono ?_)
                       rintro e w1 ⟨rfl, p1⟩
                       have HRW1 := Lib.hid (HRW.out.below p1)
                       have HB1 := Lib.hid (HBR.out.trans (p1.mono hsz))
                       clear p1)
          have HW1 := Lib.hid HRW1.out.wins
          have hw1 : w.heap.size ≤ w1.heap.size := HB1.out.size
          have HFIN := Lib.hid (merged_end HME.out HNP.out)
          go_wp2_with fail
          go_loopw [8, 9] (fun u i wr => ∃ k : Nat, k ≤ own.length ∧ i = .int .i64 k ∧ wr.ownsRow w1.heap.size 34 2 u (sorted (own.take k)).length (cellsL (sorted (own.take k))) ∧ (sorted (own.take k) = [] → u = .slice none 0 0) ∧ Below w1.heap.size w1 wr)
            (fun _ i _ => own.length - (intOf i).toNat)
          case atStart => exact ⟨0, Nat.zero_le _, rfl, World.ownsRow_nil _ _ _ _, fun _ => rfl, Below.refl _ _⟩
          case round =>
            rename World => wu
            obtain ⟨k, hk, rfl, hrow, hnil, hbu⟩ := hrel
            by_cases hlt : k < own.length
            · have HBU := Lib.hid hbu
              have hzu := hbu.size
              obtain ⟨A2, cap2, hA2, h0 | ⟨g, hgA, hgl, hcs⟩⟩ := HW1.out
              · rw [h0] at hlt; simp at hlt
              obtain ⟨rfl, rfl⟩ : A1 = A2 ∧ cap1 = cap2 := by simpa using hA2
              subst hgA
              obtain ⟨x, hx⟩ : ∃ x, own[k] = x := ⟨_, rfl⟩
              obtain ⟨x0, x1⟩ := x
              have HX : Hid (own[k]? = some (x0, x1)) := Lib.hid (by rw [List.getElem?_eq_getElem hlt, hx])
              have HGX : Hid (∀ W', Below wu.heap.size wu W' → W'.cell? ⟨g, k * 2, none⟩ = some (.int .i64 x0) ∧ W'.cell? ⟨g, k * 2 + 1, none⟩ = some (.int .i64 x1)) := Lib.hid (fun W' h => by
                have c := (hcs k _ HX.out).same (W' := W') ((h.block g (by omega)).trans (HBU.out.block g hgl))
                exact ⟨c.c0, c.c1⟩)
              obtain ⟨S, hS⟩ : ∃ S, sorted (own.take k) = S := ⟨_, rfl⟩
              have hS1 : sorted (own.take (k + 1)) = ins (x0, x1) S := by rw [List.take_succ_eq_append_getElem hlt, hx, sorted_snoc, hS]
              have hli : (ins (x0, x1) S).length = S.length + 1 := by have := (ins_perm (x0, x1) S).length_eq; simpa using this
              have hSl : S.length ≤ 1000000 := by rw [← hS, (sorted_perm _).length_eq, List.length_take]; omega
              have HNE : Hid (¬ sorted (own.take (k + 1)) = []) := Lib.hid (fun e => by rw [hS1] at e; rw [e] at hli; simp at hli)
              have HS1 := Lib.hid hS1
              have HLI := Lib.hid hli
              rw [hS] at hrow hnil
              have HROW := Lib.hid hrow
              have hq0 : (0 : Int) ≤ (k : Int) := by omega
              have hq1 : (k : Int) < (own.length : Int) := by omega
              have W1 : IntKind.i64.wrap ((k : Int) + 1) = (k : Int) + 1 := IntWalk.i64_in _ (by omega)
              clear hx hS hS1 hli hcs hA2 hbu hlt
              by_cases hSe : S = []
              · subst hSe
                obtain rfl := hnil rfl
                have HALL : Hid ((cellsL (([] : List Win).take 0) ++ wcells (x0, x1)) ++ cellsL (([] : List Win).drop 0) = cellsL (ins (x0, x1) [])) := Lib.hid (by simp [cellsL, ins, wcells])
                have HLX : Hid (∀ W', Below wu.heap.size wu W' → Lies W' none 0 (cellsL (([] : List Win).take 0)) ∧ Lies W' none 0 (cellsL (([] : List Win).drop 0))) := Lib.hid (fun W' _ => ⟨.inl rfl, .inl rfl⟩)
                have N1 : Hid ((cellsL (([] : List Win).take 0)).length = 0 * 2) := Lib.hid rfl
                have N2 : Hid ((cellsL (([] : List Win).drop 0)).length = 0 * 2) := Lib.hid rfl
                clear hrow hnil
                go_wp2_with fail
                go_loopw [10] (fun i wr => i = .int .i64 0 ∧ Below wu.heap.size wu wr) (fun _ _ => 0)
                case atStart => exact ⟨rfl, Below.refl _ _⟩
                case round =>
                  obtain ⟨rfl, hbq⟩ := hrel
                  have HBq := Lib.hid hbq
                  clear hbq
                  go_wp2_with fail
                  go_quiet (fail)
                  generalize hwd : wr.drewN _ = wd
                  have HBQ : Hid (Below wu.heap.size wu wd) := Lib.hid (by rw [← hwd]; exact below_drewN HBq.out _)
                  have hzd : wu.heap.size ≤ wd.heap.size := HBQ.out.size
                  clear hwd
                  go_wp2_with (first
                    | (at_builtin
                       refine wpList_append_src _ rfl (.tmp 90) _ 32 rfl wu.heap.size 34 i0 _ 2 16 Try.underlying32 HI.out HZ0.out HZ1.out HZ2.out rfl (by decide) _ 0 [] rfl (World.ownsRow_nil _ _ _ _) _ 0 _ (cellsL (([] : List Win).take 0)) rfl N1.out (HLX.out _ HBQ.out).1 (oneCellsL _) 0 (by omega) _ (List.nil_append _) (by unfold maxLen; omega) (by omega) (by omega) ?_
                       intro A9 c9 w6 own6 grow6
                       have hb6 : Below wu.heap.size wu w6 := HBQ.out.grown grow6 (by omega) (fun g e => (by have e2 : (none : Option Nat) = some g := e; cases e2))
                       have HO6 := Lib.hid own6
                       have hs6 := hb6.size
                       obtain ⟨x0c, x1c⟩ := HGX.out w6 hb6
                       have HB6 := Lib.hid hb6
                       clear own6 grow6 hb6)
                    | (at_builtin
                       refine wpList_append_src _ rfl (.tmp 95) _ 32 rfl wu.heap.size 34 i0 _ 2 16 Try.underlying32 HI.out HZ0.out HZ1.out HZ2.out rfl (by decide) _ 0 _ rfl (HO6.out.alloc _) _ 1 1 (wcells (x0, x1)) rfl rfl (lies_box w6 (x0, x1) 34) (oneCells _) (0 + 1) (by omega) _ rfl (by unfold maxLen; omega) (by omega) (by simp; omega) ?_
                       intro A10 c10 w7 own7 grow7
                       have hb7 : Below wu.heap.size wu w7 := (HB6.out.alloc (by omega) _).grown grow7 (by simp; omega) (fun g e => by have := (own_lt HO6.out e).1; omega)
                       have HO7 := Lib.hid own7
                       have hs7 := hb7.size
                       have HB7 := Lib.hid hb7
                       clear own7 grow7 hb7)
                    | (at_builtin
                       refine wpList_append_src _ rfl (.tmp 102) _ 32 rfl wu.heap.size 34 i0 _ 2 16 Try.underlying32 HI.out HZ0.out HZ1.out HZ2.out rfl (by decide) _ (0 + 1) _ rfl HO7.out _ (0) _ (cellsL (([] : List Win).drop 0)) rfl N2.out (HLX.out _ HB7.out).2 (oneCellsL _) (0 + 1) (by omega) (cellsL (ins (x0, x1) [])) HALL.out (by unfold maxLen; omega) (by omega) (by omega) ?_
                       intro A11 c11 w8 own8 grow8
                       have HB8 : Hid (Below wu.heap.size wu w8) := Lib.hid (HB7.out.grown grow8 (by omega) (fun g e => by have := (own_lt HO7.out e).1; omega))
                       have HO8 := Lib.hid own8
                       clear own8 grow8))
                  go_roundw
                  case rel =>
                    refine ⟨k + 1, by omega, by go_num, ?_, fun e => absurd e HNE.out, HBU.out.trans (HB8.out.mono hzu)⟩
                    rw [HS1.out, HLI.out]
                    exact row_base HO8.out hzu
                  case measure => simp [intOf]; omega
              · have HSE := Lib.hid hSe
                obtain ⟨g8, c8, rfl⟩ := row_some hrow hSe
                have hc8 : S.length ≤ c8 := by
                  rcases hrow.2 with ⟨e, _⟩ | ⟨_, _, _, e, _, _, h, _⟩
                  · simp at e
                  · simp at e; omega
                have HW8 := Lib.hid (wins_of_row hrow)
                obtain ⟨A3, cap3, hA3, h0 | ⟨g3, hg3, hgl3, hcs3⟩⟩ := HW8.out
                · exact absurd h0 hSe
                obtain ⟨e3, rfl⟩ : some (⟨g8, 0, none⟩ : Addr) = A3 ∧ c8 = cap3 := by simpa using hA3
                obtain rfl : g8 = g3 := by rw [← e3] at hg3; simpa using hg3
                have HC8 := Lib.hid hcs3
                have HCL := Lib.hid (fun j u => hrow.cells (g := g8) rfl j u)
                obtain ⟨n, hn⟩ : ∃ n, S.length = n := ⟨_, rfl⟩
                rw [hn] at hSl hc8 ⊢
                have HNn := Lib.hid hn
                have HSL : Hid (∀ W', Below wu.heap.size wu W' → ∀ j u, (cellsL S)[j]? = some u → W'.cell? ⟨g8, j, none⟩ = some u) := Lib.hid (fun W' h j u hj => by
                  have := HCL.out j u hj
                  rw [Ev.add_lit, Nat.zero_add] at this
                  exact (cell_heap (h.block g8 hgl3)).trans this)
                clear hn hrow hnil hSe hA3 hg3 e3 hcs3
                go_wp2_with fail
                go_loopw [10] (fun i wr => ∃ j : Nat, j ≤ n ∧ i = .int .i64 j ∧ (∀ p y, p < j → S[p]? = some y → y.1 < x0) ∧ Below wu.heap.size wu wr) (fun i _ => n - (intOf i).toNat)
                case atStart => exact ⟨0, Nat.zero_le _, rfl, fun p y h => by omega, Below.refl _ _⟩
                case round =>
                  obtain ⟨j, hj, rfl, hlo, hbq⟩ := hrel
                  have HLO := Lib.hid hlo
                  have HBq := Lib.hid hbq
                  obtain ⟨x0c, x1c⟩ := HGX.out wr hbq
                  have hj0 : (0 : Int) ≤ (j : Int) := by omega
                  have hnc : (n : Int) ≤ (c8 : Int) := by omega
                  have hjc : (j : Int) ≤ (c8 : Int) := by omega
                  have hjn' : (j : Int) ≤ (n : Int) := by omega
                  clear hlo hbq
                  by_cases hjn : j < n
                  · obtain ⟨y, hy⟩ : ∃ y, S[j]? = some y := ⟨_, List.getElem?_eq_getElem (by have := HNn.out; omega)⟩
                    obtain ⟨y0, y1⟩ := y
                    have HYj := Lib.hid hy
                    have yc := ((HC8.out j _ hy).same (W' := wr) (HBq.out.block g8 hgl3)).c0
                    dsimp only at yc
                    have hjn2 : (j : Int) < (n : Int) := by omega
                    have W2 : IntKind.i64.wrap ((j : Int) + 1) = (j : Int) + 1 := IntWalk.i64_in _ (by omega)
                    clear hy
                    by_cases hyx : y0 < x0
                    · go_wp2_with fail
                      go_quiet (fail)
                      go_wp2_with fail
                      go_roundw
                      case rel =>
                        refine ⟨j + 1, by omega, by go_num, fun p y h1 h2 => ?_, below_drewN HBq.out _⟩
                        by_cases hp : p = j
                        · subst hp
                          rw [HYj.out] at h2
                          obtain rfl : (y0, y1) = y := by simpa using h2
                          exact hyx
                        · exact HLO.out p y (by omega) h2
                      case measure => simp [intOf]; omega
                    · have hcj : ¬ c8 = j := by omega
                      have HALL : Hid ((cellsL (S.take j) ++ wcells (x0, x1)) ++ cellsL (S.drop j) = cellsL (ins (x0, x1) S)) := Lib.hid (by
                        rw [ins_split (x0, x1) S j (by have := HNn.out; omega) HLO.out (fun z hz => by rw [HYj.out] at hz; obtain rfl : (y0, y1) = z := by simpa using hz
                                                                                                       exact hyx)]
                        simp [cellsL])
                      have HLX : Hid (∀ W', Below wu.heap.size wu W' → Lies W' (some ⟨g8, 0, none⟩) j (cellsL (S.take j)) ∧ Lies W' (some ⟨g8, j * 2, none⟩) (n - j) (cellsL (S.drop j))) := Lib.hid (fun W' h => by
                        refine ⟨.inr ⟨_, rfl, fun i u hi => ?_⟩, .inr ⟨_, rfl, fun i u hi => ?_⟩⟩
                        · rw [Ev.add_lit, Nat.zero_add]
                          refine HSL.out W' h i u ?_
                          rw [cells_split S j, List.getElem?_append_left (List.getElem?_eq_some_iff.1 hi).1]
                          exact hi
                        · rw [Ev.add_lit]
                          refine HSL.out W' h _ u ?_
                          have hl : (cellsL (S.take j)).length = j * 2 := by have := HNn.out; rw [cellsL_len, List.length_take]; omega
                          rw [cells_split S j, List.getElem?_append_right (by omega), hl]
                          simpa using hi)
                      have N1 : Hid ((cellsL (S.take j)).length = j * 2) := Lib.hid (by have := HNn.out; rw [cellsL_len, List.length_take]; omega)
                      have N2 : Hid ((cellsL (S.drop j)).length = (n - j) * 2) := Lib.hid (by have := HNn.out; rw [cellsL_len, List.length_drop]; omega)
                      go_wp2_with fail
                      go_quiet (fail)
                      generalize hwd : wr.drewN _ = wd
                      have HBQ : Hid (Below wu.heap.size wu wd) := Lib.hid (by rw [← hwd]; exact below_drewN HBq.out _)
                      have hzd : wu.heap.size ≤ wd.heap.size := HBQ.out.size
                      clear hwd yc x0c x1c
                      go_wp2_with (first
                        | (at_builtin
                           refine wpList_append_src _ rfl (.tmp 90) _ 32 rfl wu.heap.size 34 i0 _ 2 16 Try.underlying32 HI.out HZ0.out HZ1.out HZ2.out rfl (by decide) _ 0 [] rfl (World.ownsRow_nil _ _ _ _) _ j _ (cellsL (S.take j)) rfl N1.out (HLX.out _ HBQ.out).1 (oneCellsL _) j (by omega) _ (List.nil_append _) (by unfold maxLen; omega) (by omega) (by omega) ?_
                           intro A9 c9 w6 own6 grow6
                           have hb6 : Below wu.heap.size wu w6 := HBQ.out.grown grow6 (by omega) (fun g e => (by have e2 : (none : Option Nat) = some g := e; cases e2))
                           have HO6 := Lib.hid own6
                           have hs6 := hb6.size
                           obtain ⟨x0c, x1c⟩ := HGX.out w6 hb6
                           have HB6 := Lib.hid hb6
                           clear own6 grow6 hb6)
                        | (at_builtin
                           refine wpList_append_src _ rfl (.tmp 95) _ 32 rfl wu.heap.size 34 i0 _ 2 16 Try.underlying32 HI.out HZ0.out HZ1.out HZ2.out rfl (by decide) _ j _ rfl (HO6.out.alloc _) _ 1 1 (wcells (x0, x1)) rfl rfl (lies_box w6 (x0, x1) 34) (oneCells _) (j + 1) (by omega) _ rfl (by unfold maxLen; omega) (by omega) (by simp; omega) ?_
                           intro A10 c10 w7 own7 grow7
                           have hb7 : Below wu.heap.size wu w7 := (HB6.out.alloc (by omega) _).grown grow7 (by simp; omega) (fun g e => by have := (own_lt HO6.out e).1; omega)
                           have HO7 := Lib.hid own7
                           have hs7 := hb7.size
                           have HB7 := Lib.hid hb7
                           clear own7 grow7 hb7)
                        | (at_builtin
                           refine wpList_append_src _ rfl (.tmp 102) _ 32 rfl wu.heap.size 34 i0 _ 2 16 Try.underlying32 HI.out HZ0.out HZ1.out HZ2.out rfl (by decide) _ (j + 1) _ rfl HO7.out _ (n - j) _ (cellsL (S.drop j)) rfl N2.out (HLX.out _ HB7.out).2 (oneCellsL _) (n + 1) (by omega) (cellsL (ins (x0, x1) S)) HALL.out (by unfold maxLen; omega) (by omega) (by omega) ?_
                           intro A11 c11 w8 own8 grow8
                           have HB8 : Hid (Below wu.heap.size wu w8) := Lib.hid (HB7.out.grown grow8 (by omega) (fun g e => by have := (own_lt HO7.out e).1; omega))
                           have HO8 := Lib.hid own8
                           clear own8 grow8))
                      go_roundw
                      case rel =>
                        refine ⟨k + 1, by omega, by go_num, ?_, fun e => absurd e HNE.out, HBU.out.trans (HB8.out.mono hzu)⟩
                        rw [HS1.out, HLI.out, HNn.out]
                        exact row_base HO8.out hzu
                      case measure => simp [intOf]; omega
                  · obtain rfl : j = n := by omega
                    have HALL : Hid ((cellsL (S.take j) ++ wcells (x0, x1)) ++ cellsL (S.drop j) = cellsL (ins (x0, x1) S)) := Lib.hid (by
                      rw [ins_split (x0, x1) S j (by have := HNn.out; omega) HLO.out (fun z hz => by
                        have := (List.getElem?_eq_some_iff.1 hz).1
                        have := HNn.out; omega)]
                      simp [cellsL])
                    have HLX : Hid (∀ W', Below wu.heap.size wu W' → Lies W' (some ⟨g8, 0, none⟩) j (cellsL (S.take j)) ∧ ∀ A, Lies W' A 0 (cellsL (S.drop j))) := Lib.hid (fun W' h => by
                      refine ⟨.inr ⟨_, rfl, fun i u hi => ?_⟩, fun A => .inl rfl⟩
                      rw [Ev.add_lit, Nat.zero_add]
                      refine HSL.out W' h i u ?_
                      rw [cells_split S j, List.getElem?_append_left (List.getElem?_eq_some_iff.1 hi).1]
                      exact hi)
                    have N1 : Hid ((cellsL (S.take j)).length = j * 2) := Lib.hid (by have := HNn.out; rw [cellsL_len, List.length_take]; omega)
                    have N2 : Hid ((cellsL (S.drop j)).length = 0 * 2) := Lib.hid (by have := HNn.out; rw [cellsL_len, List.length_drop]; omega)
                    by_cases hcj : c8 = j
                    · subst hcj
                      go_wp2_with fail
                      go_quiet (fail)
                      generalize hwd : wr.drewN _ = wd
                      have HBQ : Hid (Below wu.heap.size wu wd) := Lib.hid (by rw [← hwd]; exact below_drewN HBq.out _)
                      have hzd : wu.heap.size ≤ wd.heap.size := HBQ.out.size
                      clear hwd x0c x1c
                      go_wp2_with (first
                        | (at_builtin
                           refine wpList_append_src _ rfl (.tmp 90) _ 32 rfl wu.heap.size 34 i0 _ 2 16 Try.underlying32 HI.out HZ0.out HZ1.out HZ2.out rfl (by decide) _ 0 [] rfl (World.ownsRow_nil _ _ _ _) _ c8 _ (cellsL (S.take c8)) rfl N1.out (HLX.out _ HBQ.out).1 (oneCellsL _) c8 (by omega) _ (List.nil_append _) (by unfold maxLen; omega) (by omega) (by omega) ?_
                           intro A9 c9 w6 own6 grow6
                           have hb6 : Below wu.heap.size wu w6 := HBQ.out.grown grow6 (by omega) (fun g e => (by have e2 : (none : Option Nat) = some g := e; cases e2))
                           have HO6 := Lib.hid own6
                           have hs6 := hb6.size
                           obtain ⟨x0c, x1c⟩ := HGX.out w6 hb6
                           have HB6 := Lib.hid hb6
                           clear own6 grow6 hb6)
                        | (at_builtin
                           refine wpList_append_src _ rfl (.tmp 95) _ 32 rfl wu.heap.size 34 i0 _ 2 16 Try.underlying32 HI.out HZ0.out HZ1.out HZ2.out rfl (by decide) _ c8 _ rfl (HO6.out.alloc _) _ 1 1 (wcells (x0, x1)) rfl rfl (lies_box w6 (x0, x1) 34) (oneCells _) (c8 + 1) (by omega) _ rfl (by unfold maxLen; omega) (by omega) (by simp; omega) ?_
                           intro A10 c10 w7 own7 grow7
                           have hb7 : Below wu.heap.size wu w7 := (HB6.out.alloc (by omega) _).grown grow7 (by simp; omega) (fun g e => by have := (own_lt HO6.out e).1; omega)
                           have HO7 := Lib.hid own7
                           have hs7 := hb7.size
                           have HB7 := Lib.hid hb7
                           clear own7 grow7 hb7)
                        | (at_builtin
                           refine wpList_append_src _ rfl (.tmp 102) _ 32 rfl wu.heap.size 34 i0 _ 2 16 Try.underlying32 HI.out HZ0.out HZ1.out HZ2.out rfl (by decide) _ (c8 + 1) _ rfl HO7.out _ (0) _ (cellsL (S.drop c8)) rfl N2.out ((HLX.out _ HB7.out).2 _) (oneCellsL _) (c8 + 1) (by omega) (cellsL (ins (x0, x1) S)) HALL.out (by unfold maxLen; omega) (by omega) (by omega) ?_
                           intro A11 c11 w8 own8 grow8
                           have HB8 : Hid (Below wu.heap.size wu w8) := Lib.hid (HB7.out.grown grow8 (by omega) (fun g e => by have := (own_lt HO7.out e).1; omega))
                           have HO8 := Lib.hid own8
                           clear own8 grow8))
                      go_roundw
                      case rel =>
                        refine ⟨k + 1, by omega, by go_num, ?_, fun e => absurd e HNE.out, HBU.out.trans (HB8.out.mono hzu)⟩
                        rw [HS1.out, HLI.out, HNn.out]
                        exact row_base HO8.out hzu
                      case measure => simp [intOf]; omega
                    · go_wp2_with fail
                      go_quiet (fail)
                      generalize hwd : wr.drewN _ = wd
                      have HBQ : Hid (Below wu.heap.size wu wd) := Lib.hid (by rw [← hwd]; exact below_drewN HBq.out _)
                      have hzd : wu.heap.size ≤ wd.heap.size := HBQ.out.size
                      clear hwd x0c x1c
                      go_wp2_with (first
                        | (at_builtin
                           refine wpList_append_src _ rfl (.tmp 90) _ 32 rfl wu.heap.size 34 i0 _ 2 16 Try.underlying32 HI.out HZ0.out HZ1.out HZ2.out rfl (by decide) _ 0 [] rfl (World.ownsRow_nil _ _ _ _) _ j _ (cellsL (S.take j)) rfl N1.out (HLX.out _ HBQ.out).1 (oneCellsL _) j (by omega) _ (List.nil_append _) (by unfold maxLen; omega) (by omega) (by omega) ?_
                           intro A9 c9 w6 own6 grow6
                           have hb6 : Below wu.heap.size wu w6 := HBQ.out.grown grow6 (by omega) (fun g e => (by have e2 : (none : Option Nat) = some g := e; cases e2))
                           have HO6 := Lib.hid own6
                           have hs6 := hb6.size
                           obtain ⟨x0c, x1c⟩ := HGX.out w6 hb6
                           have HB6 := Lib.hid hb6
                           clear own6 grow6 hb6)
                        | (at_builtin
                           refine wpList_append_src _ rfl (.tmp 95) _ 32 rfl wu.heap.size 34 i0 _ 2 16 Try.underlying32 HI.out HZ0.out HZ1.out HZ2.out rfl (by decide) _ j _ rfl (HO6.out.alloc _) _ 1 1 (wcells (x0, x1)) rfl rfl (lies_box w6 (x0, x1) 34) (oneCells _) (j + 1) (by omega) _ rfl (by unfold maxLen; omega) (by omega) (by simp; omega) ?_
                           intro A10 c10 w7 own7 grow7
                           have hb7 : Below wu.heap.size wu w7 := (HB6.out.alloc (by omega) _).grown grow7 (by simp; omega) (fun g e => by have := (own_lt HO6.out e).1; omega)
                           have HO7 := Lib.hid own7
                           have hs7 := hb7.size
                           have HB7 := Lib.hid hb7
                           clear own7 grow7 hb7)
                        | (at_builtin
                           refine wpList_append_src _ rfl (.tmp 102) _ 32 rfl wu.heap.size 34 i0 _ 2 16 Try.underlying32 HI.out HZ0.out HZ1.out HZ2.out rfl (by decide) _ (j + 1) _ rfl HO7.out _ (0) _ (cellsL (S.drop j)) rfl N2.out ((HLX.out _ HB7.out).2 _) (oneCellsL _) (j + 1) (by omega) (cellsL (ins (x0, x1) S)) HALL.out (by unfold maxLen; omega) (by omega) (by omega) ?_
                           intro A11 c11 w8 own8 grow8
                           have HB8 : Hid (Below wu.heap.size wu w8) := Lib.hid (HB7.out.grown grow8 (by omega) (fun g e => by have := (own_lt HO7.out e).1; omega))
                           have HO8 := Lib.hid own8
                           clear own8 grow8))
                      go_roundw
                      case rel =>
                        refine ⟨k + 1, by omega, by go_num, ?_, fun e => absurd e HNE.out, HBU.out.trans (HB8.out.mono hzu)⟩
                        rw [HS1.out, HLI.out, HNn.out]
                        exact row_base HO8.out hzu
                      case measure => simp [intOf]; omega
            · obtain rfl : k = own.length := by omega
              rw [List.take_length] at hrow hnil
              have HROW := Lib.hid hrow
              have HNIL := Lib.hid hnil
              have HBU := Lib.hid hbu
              clear hrow hnil hbu
              go_wp2_with fail
              go_ret
              refine Row.from (w1 := w1) ⟨_, rfl, ?_, ?_, HBU.out⟩ HB1.out
              · rw [← HFIN.out]; exact HROW.out
              · rw [← HFIN.out]; exact HNIL.out
        · have HNP := Lib.hid hnp
          clear hnp
          go_wp2_with (go_at_call 33
                       (with_reducible refine (rpair_yes own A1 cap1 _ HWN.out hol HNP.out).mono ?_)
                       rintro e w1 ⟨⟨i, k, a, b, q1, q2, hik, q4, rfl⟩, p1⟩
                       have HRW1 := Lib.hid (HRW.out.below p1)
                       have HB1 := Lib.hid (HBR.out.trans (p1.mono hsz))
                       have Q1 := Lib.hid q1
                       have Q2 := Lib.hid q2
                       have Q4 := Lib.hid q4
                       clear p1 q1 q2 q4)
          obtain ⟨a0, a1⟩ := a
          obtain ⟨b0, b1⟩ := b
          obtain ⟨y, hy⟩ : ∃ y, joinM (a0, a1) (b0, b1) = y := ⟨_, rfl⟩
          obtain ⟨y0, y1⟩ := y
          have HY := Lib.hid hy
          clear hy
          obtain ⟨hil, _⟩ := List.getElem?_eq_some_iff.1 Q1.out
          obtain ⟨hkl, _⟩ := List.getElem?_eq_some_iff.1 Q2.out
          obtain ⟨A2, cap2, hA2, h0 | ⟨g, cur, hgA, hbg, hcur, hr1, hr2, hr3, hr4⟩⟩ := HRW1.out
          · rw [h0] at hil; simp at hil
          obtain ⟨rfl, rfl⟩ : A1 = A2 ∧ cap1 = cap2 := by simpa using hA2
          subst hgA
          have hgl : g < w1.heap.size := (Array.getElem?_eq_some_iff.1 hcur).1
          have HWI : Hid (∀ w' : World, w'.heap[g]? = w1.heap[g]? → w'.cell? ⟨g, i * 2, none⟩ = some (.int .i64 a0) ∧ w'.cell? ⟨g, i * 2 + 1, none⟩ = some (.int .i64 a1) ∧ w'.cell? ⟨g, k * 2, none⟩ = some (.int .i64 b0) ∧ w'.cell? ⟨g, k * 2 + 1, none⟩ = some (.int .i64 b1) ∧ w'.frozen? ⟨g, i * 2, none⟩ = false ∧ w'.frozen? ⟨g, i * 2 + 1, none⟩ = false) := Lib.hid (fun w' h => by
            obtain ⟨A3, cap3, hA3, h0 | ⟨g3, e3, hg3, hcs⟩⟩ := HRW1.out.wins
            · rw [h0] at hil; simp at hil
            obtain ⟨rfl, rfl⟩ : some (⟨g, 0, none⟩ : Addr) = A3 ∧ cap1 = cap3 := by simpa using hA3
            obtain rfl : g = g3 := by simpa using e3
            have c := (hcs i _ Q1.out).same h
            have d := (hcs k _ Q2.out).same h
            exact ⟨c.c0, c.c1, d.c0, d.c1, by simp [World.frozen?, h, hcur], by simp [World.frozen?, h, hcur]⟩)
          have hi0 : (0 : Int) ≤ (i : Int) := by omega
          have hi1 : (i : Int) < (own.length : Int) := by omega
          have hk0 : (0 : Int) ≤ (k : Int) := by omega
          have hk1 : (k : Int) < (own.length : Int) := by omega
          obtain ⟨c0, c1, d0, d1, f0, f1⟩ := HWI.out w1 rfl
          have HCU := Lib.hid hcur
          clear hcur hr4 hA2
          go_wp2_with fail
          trace_state
          go_region_with (go_at_call 15
                          (with_reducible refine (rjoin_any (a0, a1) (b0, b1) _).mono ?_)
                          rw [HY.out]
                          rintro e w2 ⟨rfl, p2⟩
                          obtain ⟨c0, c1, d0, d1, f0, f1⟩ := HWI.out w2 (p2.block g (by simp; omega))
                          have HP2 : Hid (Below w1.heap.size w1 w2) := Lib.hid ((Below.refl w1.heap.size w1).drew.trans (p2.mono (by simp)))
                          clear p2)
          all_goals generalize hw3 : (w2.setCell ⟨g, i * 2, none⟩ (.int .i64 y0)).setCell ⟨g, i * 2 + 1, none⟩ (.int .i64 y1) = w3
          all_goals
            have hgl2 : g < w2.heap.size := Nat.lt_of_lt_of_le hgl HP2.out.size
            have RW3 : Hid (Rw w.heap.size w3 (.slice (some ⟨g, 0, none⟩) own.length cap1) (own.set i (y0, y1))) := Lib.hid (by rw [← hw3]; exact (HRW1.out.below HP2.out).set hil (y0, y1))
            have B3 : Hid (Below w.heap.size w w3) := Lib.hid (by rw [← hw3]; exact ((HB1.out.trans (HP2.out.mono HB1.out.size)).setCell (p := ⟨g, i * 2, none⟩) hbg _).setCell (p := ⟨g, i * 2 + 1, none⟩) hbg _)
            have hgl3 : g < w3.heap.size := by rw [← hw3]; simpa [World.setCell] using hgl2
            have ME : Hid (Merged (l.filter isW) ((own.set i (y0, y1)).eraseIdx k) ∧ ((own.set i (y0, y1)).eraseIdx k).length + 1 = own.length) := Lib.hid (by have := HME.out.step Q1.out Q2.out hik Q4.out; rw [HY.out] at this; exact this)
            have SZ : Hid (w.heap.size ≤ w3.heap.size) := Lib.hid B3.out.size
            clear c0 c1 d0 d1 f0 f1 hw3
            go_wp2_with fail
          all_goals
            have hr1' : (own.length : Int) ≤ (cap1 : Int) := by omega
            have hkc : (k : Int) ≤ (cap1 : Int) := by omega
            have hkk : (k : Int) + 1 ≤ (own.length : Int) := by omega
            have hk2 : (0 : Int) ≤ (k : Int) + 1 := by omega
            have hkc2 : (k : Int) + 1 ≤ (cap1 : Int) := by omega
            have W1 : IntKind.i64.wrap ((k : Int) + 1) = (k : Int) + 1 := IntWalk.i64_in _ (by omega)
            by_cases hlast : k + 1 = own.length
            · by_cases hcl : cap1 = own.length
              · have HC := Lib.hid hcl
                clear hcl
                go_region_law (refine step_append_none rfl (.tmp 59) (.tmp 63) 32 rfl 34 i0 Try.underlying32 HI.out ⟨g, 0, none⟩ k k (by simp [Act.eval, Act.put]) (Nat.le_refl _) (some ⟨g, 0, none⟩) (cap1 - own.length) (by simp [Act.eval, Act.put, hlast, HC.out]) ?_)
                go_wp2_with fail
                go_roundw
                case rel =>
                  exact ⟨_, by have := ME.out.2; omega, ME.out.1, by have := (RW3.out.erase_last k (by rw [List.length_set]; exact hlast)); exact this, B3.out.drew⟩
                case measure => simp [sliceLen]; omega
              · have HC := Lib.hid hcl
                clear hcl
                go_region_law (refine step_append_none rfl (.tmp 59) (.tmp 63) 32 rfl 34 i0 Try.underlying32 HI.out ⟨g, 0, none⟩ k k (by simp [Act.eval, Act.put]) (Nat.le_refl _) (some ⟨g, own.length * 2, none⟩) (cap1 - own.length) (by simp [Act.eval, Act.put, hlast, HC.out]) ?_)
                go_wp2_with fail
                go_roundw
                case rel =>
                  exact ⟨_, by have := ME.out.2; omega, ME.out.1, by have := (RW3.out.erase_last k (by rw [List.length_set]; exact hlast)); exact this, B3.out.drew⟩
                case measure => simp [sliceLen]; omega
            · have hne : ¬ cap1 = k + 1 := by omega
              obtain ⟨m, hm⟩ : ∃ m, own.length - (k + 1) = m := ⟨_, rfl⟩
              obtain ⟨own2, how⟩ : ∃ own2, own.set i (y0, y1) = own2 := ⟨_, rfl⟩
              have hol2 : own2.length = own.length := by rw [← how, List.length_set]
              have RW4 : Hid (Rw w.heap.size w3 (.slice (some ⟨g, 0, none⟩) own.length cap1) own2) := Lib.hid (by rw [← how]; exact RW3.out)
              have ME2 : Hid (Merged (l.filter isW) (own2.eraseIdx k) ∧ (own2.eraseIdx k).length + 1 = own.length) := Lib.hid (by rw [← how]; exact ME.out)
              have u0 : ∀ b, some (⟨g, 0, none⟩ : Addr) = some b → ∀ j u, (cellsL (own2.take k))[j]? = some u → w3.drew.cell? (b.add j) = some u := by
                rintro b e j u hj
                obtain rfl : (⟨g, 0, none⟩ : Addr) = b := by simpa using e
                rw [Ev.add_lit, Nat.zero_add]
                refine RW4.out.at j u ?_
                rw [cells_split own2 k, List.getElem?_append_left (List.getElem?_eq_some_iff.1 hj).1]
                exact hj
              have u1 : ∀ j u, (cellsL (own2.drop (k + 1)))[j]? = some u → w3.drew.cell? ((⟨g, (k + 1) * 2, none⟩ : Addr).add j) = some u := by
                intro j u hj
                rw [Ev.add_lit]
                refine RW4.out.at _ u ?_
                have hl : (cellsL (own2.take (k + 1))).length = (k + 1) * 2 := by rw [cellsL_len, List.length_take]; omega
                rw [cells_split own2 (k + 1), List.getElem?_append_right (by omega), hl]
                simpa using hj
              have n0 : (cellsL (own2.take k)).length = k * 2 := by rw [cellsL_len, List.length_take]; omega
              have n1 : (cellsL (own2.drop (k + 1))).length = m * 2 := by rw [cellsL_len, List.length_drop]; omega
              have n2 : ∀ u ∈ cellsL (own2.drop (k + 1)), u.oneCell' = true := oneCellsL _
              have n3 : cellsL (own2.take k) ++ cellsL (own2.drop (k + 1)) = cellsL (own2.eraseIdx k) := by rw [List.eraseIdx_eq_take_drop_succ, cellsL_app]
              have N0 := Lib.hid n0
              have N1 := Lib.hid n1
              have N2 := Lib.hid n2
              have N3 := Lib.hid n3
              have U0 := Lib.hid u0
              have U1 := Lib.hid u1
              clear u0 u1 n0 n1 n2 n3
              go_region_law (refine step_append_grows rfl (.tmp 59) (.tmp 63) 32 rfl 34 i0 _ 2 16 Try.underlying32 HI.out HZ0.out HZ1.out HZ2.out rfl (by decide) (some ⟨g, 0, none⟩) k k (cellsL (own2.take k)) (by simp [Act.eval, Act.put]) (fun e => by cases e) N0.out U0.out ⟨g, (k + 1) * 2, none⟩ m (cap1 - (k + 1)) (cellsL (own2.drop (k + 1))) (by simp [Act.eval, Act.put, hne, hm]) N1.out U1.out N2.out (by omega) (by unfold maxLen; omega) (by omega) ?_
                             intro v' w5 hown5 hgrow5
                             rw [N3.out] at hown5)
              obtain ⟨g5, cap5, hv5⟩ : ∃ g5 cap5, v' = .slice (some ⟨g5, 0, none⟩) (k + m) cap5 := by
                rcases hown5.2 with ⟨_, h0⟩ | ⟨g5, cap5, _, e, _⟩
                · omega
                · exact ⟨g5, cap5, e⟩
              subst hv5
              have hle : (own2.eraseIdx k).length = k + m := by have := ME2.out.2; omega
              have R5 : Hid (Rw w.heap.size w5 (.slice (some ⟨g5, 0, none⟩) (k + m) cap5) (own2.eraseIdx k)) := Lib.hid (by
                rw [← hle] at hown5 ⊢
                exact (rw_of_row hown5).base SZ.out)
              have B5 : Hid (Below w.heap.size w w5) := Lib.hid (B3.out.drew.grown hgrow5 SZ.out (fun g e => by cases e))
              clear hown5 hgrow5
              go_wp2_with fail
              go_roundw
              case rel => exact ⟨_, _, _, _, _, _, _, _, _, _, _, _, _, _, _, _, _, _, _, _, _, _, _, _, _, _, _, _, _, _, _, _, _, ⟨own2.eraseIdx k, by omega, ME2.out.1, R5.out, B5.out⟩, rfl⟩
              case measure =>
                show k + m < own.length
                omega
end Go.Proofs.Yteiedknpmlemkaa
