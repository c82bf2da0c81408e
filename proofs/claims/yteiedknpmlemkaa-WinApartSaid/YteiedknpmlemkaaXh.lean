/-
  few: what the law makes of the windows that came in.
-/
import Derived.Test.YteiedknpmlemkaaXb
namespace Go.Proofs.Yteiedknpmlemkaa
open Go Go.RowKit Go.Lib Go.Shelf

theorem wpList_append_one {P : Program} (w : World) {ops : Array Oper} {rest : List Oper} {o : Oper} {a : Act} {Q : Exit → Act → World → Prop} (hgd : o.guard = none) (s x : Operand) (t : TypeId)
    (ho : o.op = .call { callee := .builtin .append, args := #[s, x], argTypes := #[t, t] })
    (base : Nat) (e : TypeId) (i : TypeInfo) (z : Value) (size bytes : Nat) (ht : P.underlying t = some (.slice e)) (hi : P.info? e = some i) (hz : i.zero = some z)
    (hsize : i.size = size) (hby : i.bytes = bytes) (hzs : z.cells.size = size) (hsz : 0 < size)
    (v : Value) (k : Nat) (xs : List Value) (hs : a.eval s = v) (hown : w.ownsRow base e size v k xs)
    (ad : Addr) (m c : Nat) (news : List Value) (hx : a.eval x = .slice (some ad) m c) (hl : news.length = m * size) (hnews : ∀ j u, news[j]? = some u → w.cell? (ad.add j) = some u) (h1 : ∀ u ∈ news, u.oneCell' = true)
    (hm : 0 < m) (h63 : k + m ≤ maxLen) (hbytes : (k + m) * bytes ≤ 140737488355328) (hbase : base ≤ w.heap.size)
    (hK : ∀ g cap w', w'.ownsRow base e size (.slice (some ⟨g, 0, none⟩) (k + m) cap) (k + m) (xs ++ news) → w.grownBy w' v.ownBlock → (v.ownBlock = some g ∨ g = w.heap.size) → g < w'.heap.size → wpList P ops Q rest (a.put o.dst (.slice (some ⟨g, 0, none⟩) (k + m) cap)) w') :
    wpList P ops Q (o :: rest) a w := by
  refine wpList_plain hgd fun K hK' => ?_
  obtain ⟨g, cap, w', hrun, r1, r2, r3, r4⟩ := run_append_lies (P := P) w t o.type base e i z size bytes ht hi hz hsize hby hzs hsz v k xs hown ad m c news hl hnews h1 hm h63 hbytes hbase _ rfl
  unfold Oper.wp execOp
  simp only [ho, resolve, invoke, builtin, Sem.run_bind, Sem.run_pure, Result.andThen_ok, List.map_toArray, List.map_cons, List.map_nil, hs, hx, hrun]
  exact hK' _ _ (hK g cap w' r1 r2 r3 r4)

theorem addr_blk (a : Addr) (n : Nat) : (a.add n).block = a.block := by unfold Addr.add; split <;> rfl
theorem add_next (a : Addr) (n m : Nat) (hm : m ≠ 0) : (⟨(a.add n).block, (a.add n).off + m, none⟩ : Addr) = a.add (n + m) := by
  unfold Addr.add
  by_cases h : n = 0
  · subst h; simp [hm]
  · simp [h, hm, show n + m ≠ 0 by omega]; omega

/-- From small numbers. -/
def small (x : Win) : Win := (x.1.tmod 200, x.1.tmod 200 + x.2.tmod 12)
/-- Two rows that share no block. -/
structure Two (n : Nat) (W : World) (u v : Value) (la lb : List Win) : Prop where
  ra : W.ownsRow n 34 2 u la.length (cellsL la)
  rb : W.ownsRow n 34 2 v lb.length (cellsL lb)
  na : la = [] → u = .slice none 0 0
  nb : lb = [] → v = .slice none 0 0
  ne : ∀ g, u.ownBlock = some g → v.ownBlock ≠ some g

set_option maxRecDepth 100000 in
set_option maxHeartbeats 3200000 in
theorem few_any (l : List Win) (A : Option Addr) (cp : Nat) (w : World) (hin : WinsIn w w.heap.size A l) (hlen : l.length ≤ maxLen) :
    Calls Try.prog 17 #[.slice A l.length cp] w fun e w' => ∃ u v, e = .returned (.tuple #[u, v]) ∧ Two w.heap.size w' u v (l.take 40) ((l.take 40).map small) ∧ Below w.heap.size w w' := by
  obtain ⟨i0, hi, hz0, hz1, hz2⟩ := info_parts info34
  have HI := Lib.hid hi
  have HZ0 := Lib.hid hz0
  have HZ1 := Lib.hid hz1
  have HZ2 := Lib.hid hz2
  have HIN := Lib.hid hin
  have hml : (maxLen : Int) ≤ 9223372036854775807 := by decide
  clear hi hz0 hz1 hz2 hin
  go_enter Try.func17, Try.ntmps17
  go_wp2
  go_loopw [4, 5, 6] (fun u v i wr => ∃ k : Nat, k ≤ l.length ∧ k ≤ 40 ∧ i = .int .i64 k ∧ Two w.heap.size wr u v (l.take k) ((l.take k).map small) ∧ Below w.heap.size w wr)
    (fun _ _ i _ => 41 - (intOf i).toNat)
  case atStart => exact ⟨0, Nat.zero_le _, Nat.zero_le _, rfl, ⟨World.ownsRow_nil _ _ _ _, World.ownsRow_nil _ _ _ _, fun _ => rfl, fun _ => rfl, fun g h => by simp [Value.ownBlock] at h⟩, Below.refl _ _⟩
  case round =>
    obtain ⟨k, hk, hk40, rfl, hT, hb⟩ := hrel
    by_cases hlt : k < l.length
    · by_cases hlt2 : k < 40
      · rcases HIN.out with h0 | ⟨ad, hA, hgl, hcs⟩
        · rw [h0] at hlt; simp at hlt
        subst hA
        obtain ⟨x, hx⟩ : ∃ x, l[k] = x := ⟨_, rfl⟩
        obtain ⟨x0, x1⟩ := x
        obtain ⟨c0, c1⟩ := hcs k (x0, x1) (by rw [List.getElem?_eq_getElem hlt, hx])
        dsimp only at c0 c1
        have HF : Hid (∀ W', Below w.heap.size w W' → W'.cell? (ad.add (k * 2)) = some (.int .i64 x0) ∧ W'.cell? ⟨(ad.add (k * 2)).block, (ad.add (k * 2)).off + 1, none⟩ = some (.int .i64 x1)) := Lib.hid (fun W' h => by
          refine ⟨(h.cell (by rw [addr_blk]; exact hgl)).trans c0, ?_⟩
          rw [add_next _ _ _ (by omega)]
          exact (h.cell (by rw [addr_blk]; exact hgl)).trans c1)
        obtain ⟨a0, a1⟩ := HF.out wr hb
        have hq0 : (0 : Int) ≤ (k : Int) := by omega
        have hq1 : (k : Int) < (l.length : Int) := by omega
        have hq2 : (k : Int) < 40 := by omega
        have W1 : IntKind.i64.wrap ((k : Int) + 1) = (k : Int) + 1 := IntWalk.i64_in _ (by omega)
        have ltk : (l.take k).length = k := by rw [List.length_take]; omega
        have e1 : l.take (k + 1) = l.take k ++ [(x0, x1)] := by rw [List.take_succ_eq_append_getElem hlt, hx]
        obtain ⟨y0, hy0⟩ : ∃ y0, x0.tmod 200 = y0 := ⟨_, rfl⟩
        obtain ⟨y1, hy1⟩ : ∃ y1, x1.tmod 12 = y1 := ⟨_, rfl⟩
        have b0 : -200 < y0 ∧ y0 < 200 := by rw [← hy0]; exact ⟨Int.lt_tmod_of_pos _ (by omega), Int.tmod_lt_of_pos _ (by omega)⟩
        have b1 : -12 < y1 ∧ y1 < 12 := by rw [← hy1]; exact ⟨Int.lt_tmod_of_pos _ (by omega), Int.tmod_lt_of_pos _ (by omega)⟩
        have HSm : Hid (small (x0, x1) = (y0, y0 + y1)) := Lib.hid (by unfold small; rw [hy0, hy1])
        have HE1 := Lib.hid e1
        have HB := Lib.hid hb
        have HTT := Lib.hid hT
        have hra := hT.ra
        have hrb := hT.rb
        rw [ltk] at hra
        rw [List.length_map, ltk] at hrb
        have HRA := Lib.hid hra
        have HRB := Lib.hid hrb
        have hsz := hb.size
        have HLT := Lib.hid ltk
        clear hx e1 c0 c1 hcs hT hb hra hrb ltk
        go_wp2_with (first
          | (at_builtin
             refine wpList_append_one _ rfl (.tmp 18) _ 32 rfl w.heap.size 34 i0 _ 2 16 Try.underlying32 HI.out HZ0.out HZ1.out HZ2.out rfl (by decide) _ k _ rfl (HRA.out.alloc _) ⟨wr.heap.size, 0, none⟩ 1 1 (wcells (x0, x1)) rfl rfl (news_new wr (x0, x1) 34) (oneCells _) (by omega) (by unfold maxLen; omega) (by omega) (by simp; omega) ?_
             intro ga ca w6 own6 grow6 hat6 hga
             have hb6 : Below w.heap.size w w6 := (HB.out.alloc (by omega) _).grown grow6 (by simp; omega) (fun g e => by have := (own_lt HRA.out e).1; omega)
             have hrb6 : w6.ownsRow w.heap.size 34 2 u5 k (cellsL ((l.take k).map small)) := (HRB.out.alloc _).kept grow6 (by
               cases hv : u5.ownBlock with
               | none => exact .inl rfl
               | some g => exact .inr (fun e => HTT.out.ne g e.symm hv))
             have hne6 : u5.ownBlock ≠ some ga := by
               intro e
               rcases hat6 with h | h
               · exact HTT.out.ne ga h e
               · have := (own_lt HRB.out e).2
                 obtain ⟨cur, hc⟩ := this
                 have := (Array.getElem?_eq_some_iff.1 hc).1
                 rw [h] at this; simp at this; omega
             obtain ⟨a0, a1⟩ := HF.out w6 hb6
             have HB6 := Lib.hid hb6
             have HRB6 := Lib.hid hrb6
             have HO6 := Lib.hid own6
             have HN6 := Lib.hid hne6
             have hs6 := hb6.size
             clear grow6 hat6 hb6 hrb6 own6 hne6)
          | (at_builtin
             refine wpList_append_one _ rfl (.tmp 31) _ 32 rfl w.heap.size 34 i0 _ 2 16 Try.underlying32 HI.out HZ0.out HZ1.out HZ2.out rfl (by decide) _ k _ rfl (HRB6.out.alloc _) ⟨w6.heap.size, 0, none⟩ 1 1 (wcells (y0, y0 + y1)) rfl rfl (news_new w6 (y0, y0 + y1) 34) (oneCells _) (by omega) (by unfold maxLen; omega) (by omega) (by simp; omega) ?_
             intro gb cb w7 own7 grow7 hat7 hgb
             have HB7 : Hid (Below w.heap.size w w7) := Lib.hid ((HB6.out.alloc (by omega) _).grown grow7 (by simp; omega) (fun g e => by have := (own_lt HRB6.out e).1; omega))
             have HRA7 : Hid (w7.ownsRow w.heap.size 34 2 (.slice (some ⟨ga, 0, none⟩) (k + 1) ca) (k + 1) (cellsL (l.take k) ++ wcells (x0, x1))) := Lib.hid ((HO6.out.alloc _).kept grow7 (.inr (fun e => HN6.out e.symm)))
             have HN7 : Hid (ga ≠ gb) := Lib.hid (by
               rintro rfl
               rcases hat7 with h | h
               · exact HN6.out h
               · simp at h; omega)
             have HO7 := Lib.hid own7
             clear grow7 hat7 own7))
        go_roundw
        case rel =>
          refine ⟨k + 1, by omega, by omega, by go_num, ⟨?_, ?_, fun e => ?_, fun e => ?_, ?_⟩, HB7.out⟩
          · rw [HE1.out, cellsL_snoc, List.length_append, HLT.out]; exact HRA7.out
          · rw [HE1.out, List.map_append, List.map_cons, List.map_nil, HSm.out, cellsL_snoc, List.length_append, List.length_map, HLT.out]; exact HO7.out
          · rw [HE1.out] at e; simp at e
          · rw [HE1.out] at e; simp at e
          · intro g h1 h2
            simp [Value.ownBlock] at h1 h2
            exact HN7.out (h1.trans h2.symm)
        case measure => simp [intOf]; omega
      · obtain rfl : k = 40 := by omega
        have HTT := Lib.hid hT
        clear hT
        go_wp2_with fail
        go_ret2
        exact ⟨u4, u5, rfl, HTT.out, hb⟩
    · obtain rfl : k = l.length := by omega
      have ht : l.take l.length = l.take 40 := by rw [List.take_length, List.take_of_length_le (by omega)]
      rw [ht] at hT
      have HTT := Lib.hid hT
      clear hT ht
      go_wp2_with fail
      go_ret2
      exact ⟨u4, u5, rfl, HTT.out, hb⟩
end Go.Proofs.Yteiedknpmlemkaa
