/-
  through: what becomes of each record of a list.
-/
import Derived.Test.YthebacladmjiiaaOpF
namespace Go.Proofs.Ythebacladmjiiaa
open Go Go.RowKit Go.Lib Go.Shelf
attribute [local go_sem] Oper.semAt_some

theorem info36 : (Try.prog.info? 36).map (fun i => (i.zero, i.size, i.bytes)) = some (some (.agg #[.int .u32 0, .int .i64 0, .int .i64 0, .int .u8 0, .bool false, .bool false]), 6, 32) := by kernel_rfl

/-- A record lies in a block, from a place on. -/
structure RecIn (W : World) (g k : Nat) (r : RecD) : Prop where
  c0 : W.cell? ⟨g, k, none⟩ = some (.int .u32 r.key)
  c1 : W.cell? ⟨g, k + 1, none⟩ = some (.int .i64 r.time)
  c2 : W.cell? ⟨g, k + 2, none⟩ = some (.int .i64 r.val)
  c3 : W.cell? ⟨g, k + 3, none⟩ = some (.int .u8 r.side)
  c4 : W.cell? ⟨g, k + 4, none⟩ = some (.bool r.err)
  c5 : W.cell? ⟨g, k + 5, none⟩ = some (.bool r.late)
theorem RecIn.same {W W' : World} {g k : Nat} {r : RecD} (h : RecIn W g k r) (e : W'.heap[g]? = W.heap[g]?) : RecIn W' g k r :=
  ⟨(cell_heap e).trans h.c0, (cell_heap e).trans h.c1, (cell_heap e).trans h.c2, (cell_heap e).trans h.c3, (cell_heap e).trans h.c4, (cell_heap e).trans h.c5⟩
/-- A slice of records. -/
def Recs (W : World) (B : Nat) (v : Value) (l : List RecD) : Prop :=
  ∃ A cap, v = .slice A l.length cap ∧ (l = [] ∨ ∃ g, A = some ⟨g, 0, none⟩ ∧ g < B ∧ ∀ j x, l[j]? = some x → RecIn W g (j * 6) x)
theorem Recs.below {W W' : World} {B : Nat} {v : Value} {l : List RecD} (h : Recs W B v l) (hb : Below B W W') : Recs W' B v l := by
  obtain ⟨A, cap, rfl, h | ⟨g, rfl, hg, hc⟩⟩ := h
  · exact ⟨A, cap, rfl, .inl h⟩
  · exact ⟨_, cap, rfl, .inr ⟨g, rfl, hg, fun j x hx => (hc j x hx).same (hb.block g hg)⟩⟩

theorem SeqV.stops {W : World} {n1 n2 : Nat} {v : Value} {l : List RecD} (h : SeqV W n1 n2 v l) (hw : n2 ≤ W.heap.size) : ∃ gf lb N, v = .func (.func gf) #[] lb ∧
    SeqStopsK Fence.wide 9 Try.prog gf lb (fun x : RecD => #[x.v]) (Kept n1 n2) (fun ys => ys = l) (fun _ => True) N W ∧ N ≤ 3 ∧ ∀ args w, (callFunc gf args).run Try.prog w = .ok (.enter gf args) w := by
  rcases h with ⟨g, r, rfl, h1, h2, h3, rfl⟩ | ⟨rfl, rfl⟩ | ⟨ga, gr, gb, a, b, r, rfl, h1, h2, h3, h4, h5, h6, rfl⟩
  · exact ⟨_, _, 1, rfl, only_stops n1 n2 g r W h1 h2 hw h3, by omega, enters_of Try.func43 (by kernel_rfl) rfl⟩
  · exact ⟨_, _, 1, rfl, none_stops n1 n2 W, by omega, enters_of Try.func44 (by kernel_rfl) rfl⟩
  · exact ⟨_, _, a, rfl, copied_stops n1 n2 ga gr gb a b r W h1 h2 hw (by omega) h4 h5 h6, h3, enters_of Try.func45 (by kernel_rfl) rfl⟩

theorem news_new (w : World) (x : RecD) (t : TypeId) : ∀ j u, x.cells[j]? = some u → (w.alloc (.cells x.cells.toArray t)).cell? ((⟨w.heap.size, 0, none⟩ : Addr).add j) = some u := by
  intro j u h
  have hh : (w.alloc (.cells x.cells.toArray t)).heap[w.heap.size]? = some (.cells x.cells.toArray t) := World.alloc_heap_new w _
  simp only [Ev.add_lit, World.cell?, hh, Nat.zero_add]
  simpa using h
theorem oneCells (x : RecD) : ∀ u ∈ x.cells, u.oneCell' = true := by
  intro u hu
  simp only [RecD.cells, List.mem_cons, List.not_mem_nil, or_false] at hu
  rcases hu with rfl | rfl | rfl | rfl | rfl | rfl <;> rfl

theorem resM_len (o : OpD) (r : RecD) (ok : allowsM o = true) : (resM (kindRow o.kind).2.2.2 o.a o.b r).length ≤ 3 := by
  unfold allowsM at ok
  simp only [Bool.and_eq_true, decide_eq_true_eq] at ok
  obtain ⟨_, ok⟩ := ok
  unfold kindRow at *
  repeat' split
  all_goals simp only [*, if_true, if_false] at ok
  · simp [resM]
  · simp [resM]
  · by_cases hq : r.val % o.a = o.b <;> simp [resM, hq]
  · have := fitsM_39 ok
    simp [resM, copiesM_len]; omega
  all_goals simp [resM]
theorem oneM_len (o : OpD) (r : RecD) : (oneM o r).length ≤ 3 := by
  unfold oneM
  split
  · simp
  · rename_i h
    exact resM_len o r (by cases hh : allowsM o <;> simp_all)
theorem flat_len (o : OpD) : ∀ (l : List RecD), (l.flatMap (oneM o)).length ≤ 3 * l.length
  | [] => by simp
  | x :: l => by
    have := flat_len o l
    have := oneM_len o x
    simp only [List.flatMap_cons, List.length_append, List.length_cons]; omega
theorem flat_take (o : OpD) {l : List RecD} {j : Nat} (h : j < l.length) : (l.take (j + 1)).flatMap (oneM o) = (l.take j).flatMap (oneM o) ++ oneM o l[j] := by
  rw [List.take_succ_eq_append_getElem h, List.flatMap_append]
  simp

/-- What an operator makes of each record of a list. -/
def throughM (o : OpD) (l : List RecD) : List RecD := l.flatMap (oneM o)

/-- A record's own block. -/
def RBox (W : World) (B : Nat) (x : RecD) : Prop := W.heap[B]? = some (.cells x.cells.toArray 36 (0, 0))
theorem RBox.grown {W W' : World} {B : Nat} {x : RecD} (h : RBox W B x) {row : Option Nat} (hg : W.grownBy W' row) (hr : ∀ r, row = some r → ∃ o : Obj, W.heap[r]? = some o ∧ o.isCells = false) : RBox W' B x :=
  (hg.block B (Array.getElem?_eq_some_iff.1 h).1 (fun e => by
    obtain ⟨ob, ho, hc⟩ := hr B e.symm
    rw [show W.heap[B]? = _ from h] at ho; cases ho; cases hc)).trans h
theorem RBox.recAt {W : World} {B : Nat} {x : RecD} (h : RBox W B x) : RecAt W B x := by
  have h' : W.heap[B]? = some (.cells x.cells.toArray 36 (0, 0)) := h
  constructor <;> (simp only [World.cell?, h']; rfl)

set_option maxRecDepth 100000 in
set_option maxHeartbeats 3200000 in
theorem through_any (o : OpD) (all : List RecD) (A : Option Addr) (cap : Nat) (w : World) (hin : Recs w w.heap.size (.slice A all.length cap) all) (hlen : all.length ≤ 1000000000) :
    Calls Try.prog 23 #[o.val, .slice A all.length cap] w fun e w' => ∃ v, e = .returned v ∧ w'.ownsRow w.heap.size 36 6 v (throughM o all).length (cellsL (throughM o all)) ∧ (throughM o all = [] → v = .slice none 0 0) ∧ Below w.heap.size w w' := by
  refine (callsIn_wide (n := 10)).1 ?_
  obtain ⟨i0, hi, hz0, hz1, hz2⟩ := info_parts info36
  have HI := Lib.hid hi
  have HZ0 := Lib.hid hz0
  have HZ1 := Lib.hid hz1
  have HZ2 := Lib.hid hz2
  have HIN := Lib.hid hin
  have HLEN := Lib.hid hlen
  clear hi hz0 hz1 hz2 hin
  refine callsIn_of_wp_marks Try.func23 rfl trivial ?_ rfl
  unfold OpD.val
  simp only [Try.ntmps23, List.size_toArray, List.length_cons, List.length_nil, Nat.reduceAdd, Nat.reduceSub, Array.replicate_succ, Array.replicate_zero, List.push_toArray, List.append_toArray, List.nil_append, List.cons_append]
  gi_wp2
  refine wpIn_loop (fun a' w' => ∃ (j : Nat) (L : List Nat) (v u7 u12 u13 u14 u15 u16 u17 u23 : Value), j ≤ all.length ∧
      a' = { tmps := #[.agg #[.int .i64 o.kind, .int .i64 o.a, .int .i64 o.b, .int .i64 o.agg], .slice A all.length cap, .pointer (some ⟨w.heap.size, 0, none⟩), undef, .slice none 0 0, .pointer (some ⟨w.heap.size + 1, 0, none⟩), undef, u7, undef,
        .slice A all.length cap, .int .i64 all.length, .int .i64 j, u12, u13, u14, u15, u16, u17, undef, undef, undef, undef, undef, u23, undef], defers := L.map mark } ∧
      Marks (w.heap.size + 2) L w' ∧ St w.heap.size o w w' v ((all.take j).flatMap (oneM o)))
    (fun a' _ => all.length - (intOf (a'.tmps.getD 11 undef)).toNat) ?_ ?_
  · refine ⟨0, [], .slice none 0 0, undef, undef, undef, undef, undef, undef, undef, undef, Nat.zero_le _, rfl, ⟨List.Pairwise.nil, fun D h => by cases h⟩, ?_⟩
    obtain ⟨W1, hW1⟩ : ∃ W1, (w.alloc (.cells o.cells.toArray 23)) = W1 := ⟨_, rfl⟩
    have s1 : W1.heap.size = w.heap.size + 1 := by rw [← hW1]; simp
    show St w.heap.size o w ((w.alloc (.cells o.cells.toArray 23)).alloc (.cells #[.slice none 0 0] 39)) (.slice none 0 0) []
    rw [hW1]
    refine ⟨?_, World.ownsRow_nil _ _ _ _, fun _ => rfl, ?_, ?_, ?_⟩
    · rw [← s1]; exact Boxed.new W1 39 _
    · rw [Below.heap_alloc _ _ _ (by omega), ← hW1]; exact World.alloc_heap_new w _
    · rw [← hW1]; exact ((Below.refl _ _).alloc (Nat.le_refl _) _).alloc (by simp) _
    · simp; omega
  · rintro a1 W ⟨j, L, v, u7, u12, u13, u14, u15, u16, u17, u23, hj, rfl, hM, hS⟩
    by_cases hlt : j < all.length
    · have hq1 : (j : Int) < (all.length : Int) := by omega
      have hq0 : (0 : Int) ≤ (j : Int) := by omega
      obtain ⟨A', cap', hA, h0 | ⟨g, hg, hgl, hcs⟩⟩ := HIN.out
      · rw [h0] at hlt; simp at hlt
      obtain ⟨rfl, rfl⟩ : A = A' ∧ cap = cap' := by simpa using hA
      subst hg
      obtain ⟨r, hr⟩ : ∃ r, all[j] = r := ⟨_, rfl⟩
      have hx := (hcs j r (by rw [List.getElem?_eq_getElem hlt, hr])).same (W' := W) (hS.below.block g hgl)
      obtain ⟨c0, c1, c2, c3, c4, c5⟩ := hx
      have hSl := hS.lt
      have o' := fun ob => (OpAt.same (W := W) (g := w.heap.size) (o := o) (by constructor <;> (simp only [World.cell?, hS.op]; rfl)) (W' := W.alloc ob) (Below.heap_alloc _ _ _ (by omega)))
      have o0 := fun ob => (o' ob).c0
      have o1 := fun ob => (o' ob).c1
      have o2 := fun ob => (o' ob).c2
      have o3 := fun ob => (o' ob).c3
      have HM := Lib.hid hM
      have HS := Lib.hid hS
      have HR := Lib.hid hr
      clear o' hS hM hcs hA hr
      gi_wp2_with (refine ⟨trivial, ?_⟩
                   gi_at_call 30
                   (with_reducible refine (callsIn_wide.2 (results_any o r _)).mono ?_)
                   rintro e w1 ⟨vq, rfl, hb, hseq⟩)
      obtain ⟨WA, hWA⟩ : ∃ WA, W.alloc (.cells #[.int .u32 r.key, .int .i64 r.time, .int .i64 r.val, .int .u8 r.side, .bool r.err, .bool r.late] 36) = WA := ⟨_, rfl⟩
      rw [hWA] at hb hseq
      have sA : WA.heap.size = W.heap.size + 1 := by rw [← hWA]; simp
      have SA : St w.heap.size o w WA v ((all.take j).flatMap (oneM o)) := by rw [← hWA]; exact HS.out.grown (World.grownBy_alloc _ _ none) (fun r e => by cases e)
      have S1 := SA.after hb
      have hs1 := hb.size
      have hM1 : ∀ D ∈ L, D < w1.heap.size ∧ w1.heap[D]? = some (.deferred (some [])) := fun D hD => by
        have h := (HM.out.2 D hD).2
        have hlt := (Array.getElem?_eq_some_iff.1 h).1
        refine ⟨by omega, (hb.block D (by omega)).trans ?_⟩
        rw [← hWA, Below.heap_alloc _ _ _ hlt]; exact h
      obtain ⟨gf, lb, N, rfl, hstops, hN, henter⟩ := hseq.stops (Nat.le_refl _)
      refine wpIn_rangeFunc_ownH (α := RecD) rfl (by omega) (gf := gf) (lb := lb) rfl trivial henter hstops
        (fun {A B C} h1 h2 => ⟨Nat.le_trans h1.1 h2.1, fun k k1 k2 => (h2.2 k k1 k2).trans (h1.2 k k1 k2)⟩)
        (fun W' l o1 o2 hl h1 _ _ => ⟨by simp, fun k k1 k2 => World.putObj_heap_other (by omega)⟩)
        (Below.refl _ _) (fun _ => rfl)
        (fun pre W' => ∃ v', St w.heap.size o w W' v' ((all.take j).flatMap (oneM o) ++ pre) ∧ Far v' WA.heap.size w1.heap.size ∧ (∀ D ∈ L, W'.heap[D]? = some (.deferred (some []))) ∧ w1.heap.size ≤ W'.heap.size)
        (fun _ _ _ => False)
        (fun s X Y row ⟨v', hs, hf, hm, hz⟩ hg hr => ⟨v', hs.grown hg (fun r e => ⟨by have := (hr r e).1; omega, (hr r e).2⟩), hf, fun D hD => (hg.block D (Array.getElem?_eq_some_iff.1 (hm D hD)).1 (fun e => by have := (hr D e.symm).1; have := (hM1 D hD).1; omega)).trans (hm D hD), Nat.le_trans hz hg.size⟩)
        (fun _ _ _ _ _ hs _ _ => hs)
        ⟨v, by simpa using S1, fun g hg => by have := (own_lt SA.row hg).2; obtain ⟨cur, hc⟩ := this; exact .inl (Array.getElem?_eq_some_iff.1 hc).1, fun D hD => (hM1 D hD).2, Nat.le_refl _⟩
        (fun x a' W' => ∃ Bx, RBox W' Bx x ∧ w1.heap.size ≤ Bx ∧ a' = { tmps := #[.agg #[.int .i64 o.kind, .int .i64 o.a, .int .i64 o.b, .int .i64 o.agg], .slice (some ⟨g, 0, none⟩) all.length cap, .pointer (some ⟨w.heap.size, 0, none⟩), undef, .slice none 0 0, .pointer (some ⟨w.heap.size + 1, 0, none⟩), undef, .pointer (some ⟨W.heap.size, 0, none⟩), .pointer (some ⟨Bx, 0, none⟩),
          .slice (some ⟨g, 0, none⟩) all.length cap, .int .i64 all.length, .int .i64 j, .bool true, .pointer (some ⟨g, j * 6, none⟩), r.v, o.val, r.v, .func (.func gf) #[] lb, x.v, undef, undef, undef, undef, u23, undef], defers := [] })
        (fun x a' s X Y row ⟨Bx, hR, hle, ha⟩ hg hr => ⟨Bx, RBox.grown hR hg (fun r e => (hr r e).2), hle, ha⟩) ?assign ?body ?done ?stop
      case assign =>
        rintro l pre x W' K ⟨v', hs, hf, hm, hz⟩ hK
        unfold RecD.v
        gi_wp2
        refine hK _ _ ((KeepsOthers.alloc W' (.cells x.cells.toArray 36)).from _) ⟨by simp, fun k k1 k2 => Below.heap_alloc _ _ _ (by omega)⟩ ⟨v', hs.grown (World.grownBy_alloc _ _ none) (fun r e => by cases e), hf, fun D hD => (Below.heap_alloc _ _ _ (Array.getElem?_eq_some_iff.1 (hm D hD)).1).trans (hm D hD), by simp; omega⟩ ⟨W'.heap.size, World.alloc_heap_new W' _, hz, rfl⟩
      case body =>
        rintro l pre x a' W' hle ⟨rr, hrr⟩ ⟨v', hs, hf, hm, hz⟩ ⟨Bx, hBx, hBle, rfl⟩ hlt2
        obtain ⟨d0, d1, d2, d3, d4, d5⟩ := hBx.recAt
        have hbc := hs.box.cell
        have hlen3 : ((all.take j).flatMap (oneM o) ++ pre).length ≤ 3 * all.length + 3 := by
          have := flat_len o (all.take j)
          simp only [List.length_append, List.length_take] at *
          omega
        obtain ⟨k, hk⟩ : ∃ k, ((all.take j).flatMap (oneM o) ++ pre).length = k := ⟨_, rfl⟩
        rw [hk] at hlen3
        have H3 := Lib.hid hlen3
        have hrow := hs.row
        rw [hk] at hrow
        have HROW := Lib.hid hrow
        have HK := Lib.hid hk
        clear hrow hk
        have HSS := Lib.hid hs
        have HF := Lib.hid hf
        have HMM := Lib.hid hm
        clear hlen3 hs hf hm
        unfold OpD.val RecD.v
        gi_wp2_with (gi_at_builtin
                     refine wpListIn_append_lies _ rfl _ _ 39 rfl (w.heap.size + 2) 36 i0 _ 6 32 Try.underlying39 HI.out HZ0.out HZ1.out HZ2.out rfl (by decide) _ k _ rfl (HROW.out.alloc _) ⟨W'.heap.size, 0, none⟩ 1 1 x.cells rfl rfl (news_new W' x 36) (oneCells x) (by omega) (by have := H3.out; have := HLEN.out; unfold maxLen; omega) (by have := H3.out; have := HLEN.out; omega) (by have := HSS.out.lt; simp; omega) ?_
                     intro g2 cap2 w2 hown hgrow hat hg2
                     rw [← HK.out] at hown
                     obtain ⟨q1, q2, q3, q4, q5, q6⟩ := HSS.out.append (n1 := WA.heap.size) (n2 := w1.heap.size) HF.out (by omega) (by omega) hown hgrow hat
                     rw [HK.out] at q3 q4 q5 q6
                     have Q3 := Lib.hid q3
                     have Q4 := Lib.hid q4
                     have Q5 := Lib.hid q5
                     have Q6 := Lib.hid q6
                     clear q3 q4 q5 q6 hown hgrow hat)
        exact ⟨Q5.out.from _, Q6.out, ⟨_, by rw [← List.append_assoc]; exact Q3.out, Q4.out, fun D hD => Q5.out.same D _ (HMM.out D hD) rfl, Nat.le_trans hz Q5.out.size⟩⟩
      case done =>
        rintro D ys W' hD rfl ⟨v', hs, hf, hm, hz⟩ hK
        have HSS := Lib.hid hs
        have HMM := Lib.hid hm
        have HK := Lib.hid hK
        clear hs hm hK hf
        have W1 : IntKind.i64.wrap ((j : Int) + 1) = (j : Int) + 1 := IntWalk.i64_in _ (by omega)
        gi_wp2
        refine ⟨⟨j + 1, D :: L, v', _, _, _, _, _, _, _, _, by omega, rfl, ⟨List.pairwise_cons.2 ⟨fun D' h' e => by have := (hM1 D' h').1; omega, HM.out.1⟩, ?_⟩, ?_⟩, ?_⟩
        · intro D' h'
          rcases List.mem_cons.1 h' with rfl | h'
          · exact ⟨by omega, HK.out⟩
          · exact ⟨(HM.out.2 D' h').1, HMM.out D' h'⟩
        · rw [flat_take o hlt, HR.out]; exact HSS.out
        · simp [intOf]; omega
      case stop =>
        rintro D c pre W' _ _ h _
        exact h.elim
    · obtain rfl : j = all.length := by omega
      have hq1 : ¬ ((all.length : Nat) : Int) < (all.length : Int) := by omega
      have hbc := hS.box.cell
      rw [List.take_length] at hS
      have HM := Lib.hid hM
      have HS := Lib.hid hS
      clear hM hS
      gi_wp2
      refine leaves_marks (v := v) (n₀ := w.heap.size + 2) (fun W' => (results_tmp rfl _ _ _).trans rfl) (fun W' => W'.ownsRow (w.heap.size + 2) 36 6 v (all.flatMap (oneM o)).length (cellsL (all.flatMap (oneM o))) ∧ Below w.heap.size w W') ?_ ?_ L W HM.out ⟨HS.out.row, HS.out.below⟩
      · rintro W' ⟨h1, h2⟩
        refine ⟨v, rfl, ⟨h1.1, ?_⟩, HS.out.nil, h2⟩
        rcases h1.2 with h | ⟨g, c, cur, e1, e2, e3⟩
        · exact .inl h
        · exact .inr ⟨g, c, cur, e1, by omega, e3⟩
      · rintro W' D ⟨h1, h2⟩ hD hDd
        exact ⟨ownsRow_putObj h1 _ hDd rfl, h2.grown (grownBy_putObj' W' D (.deferred none)) h2.size (fun k e => by cases e; omega)⟩
end Go.Proofs.Ythebacladmjiiaa
