/-
  append of a slice that may be nothing: its run, at a plain region's list, and at a step of a region that draws.
-/
import Derived.Test.YthebacladmjiiaaPb
namespace Go.Proofs.Ythebacladmjiiaa
open Go Go.RowKit Go.Lib

/-- Where what is appended lies. -/
def Lies (w : World) (A : Option Addr) (m : Nat) (news : List Value) : Prop := m = 0 ∨ ∃ ad, A = some ad ∧ ∀ j u, news[j]? = some u → w.cell? (ad.add j) = some u

theorem run_append_src {P : Program} (w : World) (t ty : TypeId) (base : Nat) (e : TypeId) (i : TypeInfo) (z : Value) (size bytes : Nat) (ht : P.underlying t = some (.slice e)) (hi : P.info? e = some i) (hz : i.zero = some z)
    (hsize : i.size = size) (hby : i.bytes = bytes) (hzs : z.cells.size = size) (hsz : 0 < size)
    (v : Value) (n : Nat) (xs : List Value) (hown : w.ownsRow base e size v n xs)
    (A : Option Addr) (m c : Nat) (news : List Value) (hl : news.length = m * size) (hnews : Lies w A m news) (h1 : ∀ u ∈ news, u.oneCell' = true)
    (h63 : n + m ≤ maxLen) (hbytes : (n + m) * bytes ≤ 140737488355328) (hbase : base ≤ w.heap.size) :
    ∃ A' cap w', (Builtin.append_ #[t, t] ty #[v, .slice A m c]).run P w = .ok (.slice A' (n + m) cap) w' ∧
      w'.ownsRow base e size (.slice A' (n + m) cap) (n + m) (xs ++ news) ∧ w.grownBy w' v.ownBlock := by
  have some_case : ∀ ad, A = some ad → (∀ j u, news[j]? = some u → w.cell? (ad.add j) = some u) → ∃ A' cap w', (Builtin.append_ #[t, t] ty #[v, .slice A m c]).run P w = .ok (.slice A' (n + m) cap) w' ∧
      w'.ownsRow base e size (.slice A' (n + m) cap) (n + m) (xs ++ news) ∧ w.grownBy w' v.ownBlock := by
    rintro ad rfl hn
    obtain ⟨v', w', hr, h2, h3, _, _⟩ := run_append_own_at (P := P) w base t ty e i z size bytes ht hi hz hsize hby hzs hsz v n xs hown ad m c news hl hn h1 h63 hbytes hbase
    have hv : ∃ A' cap, v' = .slice A' (n + m) cap := by
      rcases h2.2 with ⟨rfl, h0⟩ | ⟨g, cap, cur, rfl, _⟩
      · exact ⟨none, 0, by rw [h0]⟩
      · exact ⟨_, cap, rfl⟩
    obtain ⟨A', cap, rfl⟩ := hv
    exact ⟨A', cap, w', hr, h2, h3⟩
  rcases hnews with rfl | ⟨ad, hA, hn⟩
  · have hnil : news = [] := List.eq_nil_of_length_eq_zero (by rw [hl, Nat.zero_mul])
    subst hnil
    cases A with
    | some ad => exact some_case ad rfl (fun j u h => by simp at h)
    | none =>
      rcases hown.2 with ⟨rfl, rfl⟩ | ⟨g, cap, cur, rfl, hb, hg, hnc, hm, hcs, htk⟩
      · refine ⟨none, 0, w, ?_, ?_, World.grownBy.refl w _⟩
        · simp [Builtin.append_, run_underlying ht, sizeOf, typeInfo, hi, Builtin.lenOf, Builtin.firstCells]
        · simpa using hown
      · refine ⟨some ⟨g, 0, none⟩, cap, w, ?_, ?_, World.grownBy.refl w _⟩
        · simp [Builtin.append_, run_underlying ht, sizeOf, typeInfo, hi, Builtin.lenOf, Builtin.firstCells, hnc, storeCells]
        · simpa using hown
  · exact some_case ad hA hn

theorem wp_append_src {P : Program} (w : World) {o : Oper} {a : Act} {K : Act → World → Prop} {Q : Exit → Act → World → Prop} (s x : Operand) (t : TypeId)
    (ho : o.op = .call { callee := .builtin .append, args := #[s, x], argTypes := #[t, t] })
    (base : Nat) (e : TypeId) (i : TypeInfo) (z : Value) (size bytes : Nat) (ht : P.underlying t = some (.slice e)) (hi : P.info? e = some i) (hz : i.zero = some z)
    (hsize : i.size = size) (hby : i.bytes = bytes) (hzs : z.cells.size = size) (hsz : 0 < size)
    (v : Value) (n : Nat) (xs : List Value) (hs : a.eval s = v) (hown : w.ownsRow base e size v n xs)
    (A : Option Addr) (m c : Nat) (news : List Value) (hx : a.eval x = .slice A m c) (hl : news.length = m * size) (hnews : Lies w A m news) (h1 : ∀ u ∈ news, u.oneCell' = true)
    (k : Nat) (hk : n + m = k) (all : List Value) (hall : xs ++ news = all)
    (h63 : k ≤ maxLen) (hbytes : k * bytes ≤ 140737488355328) (hbase : base ≤ w.heap.size)
    (h : ∀ A' cap w', w'.ownsRow base e size (.slice A' k cap) k all → w.grownBy w' v.ownBlock → K (a.put o.dst (.slice A' k cap)) w') : o.wp P a w K Q := by
  subst hk
  subst hall
  obtain ⟨A', cap, w', hr, h2, h3⟩ := run_append_src (P := P) w t o.type base e i z size bytes ht hi hz hsize hby hzs hsz v n xs hown A m c news hl hnews h1 h63 hbytes hbase
  unfold Oper.wp execOp
  simp only [ho, resolve, invoke, builtin, Sem.run_bind, Sem.run_pure, Result.andThen_ok, List.map_toArray, List.map_cons, List.map_nil, hs, hx, hr]
  exact h A' cap w' h2 h3

theorem wpList_append_src {P : Program} (w : World) {ops : Array Oper} {rest : List Oper} {o : Oper} {a : Act} {Q : Exit → Act → World → Prop} (hgd : o.guard = none) (s x : Operand) (t : TypeId)
    (ho : o.op = .call { callee := .builtin .append, args := #[s, x], argTypes := #[t, t] })
    (base : Nat) (e : TypeId) (i : TypeInfo) (z : Value) (size bytes : Nat) (ht : P.underlying t = some (.slice e)) (hi : P.info? e = some i) (hz : i.zero = some z)
    (hsize : i.size = size) (hby : i.bytes = bytes) (hzs : z.cells.size = size) (hsz : 0 < size)
    (v : Value) (n : Nat) (xs : List Value) (hs : a.eval s = v) (hown : w.ownsRow base e size v n xs)
    (A : Option Addr) (m c : Nat) (news : List Value) (hx : a.eval x = .slice A m c) (hl : news.length = m * size) (hnews : Lies w A m news) (h1 : ∀ u ∈ news, u.oneCell' = true)
    (k : Nat) (hk : n + m = k) (all : List Value) (hall : xs ++ news = all)
    (h63 : k ≤ maxLen) (hbytes : k * bytes ≤ 140737488355328) (hbase : base ≤ w.heap.size)
    (h : ∀ A' cap w', w'.ownsRow base e size (.slice A' k cap) k all → w.grownBy w' v.ownBlock → wpList P ops Q rest (a.put o.dst (.slice A' k cap)) w') : wpList P ops Q (o :: rest) a w :=
  wpList_plain hgd fun _ hK => wp_append_src w s x t ho base e i z size bytes ht hi hz hsize hby hzs hsz v n xs hs hown A m c news hx hl hnews h1 k hk all hall h63 hbytes hbase fun A' cap w' h2 h3 => hK _ _ (h A' cap w' h2 h3)

theorem step_append_src {P : Program} (w : World) {ops : Array Oper} {o : Oper} {a : Act} {K : Act → World → Prop} {Q : Exit → Act → World → Prop} {E : Prop} (hgd : o.guard = none) (s x : Operand) (t : TypeId)
    (ho : o.op = .call { callee := .builtin .append, args := #[s, x], argTypes := #[t, t] })
    (base : Nat) (e : TypeId) (i : TypeInfo) (z : Value) (size bytes : Nat) (ht : P.underlying t = some (.slice e)) (hi : P.info? e = some i) (hz : i.zero = some z)
    (hsize : i.size = size) (hby : i.bytes = bytes) (hzs : z.cells.size = size) (hsz : 0 < size)
    (v : Value) (n : Nat) (xs : List Value) (hs : a.eval s = v) (hown : w.ownsRow base e size v n xs)
    (A : Option Addr) (m c : Nat) (news : List Value) (hx : a.eval x = .slice A m c) (hl : news.length = m * size) (hnews : Lies w A m news) (h1 : ∀ u ∈ news, u.oneCell' = true)
    (k : Nat) (hk : n + m = k) (all : List Value) (hall : xs ++ news = all)
    (h63 : k ≤ maxLen) (hbytes : k * bytes ≤ 140737488355328) (hbase : base ≤ w.heap.size)
    (h : ∀ A' cap w', w'.ownsRow base e size (.slice A' k cap) k all → w.grownBy w' v.ownBlock → K (a.put o.dst (.slice A' k cap)) w') :
    if Region.wanted o (yielded ops a.tmps) = true then Oper.wp P o a w K Q else E := by
  have hw : Region.wanted o (yielded ops a.tmps) = true := by simp [Region.wanted, hgd]
  rw [if_pos hw]
  exact wp_append_src w s x t ho base e i z size bytes ht hi hz hsize hby hzs hsz v n xs hs hown A m c news hx hl hnews h1 k hk all hall h63 hbytes hbase h

theorem lit_add (g j : Nat) : (⟨g, 0, none⟩ : Addr).add j = ⟨g, j, none⟩ := by unfold Addr.add; split <;> simp_all
theorem cells_split : ∀ (l : List OpD) (j : Nat) (u : Value), (cellsO l)[j]? = some u → ∃ x, l[j / 4]? = some x ∧ x.cells[j % 4]? = some u := by
  intro l j u h
  have hj : j < (cellsO l).length := (List.getElem?_eq_some_iff.1 h).1
  rw [cellsO_len] at hj
  have hq : j / 4 < l.length := by omega
  refine ⟨l[j / 4], List.getElem?_eq_getElem hq, ?_⟩
  rw [← cellsO_get (j % 4) (List.getElem?_eq_getElem hq) (by omega), show j / 4 * 4 + j % 4 = j by omega]
  exact h
theorem Opers.lies {W : World} {B : Nat} {A : Option Addr} {l : List OpD} (h : Opers W B A l) : Lies W A l.length (cellsO l) := by
  rcases h with rfl | ⟨g, rfl, _, hc⟩
  · exact .inl rfl
  · refine .inr ⟨_, rfl, fun j u hu => ?_⟩
    obtain ⟨x, hx, hxc⟩ := cells_split l j u hu
    obtain ⟨c0, c1, c2, c3⟩ := hc (j / 4) x hx
    rw [lit_add]
    have hm : j % 4 = 0 ∨ j % 4 = 1 ∨ j % 4 = 2 ∨ j % 4 = 3 := by omega
    have hj : j = j / 4 * 4 + j % 4 := by omega
    rw [hj]
    rcases hm with e | e | e | e <;> rw [e] at hxc ⊢ <;> simp [OpD.cells] at hxc <;> subst hxc
    · exact c0
    · exact c1
    · exact c2
    · exact c3
theorem cellsL_app (l m : List RecD) : cellsL (l ++ m) = cellsL l ++ cellsL m := by simp [cellsL]
theorem cellsL_split : ∀ (l : List RecD) (j : Nat) (u : Value), (cellsL l)[j]? = some u → ∃ x, l[j / 6]? = some x ∧ x.cells[j % 6]? = some u := by
  intro l j u h
  have hj : j < (cellsL l).length := (List.getElem?_eq_some_iff.1 h).1
  rw [cellsL_len] at hj
  have hq : j / 6 < l.length := by omega
  refine ⟨l[j / 6], List.getElem?_eq_getElem hq, ?_⟩
  rw [← cellsL_get (j % 6) (List.getElem?_eq_getElem hq) (by omega), show j / 6 * 6 + j % 6 = j by omega]
  exact h
theorem Recs.lies {W : World} {B n c : Nat} {A : Option Addr} {l : List RecD} (h : Recs W B (.slice A n c) l) : Lies W A l.length (cellsL l) := by
  obtain ⟨A', c', e, h | ⟨g, e2, _, hc⟩⟩ := h
  · subst h; exact .inl rfl
  · simp only [Value.slice.injEq] at e
    obtain ⟨rfl, _, _⟩ := e
    subst e2
    refine .inr ⟨_, rfl, fun j u hu => ?_⟩
    obtain ⟨x, hx, hxc⟩ := cellsL_split l j u hu
    have q := hc (j / 6) x hx
    rw [lit_add]
    have hm : j % 6 = 0 ∨ j % 6 = 1 ∨ j % 6 = 2 ∨ j % 6 = 3 ∨ j % 6 = 4 ∨ j % 6 = 5 := by omega
    have hj : j = j / 6 * 6 + j % 6 := by omega
    rw [hj]
    rcases hm with e | e | e | e | e | e <;> rw [e] at hxc ⊢ <;> simp [RecD.cells] at hxc <;> subst hxc
    · exact q.c0
    · exact q.c1
    · exact q.c2
    · exact q.c3
    · exact q.c4
    · exact q.c5
theorem oneCellsL : ∀ (l : List RecD), ∀ u ∈ cellsL l, u.oneCell' = true := by
  intro l u hu
  simp only [cellsL, List.mem_flatMap, RecD.cells, List.mem_cons, List.not_mem_nil, or_false] at hu
  obtain ⟨o, _, h⟩ := hu
  rcases h with rfl | rfl | rfl | rfl | rfl | rfl <;> rfl
end Go.Proofs.Ythebacladmjiiaa
