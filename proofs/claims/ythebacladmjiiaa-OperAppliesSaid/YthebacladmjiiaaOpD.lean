/-
  What each kind makes of a record: the value over which one ranges, and what that gives.
-/
import Derived.Test.YthebacladmjiiaaOpC
namespace Go.Proofs.Ythebacladmjiiaa
open Go Go.RowKit Go.Lib Go.Shelf

/-- A value over which one ranges, its blocks from n1 on, below n2, that gives these records. -/
def SeqV (W : World) (n1 n2 : Nat) (v : Value) (l : List RecD) : Prop :=
  (∃ g r, v = .func (.func 43) #[] #[.pointer (some ⟨g, 0, none⟩)] ∧ n1 ≤ g ∧ g < n2 ∧ RecAt W g r ∧ l = [r]) ∨
  (v = .func (.func 44) #[] #[] ∧ l = []) ∨
  (∃ ga gr gb a b r, v = .func (.func 45) #[] #[.pointer (some ⟨ga, 0, none⟩), .pointer (some ⟨gr, 0, none⟩), .pointer (some ⟨gb, 0, none⟩)] ∧ (n1 ≤ ga ∧ n1 ≤ gr ∧ n1 ≤ gb) ∧ (ga < n2 ∧ gr < n2 ∧ gb < n2) ∧ a ≤ 3 ∧
    W.cell? ⟨ga, 0, none⟩ = some (.int .i64 (a : Nat)) ∧ W.cell? ⟨gb, 0, none⟩ = some (.int .i64 b) ∧ RecAt W gr r ∧ l = copiesM a b r)
/-- What a call that tells such a value comes to. -/
def Res (w : World) (l : List RecD) (e : Ending) (w' : World) : Prop := ∃ v, e = .returned v ∧ Below w.heap.size w w' ∧ SeqV w' w.heap.size w'.heap.size v l

theorem Res.from {w w1 : World} {l : List RecD} {e : Ending} {w' : World} (h : Res w1 l e w') (hb : Below w.heap.size w w1) : Res w l e w' := by
  obtain ⟨v, rfl, h1, h2⟩ := h
  have hs := hb.size
  refine ⟨v, rfl, hb.trans (h1.mono hs), ?_⟩
  rcases h2 with ⟨g, r, e1, e2, e3, e4, e5⟩ | ⟨e1, e2⟩ | ⟨ga, gr, gb, a, b, r, e1, e2, e3, e4⟩
  · exact .inl ⟨g, r, e1, by omega, e3, e4, e5⟩
  · exact .inr (.inl ⟨e1, e2⟩)
  · exact .inr (.inr ⟨ga, gr, gb, a, b, r, e1, by omega, e3, e4⟩)

theorem recAt_new (w : World) (r : RecD) (t : TypeId) : RecAt (w.alloc (.cells r.cells.toArray t)) w.heap.size r := by
  have h : (w.alloc (.cells r.cells.toArray t)).heap[w.heap.size]? = some (.cells r.cells.toArray t) := World.alloc_heap_new w _
  constructor <;> (simp only [World.cell?, h]; rfl)

theorem only_any (r : RecD) (w : World) : Calls Try.prog 31 #[r.v] w fun e w' => Res w [r] e w' := by
  unfold RecD.v
  go_enter Try.func31, Try.ntmps31
  go_wp2
  go_ret
  exact ⟨_, rfl, (Below.refl _ _).alloc (Nat.le_refl _) _, .inl ⟨w.heap.size, r, rfl, Nat.le_refl _, by simp, recAt_new w r 36, rfl⟩⟩

/-- The remainder that is not negative. -/
theorem rem_twice (x a : Int) (h : 1 ≤ a) : (x.tmod a + a).tmod a = x % a := by
  have h1 : -a < x.tmod a := Int.lt_tmod_of_pos x (by omega)
  rw [Int.tmod_eq_emod_of_nonneg (by omega), Int.add_emod_right]
  rw [Int.tmod_def, Int.sub_mul_emod_self_left]

def resM (f : Nat) (a b : Int) (r : RecD) : List RecD :=
  if f = 33 then [{ r with val := wrap64 (wrap64 (r.val * a) + b) }]
  else if f = 35 then [{ r with key := (r.key.tmod a + b) % 4294967296 }]
  else if f = 38 then (if r.val % a = b then [r] else [])
  else if f = 40 then copiesM a.toNat b r
  else [r]

theorem same_any (a b : Int) (r : RecD) (w : World) : Calls Try.prog 27 #[.int .i64 a, .int .i64 b, r.v] w fun e w' => Res w [r] e w' := by
  unfold RecD.v
  go_enter Try.func27, Try.ntmps27
  go_wp2_with (go_at_call 31
               (with_reducible refine (only_any r _).mono ?_)
               rintro e w1 ⟨v, rfl, hb, hv⟩)
  go_ret
  exact Res.from ⟨_, rfl, hb, hv⟩ ((Below.refl _ _).alloc (Nat.le_refl _) _)

set_option maxHeartbeats 800000 in
theorem mapped_any (a b : Int) (r : RecD) (w : World) : Calls Try.prog 33 #[.int .i64 a, .int .i64 b, r.v] w fun e w' => Res w [{ r with val := wrap64 (wrap64 (r.val * a) + b) }] e w' := by
  unfold RecD.v
  go_enter Try.func33, Try.ntmps33
  go_wp2_with (go_at_call 31
               (with_reducible refine (only_any { r with val := wrap64 (wrap64 (r.val * a) + b) } _).mono ?_)
               rintro e w1 ⟨v, rfl, hb, hv⟩)
  go_ret
  refine Res.from ⟨_, rfl, hb, hv⟩ ?_
  exact (Below.refl _ _).alloc (Nat.le_refl _) _

set_option maxHeartbeats 800000 in
theorem keyed_any (a b : Int) (r : RecD) (ha : 1 ≤ a ∧ a ≤ 4294967295) (hb : 0 ≤ b ∧ b ≤ 4294967295) (w : World) : Calls Try.prog 35 #[.int .i64 a, .int .i64 b, r.v] w fun e w' => Res w [{ r with key := (r.key.tmod a + b) % 4294967296 }] e w' := by
  have w1 : IntKind.u32.wrap a = a := IntWalk.u32_in a (by omega)
  have w2 : IntKind.u32.wrap b = b := IntWalk.u32_in b (by omega)
  have h0 : a ≠ 0 := by omega
  unfold RecD.v
  go_enter Try.func35, Try.ntmps35
  go_wp2_with (go_at_call 31
               (with_reducible refine (only_any { r with key := (r.key.tmod a + b) % 4294967296 } _).mono ?_)
               rintro e w1 ⟨v, rfl, hb, hv⟩)
  go_ret
  refine Res.from ⟨_, rfl, hb, hv⟩ ?_
  exact (Below.refl _ _).alloc (Nat.le_refl _) _

set_option maxHeartbeats 800000 in
theorem filtered_any (a b : Int) (r : RecD) (ha : 1 ≤ a ∧ a ≤ 1073741824) (w : World) : Calls Try.prog 38 #[.int .i64 a, .int .i64 b, r.v] w fun e w' => Res w (if r.val % a = b then [r] else []) e w' := by
  have h0 : a ≠ 0 := by omega
  have h1 : -a < r.val.tmod a := Int.lt_tmod_of_pos _ (by omega)
  have h2 : r.val.tmod a < a := Int.tmod_lt_of_pos _ (by omega)
  have h3 := rem_twice r.val a ha.1
  by_cases hq : r.val % a = b
  · rw [if_pos hq]
    unfold RecD.v
    go_enter Try.func38, Try.ntmps38
    go_wp2_with (go_at_call 31
                 (with_reducible refine (only_any r _).mono ?_)
                 rintro e w1 ⟨v, rfl, hb, hv⟩)
    go_ret
    refine Res.from ⟨_, rfl, hb, hv⟩ ?_
    exact (Below.refl _ _).alloc (Nat.le_refl _) _
  · rw [if_neg hq]
    unfold RecD.v
    go_enter Try.func38, Try.ntmps38
    go_wp2
    go_ret
    exact ⟨_, rfl, (Below.refl _ _).alloc (Nat.le_refl _) _, .inr (.inl ⟨rfl, rfl⟩)⟩

set_option maxHeartbeats 800000 in
theorem copied_any (a b : Int) (r : RecD) (ha : 1 ≤ a ∧ a ≤ 3) (w : World) : Calls Try.prog 40 #[.int .i64 a, .int .i64 b, r.v] w fun e w' => Res w (copiesM a.toNat b r) e w' := by
  unfold RecD.v
  go_enter Try.func40, Try.ntmps40
  go_wp2
  go_ret
  have ea : a = ((a.toNat : Nat) : Int) := by omega
  obtain ⟨w1, hw1⟩ : ∃ w1, (w.alloc (.cells #[.int .i64 a] 2)) = w1 := ⟨_, rfl⟩
  obtain ⟨w2, hw2⟩ : ∃ w2, (w1.alloc (.cells #[.int .i64 b] 2)) = w2 := ⟨_, rfl⟩
  have s1 : w1.heap.size = w.heap.size + 1 := by rw [← hw1]; simp
  have s2 : w2.heap.size = w.heap.size + 1 + 1 := by rw [← hw2]; simp [s1]
  refine ⟨_, rfl, (((Below.refl _ _).alloc (Nat.le_refl _) _).alloc (by simp) _).alloc (by simp; omega) _, .inr (.inr ⟨w.heap.size, w.heap.size + 1 + 1, w.heap.size + 1, a.toNat, b, r, rfl, by omega, by simp; omega, by omega, ?_, ?_, ?_, rfl⟩)⟩
  · rw [hw1, hw2, cell_heap (Below.heap_alloc _ _ _ (by omega)), ← hw2, cell_heap (Below.heap_alloc _ _ _ (by omega)), ← hw1, ← ea]
    simp only [World.cell?, World.alloc_heap_new]
    rfl
  · rw [hw1, hw2, cell_heap (Below.heap_alloc _ _ _ (by omega)), ← hw2, ← s1]
    simp only [World.cell?, World.alloc_heap_new]
    rfl
  · rw [hw1, hw2, ← s2]
    exact recAt_new w2 r 36

theorem fitsM_34 {a b : Int} (h : fitsM 34 a b = true) : (1 ≤ a ∧ a ≤ 4294967295) ∧ 0 ≤ b ∧ b ≤ 4294967295 := by simpa [fitsM] using h
theorem fitsM_36 {a b : Int} (h : fitsM 36 a b = true) : 1 ≤ a ∧ a ≤ 1073741824 := by simp [fitsM] at h; omega
theorem fitsM_39 {a b : Int} (h : fitsM 39 a b = true) : 1 ≤ a ∧ a ≤ 3 := by simpa [fitsM] using h

/-- A row's results, where its conditions hold. -/
theorem row_any (o : OpD) (r : RecD) (ok : allowsM o = true) : ∃ f, (kindRow o.kind).2.2.2 = f ∧ f ∈ [27, 33, 35, 38, 40] ∧ ∀ w, Calls Try.prog f #[.int .i64 o.a, .int .i64 o.b, r.v] w fun e w' => Res w (resM f o.a o.b r) e w' := by
  unfold allowsM at ok
  simp only [Bool.and_eq_true, decide_eq_true_eq] at ok
  obtain ⟨_, ok⟩ := ok
  unfold kindRow at *
  repeat' split
  all_goals simp only [*, if_true, if_false] at ok
  · exact ⟨33, rfl, by simp, mapped_any _ _ _⟩
  · exact ⟨35, rfl, by simp, fun w => keyed_any _ _ _ (fitsM_34 ok).1 (fitsM_34 ok).2 w⟩
  · exact ⟨38, rfl, by simp, fun w => filtered_any _ _ _ (fitsM_36 ok) w⟩
  · exact ⟨40, rfl, by simp, fun w => copied_any _ _ _ (fitsM_39 ok) w⟩
  all_goals exact ⟨27, rfl, by simp, fun w => same_any _ _ _ w⟩

/-- What an operator makes of a record. -/
def oneM (o : OpD) (r : RecD) : List RecD := if r.err = true ∨ r.late = true ∨ allowsM o = false then [r] else resM (kindRow o.kind).2.2.2 o.a o.b r
end Go.Proofs.Ythebacladmjiiaa
