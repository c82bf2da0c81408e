/-
  What two lists of operators make, one behind the other; what stays; how many there are.
-/
import Derived.Test.YthebacladmjiiaaPa
namespace Go.Proofs.Ythebacladmjiiaa
open Go Go.RowKit Go.Lib

theorem fold_flat : ∀ (lb : List OpD) (L : List RecD), lb.foldl (fun l o => throughM o l) L = L.flatMap (fun x => lb.foldl (fun l o => throughM o l) [x])
  | [], L => by simp
  | o :: lb, L => by
    simp only [List.foldl_cons]
    rw [fold_flat lb (throughM o L)]
    have h : ∀ x, lb.foldl (fun l o => throughM o l) (throughM o [x]) = (throughM o [x]).flatMap (fun x => lb.foldl (fun l o => throughM o l) [x]) := fun x => fold_flat lb _
    simp only [h]
    generalize (fun x => lb.foldl (fun l o => throughM o l) [x]) = F
    show (L.flatMap (oneM o)).flatMap F = L.flatMap (fun x => (List.flatMap (oneM o) [x]).flatMap F)
    rw [List.flatMap_assoc]
    simp
theorem applyM_app (la lb : List OpD) (r : RecD) : applyM (la ++ lb) r = (applyM la r).flatMap (applyM lb) := by
  unfold applyM
  rw [List.foldl_append, fold_flat lb]

/-- What stays of a record. -/
def Like (r x : RecD) : Prop := x.time = r.time ∧ x.side = r.side ∧ x.err = r.err ∧ x.late = r.late ∧ (r.err = true ∨ r.late = true → x = r)
theorem Like.refl (r : RecD) : Like r r := ⟨rfl, rfl, rfl, rfl, fun _ => rfl⟩
theorem Like.trans {r x y : RecD} (h : Like r x) (k : Like x y) : Like r y := by
  obtain ⟨h1, h2, h3, h4, h5⟩ := h
  obtain ⟨k1, k2, k3, k4, k5⟩ := k
  refine ⟨k1.trans h1, k2.trans h2, k3.trans h3, k4.trans h4, fun hr => ?_⟩
  have hx := h5 hr
  subst hx
  exact k5 hr
theorem one_like (o : OpD) (r x : RecD) (h : x ∈ oneM o r) : Like r x := by
  unfold oneM at h
  split at h
  · simp at h; subst h; exact Like.refl _
  · rename_i hn
    have hf : ¬ (r.err = true ∨ r.late = true) := fun e => hn (by rcases e with e | e; exact .inl e; exact .inr (.inl e))
    unfold resM at h
    split at h
    · simp at h; subst h; exact ⟨rfl, rfl, rfl, rfl, fun e => absurd e hf⟩
    · split at h
      · simp at h; subst h; exact ⟨rfl, rfl, rfl, rfl, fun e => absurd e hf⟩
      · split at h
        · split at h
          · simp at h; subst h; exact Like.refl _
          · cases h
        · split at h
          · simp only [copiesM, List.mem_map] at h
            obtain ⟨i, _, rfl⟩ := h
            exact ⟨rfl, rfl, rfl, rfl, fun e => absurd e hf⟩
          · simp at h; subst h; exact Like.refl _
theorem fold_like (r : RecD) : ∀ (ops : List OpD) (L : List RecD), (∀ x ∈ L, Like r x) → ∀ x ∈ ops.foldl (fun l o => throughM o l) L, Like r x
  | [], L, h, x, hx => h x hx
  | o :: ops, L, h, x, hx => by
    refine fold_like r ops (throughM o L) ?_ x hx
    intro y hy
    simp only [throughM, List.mem_flatMap] at hy
    obtain ⟨z, hz, hy⟩ := hy
    exact (h z hz).trans (one_like o z y hy)
theorem apply_like (ops : List OpD) (r x : RecD) (h : x ∈ applyM ops r) : Like r x :=
  fold_like r ops [r] (fun y hy => by simp at hy; subst hy; exact Like.refl _) x h

/-- How many an operator makes of one, at most. -/
def facM (o : OpD) : Nat := if o.kind = 3 ∧ allowsM o = true then o.a.toNat else 1
theorem facM_le (o : OpD) : 1 ≤ facM o ∧ facM o ≤ 3 := by
  unfold facM
  split
  · rename_i h
    have ok := h.2
    unfold allowsM at ok
    rw [h.1] at ok
    simp [kindRow, fitsM] at ok
    omega
  · omega
theorem one_fac (o : OpD) (r : RecD) : (oneM o r).length ≤ facM o := by
  have hf := facM_le o
  unfold oneM
  split
  · simp; omega
  · rename_i hn
    have ok : allowsM o = true := by cases h : allowsM o <;> simp_all
    by_cases hk : o.kind = 3
    · have : facM o = o.a.toNat := by unfold facM; rw [if_pos ⟨hk, ok⟩]
      rw [this, hk]
      simp [kindRow, resM, copiesM_len]
    · have hle : (resM (kindRow o.kind).2.2.2 o.a o.b r).length ≤ 1 := by
        unfold kindRow
        repeat' split
        all_goals simp [resM]
        all_goals (try (split <;> simp))
        all_goals contradiction
      omega
def prodM (ops : List OpD) : Nat := ops.foldl (fun n o => n * facM o) 1
theorem prodM_take {ops : List OpD} {j : Nat} (h : j < ops.length) : prodM (ops.take (j + 1)) = prodM (ops.take j) * facM ops[j] := by
  unfold prodM
  rw [List.take_succ_eq_append_getElem h, List.foldl_append]
  rfl
theorem prodM_le (ops : List OpD) : ∀ j, j ≤ ops.length → 1 ≤ prodM (ops.take j) ∧ prodM (ops.take j) ≤ 3 ^ j
  | 0, _ => by simp [prodM]
  | j + 1, h => by
    rw [prodM_take (by omega), Nat.pow_succ]
    have h1 := prodM_le ops j (by omega)
    have h2 := facM_le ops[j]
    exact ⟨Nat.mul_pos h1.1 h2.1, Nat.mul_le_mul h1.2 h2.2⟩
theorem flat_fac (o : OpD) : ∀ (l : List RecD), (throughM o l).length ≤ l.length * facM o
  | [] => by simp [throughM]
  | x :: l => by
    have h1 := flat_fac o l
    have h2 := one_fac o x
    simp only [throughM, List.flatMap_cons, List.length_append, List.length_cons] at *
    rw [Nat.add_mul]
    omega
theorem apply_prod (ops : List OpD) (r : RecD) : ∀ j, j ≤ ops.length → (applyM (ops.take j) r).length ≤ prodM (ops.take j)
  | 0, _ => by simp [applyM, prodM]
  | j + 1, h => by
    rw [applyM_take (by omega), prodM_take (by omega)]
    exact Nat.le_trans (flat_fac _ _) (Nat.mul_le_mul_right _ (apply_prod ops r j (by omega)))
theorem apply_flag (r : RecD) (hr : r.err = true ∨ r.late = true) : ∀ (ops : List OpD), applyM ops r = [r] := by
  intro ops
  have key : ∀ ops : List OpD, ops.foldl (fun l o => throughM o l) [r] = [r] := by
    intro ops
    induction ops with
    | nil => rfl
    | cons o ops ih =>
      simp only [List.foldl_cons]
      have : throughM o [r] = [r] := by
        simp only [throughM, List.flatMap_cons, List.flatMap_nil, List.append_nil]
        unfold oneM
        rw [if_pos (by rcases hr with e | e; exact .inl e; exact .inr (.inl e))]
      rw [this]; exact ih
  exact key ops
end Go.Proofs.Ythebacladmjiiaa
