/-
  Merging, as mathematics: aggregates whose number is small are sums, least and greatest; a row of them comes to the same in whatever order neighbours are joined.
-/
import Derived.Test.YtlkekcmphbpfbaaAj
namespace Go.Proofs.Ytlkekcmphbpfbaa
open Go Go.RowKit Go.Lib

structure Tot where
  n : Int
  s : Int
  mn : Int
  mx : Int
def Tot.join (a b : Tot) : Tot := ⟨a.n + b.n, a.s + b.s, min a.mn b.mn, max a.mx b.mx⟩
def Tot.acc (t : Tot) : AccD := ⟨t.n, t.s / 18446744073709551616, t.s % 18446744073709551616, t.mn, t.mx⟩
structure Tot.good (t : Tot) : Prop where
  n1 : 1 ≤ t.n
  s1 : -(t.n * 9223372036854775808) ≤ t.s
  s2 : t.s ≤ t.n * 9223372036854775808
  mn : I64 t.mn
  mx : I64 t.mx
theorem Tot.ext {a b : Tot} (h1 : a.n = b.n) (h2 : a.s = b.s) (h3 : a.mn = b.mn) (h4 : a.mx = b.mx) : a = b := by
  cases a; cases b; simp_all
theorem join_comm (a b : Tot) : a.join b = b.join a := by
  apply Tot.ext <;> simp only [Tot.join] <;> omega
theorem join_assoc (a b c : Tot) : (a.join b).join c = a.join (b.join c) := by
  apply Tot.ext <;> simp only [Tot.join] <;> omega
theorem join_good {a b : Tot} (h : a.good) (k : b.good) : (a.join b).good := by
  obtain ⟨h1, h2, h3, h4, h5⟩ := h
  obtain ⟨k1, k2, k3, k4, k5⟩ := k
  constructor <;> simp only [Tot.join, I64] at * <;> omega
theorem join_acc {a b : Tot} (h : a.good) (k : b.good) (hn : a.n + b.n ≤ 1000) : mergeM a.acc b.acc = (a.join b).acc := by
  obtain ⟨h1, h2, h3, -, -⟩ := h
  obtain ⟨k1, k2, k3, -, -⟩ := k
  unfold mergeM
  rw [if_neg (by simp only [Tot.acc]; omega), if_neg (by simp only [Tot.acc]; omega)]
  simp only [Tot.acc, Tot.join, AccD.mk.injEq, and_true]
  refine ⟨?_, ?_, ?_⟩
  · unfold wrap64; omega
  · unfold wrap64; omega
  · omega
theorem acc_ok {t : Tot} (h : t.good) (hn : t.n ≤ 1000) : t.acc.ok := by
  obtain ⟨h1, h2, h3, h4, h5⟩ := h
  refine ⟨?_, ?_, ?_, h4, h5⟩ <;> simp only [Tot.acc, I64] <;> omega

def single (v : Int) : Tot := ⟨1, v, v, v⟩
theorem single_good {v : Int} (h : I64 v) : (single v).good := by
  unfold I64 at h
  constructor <;> simp only [single, I64] <;> omega
theorem single_acc {v : Int} (h : I64 v) : (single v).acc = oneM v := by
  unfold I64 at h
  simp only [Tot.acc, single, oneM, AccD.mk.injEq, and_true, true_and]
  split <;> omega

def unit : Tot := ⟨0, 0, 9223372036854775808, -9223372036854775809⟩
def tot (p : List Tot) : Tot := p.foldr Tot.join unit
theorem tot_cons (t : Tot) (p : List Tot) : tot (t :: p) = t.join (tot p) := rfl
theorem join_unit {t : Tot} (h : t.good) : t.join unit = t := by
  obtain ⟨_, _, _, h4, h5⟩ := h
  apply Tot.ext <;> simp only [Tot.join, unit, I64] at * <;> omega
theorem tot_merge (a b : Tot) (q : List Tot) : ∀ p : List Tot, tot (p ++ a.join b :: q) = tot (p ++ a :: b :: q)
  | [] => by simp only [List.nil_append, tot_cons, join_assoc]
  | t :: p => by simp only [List.cons_append, tot_cons, tot_merge a b q p]
theorem tot_snoc {t : Tot} (h : t.good) : ∀ p : List Tot, p ≠ [] → tot (p ++ [t]) = (tot p).join t
  | [], h0 => absurd rfl h0
  | [x], _ => by
    show x.join (t.join unit) = (x.join unit).join t
    rw [join_assoc, join_comm unit t]
  | x :: y :: p, _ => by
    show x.join (tot ((y :: p) ++ [t])) = (x.join (tot (y :: p))).join t
    rw [tot_snoc h (y :: p) (by simp), join_assoc]
theorem tot_n_nonneg : ∀ p : List Tot, (∀ t ∈ p, t.good) → 0 ≤ (tot p).n
  | [], _ => by simp [tot, unit]
  | t :: p, h => by
    have h1 := (h t (by simp)).n1
    have h2 := tot_n_nonneg p (fun x hx => h x (by simp [hx]))
    simp only [tot_cons, Tot.join]
    omega
theorem tot_pair (a b : Tot) (q : List Tot) : ∀ p : List Tot, (∀ t ∈ p ++ a :: b :: q, t.good) → a.n + b.n ≤ (tot (p ++ a :: b :: q)).n
  | [], h => by
    have := tot_n_nonneg q (fun x hx => h x (by simp [hx]))
    simp only [List.nil_append, tot_cons, Tot.join]
    omega
  | t :: p, h => by
    have h1 := (h t (by simp)).n1
    have h2 := tot_pair a b q p (fun x hx => h x (by simp at hx ⊢; simp [hx]))
    simp only [List.cons_append, tot_cons, Tot.join]
    omega
theorem tot_singles : ∀ l : List Int, (tot (l.map single)).n = l.length ∧ (tot (l.map single)).s = l.sum
  | [] => ⟨rfl, rfl⟩
  | v :: l => by
    obtain ⟨h1, h2⟩ := tot_singles l
    simp only [List.map_cons, tot_cons, Tot.join, h1, h2, single, List.length_cons, List.sum_cons, and_true]
    rw [Int.natCast_add]
    omega
theorem tot_good : ∀ p : List Tot, p ≠ [] → (∀ t ∈ p, t.good) → (tot p).good
  | [], h0, _ => absurd rfl h0
  | [t], _, h => by
    show (t.join unit).good
    rw [join_unit (h t (by simp))]
    exact h t (by simp)
  | t :: x :: p, _, h => join_good (h t (by simp)) (tot_good (x :: p) (by simp) (fun y hy => h y (by simp at hy ⊢; simp [hy])))
theorem singles_good {l : List Int} (h : ∀ v ∈ l, I64 v) : ∀ t ∈ l.map single, t.good := by
  intro t ht
  obtain ⟨v, hv, rfl⟩ := List.mem_map.1 ht
  exact single_good (h v hv)
theorem map_single {l : List Int} (h : ∀ v ∈ l, I64 v) : l.map (Tot.acc ∘ single) = l.map oneM :=
  List.map_congr_left (fun v hv => single_acc (h v hv))
/-- The aggregate of a row, in closed form. -/
theorem ofM_tot : ∀ n (l : List Int), l.length = n → n ≤ 1000 → l ≠ [] → (∀ v ∈ l, I64 v) → ofM l = (tot (l.map single)).acc := by
  intro n
  induction n with
  | zero => intro l h0 _ h1 _; exact absurd (List.eq_nil_of_length_eq_zero h0) h1
  | succ n ih =>
    intro l hl hn h0 h
    obtain ⟨k, v, rfl⟩ : ∃ k v, l = k ++ [v] := ⟨l.dropLast, l.getLast h0, (List.dropLast_concat_getLast h0).symm⟩
    have hv := h v (by simp)
    have hk : ∀ x ∈ k, I64 x := fun x hx => h x (by simp [hx])
    simp only [List.length_append, List.length_singleton] at hl
    rw [ofM_snoc, ← single_acc hv]
    by_cases hk0 : k = []
    · subst hk0
      show mergeM (⟨0, 0, 0, 0, 0⟩ : AccD) _ = (tot [single v]).acc
      have : tot [single v] = single v := join_unit (single_good hv)
      rw [this]
      unfold mergeM
      rw [if_pos rfl]
    · rw [ih k (by omega) (by omega) hk0 hk, List.map_append, List.map_singleton, tot_snoc (single_good hv) _ (by simpa using hk0)]
      refine join_acc (tot_good _ (by simpa using hk0) (singles_good hk)) (single_good hv) ?_
      rw [(tot_singles k).1]
      simp only [single]
      omega
/-- What is told of the sum. -/
theorem sum_fits (S H L : Int) (n mn mx : Int) (h : S = H * 4294967296 + L) (h0 : 0 ≤ L ∧ L < 4294967296) (hb : -9223372036854775808000 ≤ S ∧ S ≤ 9223372036854775808000) :
    resM (Tot.acc ⟨n, S, mn, mx⟩) 1 = if -2147483648 ≤ H ∧ H < 2147483648 then (S, true) else (0, false) := by
  rw [res_1]
  simp only [Tot.acc]
  unfold upM wrap64
  split <;> split <;> split <;> first | rfl | omega | (congr 1; omega)
end Go.Proofs.Ytlkekcmphbpfbaa
