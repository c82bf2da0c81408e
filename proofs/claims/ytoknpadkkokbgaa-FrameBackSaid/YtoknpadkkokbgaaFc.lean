/-
  Frames: the walk of the program's measured: a list of checks, of which the first one that fails tells.
-/
import Derived.Test.YtoknpadkkokbgaaFb
namespace Go.Proofs.Ytoknpadkkokbgaa
open Go Go.RowKit Go.Lib

/-- Does check j fail? (Each relies on those ahead of it.) -/
def bad (s : ByteArray) (a : Int) : Nat → Bool
  | 0 => decide (a < 0 ∨ (s.size : Int) < a)
  | 1 => (s.size : Int) - a == 0
  | 2 => decide (bt s a.toNat ≠ 165)
  | 3 => decide ((s.size : Int) - a < 4)
  | 4 => decide (1048576 < len3 s a.toNat)
  | 5 => decide ((s.size : Int) - a < 5 + (len3 s a.toNat : Int))
  | 6 => decide (bt s (a.toNat + 4 + len3 s a.toNat) ≠ 90)
  | _ => false
def code : Nat → Nat
  | 0 => 2 | 1 => 9 | 2 => 5 | 3 => 20 | 4 => 5 | 5 => 20 | _ => 5
theorem wrong_bad {s : ByteArray} {a : Int} {j : Nat} (hj : j < 7) (hb : ∀ i, i < j → bad s a i = false) (h : bad s a j = true) : wrong s a = code j := by
  have g : ∀ i, i < j → bad s a i = false := hb
  unfold wrong
  match j, hj with
  | 0, _ => have h0 : a < 0 ∨ (s.size : Int) < a := by simpa [bad] using h
            rw [if_pos h0]; rfl
  | 1, _ => have h0 : ¬ (a < 0 ∨ (s.size : Int) < a) := by simpa [bad] using g 0 (by omega)
            have h1 : (s.size : Int) - a = 0 := by simpa [bad] using h
            rw [if_neg h0, if_pos (by omega)]; rfl
  | 2, _ => have h0 : ¬ (a < 0 ∨ (s.size : Int) < a) := by simpa [bad] using g 0 (by omega)
            have h1 : ¬ (s.size : Int) - a = 0 := by simpa [bad] using g 1 (by omega)
            have h2 : bt s a.toNat ≠ 165 := by simpa [bad] using h
            rw [if_neg h0, if_neg (by omega), if_pos h2]; rfl
  | 3, _ => have h0 : ¬ (a < 0 ∨ (s.size : Int) < a) := by simpa [bad] using g 0 (by omega)
            have h1 : ¬ (s.size : Int) - a = 0 := by simpa [bad] using g 1 (by omega)
            have h2 : ¬ bt s a.toNat ≠ 165 := by simpa [bad] using g 2 (by omega)
            have h3 : (s.size : Int) - a < 4 := by simpa [bad] using h
            rw [if_neg h0, if_neg (by omega), if_neg h2, if_pos (by omega)]; rfl
  | 4, _ => have h0 : ¬ (a < 0 ∨ (s.size : Int) < a) := by simpa [bad] using g 0 (by omega)
            have h1 : ¬ (s.size : Int) - a = 0 := by simpa [bad] using g 1 (by omega)
            have h2 : ¬ bt s a.toNat ≠ 165 := by simpa [bad] using g 2 (by omega)
            have h3 : ¬ (s.size : Int) - a < 4 := of_decide_eq_false (g 3 (by omega))
            have h4 : 1048576 < len3 s a.toNat := by simpa [bad] using h
            rw [if_neg h0, if_neg (by omega), if_neg h2, if_neg (by omega), if_pos h4]; rfl
  | 5, _ => have h0 : ¬ (a < 0 ∨ (s.size : Int) < a) := by simpa [bad] using g 0 (by omega)
            have h1 : ¬ (s.size : Int) - a = 0 := by simpa [bad] using g 1 (by omega)
            have h2 : ¬ bt s a.toNat ≠ 165 := by simpa [bad] using g 2 (by omega)
            have h3 : ¬ (s.size : Int) - a < 4 := of_decide_eq_false (g 3 (by omega))
            have h4 : ¬ 1048576 < len3 s a.toNat := of_decide_eq_false (g 4 (by omega))
            have h5 : (s.size : Int) - a < 5 + (len3 s a.toNat : Int) := by simpa [bad] using h
            rw [if_neg h0, if_neg (by omega), if_neg h2, if_neg (by omega), if_neg h4, if_pos (by omega)]; rfl
  | 6, _ => have h0 : ¬ (a < 0 ∨ (s.size : Int) < a) := by simpa [bad] using g 0 (by omega)
            have h1 : ¬ (s.size : Int) - a = 0 := by simpa [bad] using g 1 (by omega)
            have h2 : ¬ bt s a.toNat ≠ 165 := by simpa [bad] using g 2 (by omega)
            have h3 : ¬ (s.size : Int) - a < 4 := of_decide_eq_false (g 3 (by omega))
            have h4 : ¬ 1048576 < len3 s a.toNat := of_decide_eq_false (g 4 (by omega))
            have h5 : ¬ (s.size : Int) - a < 5 + (len3 s a.toNat : Int) := of_decide_eq_false (g 5 (by omega))
            have h6 : bt s (a.toNat + 4 + len3 s a.toNat) ≠ 90 := by simpa [bad] using h
            rw [if_neg h0, if_neg (by omega), if_neg h2, if_neg (by omega), if_neg h4, if_neg (by omega), if_pos h6]; rfl
  | j + 7, h => omega
theorem wrong_none {s : ByteArray} {a : Int} (g : ∀ i, i < 7 → bad s a i = false) : wrong s a = 0 := by
  have h0 : ¬ (a < 0 ∨ (s.size : Int) < a) := by simpa [bad] using g 0 (by omega)
  have h1 : ¬ (s.size : Int) - a = 0 := by simpa [bad] using g 1 (by omega)
  have h2 : ¬ bt s a.toNat ≠ 165 := by simpa [bad] using g 2 (by omega)
  have h3 : ¬ (s.size : Int) - a < 4 := of_decide_eq_false (g 3 (by omega))
  have h4 : ¬ 1048576 < len3 s a.toNat := of_decide_eq_false (g 4 (by omega))
  have h5 : ¬ (s.size : Int) - a < 5 + (len3 s a.toNat : Int) := of_decide_eq_false (g 5 (by omega))
  have h6 : ¬ bt s (a.toNat + 4 + len3 s a.toNat) ≠ 90 := of_decide_eq_false (g 6 (by omega))
  unfold wrong
  rw [if_neg h0, if_neg (by omega), if_neg h2, if_neg (by omega), if_neg h4, if_neg (by omega), if_neg h6]

/-- The check's function. -/
def chk (H : Nat) : Nat → Value
  | 0 => .func (.func 22) #[] #[.pointer (some ⟨H + 1, 0, none⟩), .pointer (some ⟨H, 0, none⟩)]
  | 1 => .func (.func 23) #[] #[.pointer (some ⟨H + 1 + 1, 0, none⟩)]
  | 2 => .func (.func 24) #[] #[.pointer (some ⟨H, 0, none⟩), .pointer (some ⟨H + 1, 0, none⟩)]
  | 3 => .func (.func 25) #[] #[.pointer (some ⟨H + 1 + 1, 0, none⟩)]
  | 4 => .func (.func 26) #[] #[.pointer (some ⟨H + 1 + 1 + 1, 0, none⟩)]
  | 5 => .func (.func 27) #[] #[.pointer (some ⟨H + 1 + 1, 0, none⟩), .pointer (some ⟨H + 1 + 1 + 1, 0, none⟩)]
  | _ => .func (.func 28) #[] #[.pointer (some ⟨H, 0, none⟩), .pointer (some ⟨H + 1, 0, none⟩), .pointer (some ⟨H + 1 + 1 + 1, 0, none⟩)]

/-- What measured has laid ahead of its loop. -/
structure Laid (s : ByteArray) (a : Int) (H : Nat) (w : World) : Prop where
  cs : w.cell? ⟨H, 0, none⟩ = some (.string s)
  ca : w.cell? ⟨H + 1, 0, none⟩ = some (.int .i64 a)
  cl : w.cell? ⟨H + 1 + 1, 0, none⟩ = some (.int .i64 (wrap64 ((s.size : Int) - a)))
  cz : w.cell? ⟨H + 1 + 1 + 1, 0, none⟩ = some (.func (.func 21) #[] #[.pointer (some ⟨H, 0, none⟩), .pointer (some ⟨H + 1, 0, none⟩)])
  ct : ∀ j, j < 7 → w.cell? ⟨H + 1 + 1 + 1 + 1, 2 * j, none⟩ = some (.int .i64 (code j)) ∧ w.cell? ⟨H + 1 + 1 + 1 + 1, 2 * j + 1, none⟩ = some (chk H j)
theorem Laid.below {s : ByteArray} {a : Int} {H : Nat} {w w' : World} (h : Laid s a H w) (hb : Below (H + 5) w w') : Laid s a H w' :=
  ⟨(hb.cell (p := ⟨H, 0, none⟩) (by show H < H + 5; omega)).trans h.cs, (hb.cell (p := ⟨H + 1, 0, none⟩) (by show H + 1 < H + 5; omega)).trans h.ca, (hb.cell (p := ⟨H + 1 + 1, 0, none⟩) (by show H + 1 + 1 < H + 5; omega)).trans h.cl,
   (hb.cell (p := ⟨H + 1 + 1 + 1, 0, none⟩) (by show H + 1 + 1 + 1 < H + 5; omega)).trans h.cz,
   fun j hj => ⟨(hb.cell (p := ⟨H + 1 + 1 + 1 + 1, 2 * j, none⟩) (by show H + 1 + 1 + 1 + 1 < H + 5; omega)).trans (h.ct j hj).1, (hb.cell (p := ⟨H + 1 + 1 + 1 + 1, 2 * j + 1, none⟩) (by show H + 1 + 1 + 1 + 1 < H + 5; omega)).trans (h.ct j hj).2⟩⟩
theorem Laid.drewN {s : ByteArray} {a : Int} {H : Nat} {w : World} (h : Laid s a H w) (n : Nat) : Laid s a H (w.drewN n) := h.below (below_drewN _ _ _)

def callee : Nat → Nat
  | 0 => 22 | 1 => 23 | 2 => 24 | 3 => 25 | 4 => 26 | 5 => 27 | _ => 28
def caps (H : Nat) : Nat → Array Value
  | 0 => #[.pointer (some ⟨H + 1, 0, none⟩), .pointer (some ⟨H, 0, none⟩)]
  | 1 => #[.pointer (some ⟨H + 1 + 1, 0, none⟩)]
  | 2 => #[.pointer (some ⟨H, 0, none⟩), .pointer (some ⟨H + 1, 0, none⟩)]
  | 3 => #[.pointer (some ⟨H + 1 + 1, 0, none⟩)]
  | 4 => #[.pointer (some ⟨H + 1 + 1 + 1, 0, none⟩)]
  | 5 => #[.pointer (some ⟨H + 1 + 1, 0, none⟩), .pointer (some ⟨H + 1 + 1 + 1, 0, none⟩)]
  | _ => #[.pointer (some ⟨H, 0, none⟩), .pointer (some ⟨H + 1, 0, none⟩), .pointer (some ⟨H + 1 + 1 + 1, 0, none⟩)]
theorem chk_call {s : ByteArray} {a : Int} {H j : Nat} {w : World} (hs : s.size ≤ 140737488355328) (hj : j < 7) (hb : ∀ i, i < j → bad s a i = false) (h : Laid s a H w) :
    Calls Try.prog (callee j) (caps H j) w (QB (bad s a j) w) := by
  match j, hj with
  | 0, _ => exact c22 H (H + 1) s a w h.cs h.ca
  | j + 1, hj =>
    have h0 : ¬ (a < 0 ∨ (s.size : Int) < a) := by simpa [bad] using hb 0 (by omega)
    obtain ⟨k, rfl⟩ : ∃ k : Nat, a = k := ⟨a.toNat, by omega⟩
    have hl : wrap64 ((s.size : Int) - k) = (s.size : Int) - k := by unfold wrap64; omega
    have l := h.cl
    rw [hl] at l
    match j, hj with
    | 0, _ => exact c23 (H + 1 + 1) _ w l
    | j + 1, hj =>
      have h1 : ¬ (s.size : Int) - k = 0 := by simpa [bad] using hb 1 (by omega)
      match j, hj with
      | 0, _ => exact c24 H (H + 1) s k w h.cs h.ca (by omega)
      | 1, _ => exact c25 (H + 1 + 1) _ w l
      | j + 2, hj =>
        have h3 : ¬ (s.size : Int) - k < 4 := of_decide_eq_false (hb 3 (by omega))
        match j, hj with
        | 0, _ => exact c26 H (H + 1) (H + 1 + 1 + 1) s k w hs h.cs h.ca h.cz (by omega)
        | 1, _ => exact c27 H (H + 1) (H + 1 + 1 + 1) (H + 1 + 1) s k _ w hs h.cs h.ca h.cz l (by omega)
        | 2, _ =>
          have h5 : ¬ (s.size : Int) - k < 5 + (len3 s k : Int) := of_decide_eq_false (hb 5 (by omega))
          exact c28 H (H + 1) (H + 1 + 1 + 1) s k w hs h.cs h.ca h.cz (by omega)
        | j + 3, hj => omega
end Go.Proofs.Ytoknpadkkokbgaa
