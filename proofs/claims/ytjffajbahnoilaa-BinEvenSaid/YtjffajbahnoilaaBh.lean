/-
  The document's First and Turns.
-/
import Derived.Test.YtjffajbahnoilaaBg
namespace Go.Proofs.Ytjffajbahnoilaa
open Go Go.RowKit Go.Lib

theorem closed_val {fuel : Nat} {f : FuncId} {args : List Ev.AV} {v : Ev.AV} {vs : Array Value} {w : World} (hc : (Ev.acall Try.prog 0 orc0 fuel f args h00).map (·.1) = some v) (hv : Ev.VRs [] args vs.toList) :
    Calls Try.prog f vs w fun e w' => ∃ μ' u, e = .returned u ∧ Ev.VR μ' v u ∧ Below w.heap.size w w' := by
  cases hr : Ev.acall Try.prog 0 orc0 fuel f args h00 with
  | none => rw [hr] at hc; simp at hc
  | some x =>
    obtain ⟨v0, h'⟩ := x
    rw [hr] at hc
    simp at hc
    subst hc
    refine (Ev.acall_sound env0 hr (h00_stands w) (fun g hg => by omega) hv).mono ?_
    rintro e w' ⟨μ', u, _, rfl, h1, _, h2⟩
    exact ⟨μ', u, rfl, h1, h2.below⟩

set_option maxRecDepth 100000 in
theorem rfirst_less (a : Int) (h : ¬ a ≥ 1) (w : World) : Calls Try.prog 9 #[.int .i64 a] w fun e w' => e = .returned (arr (firstM a)) ∧ Below w.heap.size w w' := by
  have h1 : ¬ (1 ≤ a ∧ a ≤ 3) := by omega
  rw [firstM_no h1]
  go_enter Try.func9, Try.ntmps9
  go_wp2
  refine wp_loop_rounds 1 ?_
  rw [rounds_succ]
  go_wp2
  go_returns
  exact ⟨rfl, below2 _ _ _⟩

set_option maxRecDepth 100000 in
theorem rfirst_more (a : Int) (h : a ≥ 1) (h0 : ¬ a ≤ 3) (w : World) : Calls Try.prog 9 #[.int .i64 a] w fun e w' => e = .returned (arr (firstM a)) ∧ Below w.heap.size w w' := by
  have h1 : ¬ (1 ≤ a ∧ a ≤ 3) := by omega
  rw [firstM_no h1]
  go_enter Try.func9, Try.ntmps9
  go_wp2
  refine wp_loop_rounds 1 ?_
  rw [rounds_succ]
  go_wp2
  go_returns
  exact ⟨rfl, below2 _ _ _⟩

theorem agg_of {μ : List (Nat × Nat)} {l : List Int} {u : Value} (h : Ev.VR μ (.agg (l.map (Ev.AV.int .i64))) u) : u = arr l := by
  unfold Ev.VR at h
  obtain ⟨v, rfl, h1⟩ := h
  unfold arr
  congr 1
  have : v.toList = l.map (Value.int .i64) := by
    have key : ∀ (l : List Int) (vs : List Value), Ev.VRs μ (l.map (Ev.AV.int .i64)) vs → vs = l.map (Value.int .i64) := by
      intro l
      induction l with
      | nil => intro vs h; simpa [Ev.VRs_nil] using h
      | cons x l ih =>
        intro vs h
        simp only [List.map_cons, Ev.VRs_cons] at h
        obtain ⟨v, r, rfl, h1, h2⟩ := h
        unfold Ev.VR at h1
        rw [h1, ih _ h2]; rfl
    exact key l _ h1
  exact Array.toList_inj.1 this

set_option maxRecDepth 1000000 in
theorem rfirst_1 (w : World) : Calls Try.prog 9 #[.int .i64 1] w fun e w' => e = .returned (arr (firstL 1)) ∧ Below w.heap.size w w' :=
  (closed_val (fuel := 100000) (args := [.int .i64 1]) (v := .agg ([1, 1, 1, 1, 1, 1, 1, 1].map (Ev.AV.int .i64))) (by kernel_rfl) (by simp [Ev.VRs_cons, Ev.VRs_nil, Ev.VR])).mono fun e w' ⟨μ, u, h1, h2, h3⟩ => ⟨by rw [h1, agg_of h2]; rfl, h3⟩
set_option maxRecDepth 1000000 in
theorem rfirst_2 (w : World) : Calls Try.prog 9 #[.int .i64 2] w fun e w' => e = .returned (arr (firstL 2)) ∧ Below w.heap.size w w' :=
  (closed_val (fuel := 100000) (args := [.int .i64 2]) (v := .agg ([1, 2, 1, 2, 1, 2, 1, 2].map (Ev.AV.int .i64))) (by kernel_rfl) (by simp [Ev.VRs_cons, Ev.VRs_nil, Ev.VR])).mono fun e w' ⟨μ, u, h1, h2, h3⟩ => ⟨by rw [h1, agg_of h2]; rfl, h3⟩
set_option maxRecDepth 1000000 in
theorem rfirst_3 (w : World) : Calls Try.prog 9 #[.int .i64 3] w fun e w' => e = .returned (arr (firstL 3)) ∧ Below w.heap.size w w' :=
  (closed_val (fuel := 100000) (args := [.int .i64 3]) (v := .agg ([1, 2, 3, 1, 2, 3, 1, 2].map (Ev.AV.int .i64))) (by kernel_rfl) (by simp [Ev.VRs_cons, Ev.VRs_nil, Ev.VR])).mono fun e w' ⟨μ, u, h1, h2, h3⟩ => ⟨by rw [h1, agg_of h2]; rfl, h3⟩

theorem rfirst_any (a : Int) (w : World) : Calls Try.prog 9 #[.int .i64 a] w fun e w' => e = .returned (arr (firstM a)) ∧ Below w.heap.size w w' := by
  by_cases h : a ≥ 1
  · by_cases h3 : a ≤ 3
    · have : a = 1 ∨ a = 2 ∨ a = 3 := by omega
      rcases this with rfl | rfl | rfl
      · exact rfirst_1 w
      · exact rfirst_2 w
      · exact rfirst_3 w
    · exact rfirst_more a h h3 w
  · exact rfirst_less a h w

/-- A list of numbers that a call hands back, of so many. -/
def Tells (w : World) (n : Nat) (l : List Int) (e : Ending) (w' : World) : Prop := ∃ A c, e = .returned (.slice A n c) ∧ Row w' w'.heap.size A .i64 l ∧ Below w.heap.size w w'

theorem turnL_len (ws : List Int) (q n : Nat) : (turnL ws q n).length = n := by simp [turnL]
theorem turnL_succ (ws : List Int) (q n : Nat) : turnL ws q (n + 1) = turnL ws q n ++ [ws.getD (n % q) 0] := by simp [turnL, List.range_succ]

/-- A row of a call's own as a list of numbers. -/
theorem row_of_own {W : World} {base : Nat} {A : Option Addr} {n c : Nat} {l : List Int} (h : W.ownsRow base 3 1 (.slice A n c) n (l.map (Value.int .i64))) (hl : l.length = n) : Row W W.heap.size A .i64 l := by
  rcases h.2 with ⟨h1, h0⟩ | ⟨g, cap, cur, h1, hg, hc, _, _, hsz, htk⟩
  · exact .inl (List.eq_nil_of_length_eq_zero (by omega))
  · obtain ⟨rfl, rfl⟩ : A = some ⟨g, 0, none⟩ ∧ c = cap := by simpa using h1
    refine .inr ⟨_, rfl, (Array.getElem?_eq_some_iff.1 hc).1, fun j z hj => ?_⟩
    rw [Ev.add_lit, Ev.cell_of_block hc]
    have h2 : (l.map (Value.int .i64))[j]? = some (.int .i64 z) := by rw [List.getElem?_map, hj]; rfl
    rw [← htk, List.getElem?_take] at h2
    split at h2
    · simpa using h2
    · cases h2

theorem tells_turns (A B : Option Addr) (n c q c2 : Nat) (ws : List Int) (hq : ws.length = q) (hqm : q ≤ maxLen) (hn : n ≤ 50) (b : Nat) (w : World) (hb : b ≤ w.heap.size) (hr : Row w b B .i64 ws) :
    Calls Try.prog 11 #[.slice A n c, .slice B q c2] w fun e w' => Tells w (if q = 0 then 0 else n) (if q = 0 then [] else turnL ws q n) e w' := by
  by_cases h0 : q = 0
  · subst h0
    refine (turns_none A B n c c2 w).mono ?_
    rintro e w' ⟨rfl, rfl⟩
    exact ⟨none, 0, rfl, .inl rfl, Below.refl _ _⟩
  · rw [if_neg h0, if_neg h0]
    rcases hr with rfl | ⟨ad, rfl, h1, h2⟩
    · simp at hq; omega
    · refine (turns_any A n c ad ws q c2 hq (by omega) hqm hn w (by omega) h2).mono ?_
      rintro e w' ⟨g, rfl, g1, g2, g3, hb⟩
      refine ⟨_, _, rfl, .inr ⟨_, rfl, g2, fun j z hj => ?_⟩, hb⟩
      rw [Ev.add_lit, Ev.cell_of_block g3, turnL_eq]
      simp [hj]
end Go.Proofs.Ytjffajbahnoilaa
