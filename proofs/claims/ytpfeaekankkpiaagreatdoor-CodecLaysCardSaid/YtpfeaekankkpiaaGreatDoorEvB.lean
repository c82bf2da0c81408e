/-
  The evaluator's heap: what it is for it to stand for the heap of a world, and what a load, a new row, a store, make of it.
-/
import Derived.Test.YtpfeaekankkpiaaGreatDoorEvA
namespace Go.Ev
open Go Go.RowKit

/-- What lay in the named blocks lies there still; the world has but grown. -/
structure Bel (B : Nat → Nat) (w w' : World) : Prop where
  os : w'.os = w.os
  tape : w'.tape = w.tape
  output : w'.output = w.output
  size : w.heap.size ≤ w'.heap.size
  block : ∀ k, B k ≠ 0 → w'.heap[k]? = w.heap[k]?
/-- All below a number: what may be read alone. -/
def under (n : Nat) : Nat → Nat := fun k => if k < n then 1 else 0
theorem under_lt {n k : Nat} (h : under n k ≠ 0) : k < n := by
  unfold under at h
  split at h
  · assumption
  · exact absurd rfl h
theorem Bel.refl (B : Nat → Nat) (w : World) : Bel B w w := ⟨rfl, rfl, rfl, Nat.le_refl _, fun _ _ => rfl⟩
theorem Bel.trans {B : Nat → Nat} {a b c : World} (h : Bel B a b) (k : Bel B b c) : Bel B a c :=
  ⟨k.os.trans h.os, k.tape.trans h.tape, k.output.trans h.output, Nat.le_trans h.size k.size, fun i hi => (k.block i hi).trans (h.block i hi)⟩
theorem Bel.drew {B : Nat → Nat} {a w : World} (h : Bel B a w) : Bel B a w.drew := ⟨h.os, h.tape, h.output, h.size, h.block⟩
theorem Bel.alloc {B : Nat → Nat} {a w : World} (h : Bel B a w) (hB : ∀ k, B k ≠ 0 → k < w.heap.size) (o : Obj) : Bel B a (w.alloc o) :=
  ⟨h.os, h.tape, h.output, Nat.le_trans h.size (by simp), fun k hk => (Below.heap_alloc w o k (hB k hk)).trans (h.block k hk)⟩
theorem Bel.sub {B B' : Nat → Nat} {a w : World} (h : Bel B a w) (hs : ∀ k, B' k ≠ 0 → B k ≠ 0) : Bel B' a w := ⟨h.os, h.tape, h.output, h.size, fun k hk => h.block k (hs k hk)⟩
theorem Bel.below {n : Nat} {a w : World} (h : Bel (under n) a w) : Below n a w := ⟨h.os, h.tape, h.output, h.size, fun k hk => h.block k (by simp [under, hk])⟩
theorem Bel.of_below {B : Nat → Nat} {n : Nat} {a w : World} (h : Below n a w) (hs : ∀ k, B k ≠ 0 → k < n) : Bel B a w := ⟨h.os, h.tape, h.output, h.size, fun k hk => h.block k (hs k hk)⟩

/-- An abstract object stands for block number b, of a row with room for C elements. -/
def OR (B : Nat → Nat) (μ : List (Nat × Nat)) (w : World) (b C : Nat) : AObj → Prop
  | .cells cs t ro g => ∃ arr fz, w.heap[b]? = some (.cells arr t fz) ∧ VRs μ cs (arr.toList.take cs.length) ∧
      (ro = false → B b = 0 ∧ ∀ i, i < arr.size → ¬ (fz.1 ≤ i ∧ i < fz.2)) ∧ C * g ≤ arr.size ∧ B b ≠ 2

structure HR (B : Nat → Nat) (μ : List (Nat × Nat)) (h : AH) (w : World) : Prop where
  len : μ.length = h.n
  obj : ∀ id o, h.t.get id = some o → ∃ b C, μ[id]? = some (b, C) ∧ OR B μ w b C o
  inj : ∀ i j o p b, h.t.get i = some o → h.t.get j = some p → blk μ i = some b → blk μ j = some b → i = j
  bsz : ∀ k, B k ≠ 0 → k < w.heap.size
  nle : h.n ≤ 1000000

theorem blk_of {μ : List (Nat × Nat)} {id b C : Nat} (h : μ[id]? = some (b, C)) : blk μ id = some b := by simp [blk, h]
theorem cpo_of {μ : List (Nat × Nat)} {id b C : Nat} (h : μ[id]? = some (b, C)) : cpo μ id = some C := by simp [cpo, h]

theorem OR.lt {B : Nat → Nat} {μ : List (Nat × Nat)} {w : World} {b C : Nat} {o : AObj} (h : OR B μ w b C o) : b < w.heap.size := by
  cases o with
  | cells cs t ro g =>
    obtain ⟨arr, fz, hb, _⟩ := h
    exact (Array.getElem?_eq_some_iff.1 hb).1

theorem OR.mono {B : Nat → Nat} {μ μ' : List (Nat × Nat)} {w w' : World} {b C : Nat} {o : AObj} (h : OR B μ w b C o) (hm : μ <+: μ') (hw : w'.heap[b]? = w.heap[b]?) : OR B μ' w' b C o := by
  cases o with
  | cells cs t ro g =>
    obtain ⟨arr, fz, hb, h1, h2, h3⟩ := h
    exact ⟨arr, fz, hw.trans hb, VRs_mono hm _ _ h1, h2, h3⟩

theorem heap_push_lt (w : World) (o : Obj) (b : Nat) (h : b < w.heap.size) : (w.alloc o).heap[b]? = w.heap[b]? := by
  show (w.heap.push o)[b]? = _
  rw [Array.getElem?_push, if_neg (by omega)]
theorem heap_push_new (w : World) (o : Obj) : (w.alloc o).heap[w.heap.size]? = some o := by
  show (w.heap.push o)[w.heap.size]? = _
  simp

/-- What the program lays beside changes nothing. -/
theorem HR.beside {B : Nat → Nat} {μ : List (Nat × Nat)} {h : AH} {w w' : World} (H : HR B μ h w) (hsz : w.heap.size ≤ w'.heap.size) (hb : ∀ b, b < w.heap.size → w'.heap[b]? = w.heap[b]?) : HR B μ h w' :=
  ⟨H.len, fun id o ho => let ⟨b, C, h1, h2⟩ := H.obj id o ho; ⟨b, C, h1, h2.mono (List.prefix_refl _) (hb b h2.lt)⟩, H.inj, fun k hk => Nat.lt_of_lt_of_le (H.bsz k hk) hsz, H.nle⟩

theorem HR.drew {B : Nat → Nat} {μ : List (Nat × Nat)} {h : AH} {w : World} (H : HR B μ h w) : HR B μ h w.drew := H.beside (Nat.le_refl _) (fun _ _ => rfl)

theorem HR.at {B : Nat → Nat} {μ : List (Nat × Nat)} {h : AH} {w : World} {id b : Nat} {o : AObj} (H : HR B μ h w) (hg : h.t.get id = some o) (hb : blk μ id = some b) : ∃ C, μ[id]? = some (b, C) ∧ OR B μ w b C o := by
  obtain ⟨b', C, h1, h2⟩ := H.obj id o hg
  have := blk_of h1
  rw [hb] at this
  simp only [Option.some.injEq] at this
  subst this
  exact ⟨C, h1, h2⟩

theorem getElem?_snoc (μ : List (Nat × Nat)) (x : Nat × Nat) : (μ ++ [x])[μ.length]? = some x := by simp
theorem getElem?_snoc_lt {μ : List (Nat × Nat)} {x p : Nat × Nat} {i : Nat} (h : μ[i]? = some p) : (μ ++ [x])[i]? = some p := by
  rw [List.getElem?_append_left (List.getElem?_eq_some_iff.1 h).1]; exact h

/-- An object is laid under a new number, for a block to which no number leads. -/
theorem HR.add {B : Nat → Nat} {μ : List (Nat × Nat)} {h h' : AH} {w : World} {o : AObj} {id b C : Nat} (H : HR B μ h w) (ha : h.alloc o = some (id, h')) (ho : OR B (μ ++ [(b, C)]) w b C o)
    (hfree : ∀ j p, h.t.get j = some p → blk μ j ≠ some b) : HR B (μ ++ [(b, C)]) h' w ∧ (μ ++ [(b, C)])[id]? = some (b, C) := by
  unfold AH.alloc at ha
  cases hn : Nat.blt h.n 1000000 with
  | false => rw [hn] at ha; simp at ha
  | true =>
    rw [hn] at ha
    simp only [cond_true, Option.some.injEq, Prod.mk.injEq] at ha
    obtain ⟨rfl, rfl⟩ := ha
    have hlt : h.n < 1000000 := by simpa [Nat.blt_eq] using hn
    have hpre : μ <+: μ ++ [(b, C)] := List.prefix_append _ _
    have hid : (μ ++ [(b, C)])[h.n]? = some (b, C) := by rw [← H.len]; exact getElem?_snoc _ _
    refine ⟨⟨by simp [H.len], ?_, ?_, H.bsz, hlt⟩, hid⟩
    · intro id p hp
      simp only [Tr.get_put24 _ _ _ hlt] at hp
      split at hp
      · rename_i e
        subst e
        simp only [Option.some.injEq] at hp
        subst hp
        exact ⟨b, C, hid, ho⟩
      · obtain ⟨b', C', h1, h2⟩ := H.obj id p hp
        exact ⟨b', C', getElem?_snoc_lt h1, h2.mono hpre rfl⟩
    · intro i j p q c hi hj h1 h2
      simp only [Tr.get_put24 _ _ _ hlt] at hi hj
      have old : ∀ k p, h.t.get k = some p → blk (μ ++ [(b, C)]) k = some c → blk μ k = some c := fun k p hk hb => by
        obtain ⟨b', C', g1, _⟩ := H.obj k p hk
        have := blk_mono hpre (blk_of g1)
        rw [this] at hb
        rw [blk_of g1]; exact hb
      by_cases ei : i = h.n
      · by_cases ej : j = h.n
        · rw [ei, ej]
        · rw [if_neg ej] at hj
          subst ei
          rw [blk_of hid] at h1
          simp only [Option.some.injEq] at h1
          subst h1
          exact absurd (old j q hj h2) (hfree j q hj)
      · rw [if_neg ei] at hi
        by_cases ej : j = h.n
        · subst ej
          rw [blk_of hid] at h2
          simp only [Option.some.injEq] at h2
          subst h2
          exact absurd (old i p hi h1) (hfree i p hi)
        · rw [if_neg ej] at hj
          exact H.inj i j p q c hi hj (old i p hi h1) (old j q hj h2)

/-- A new row of cells, of which some more may lie behind. -/
theorem HR.new {B : Nat → Nat} {μ : List (Nat × Nat)} {h h' : AH} {w : World} {cs : List AV} {t : TypeId} {id g C : Nat} {arr : Array Value} {fz : Nat × Nat} (H : HR B μ h w)
    (ha : h.alloc (.cells cs t false g) = some (id, h')) (hv : VRs μ cs (arr.toList.take cs.length)) (hfz : ∀ i, i < arr.size → ¬ (fz.1 ≤ i ∧ i < fz.2)) (hC : C * g ≤ arr.size) :
    HR B (μ ++ [(w.heap.size, C)]) h' (w.alloc (.cells arr t fz)) ∧ (μ ++ [(w.heap.size, C)])[id]? = some (w.heap.size, C) := by
  have H' : HR B μ h (w.alloc (.cells arr t fz)) := H.beside (by simp) (fun b hb => heap_push_lt w _ b hb)
  refine H'.add ha ⟨arr, fz, heap_push_new w _, VRs_mono (List.prefix_append _ _) _ _ hv, fun _ => ⟨Classical.byContradiction fun e => Nat.lt_irrefl _ (H.bsz _ e), hfz⟩, hC, fun e => Nat.lt_irrefl _ (H.bsz w.heap.size (by omega))⟩ ?_
  intro j p hj hb
  obtain ⟨b, C', h1, h2⟩ := H.obj j p hj
  rw [blk_of h1] at hb
  simp only [Option.some.injEq] at hb
  have := h2.lt
  omega

/-- A world, one of whose blocks is turned. -/
def setBlock (w : World) (b : Nat) (o : Obj) : World := { w with heap := w.heap.setIfInBounds b o }
theorem setBlock_size (w : World) (b : Nat) (o : Obj) : (setBlock w b o).heap.size = w.heap.size := by simp [setBlock]
theorem setBlock_same (w : World) (b : Nat) (o : Obj) (h : b < w.heap.size) : (setBlock w b o).heap[b]? = some o := by simp [setBlock, h]
theorem setBlock_other (w : World) (b k : Nat) (o : Obj) (h : k ≠ b) : (setBlock w b o).heap[k]? = w.heap[k]? := by
  simp [setBlock, Ne.symm h]
theorem below_setBlock {B : Nat → Nat} {a w : World} (h : Bel B a w) {b : Nat} (hb : B b = 0) (o : Obj) : Bel B a (setBlock w b o) :=
  h.trans ⟨rfl, rfl, rfl, by rw [setBlock_size]; exact Nat.le_refl _, fun k hk => setBlock_other w b k o (fun e => hk (e ▸ hb))⟩

theorem HR.put {B : Nat → Nat} {μ : List (Nat × Nat)} {h : AH} {w : World} {cs cs' : List AV} {t : TypeId} {ro ro' : Bool} {id b C g : Nat} {arr arr' : Array Value} {fz fz' : Nat × Nat} (H : HR B μ h w)
    (hg : h.t.get id = some (.cells cs t ro g)) (hb : μ[id]? = some (b, C)) (hw : w.heap[b]? = some (.cells arr t fz)) (hlt : id < 1000000)
    (hv : VRs μ cs' (arr'.toList.take cs'.length)) (hro : ro' = false → B b = 0 ∧ ∀ i, i < arr'.size → ¬ (fz'.1 ≤ i ∧ i < fz'.2)) (hC : C * g ≤ arr'.size) :
    HR B μ (h.put id (some (.cells cs' t ro' g))) (setBlock w b (.cells arr' t fz')) := by
  have hbl : b < w.heap.size := (Array.getElem?_eq_some_iff.1 hw).1
  refine ⟨H.len, ?_, ?_, by rw [setBlock_size]; exact H.bsz, H.nle⟩
  · intro i o ho
    simp only [AH.put, Tr.get_put24 _ _ _ hlt] at ho
    split at ho
    · rename_i e
      subst e
      simp only [Option.some.injEq] at ho
      subst ho
      obtain ⟨C0, _, _, _, _, _, _, _, hx⟩ := H.at hg (blk_of hb)
      exact ⟨b, C, hb, arr', fz', setBlock_same w b _ hbl, hv, hro, hC, hx⟩
    · rename_i e
      obtain ⟨c, C', h1, h2⟩ := H.obj i o ho
      refine ⟨c, C', h1, h2.mono (List.prefix_refl _) (setBlock_other w b c _ ?_)⟩
      intro ec
      subst ec
      exact e (H.inj i id o _ c ho hg (blk_of h1) (blk_of hb))
  · intro i j o p c hi hj h1 h2
    simp only [AH.put, Tr.get_put24 _ _ _ hlt] at hi hj
    have gi : ∃ o', h.t.get i = some o' := by
      split at hi
      · rename_i e; subst e; exact ⟨_, hg⟩
      · exact ⟨_, hi⟩
    have gj : ∃ o', h.t.get j = some o' := by
      split at hj
      · rename_i e; subst e; exact ⟨_, hg⟩
      · exact ⟨_, hj⟩
    obtain ⟨o', gi⟩ := gi
    obtain ⟨p', gj⟩ := gj
    exact H.inj i j o' p' c gi gj h1 h2

theorem HR.id_lt {B : Nat → Nat} {μ : List (Nat × Nat)} {h : AH} {w : World} {id : Nat} {o : AObj} (H : HR B μ h w) (hg : h.t.get id = some o) : id < 1000000 := by
  obtain ⟨b, C, h1, _⟩ := H.obj id o hg
  have := (List.getElem?_eq_some_iff.1 h1).1
  have := H.len
  have := H.nle
  omega

/-- An object is let go. -/
theorem HR.del {B : Nat → Nat} {μ : List (Nat × Nat)} {h : AH} {w : World} {id : Nat} (H : HR B μ h w) (hlt : id < 1000000) : HR B μ (h.put id none) w := by
  refine ⟨H.len, ?_, ?_, H.bsz, H.nle⟩
  · intro i o ho
    simp only [AH.put, Tr.get_put24 _ _ _ hlt] at ho
    split at ho
    · simp at ho
    · exact H.obj i o ho
  · intro i j o p c hi hj h1 h2
    simp only [AH.put, Tr.get_put24 _ _ _ hlt] at hi hj
    split at hi
    · simp at hi
    · split at hj
      · simp at hj
      · exact H.inj i j o p c hi hj h1 h2

/-! ### Loads -/
theorem add_lit (b off n : Nat) : (⟨b, off, none⟩ : Addr).add n = ⟨b, off + n, none⟩ := by
  unfold Addr.add
  split
  · rename_i h; subst h; rfl
  · rfl

theorem cell_of_block {w : World} {b i : Nat} {arr : Array Value} {t : TypeId} {fz : Nat × Nat} (h : w.heap[b]? = some (.cells arr t fz)) : w.cell? ⟨b, i, none⟩ = arr[i]? := by
  simp [World.cell?, h]

theorem run_loadCells_of {P : Program} {w : World} {b off n : Nat} {arr : Array Value} {t : TypeId} {fz : Nat × Nat} (h : w.heap[b]? = some (.cells arr t fz)) (hn : off + n ≤ arr.size) :
    (loadCells ⟨b, off, none⟩ n).run P w = .ok ((arr.toList.drop off).take n).toArray w := by
  have hl : ((arr.toList.drop off).take n).length = n := by simp; omega
  have := run_loadCells_list (P := P) w ⟨b, off, none⟩ ((arr.toList.drop off).take n) (fun j v hj => by
    rw [add_lit, cell_of_block h]
    rw [List.getElem?_take] at hj
    split at hj
    · rw [List.getElem?_drop] at hj
      simpa using hj
    · simp at hj)
  rw [hl] at this
  exact this

theorem run_underlying' {P : Program} {t : TypeId} {d : TypeDesc} (h : P.underlying t = some d) (w : World) : (underlying t).run P w = .ok d w := run_underlying h w

theorem isAggT_run {P : Program} {t : TypeId} {r : Bool} (h : isAggT P t = some r) (w : World) : (isAgg t).run P w = .ok r w := by
  unfold isAggT at h
  cases hu : P.underlying t with
  | none => rw [hu] at h; simp at h
  | some d =>
    rw [hu] at h
    unfold isAgg
    simp only [Sem.run_bind, run_underlying hu, Result.andThen]
    cases d <;> simp at h <;> subst h <;> rfl

theorem sizeT_run {P : Program} {t : TypeId} {n : Nat} (h : sizeT P t = some n) (w : World) : (sizeOf t).run P w = .ok n w := by
  unfold sizeT at h
  split at h
  · rename_i i hi
    simp at h; subst h
    simp [sizeOf, typeInfo, hi]
  · simp at h

theorem zeroT_run {P : Program} {t : TypeId} {z : AV} (h : zeroT P t = some z) (w : World) : ∃ v, (zeroValue t).run P w = .ok v w ∧ z = ofVal v := by
  unfold zeroT at h
  split at h
  · rename_i i hi
    split at h
    · rename_i v hv
      simp at h; subst h
      exact ⟨v, by simp [zeroValue, typeInfo, hi, hv], rfl⟩
    · simp at h
  · simp at h

theorem partA_run {P : Program} {μ : List (Nat × Nat)} {t : TypeId} {cs : List AV} {off : Nat} {a : AV} {arr : Array Value} (h : partA P t cs off = some a) (hv : VRs μ cs arr.toList) (w : World) :
    ∃ v, (part t arr off).run P w = .ok v w ∧ VR μ a v := by
  unfold partA at h
  split at h
  · rename_i hag
    split at h
    · rename_i n hn
      split at h
      · rename_i r hr
        simp at h; subst h
        obtain ⟨h1, h2⟩ := VRs_takeN (VRs_drop off hv) hr
        refine ⟨.agg (arr.extract off (off + n)), ?_, ?_⟩
        · simp [part, isAggT_run hag, sizeT_run hn]
        · unfold VR
          refine ⟨_, rfl, ?_⟩
          have : (arr.extract off (off + n)).toList = (arr.toList.drop off).take n := by
            simp [Array.toList_extract]
          rw [this]
          exact h1
      · simp at h
    · simp at h
  · rename_i hag
    obtain ⟨v, h1, h2⟩ := VRs_get hv h
    refine ⟨v, ?_, h2⟩
    have : arr[off]? = some v := by simpa using h1
    simp [part, isAggT_run hag, this]
  · simp at h

theorem loadA_run {P : Program} {B : Nat → Nat} {μ : List (Nat × Nat)} {h : AH} {w : World} {t : TypeId} {id off b : Nat} {a : AV} (H : HR B μ h w) (ha : loadA P t h id off = some a) (hb : blk μ id = some b) :
    ∃ v, (loadVar t ⟨b, off, none⟩).run P w = .ok v w ∧ VR μ a v := by
  unfold loadA AH.get at ha
  split at ha
  · rename_i cs ty ro g hg
    obtain ⟨C, _, arr, fz, hw, hv, _⟩ := H.at hg hb
    have hcl := VRs_length hv
    unfold partA at ha
    split at ha
    · rename_i hag
      split at ha
      · rename_i n hn
        split at ha
        · rename_i r hr
          simp at ha; subst ha
          obtain ⟨h1, h2⟩ := VRs_takeN (VRs_drop off hv) hr
          have hle : off + n ≤ arr.size ∨ n = 0 := by
            simp at h2 hcl; omega
          rcases hle with hle | rfl
          · refine ⟨_, by simp [loadVar, isAggT_run hag, sizeT_run hn, run_loadCells_of hw hle]; rfl, ?_⟩
            unfold VR
            refine ⟨_, rfl, ?_⟩
            obtain ⟨rfl, hle2⟩ := takeN_eq hr
            have e : ((arr.toList.take cs.length).drop off).take n = (arr.toList.drop off).take n := by
              rw [List.drop_take, List.take_take, Nat.min_eq_left (by simp at hle2; omega)]
            rw [e] at h1
            simpa using h1
          · refine ⟨.agg #[], by simp [loadVar, isAggT_run hag, sizeT_run hn, loadCells, loadCellsFrom], ?_⟩
            obtain ⟨rfl, _⟩ := takeN_eq hr
            unfold VR
            exact ⟨_, rfl, by simp [VRs_nil]⟩
        · simp at ha
      · simp at ha
    · rename_i hag
      obtain ⟨v, h1, h2⟩ := VRs_get hv ha
      refine ⟨v, ?_, h2⟩
      have hc : w.cell? ⟨b, off, none⟩ = some v := by
        rw [cell_of_block hw]
        rw [List.getElem?_take] at h1
        split at h1
        · simpa using h1
        · simp at h1
      simp [loadVar, isAggT_run hag, hc]
    · simp at ha
  · simp at ha

/-! ### Stores -/
def oneV (v : Value) : Prop := (∀ cs, v ≠ .agg cs) ∧ (∀ cs, v ≠ .tuple cs)
theorem one_VR {μ : List (Nat × Nat)} {a : AV} {v : Value} (h : a.one = true) (hv : VR μ a v) : oneV v := by
  cases a with
  | raw u =>
    unfold VR at hv; subst hv
    cases v <;> simp [AV.one, oneV] at h ⊢
  | agg _ => simp [AV.one] at h
  | tuple _ => simp [AV.one] at h
  | bool _ => unfold VR at hv; subst hv; simp [oneV]
  | int _ _ => unfold VR at hv; subst hv; simp [oneV]
  | str _ => unfold VR at hv; subst hv; simp [oneV]
  | ptr _ _ => unfold VR at hv; obtain ⟨_, _, rfl⟩ := hv; simp [oneV]
  | slice _ _ _ _ _ => unfold VR at hv; obtain ⟨_, _, _, rfl, _⟩ := hv; simp [oneV]
  | map _ => unfold VR at hv; obtain ⟨_, _, rfl⟩ := hv; simp [oneV]
  | func _ _ _ => unfold VR at hv; obtain ⟨_, _, rfl, _⟩ := hv; simp [oneV]
  | iface _ _ => unfold VR at hv; obtain ⟨_, rfl, _⟩ := hv; simp [oneV]

theorem run_store_one {P : Program} {w : World} {b i : Nat} {v : Value} {arr : Array Value} {t : TypeId} {fz : Nat × Nat} (hw : w.heap[b]? = some (.cells arr t fz)) (hi : i < arr.size)
    (hf : ¬ (fz.1 ≤ i ∧ i < fz.2)) (h1 : oneV v) :
    (Go.store ⟨b, i, none⟩ v).run P w = .ok () (setBlock w b (.cells (arr.setIfInBounds i v) t fz)) := by
  have hc : w.cell? ⟨b, i, none⟩ = some arr[i] := by rw [cell_of_block hw]; simp [hi]
  have hfr : w.frozen? ⟨b, i, none⟩ = false := by
    obtain ⟨lo, hi'⟩ := fz
    simp only [World.frozen?, hw]
    simpa using hf
  have hs : w.setCell ⟨b, i, none⟩ v = setBlock w b (.cells (arr.setIfInBounds i v) t fz) := by
    unfold World.setCell setBlock
    congr 1
    have hb := (Array.getElem?_eq_some_iff.1 hw)
    obtain ⟨hbl, hbe⟩ := hb
    apply Array.ext
    · simp
    · intro k hk1 hk2
      by_cases hkb : b = k
      · subst hkb
        simp [Array.getElem_modify, hbe]
      · rw [Array.getElem_modify, if_neg hkb, Array.getElem_setIfInBounds_ne (h := hkb)]
  unfold Go.store
  cases v with
  | agg cs => exact absurd rfl (h1.1 cs)
  | tuple cs => exact absurd rfl (h1.2 cs)
  | _ => simp [Sem.run, hc, hfr, hs]

/-- A list, over another one from a place on. -/
def overL (l : List Value) (off : Nat) (vs : List Value) : List Value := l.take off ++ vs ++ l.drop (off + vs.length)

theorem run_storeCells_of {P : Program} {b : Nat} {t : TypeId} {fz : Nat × Nat} {off : Nat} : ∀ (vs : List Value) (i : Nat) (w : World) (arr : Array Value), w.heap[b]? = some (.cells arr t fz) → off + i + vs.length ≤ arr.size →
    (∀ k, k < arr.size → ¬ (fz.1 ≤ k ∧ k < fz.2)) → (∀ v ∈ vs, oneV v) →
    (Go.storeCells ⟨b, off, none⟩ vs i).run P w = .ok () (setBlock w b (.cells (overL arr.toList (off + i) vs).toArray t fz))
  | [], i, w, arr, hw, hle, hf, h1 => by
    have hb := (Array.getElem?_eq_some_iff.1 hw)
    obtain ⟨hbl, hbe⟩ := hb
    have e : (overL arr.toList (off + i) []).toArray = arr := by simp [overL]
    rw [e]
    have : setBlock w b (.cells arr t fz) = w := by
      unfold setBlock
      have : w.heap.setIfInBounds b (.cells arr t fz) = w.heap := by
        apply Array.ext
        · simp
        · intro k hk1 hk2
          by_cases hkb : b = k
          · subst hkb; simp [hbe]
          · rw [Array.getElem_setIfInBounds_ne (h := hkb)]
      rw [this]
    rw [this]
    rfl
  | v :: vs, i, w, arr, hw, hle, hf, h1 => by
    simp only [List.length_cons] at hle
    unfold Go.storeCells
    rw [add_lit]
    simp only [Sem.run_bind, run_store_one hw (show off + i < arr.size by omega) (hf _ (by omega)) (h1 v (by simp)), Result.andThen]
    have hb := (Array.getElem?_eq_some_iff.1 hw).1
    have := run_storeCells_of (P := P) (fz := fz) (off := off) vs (i + 1) (setBlock w b (.cells (arr.setIfInBounds (off + i) v) t fz)) (arr.setIfInBounds (off + i) v) (setBlock_same w b _ hb) (by simp; omega)
      (by simpa using hf) (fun u hu => h1 u (by simp [hu]))
    rw [this]
    congr 1
    have e : (overL (arr.setIfInBounds (off + i) v).toList (off + (i + 1)) vs) = overL arr.toList (off + i) (v :: vs) := by
      unfold overL
      simp only [Array.toList_setIfInBounds, List.length_cons]
      rw [← Nat.add_assoc off i 1, List.take_set, List.drop_set, if_pos (by omega)]
      have hlen : off + i < arr.toList.length := by simp; omega
      rw [List.take_succ_eq_append_getElem hlen, List.set_append_right _ _ (by simp; omega)]
      simp only [List.length_take, Array.length_toList, List.append_assoc]
      rw [Nat.min_eq_left (by omega)]
      simp
      congr 1
      omega
    rw [e]
    unfold setBlock
    simp
end Go.Ev
