/-
  Regions that draw their order, by a table: for each operation the value of its slot, or what its slot's value is; more kinds of steps; the region's law, whole.
-/
import Derived.Test.YtpfeaekankkpiaaGreatDoorEvR
import Derived.Great.BuildSlice
namespace Go.Ev
open Go Go.RowKit

/-- What a table says of a slot's value. -/
def Said (tab : Nat → Value ⊕ (Value → World → Prop)) (i : Nat) (v : Value) (w : World) : Prop := match tab i with
  | .inl u => v = u
  | .inr f => f v w
def Since (W w : World) : Prop := Below W.heap.size W w
def Then (w w' : World) : Prop := Below w.heap.size w w'
def dstsOk (ops : Array Oper) (n : Nat) : Bool := (List.range ops.size).all fun i => match ops[i]? with
  | some o => (match o.dst with
    | some d => decide (d < n) && (List.range ops.size).all fun j => j == i || !((ops[j]?).bind (fun o => o.dst) == some d)
    | none => true)
  | none => true

section
variable {P : Program} {ops : Array Oper} {Q : Exit → Act → World → Prop} {Φ : Nat → Value → World → Prop} {Gr : World → Prop} {Ext : World → World → Prop} {a0 : Act}
variable {i : Nat} {o : Oper} {a : Act} {w : World}

theorem run_fieldAddr {s : TypeId} {x : Operand} {f : Nat} {p v : Value} (hop : o.op = .fieldAddr s x f) (hx : a.eval x = p) (h : (Instr.fieldAt s p f).run P w = .ok v w) : (execOp a.eval o).run P w = .ok (.value v) w := by
  simp [execOp, hop, hx, h, Result.andThen]
theorem run_loadOp {t : TypeId} {x : Operand} {p v : Value} (hop : o.op = .load t x) (hx : a.eval x = p) (h : (Instr.loadAt t p).run P w = .ok v w) : (execOp a.eval o).run P w = .ok (.value v) w := by
  simp [execOp, hop, hx, h, Result.andThen]
theorem run_build1 {t e : TypeId} {x : Operand} {u : Value} {ie : TypeInfo} {z : Value} (hop : o.op = .buildSlice t 1 #[(0, x)]) (hx : a.eval x = u) (hu : P.underlying t = some (.slice e)) (hie : P.info? e = some ie) (hz : ie.zero = some z) (hs : ie.size = 1)
    (hf : Instr.fill (fun i => some (i * 1, 1)) ((Array.range (1 * 1)).map (z.cells[· % z.cells.size]!)) [(0, u)] = some #[u]) :
    (execOp a.eval o).run P w = .ok (.value (.slice (some ⟨w.heap.size, 0, none⟩) 1 1)) (w.alloc (.cells #[u] e)) := by
  have := run_buildSlice (P := P) w t e 1 #[(0, u)] #[u] ie z hu hie hz (by rw [hs]; decide) (by rw [hs]; decide) (by rw [hs]; exact hf)
  simp [execOp, hop, hx, this, Result.andThen]
theorem st_made (hi : ops[i]? = some o) (hw : Region.wanted o (yielded ops a.tmps) = true) (v : Value) (w' : World) (hrun : (execOp a.eval o).run P w = .ok (.value v) w') (hp : Φ i v w') (hg : Gr w') (hx : Ext w w') :
    wpOp P ops Q i (fun a' w' => ∃ v, a' = a.put o.dst v ∧ Φ i v w' ∧ Gr w' ∧ Ext w w') a w := by
  unfold wpOp
  rw [hi]
  simp only [hw, if_true]
  left
  unfold Oper.wp
  rw [hrun]
  exact ⟨v, rfl, hp, hg, hx⟩

/-- The region's law: one slot's value is asked for in the end. -/
theorem tab_region {tab : Nat → Value ⊕ (Value → World → Prop)} {opsT : Array Oper} {id n last d : Nat} {val : Value} {W w0 : World} (hm : P.follows .mixedOrders = true) (ho : ops = opsT)
    (hdst : dstsOk opsT n = true) (hback : allBack 0 opsT.toList = true) (hs : a0.tmps.size = n) (hg : Since W w0)
    (mono : ∀ i v w w', Said tab i v w → Then w w' → Said tab i v w')
    (step : ∀ (i : Nat) (o : Oper) (a : Act) (w : World), opsT[i]? = some o → Here opsT (Said tab) (Since W) a0 i o a w → wpOp P opsT Q i (fun a' w' => ∃ v, a' = a.put o.dst v ∧ Said tab i v w' ∧ Since W w' ∧ Then w w') a w)
    (hl : (opsT[last]?).map (fun o => o.dst) = some (some d)) (ht : tab last = .inl val)
    (hQ : ∀ a w, a.defers = a0.defers → a.tmps.size = n → a.tmps[d]? = some val → (∀ (t : Nat), (∀ (i : Nat) (o : Oper), opsT[i]? = some o → o.dst ≠ some t) → a.tmps[t]? = a0.tmps[t]?) → Since W w → Q .normal a w) :
    (Code.region id ops true).wp P Q a0 w0 := by
  subst ho
  have hd : ∀ (i : Nat) (o : Oper) (d : Nat), ops[i]? = some o → o.dst = some d → d < n ∧ ∀ j, j < ops.size → j = i ∨ (ops[j]?).bind (fun o => o.dst) ≠ some d := by
    intro i o d hi hd
    have := List.all_eq_true.1 hdst i (List.mem_range.2 (Array.getElem?_eq_some_iff.1 hi).1)
    simp only [hi, hd, Bool.and_eq_true, decide_eq_true_eq] at this
    refine ⟨this.1, fun j hj => ?_⟩
    have := List.all_eq_true.1 this.2 j (List.mem_range.2 hj)
    simp only [Bool.or_eq_true, beq_iff_eq, Bool.not_eq_true', beq_eq_false_iff_ne] at this
    exact this
  refine wp_region_order (Φ := Said tab) (Gr := Since W) (Ext := Then) hm ?_ ?_ ?_ mono hg.drew step ?_
  · intro i j o o' d hi hj e1 e2
    rcases (hd i o d hi e1).2 j (Array.getElem?_eq_some_iff.1 hj).1 with h1 | h1
    · exact h1.symm
    · exact absurd (by rw [hj]; exact e2) h1
  · intro i o d hi e1
    rw [hs]
    exact (hd i o d hi e1).1
  · intro i o hi e he hb
    have := allBack_spec hback i o (by rw [Array.getElem?_toList]; exact hi) e he hb
    omega
  · intro a w e1 e2 e3 e4 e5
    cases ho : ops[last]? with
    | none => rw [ho] at hl; simp at hl
    | some o =>
      rw [ho] at hl
      simp at hl
      obtain ⟨v, hv, hp⟩ := e4 last o d ho hl
      unfold Said at hp
      rw [ht] at hp
      subst hp
      exact hQ a w e1 (by rw [e2, hs]) hv e5 e3
/-- A frame's slots written out: so a walk can go on behind a region whose law has handed back an act of which only some slots are known. -/
theorem lit_of (t : Array Value) (n : Nat) (h : t.size = n) : t = ((List.range n).map (fun i => t.getD i undef)).toArray := by
  subst h
  apply Array.ext
  · simp
  · intro i h1 h2
    simp [Array.getD, h1]
theorem slot_of {t t' : Array Value} {i : Nat} {v : Value} (h : t[i]? = t'[i]?) (h' : t'[i]? = some v) : t.getD i undef = v := by
  rw [h'] at h
  simp [h]
theorem run_len {x : Operand} {t : TypeId} {v : Value} {n : Nat} (hop : o.op = .call { callee := .builtin .len, args := #[x], argTypes := #[t] }) (hx : a.eval x = v) (h : (Builtin.len_ #[t] o.type #[v]).run P w = .ok (.int .i64 n) w) : (execOp a.eval o).run P w = .ok (.value (.int .i64 n)) w := by
  simp [execOp, hop, resolve, invoke, builtin, hx, h, Result.andThen]
end
end Go.Ev
