/-
  What the evaluator says of the operations that read, lay, or turn memory is what they do.
-/
import Derived.Test.YtpfeaekankkpiaaGreatDoorEvF
import Derived.Laws.BytesString
import Derived.Laws.Append
import Derived.Laws.AppendOwn
import Derived.Laws.MakeOwn
import Derived.Lib.UnsafeStr
namespace Go.Ev
open Go Go.RowKit
section
variable {P : Program} {B : Nat → Nat} {μ : List (Nat × Nat)} {ρ : Operand → Option AV} {σ : Operand → Value} {h : AH} {w : World}

theorem take_overL (l : List Value) (off m : Nat) (vs : List Value) (h : off + vs.length ≤ m) (hm : m ≤ l.length) : (overL l off vs).take m = overL (l.take m) off vs := by
  unfold overL
  rw [List.take_append, List.take_of_length_le (by simp; omega), List.take_take, Nat.min_eq_left (by omega), List.drop_take]
  congr 2
  simp
  omega

theorem u8s_run : ∀ {l : List AV} {r : List UInt8} {vs : List Value}, u8s l = some r → VRs μ l vs → vs = r.map fun b => Value.int .u8 b.toNat
  | [], r, vs, h, hv => by
    simp [u8s] at h; subst h
    rw [VRs_nil] at hv
    simp [hv]
  | a :: l, r, vs, h, hv => by
    rw [VRs_cons] at hv
    obtain ⟨v, rest, rfl, h1, h2⟩ := hv
    cases a with
    | int k n =>
      cases k <;> first | (simp [u8s] at h; done) | skip
      cases n with
      | negSucc n => simp [u8s] at h
      | ofNat n =>
        simp only [u8s] at h
        cases hn : Nat.blt n 256 with
        | false => rw [hn] at h; simp at h
        | true =>
          rw [hn] at h
          simp only [cond_true] at h
          have hn' : n < 256 := by simpa [Nat.blt_eq] using hn
          split at h
          · rename_i r' hr'
            simp at h; subst h
            have e1 := u8s_run hr' h2
            unfold VR at h1; subst h1
            rw [e1]
            simp only [List.map_cons]
            congr 2
            have : (UInt8.ofNat n).toNat = n := by simp [Nat.mod_eq_of_lt hn']
            rw [this]
            rfl
          · simp at h
    | _ => simp [u8s] at h

theorem u8s_ns (r : List UInt8) : (r.map fun b => Value.int .u8 b.toNat) = (r.map fun b => (b.toNat : Int)).map (Value.int .u8) ∧ (r.map fun b => (b.toNat : Int)).map (fun n => UInt8.ofNat n.toNat) = r := by
  constructor
  · rw [List.map_map]; rfl
  · rw [List.map_map]
    conv => rhs; rw [← List.map_id r]
    apply List.map_congr_left
    intro b _
    simp

theorem foldl_push : ∀ (ns : List Int) (s : ByteArray), ns.foldl (fun (r : ByteArray) n => r.push (UInt8.ofNat n.toNat)) s = ⟨(s.data.toList ++ ns.map (fun n => UInt8.ofNat n.toNat)).toArray⟩
  | [], s => by cases s; simp
  | n :: ns, s => by
    rw [List.foldl_cons, foldl_push ns]
    simp [ByteArray.push]

theorem cells_run {id b off n : Nat} {cs l : List AV} {t : TypeId} {ro : Bool} {g : Nat} (H : HR B μ h w) (hg : h.get id = some (.cells cs t ro g)) (hb : blk μ id = some b) (hl : takeN n (cs.drop off) = some l) :
    ∃ vs : List Value, (loadCells ⟨b, off, none⟩ n).run P w = .ok vs.toArray w ∧ VRs μ l vs ∧ vs.length = n := by
  obtain ⟨C, _, arr, fz, hw, hv, _⟩ := H.at hg hb
  have hcl := VRs_length hv
  obtain ⟨h1, h2⟩ := VRs_takeN (VRs_drop off hv) hl
  obtain ⟨rfl, hle2⟩ := takeN_eq hl
  by_cases h0 : n = 0
  · subst h0
    exact ⟨[], by simp [loadCells, loadCellsFrom], by simp [VRs_nil], rfl⟩
  · have hle : off + n ≤ arr.size := by simp at h2 hcl; omega
    refine ⟨_, run_loadCells_of hw hle, ?_, by simp; omega⟩
    have e : ((arr.toList.take cs.length).drop off).take n = (arr.toList.drop off).take n := by
      rw [List.drop_take, List.take_take, Nat.min_eq_left (by simp at hle2; omega)]
    rw [e] at h1
    exact h1

theorem aConvR_run {s d : TypeId} {a : AV} {v : Value} {nx : ANx} (H : HR B μ h w) (ha : aConvR P s d h (some a) = some nx) (hv : VR μ a v) :
    ResR P μ w nx (Sem.run P (do pure (Next.value (← convert s d v))) w) := by
  unfold aConvR at ha
  split at ha
  · rename_i id off len cap ex he
    simp at he; subst he
    unfold VR at hv
    obtain ⟨b, c, hb, rfl, _⟩ := hv
    split at ha
    · rename_i e cs t ro g hs hd hg
      split at ha
      · rename_i l hu hl
        split at ha
        · rename_i r hr
          simp at ha; subst ha
          obtain ⟨vs, h1, h2, _⟩ := cells_run (P := P) H hg hb hl
          have e0 := u8s_run hr h2
          subst e0
          obtain ⟨e1, e2⟩ := u8s_ns r
          rw [e1] at h1
          refine res_val (run_v (v := .string ⟨r.toArray⟩) ?_) (by unfold VR; rfl)
          rw [run_convert_bytes_string w s d e _ _ _ hs hu hd, run_bytesToString w _ _ _ _ h1, foldl_push, e2]
          rfl
        · simp at ha
      · simp at ha
    · simp at ha
  · rename_i he
    simp at he; subst he
    unfold VR at hv; subst hv
    split at ha
    · rename_i e hs hd
      split at ha
      · rename_i hu
        simp at ha; subst ha
        refine res_val (run_v (v := .string ⟨#[]⟩) ?_) (by unfold VR; rfl)
        rw [run_convert_bytes_string w s d e _ _ _ hs hu hd]
        rfl
      · simp at ha
    · simp at ha
  · simp at ha

theorem aRead_run (hρ : ∀ x a, ρ x = some a → VR μ a (σ x)) (H : HR B μ h w) {o : Oper} {nx : ANx} (ha : aRead P ρ h o.op = some nx) : ResR P μ w nx ((execOp σ o).run P w) := by
  cases ho : o.op <;> rw [ho] at ha <;> simp only [aRead] at ha
  all_goals first | (cases ha; done) | skip
  case load t x =>
    unfold aLoad at ha
    split at ha
    · rename_i id off hx
      have hx' := hρ _ _ hx
      unfold VR at hx'
      obtain ⟨b, hb, hx'⟩ := hx'
      obtain ⟨a, h1, rfl⟩ := vv_ok ha
      obtain ⟨v, h2, h3⟩ := loadA_run H h1 hb
      refine res_val (v := v) ?_ h3
      simp [execOp, ho, hx', Instr.loadAt, Instr.sureAddr, h2]
    · simp at ha
  case convert s d x =>
    cases hx : ρ x with
    | none => rw [hx] at ha; simp [aConvR] at ha
    | some a =>
      rw [hx] at ha
      have := aConvR_run H ha (hρ _ _ hx)
      simpa only [execOp, ho] using this

/-! ### What lays or turns memory -/
/-- The whole of what is said of an operation. -/
def OpR (P : Program) (B : Nat → Nat) (μ : List (Nat × Nat)) (w : World) (nx : ANx) (h' : AH) (r : Result Next) : Prop :=
  ∃ μ' w', μ <+: μ' ∧ HR B μ' h' w' ∧ Bel B w w' ∧ ResR P μ' w' nx r

theorem OpR.same (H : HR B μ h w) {nx : ANx} {r : Result Next} (hr : ResR P μ w nx r) : OpR P B μ w nx h r := ⟨μ, w, List.prefix_refl _, H, Bel.refl _ _, hr⟩

theorem newRowA_alloc {h h' : AH} {t : TypeId} {cs : List AV} {g id : Nat} (ha : newRowA h t cs g = some (id, h')) : h.alloc (.cells cs t false g) = some (id, h') ∧ cs.all AV.one = true := by
  unfold newRowA at ha
  cases hb : cs.all AV.one with
  | false => rw [hb] at ha; simp at ha
  | true => rw [hb] at ha; exact ⟨by simpa using ha, rfl⟩

/-- A new row, exactly of these cells. -/
theorem newRowA_run {h h' : AH} {t : TypeId} {cs : List AV} {id : Nat} {arr : Array Value} (H : HR B μ h w) (ha : newRowA h t cs = some (id, h')) (hv : VRs μ cs arr.toList) :
    HR B (μ ++ [(w.heap.size, 0)]) h' (w.alloc (.cells arr t)) ∧ (μ ++ [(w.heap.size, 0)])[id]? = some (w.heap.size, 0) := by
  have hl := VRs_length hv
  refine H.new (fz := (0, 0)) (newRowA_alloc ha).1 ?_ (by simp) (by simp)
  rw [← hl, List.take_length]
  exact hv

theorem aNewVar_run {t : TypeId} {a : AV} {v : Value} {nx : ANx} {h' : AH} {s : Sem Value} (H : HR B μ h w) (ha : aNewVar t h (some a) = some (nx, h')) (hv : VR μ a v)
    (hs : s.run P w = .ok (.pointer (some ⟨w.heap.size, 0, none⟩)) (w.alloc (.cells v.cells t))) : OpR P B μ w nx h' (Sem.run P (do pure (Next.value (← s))) w) := by
  unfold aNewVar at ha
  dsimp only at ha
  split at ha
  · rename_i id h'' hn
    simp at ha
    obtain ⟨rfl, rfl⟩ := ha
    obtain ⟨h1, h2⟩ := newRowA_run H hn (VR_cells hv)
    exact ⟨_, _, List.prefix_append _ _, h1, (Bel.refl _ _).alloc H.bsz _, res_val (run_v hs) (by unfold VR; exact ⟨_, blk_of h2, rfl⟩)⟩
  · simp at ha

theorem run_newVar (t : TypeId) (v : Value) (w : World) : (newVar t v).run P w = .ok ⟨w.heap.size, 0, none⟩ (w.alloc (.cells v.cells t)) := by
  rfl

/-- Cells, over those of an object from a place on. -/
theorem putCells_run {h' : AH} {id b off : Nat} {cs : List AV} {vs : List Value} (H : HR B μ h w) (ha : putCells h id off cs = some h') (hb : blk μ id = some b) (hv : VRs μ cs vs) :
    ∃ w', (Go.storeCells ⟨b, off, none⟩ vs).run P w = .ok () w' ∧ HR B μ h' w' ∧ Bel B w w' := by
  unfold putCells at ha
  split at ha
  · rename_i cs0 t g hg
    cases ho : cs.all AV.one with
    | false => rw [ho] at ha; simp at ha
    | true =>
      rw [ho] at ha
      simp only [cond_true] at ha
      split at ha
      · rename_i r hr
        simp at ha; subst ha
        obtain ⟨C, h0, arr, fz, hw, hv0, hro, hC⟩ := H.at hg hb
        obtain ⟨hB, hfz⟩ := hro rfl
        have hcl := VRs_length hv0
        have hvl := VRs_length hv
        have hle := over_len hr
        have hone : ∀ v ∈ vs, oneV v := by
          intro v hv'
          obtain ⟨i, hi⟩ := List.getElem?_of_mem hv'
          have hlt : i < cs.length := by rw [← hvl]; exact (List.getElem?_eq_some_iff.1 hi).1
          obtain ⟨u, hu1, hu2⟩ := VRs_get hv (List.getElem?_eq_getElem hlt)
          rw [hi] at hu1
          simp only [Option.some.injEq] at hu1
          subst hu1
          exact one_VR (List.all_eq_true.1 ho _ (List.getElem_mem hlt)) hu2
        have hrun := run_storeCells_of (P := P) (off := off) vs 0 w arr hw (by simp at hcl; omega) hfz hone
        have hlt : id < 1000000 := H.id_lt hg
        refine ⟨_, hrun, H.put hg h0 hw hlt ?_ (fun _ => ⟨hB, ?_⟩) ?_, below_setBlock (Bel.refl _ _) hB _⟩
        · have := over_VRs hr hv0 hv
          have hrl := VRs_length this
          have hsz : (overL arr.toList (off + 0) vs).length = arr.size := by simp [overL]; simp at hcl; omega
          have e : (overL arr.toList (off + 0) vs).take r.length = overL (arr.toList.take cs0.length) off vs := by
            have hr2 : r.length = cs0.length := by
              rw [← hrl]; simp [overL]; simp at hcl; omega
            rw [hr2, Nat.add_zero, take_overL _ _ _ _ (by omega) (by simp at hcl ⊢; omega)]
          show VRs μ r (List.take r.length (overL arr.toList (off + 0) vs))
          rw [e]
          exact this
        · intro i hi
          apply hfz
          simp [overL] at hi
          simp at hcl; omega
        · have : (overL arr.toList (off + 0) vs).toArray.size = arr.size := by simp [overL]; simp at hcl; omega
          rw [this]; exact hC.1
      · simp at ha
  · simp at ha

theorem seqT_true {t : TypeId} (hx : seqT P t = true) : P.underlying t = some .string ∨ ∃ e, P.underlying t = some (.slice e) := by
  unfold seqT at hx
  split at hx
  · rename_i hd; exact .inl hd
  · rename_i e hd; exact .inr ⟨e, hd⟩
  · simp at hx

set_option maxHeartbeats 1000000 in
/-- append, where there is room. -/
theorem append_room {ts : Array TypeId} {st xt ty e : TypeId} {i : TypeInfo} {v : Value} {n sLen sCap : Nat} {a : Addr} {new : List Value} {w w' : World} (h0 : ts[0]? = some st) (h1 : ts[1]? = some xt)
    (ht : P.underlying st = some (.slice e)) (hx : seqT P xt = true) (hi : P.info? e = some i) (hlen : (Builtin.lenOf v).run P w = .ok n w)
    (hnew : (Builtin.firstCells i.size n v).run P w = .ok new.toArray w) (hroom : sLen + n ≤ sCap) (hst : (Go.storeCells (a.add (sLen * i.size)) new).run P w = .ok () w') :
    (Builtin.append_ ts ty #[.slice (some a) sLen sCap, v]).run P w = .ok (.slice (some a) (sLen + n) sCap) w' := by
  rcases seqT_true hx with hd | ⟨e', hd⟩
  · simp [Builtin.append_, h0, h1, run_underlying ht, run_underlying hd, sizeOf, typeInfo, hi, hlen, hroom, hnew, hst]
  · simp [Builtin.append_, h0, h1, run_underlying ht, run_underlying hd, sizeOf, typeInfo, hi, hlen, hroom, hnew, hst]

set_option maxHeartbeats 1000000 in
/-- append of nothing to nil. -/
theorem append_none {ts : Array TypeId} {st xt ty e : TypeId} {i : TypeInfo} {v : Value} {new : List Value} {w : World} (h0 : ts[0]? = some st) (h1 : ts[1]? = some xt)
    (ht : P.underlying st = some (.slice e)) (hx : seqT P xt = true) (hi : P.info? e = some i) (hlen : (Builtin.lenOf v).run P w = .ok 0 w)
    (hnew : (Builtin.firstCells i.size 0 v).run P w = .ok new.toArray w) :
    (Builtin.append_ ts ty #[.slice none 0 0, v]).run P w = .ok (.slice none 0 0) w := by
  rcases seqT_true hx with hd | ⟨e', hd⟩
  · simp [Builtin.append_, h0, h1, run_underlying ht, run_underlying hd, sizeOf, typeInfo, hi, hlen, hnew]
  · simp [Builtin.append_, h0, h1, run_underlying ht, run_underlying hd, sizeOf, typeInfo, hi, hlen, hnew]

set_option maxHeartbeats 1000000 in
/-- append, where a new row is laid. -/
theorem append_grow {ts : Array TypeId} {st xt ty e : TypeId} {i : TypeInfo} {z v : Value} {n sLen sCap : Nat} {base : Option Addr} {old new : List Value} {w : World} (h0 : ts[0]? = some st) (h1 : ts[1]? = some xt)
    (ht : P.underlying st = some (.slice e)) (hx : seqT P xt = true) (hi : P.info? e = some i) (hz : i.zero = some z) (hlen : (Builtin.lenOf v).run P w = .ok n w)
    (hold : (Builtin.firstCells i.size sLen (.slice base sLen sCap)).run P w.drew = .ok old.toArray w.drew)
    (hnew : (Builtin.firstCells i.size n v).run P w.drew = .ok new.toArray w.drew) (hroom : sCap < sLen + n) (hn : sLen + n ≤ 1000000) (hb : i.bytes ≤ 1000000) :
    (Builtin.append_ ts ty #[.slice base sLen sCap, v]).run P w = .ok (.slice (some ⟨w.heap.size, 0, none⟩) (sLen + n) (grownCap w (sLen + n) sCap e))
      (w.drew.alloc (.cells (old.toArray ++ new.toArray ++ Builtin.zeroCells z.cells (grownCap w (sLen + n) sCap e - (sLen + n))) e)) := by
  have hroom' : ¬ sLen + n ≤ sCap := by omega
  have h63 : ¬ (9223372036854775807 < ((sLen : Int) + (n : Int))) := by omega
  have hprod : (sLen + n) * i.bytes ≤ 140737488355328 := by
    have : (sLen + n) * i.bytes ≤ 1000000 * 1000000 := Nat.mul_le_mul hn hb
    omega
  have hfit := growslice_fits (need := sLen + n) (old := sCap) (by omega) hprod
  have hfit' : ¬ (281474976710656 < Builtin.nextslicecap (sLen + n) sCap * i.bytes) := by omega
  rcases seqT_true hx with hd | ⟨e', hd⟩
  · simp [Builtin.append_, h0, h1, run_underlying ht, run_underlying hd, sizeOf, typeInfo, zeroValue, hi, hz, hlen, hroom', hold, hnew, h63, hfit', Question.forced, newRow, grownCap]
    rw [← Array.append_assoc]
    simp
  · simp [Builtin.append_, h0, h1, run_underlying ht, run_underlying hd, sizeOf, typeInfo, zeroValue, hi, hz, hlen, hroom', hold, hnew, h63, hfit', Question.forced, newRow, grownCap]
    rw [← Array.append_assoc]
    simp

theorem bytesA_run (μ : List (Nat × Nat)) : ∀ (l : List UInt8), VRs μ (bytesA l) (l.map fun b => Value.int .u8 b.toNat)
  | [] => by simp [bytesA, VRs_nil]
  | b :: l => by
    simp only [bytesA, List.map_cons]
    rw [VRs_cons]
    exact ⟨_, _, rfl, by simp [VR], bytesA_run μ l⟩

theorem firstA_run {size n : Nat} {x : AV} {v : Value} {new : List AV} {w : World} (H : HR B μ h w) (hf : firstA h size n x = some new) (hv : VR μ x v) :
    ∃ vs : List Value, (Builtin.firstCells size n v).run P w = .ok vs.toArray w ∧ VRs μ new vs := by
  unfold firstA at hf
  split at hf
  · rename_i s
    simp at hf; subst hf
    unfold VR at hv; subst hv
    refine ⟨(s.take n).map fun b => Value.int .u8 b.toNat, ?_, bytesA_run μ _⟩
    simp [Builtin.firstCells, ByteArray.extract_mk]
  · rename_i id off len cap ex
    unfold VR at hv
    obtain ⟨b, c, hb, rfl, _⟩ := hv
    split at hf
    · rename_i cs t ro g hg
      obtain ⟨vs, h1, h2, _⟩ := cells_run (P := P) H hg hb hf
      exact ⟨vs, by simpa [Builtin.firstCells] using h1, h2⟩
    · simp at hf
  · simp at hf; subst hf
    unfold VR at hv; subst hv
    exact ⟨[], by simp [Builtin.firstCells], by simp [VRs_nil]⟩
  · simp at hf

theorem lenA_run {x : AV} {v : Value} {n : Nat} {w : World} (hl : lenA x = some n) (hv : VR μ x v) : (Builtin.lenOf v).run P w = .ok n w := by
  unfold lenA at hl
  split at hl
  · simp at hl; subst hl
    unfold VR at hv; subst hv
    simp [Builtin.lenOf, ByteArray.size]
  · simp at hl; subst hl
    unfold VR at hv
    obtain ⟨b, c, _, rfl, _⟩ := hv
    simp [Builtin.lenOf]
  · simp at hl; subst hl
    unfold VR at hv; subst hv
    simp [Builtin.lenOf]
  · simp at hl

theorem grown_row {h h' : AH} {e : TypeId} {cs : List AV} {size id need C : Nat} {vs : List Value} {z : Array Value} {w : World} (H : HR B μ h w) (ha : newRowA h e cs size = some (id, h')) (hv : VRs μ cs vs) (hz : z.size = size) (hlen : vs.length = need * size) (hC : need ≤ C) :
    HR B (μ ++ [(w.heap.size, C)]) h' (w.drew.alloc (.cells (vs.toArray ++ Builtin.zeroCells z (C - need)) e)) ∧ (μ ++ [(w.heap.size, C)])[id]? = some (w.heap.size, C) := by
  have hl := VRs_length hv
  have H' := H.drew
  refine H'.new (fz := (0, 0)) (newRowA_alloc ha).1 ?_ (by simp) ?_
  · rw [← hl]
    simpa using hv
  · rw [Array.size_append, size_zeroCells, hz]
    simp only [List.size_toArray, hlen, ← Nat.add_mul]
    exact Nat.mul_le_mul_right _ (by omega)

/-- A block is turned to which but one number leads, and that number is let go. -/
theorem HR.turn {id b : Nat} {o : AObj} {x : Obj} (H : HR B μ h w) (hg : h.t.get id = some o) (hb : blk μ id = some b) : HR B μ (h.put id none) (setBlock w b x) := by
  have hlt := H.id_lt hg
  refine ⟨H.len, ?_, ?_, by rw [setBlock_size]; exact H.bsz, H.nle⟩
  · intro i p hp
    simp only [AH.put, Tr.get_put24 _ _ _ hlt] at hp
    split at hp
    · simp at hp
    · rename_i e
      obtain ⟨c, C, h1, h2⟩ := H.obj i p hp
      refine ⟨c, C, h1, h2.mono (List.prefix_refl _) (setBlock_other w b c _ ?_)⟩
      intro ec
      subst ec
      exact e (H.inj i id p _ c hp hg (blk_of h1) hb)
  · intro i j p q c hi hj h1 h2
    simp only [AH.put, Tr.get_put24 _ _ _ hlt] at hi hj
    split at hi
    · simp at hi
    · split at hj
      · simp at hj
      · exact H.inj i j p q c hi hj h1 h2

theorem HR.free {id b : Nat} {o : AObj} (H : HR B μ h w) (hg : h.t.get id = some o) (hb : blk μ id = some b) : ∀ j p, (h.put id none).t.get j = some p → blk μ j ≠ some b := by
  have hlt := H.id_lt hg
  intro j p hj hjb
  simp only [AH.put, Tr.get_put24 _ _ _ hlt] at hj
  split at hj
  · simp at hj
  · rename_i e
    exact e (H.inj j id p _ b hj hg hjb hb)

theorem VRs_one {cs : List AV} {vs : List Value} (ho : cs.all AV.one = true) (hv : VRs μ cs vs) : ∀ v ∈ vs, oneV v := by
  have hvl := VRs_length hv
  intro v hv'
  obtain ⟨i, hi⟩ := List.getElem?_of_mem hv'
  have hlt : i < cs.length := by rw [← hvl]; exact (List.getElem?_eq_some_iff.1 hi).1
  obtain ⟨u, hu1, hu2⟩ := VRs_get hv (List.getElem?_eq_getElem hlt)
  rw [hi] at hu1
  simp only [Option.some.injEq] at hu1
  subst hu1
  exact one_VR (List.all_eq_true.1 ho _ (List.getElem_mem hlt)) hu2

theorem VRs_len_take {n m : Nat} {l r : List AV} {vs : List Value} (h : takeN n l = some r) (hv : VRs μ r vs) (_ : m = m) : vs.length = n := by
  obtain ⟨rfl, hle⟩ := takeN_eq h
  rw [VRs_length hv]
  simp; omega

theorem appendA_run {ts : Array TypeId} {ty : TypeId} {s x r : AV} {u v : Value} {h' : AH} {cs : Array Bool} (H : HR B μ h w) (ha : appendA P ts h s x = some (r, h')) (hs : VR μ s u) (hx : VR μ x v) :
    OpR P B μ w (.val r) h' ((builtin .append ts ty cs #[u, v]).run P w) := by
  have fin : ∀ {μ' : List (Nat × Nat)} {w' : World} {out : Value}, (Builtin.append_ ts ty #[u, v]).run P w = .ok out w' → μ <+: μ' → HR B μ' h' w' → Bel B w w' → VR μ' r out → OpR P B μ w (.val r) h' ((builtin .append ts ty cs #[u, v]).run P w) :=
    fun h1 h2 h3 h4 h5 => ⟨_, _, h2, h3, h4, res_val (run_v h1) h5⟩
  unfold appendA at ha
  split at ha
  · rename_i st xt h0 h1
    split at ha
    · rename_i e ht hxt
      split at ha
      · rename_i i n hi hl
        split at ha
        · rename_i z hz
          cases hc : (Nat.ble (lenS s + n) 1000000 && Nat.ble i.bytes 1000000 && Nat.ble 1 i.size && Nat.beq (ofVal z).cells.length i.size) with
          | false => rw [hc] at ha; simp at ha
          | true =>
            rw [hc] at ha
            simp only [cond_true] at ha
            simp only [Bool.and_eq_true, Nat.ble_eq] at hc
            obtain ⟨⟨⟨c1, c2⟩, c3⟩, c4⟩ := hc
            have hzs : z.cells.size = i.size := by
              have := VRs_length (VR_cells (VR_ofVal μ z))
              have c4' : (ofVal z).cells.length = i.size := by simpa using c4
              simp at this; omega
            split at ha
            · simp at ha
            · rename_i new hnew
              cases hnb : Nat.beq new.length (n * i.size) with
              | false => rw [hnb] at ha; simp at ha
              | true =>
              rw [hnb] at ha
              simp only [cond_true] at ha
              obtain ⟨ns, f1, f2⟩ := firstA_run (P := P) H hnew hx
              obtain ⟨ns', f1', f2'⟩ := firstA_run (P := P) H.drew hnew hx
              have hlen := lenA_run (P := P) (w := w) hl hx
              have hnl : ns'.length = n * i.size := by
                rw [VRs_length f2']; simpa using hnb
              have hnl0 : ns.length = n * i.size := by
                rw [VRs_length f2]; simpa using hnb
              unfold appendTo at ha
              split at ha
              · -- nil
                unfold VR at hs; subst hs
                cases hn0 : Nat.beq n 0 with
                | true =>
                  rw [hn0] at ha
                  simp at ha
                  obtain ⟨rfl, rfl⟩ := ha
                  have : n = 0 := by simpa using hn0
                  subst this
                  exact fin (append_none h0 h1 ht hxt hi hlen f1) (List.prefix_refl _) H (Bel.refl _ _) (by simp [VR])
                | false =>
                  rw [hn0] at ha
                  simp only [cond_false] at ha
                  have hn1 : 0 < n := by
                    rcases Nat.eq_zero_or_pos n with h | h
                    · subst h; simp at hn0
                    · exact h
                  split at ha
                  · rename_i id h'' hr
                    simp at ha
                    obtain ⟨rfl, rfl⟩ := ha
                    have hg := append_grow (P := P) (ty := ty) (sLen := 0) (sCap := 0) (base := none) (old := []) h0 h1 ht hxt hi hz hlen (by simp [Builtin.firstCells]) f1' (by omega) (by simpa [lenS] using c1) c2
                    have hC := grownCap_ge w n 0 e
                    simp only [Nat.zero_add] at hg
                    obtain ⟨g1, g2⟩ := grown_row (z := z.cells) H hr f2' hzs hnl hC
                    refine fin (μ' := μ ++ [(w.heap.size, grownCap w n 0 e)]) hg (List.prefix_append _ _) ?_ ?_ ?_
                    · simpa using g1
                    · exact ((Bel.refl _ _).drew).alloc H.bsz _
                    · unfold VR
                      exact ⟨_, _, blk_of g2, rfl, hC, fun e => by simp at e, fun _ => cpo_of g2⟩
                  · simp at ha
              · rename_i id off len cap ex
                simp only [lenS] at c1
                unfold VR at hs
                obtain ⟨b, c, hb, rfl, hcc, hex, hcp⟩ := hs
                cases hroom : Nat.ble (len + n) cap with
                | true =>
                  rw [hroom] at ha
                  simp only [cond_true] at ha
                  have hr : len + n ≤ cap := by simpa using hroom
                  split at ha
                  · rename_i h'' hp
                    simp at ha
                    obtain ⟨rfl, rfl⟩ := ha
                    obtain ⟨w', s1, s2, s3⟩ := putCells_run (P := P) H hp hb f2
                    refine fin (μ' := μ) (append_room h0 h1 ht hxt hi hlen f1 (by omega) (by rw [add_lit]; exact s1)) (List.prefix_refl _) s2 s3 ?_
                    unfold VR
                    exact ⟨b, c, hb, rfl, hcc, hex, hcp⟩
                  · simp at ha
                | false =>
                  rw [hroom] at ha
                  simp only [cond_false] at ha
                  have hr : cap < len + n := by
                    rcases Nat.lt_or_ge cap (len + n) with h | h
                    · exact h
                    · have : Nat.ble (len + n) cap = true := by simpa using h
                      rw [this] at hroom; simp at hroom
                  split at ha
                  · rename_i cs0 t ro g hg
                    split at ha
                    · simp at ha
                    · rename_i old hold
                      have hg' : h.t.get id = some (.cells cs0 t ro g) := hg
                      obtain ⟨os, o1, o2, o3⟩ := cells_run (P := P) H.drew hg hb hold
                      have o1' : (Builtin.firstCells i.size len (.slice (some ⟨b, off, none⟩) len c)).run P w.drew = .ok os.toArray w.drew := by simpa [Builtin.firstCells] using o1
                      cases ex with
                      | true =>
                        simp only [cond_true] at ha
                        have hc := hex rfl
                        subst hc
                        split at ha
                        · rename_i id' h'' hn
                          simp at ha
                          obtain ⟨rfl, rfl⟩ := ha
                          have hgr := append_grow (P := P) (ty := ty) h0 h1 ht hxt hi hz hlen o1' f1' hr c1 c2
                          have hC := grownCap_ge w (len + n) c e
                          obtain ⟨g1, g2⟩ := grown_row (z := z.cells) (vs := os ++ ns') H hn (VRs_append o2 f2') hzs (by simp [o3, hnl, Nat.add_mul]) hC
                          refine fin (μ' := μ ++ [(w.heap.size, grownCap w (len + n) c e)]) hgr (List.prefix_append _ _) ?_ (((Bel.refl _ _).drew).alloc H.bsz _) ?_
                          · simpa using g1
                          · unfold VR
                            exact ⟨_, _, blk_of g2, rfl, hC, fun e => by simp at e, fun _ => cpo_of g2⟩
                        · simp at ha
                      | false =>
                        simp only [cond_false] at ha
                        cases hcond : (Nat.beq off 0 && Nat.beq cs0.length (len * i.size) && !ro && Nat.beq g i.size && Nat.beq t e) with
                        | false => rw [hcond] at ha; simp at ha
                        | true =>
                          rw [hcond] at ha
                          simp only [cond_true] at ha
                          simp only [Bool.and_eq_true, Nat.beq_eq, Bool.not_eq_true'] at hcond
                          obtain ⟨⟨⟨⟨rfl, d2⟩, rfl⟩, rfl⟩, rfl⟩ := hcond
                          have hcpo := hcp rfl
                          obtain ⟨C, e0, arr, fz, e1, e2, e3, e4⟩ := H.at hg' hb
                          have : C = c := by
                            have := cpo_of e0
                            rw [hcpo] at this
                            simpa using this.symm
                          subst this
                          obtain ⟨hB, hfz⟩ := e3 rfl
                          have hcl := VRs_length e2
                          split at ha
                          · rename_i id' h'' hn
                            simp at ha
                            obtain ⟨rfl, rfl⟩ := ha
                            obtain ⟨ha1, ha2⟩ := newRowA_alloc hn
                            have hone : new.all AV.one = true := by
                              rw [List.all_append] at ha2
                              simp only [Bool.and_eq_true] at ha2
                              exact ha2.2
                            have hltid := H.id_lt hg'
                            by_cases hin : len + n ≤ C
                            · -- in place
                              have hfit : 0 + len * i.size + ns.length ≤ arr.size := by
                                rw [hnl0, Nat.zero_add, ← Nat.add_mul]
                                exact Nat.le_trans (Nat.mul_le_mul_right _ hin) e4.1
                              have hst := run_storeCells_of (P := P) (off := 0 + len * i.size) ns 0 w arr e1 (by omega) hfz (VRs_one hone f2)
                              have hrun := append_room (P := P) (ty := ty) (a := ⟨b, 0, none⟩) h0 h1 ht hxt hi hlen f1 hin (by rw [add_lit]; exact hst)
                              have T := H.turn (x := .cells (overL arr.toList (0 + len * i.size + 0) ns).toArray t fz) hg' hb
                              have hsz : (overL arr.toList (0 + len * i.size + 0) ns).length = arr.size := by simp [overL]; omega
                              have hov : (overL arr.toList (0 + len * i.size + 0) ns).take (cs0 ++ new).length = arr.toList.take cs0.length ++ ns := by
                                have hnew : new.length = n * i.size := by simpa using hnb
                                unfold overL
                                rw [List.take_append, List.take_of_length_le (by simp; omega)]
                                have : (cs0 ++ new).length - (List.take (0 + len * i.size + 0) arr.toList ++ ns).length = 0 := by
                                  simp; omega
                                rw [this, d2]
                                simp
                              obtain ⟨k1, k2⟩ := T.add (b := b) (C := C) ha1 ⟨(overL arr.toList (0 + len * i.size + 0) ns).toArray, fz, setBlock_same w b _ (Array.getElem?_eq_some_iff.1 e1).1, by
                                show VRs _ _ (List.take (cs0 ++ new).length (overL arr.toList (0 + len * i.size + 0) ns))
                                rw [hov]
                                exact VRs_mono (List.prefix_append _ _) _ _ (VRs_append e2 f2), fun _ => ⟨hB, by
                                intro k hk
                                apply hfz
                                have hk' : k < (overL arr.toList (0 + len * i.size + 0) ns).length := by simpa only [List.size_toArray] using hk
                                rw [hsz] at hk'
                                exact hk'⟩, (by
                                show C * i.size ≤ (overL arr.toList (0 + len * i.size + 0) ns).toArray.size
                                simp only [List.size_toArray, hsz]; exact e4.1), (by omega)⟩ (H.free hg' hb)
                              refine fin (μ' := μ ++ [(b, C)]) hrun (List.prefix_append _ _) k1 (below_setBlock (Bel.refl _ _) hB _) ?_
                              unfold VR
                              exact ⟨b, C, blk_of k2, rfl, hin, fun e => by simp at e, fun _ => cpo_of k2⟩
                            · -- a new row
                              have hgr := append_grow (P := P) (ty := ty) h0 h1 ht hxt hi hz hlen o1' f1' (by omega) c1 c2
                              have hC := grownCap_ge w (len + n) C t
                              have hold' : old = cs0 := by
                                obtain ⟨rfl, _⟩ := takeN_eq hold
                                simp [← d2]
                              subst hold'
                              obtain ⟨g1, g2⟩ := grown_row (z := z.cells) (vs := os ++ ns') (H.del hltid) hn (VRs_append o2 f2') hzs (by simp [o3, hnl, Nat.add_mul]) hC
                              refine fin (μ' := μ ++ [(w.heap.size, grownCap w (len + n) C t)]) hgr (List.prefix_append _ _) ?_ (((Bel.refl _ _).drew).alloc H.bsz _) ?_
                              · simpa using g1
                              · unfold VR
                                exact ⟨_, _, blk_of g2, rfl, hC, fun e => by simp at e, fun _ => cpo_of g2⟩
                          · simp at ha
                  · simp at ha
              · simp at ha
        · simp at ha
      · simp at ha
    · simp at ha
  · simp at ha

theorem aStore_run {t : TypeId} {a x : AV} {u v : Value} {nx : ANx} {h' : AH} (H : HR B μ h w) (ha : aStore P t h (some a) (some x) = some (nx, h')) (hu : VR μ a u) (hv : VR μ x v) :
    OpR P B μ w nx h' (Sem.run P (do Instr.storeAt t u v; pure Next.skip) w) := by
  unfold aStore at ha
  split at ha
  · rename_i id off x' he1 he2
    simp at he1 he2; subst he1; subst he2
    unfold VR at hu
    obtain ⟨b, hb, rfl⟩ := hu
    split at ha
    · rename_i n hn
      cases hc : Nat.beq x.cells.length n with
      | false => rw [hc] at ha; simp at ha
      | true =>
        rw [hc] at ha
        simp only [cond_true] at ha
        split at ha
        · rename_i h'' hp
          simp at ha
          obtain ⟨rfl, rfl⟩ := ha
          have hvc := VR_cells hv
          have hl := VRs_length hvc
          obtain ⟨w', s1, s2, s3⟩ := putCells_run (P := P) H hp hb hvc
          have hn' := sizeT_run hn w
          have hsz : v.cells.size = n := by
            have : x.cells.length = n := by simpa using hc
            simp at hl; omega
          refine ⟨μ, w', List.prefix_refl _, s2, s3, .skip, run_u ?_, trivial⟩
          simp [Instr.storeAt, Instr.sureAddr, storeVar, hn', hsz, s1]
        · simp at ha
    · simp at ha
  · simp at ha

theorem repeatA_VRs {cs : List AV} {vs : List Value} (hv : VRs μ cs vs) : ∀ (m : Nat), VRs μ (repeatA cs m) ((List.range (m * vs.length)).map fun i => vs[i % vs.length]!)
  | 0 => by simp [repeatA, VRs_nil]
  | m + 1 => by
    simp only [repeatA]
    have e : (List.range ((m + 1) * vs.length)).map (fun i => vs[i % vs.length]!) = vs ++ (List.range (m * vs.length)).map fun i => vs[i % vs.length]! := by
      rw [Nat.succ_mul, Nat.add_comm (m * vs.length), List.range_add, List.map_append, List.map_map]
      congr 1
      · apply List.ext_getElem
        · simp
        · intro i h1 h2
          simp at h1
          simp [Nat.mod_eq_of_lt h1, h1]
      · apply List.map_congr_left
        intro i _
        simp
    rw [e]
    exact VRs_append hv (repeatA_VRs hv m)

theorem aMakeSlice_run {t : TypeId} {l c : AV} {u v : Value} {nx : ANx} {h' : AH} (H : HR B μ h w) (ha : aMakeSlice P t h (some l) (some c) = some (nx, h')) (hu : VR μ l u) (hv : VR μ c v) :
    OpR P B μ w nx h' (Sem.run P (do pure (Next.value (← Instr.makeSlice t u v))) w) := by
  unfold aMakeSlice at ha
  split at ha
  · rename_i n m he1 he2
    simp at he1 he2; subst he1; subst he2
    unfold VR at hu hv
    subst hu; subst hv
    split at ha
    · rename_i e ht
      split at ha
      · rename_i i hi
        cases hc : (Nat.ble n m && Nat.ble m 1000000 && Nat.ble i.bytes 1000000) with
        | false => rw [hc] at ha; simp at ha
        | true =>
          rw [hc] at ha
          simp only [cond_true] at ha
          simp only [Bool.and_eq_true, Nat.ble_eq] at hc
          obtain ⟨⟨c1, c2⟩, c3⟩ := hc
          split at ha
          · rename_i z hz
            split at ha
            · rename_i id h'' hn
              cases hs : Nat.beq (ofVal z).cells.length i.size with
              | false => rw [hs] at ha; simp at ha
              | true =>
                rw [hs] at ha
                simp at ha
                obtain ⟨rfl, rfl⟩ := ha
                have hzc : VRs μ (ofVal z).cells z.cells.toList := VR_cells (VR_ofVal μ z)
                have hzl := VRs_length hzc
                have hs' : (ofVal z).cells.length = i.size := by simpa using hs
                have hsz : z.cells.size = i.size := by simp at hzl; omega
                have hrep := repeatA_VRs hzc m
                have hprod : i.bytes * m ≤ 1000000 * 1000000 := Nat.mul_le_mul c3 c2
                have hb : (i.bytes : Int) * (m : Int) ≤ 281474976710656 := by
                  have : ((i.bytes * m : Nat) : Int) ≤ 281474976710656 := by omega
                  rwa [Int.natCast_mul] at this
                have hr := run_make (P := P) w t e i z ht hi hz .i64 .i64 n m (by omega) (by omega) hb (by omega)
                simp only [Int.toNat_natCast] at hr
                obtain ⟨g1, g2⟩ := newRowA_run (arr := madeCells z.cells (m * i.size)) H hn (by
                  have e1 : (madeCells z.cells (m * i.size)).toList = (List.range (m * z.cells.toList.length)).map fun i => z.cells.toList[i % z.cells.toList.length]! := by
                    simp [madeCells, hsz]
                    intro a _
                    rw [getElem!_def]
                    split <;> simp_all
                  rw [e1]; exact hrep)
                refine ⟨_, _, List.prefix_append _ _, g1, (Bel.refl _ _).alloc H.bsz _, res_val (v := .slice (some ⟨w.heap.size, 0, none⟩) n m) (run_v hr) ?_⟩
                unfold VR
                exact ⟨_, _, blk_of g2, rfl, Nat.le_refl _, fun _ => rfl, fun h => by simp at h⟩
            · simp at ha
          · simp at ha
      · simp at ha
    · simp at ha
  · simp at ha

theorem run_newRow (t : TypeId) (cs : Array Value) (w : World) : (newRow t cs).run P w = .ok ⟨w.heap.size, 0, none⟩ (w.alloc (.cells cs t)) := by
  rfl
theorem aRow_run {e : TypeId} {len : Nat} {o : Option (List AV)} {nx : ANx} {h' : AH} {arr : Array Value} (H : HR B μ h w) (ha : aRow h e len o = some (nx, h')) (hv : ∀ r, o = some r → VRs μ r arr.toList) {s : Sem Value}
    (hs : s.run P w = .ok (.slice (some ⟨w.heap.size, 0, none⟩) len len) (w.alloc (.cells arr e))) : OpR P B μ w nx h' (Sem.run P (do pure (Next.value (← s))) w) := by
  unfold aRow at ha
  split at ha
  · rename_i r
    split at ha
    · rename_i id h'' hn
      simp at ha
      obtain ⟨rfl, rfl⟩ := ha
      obtain ⟨g1, g2⟩ := newRowA_run (arr := arr) H hn (hv r rfl)
      refine ⟨_, _, List.prefix_append _ _, g1, (Bel.refl _ _).alloc H.bsz _, res_val (v := .slice (some ⟨w.heap.size, 0, none⟩) len len) (run_v hs) ?_⟩
      unfold VR
      exact ⟨_, _, blk_of g2, rfl, Nat.le_refl _, fun _ => rfl, fun h => by simp at h⟩
    · simp at ha
  · simp at ha
theorem aBuildSlice_run {ρ : Operand → Option AV} {σ : Operand → Value} (hρ : ∀ x a, ρ x = some a → VR μ a (σ x)) {t : TypeId} {len : Nat} {parts : Array (Nat × Operand)} {nx : ANx} {h' : AH} (H : HR B μ h w) (ha : aBuildSlice P t len (noParts ρ parts.toList) h = some (nx, h')) :
    OpR P B μ w nx h' (Sem.run P (do pure (Next.value (← Instr.buildSlice t len (parts.map fun (i, x) => (i, σ x))))) w) := by
  unfold aBuildSlice at ha
  have e : (Array.map (fun (x : Nat × Operand) => match x with | (i, x) => (i, σ x)) parts).toList = parts.toList.map fun (p : Nat × Operand) => (p.1, σ p.2) := by simp
  split at ha
  · rename_i ps elem hps hu
    obtain ⟨p1, p2⟩ := noParts_run hρ hps
    split at ha
    · rename_i size z hs hz
      obtain ⟨zv, hz1, rfl⟩ := zeroT_run hz w
      have hs' := sizeT_run hs w
      cases hc : (Nat.ble 1 (len * size) && Nat.ble (len * size) 1000000 && Nat.beq (ofVal zv).cells.length size) with
      | true =>
        rw [hc] at ha
        simp only [cond_true] at ha
        simp only [Bool.and_eq_true, Nat.ble_eq, Nat.beq_eq] at hc
        obtain ⟨⟨c1, c2⟩, c3⟩ := hc
        have hzc : VRs μ (ofVal zv).cells zv.cells.toList := VR_cells (VR_ofVal μ zv)
        have hzl := VRs_length hzc
        have hsz : zv.cells.size = size := by simp at hzl; omega
        have hrep := repeatA_VRs hzc len
        have hcells : VRs μ (repeatA (ofVal zv).cells len) ((Array.range (len * size)).map (zv.cells[· % zv.cells.size]!)).toList := by
          have e1 : ((Array.range (len * size)).map (zv.cells[· % zv.cells.size]!)).toList = (List.range (len * zv.cells.toList.length)).map fun i => zv.cells.toList[i % zv.cells.toList.length]! := by
            simp [hsz]
            intro a _
            rw [getElem!_def]
            split <;> simp_all
          rw [e1]; exact hrep
        have n1 : ¬ len * size > 2 ^ 24 := by omega
        have n2 : ¬ len * size = 0 := by omega
        cases hf : fillA (fun i => some (i * size, size)) (repeatA (ofVal zv).cells len) ps with
        | none => rw [hf] at ha; simp [aRow] at ha
        | some r =>
          rw [hf] at ha
          obtain ⟨out, ho1, ho2⟩ := fillA_run (qs := parts.toList.map fun (p : Nat × Operand) => (p.1, σ p.2)) hf hcells p1 p2
          refine aRow_run (arr := out) H ha (fun r' hr' => by cases hr'; exact ho2) ?_
          unfold Instr.buildSlice
          rw [e]
          simp only [Sem.run_bind, run_underlying hu, Result.andThen, hs', if_neg n1, if_neg n2, hz1, Sem.run_pure, ho1, run_newRow]
      | false =>
        rw [hc] at ha
        simp only [cond_false] at ha
        cases hc2 : (Nat.beq len 0 && ps.isEmpty) with
        | false => rw [hc2] at ha; simp at ha
        | true =>
          rw [hc2] at ha
          simp only [cond_true] at ha
          simp only [Bool.and_eq_true, Nat.beq_eq, List.isEmpty_iff] at hc2
          obtain ⟨rfl, rfl⟩ := hc2
          have hp : parts.toList.map (fun (p : Nat × Operand) => (p.1, σ p.2)) = [] := List.eq_nil_of_length_eq_zero p1.symm
          refine aRow_run (arr := #[]) H ha (fun r' hr' => by cases hr'; simp [VRs_nil]) ?_
          unfold Instr.buildSlice
          rw [e, hp]
          simp [run_underlying hu, Result.andThen, hs', Instr.fill, run_newRow]
          rw [show Array.range 0 = #[] from Array.eq_empty_of_size_eq_zero (by simp)]
          simp
    · simp at ha
  · simp at ha

theorem copyA_run {ts : Array TypeId} {ty : TypeId} {cs : Array Bool} {d x : AV} {u v : Value} {nx : ANx} {h' : AH} (H : HR B μ h w) (ha : copyA P ts h d x = some (nx, h')) (hu : VR μ d u) (hv : VR μ x v) :
    OpR P B μ w nx h' ((builtin .copy ts ty cs #[u, v]).run P w) := by
  unfold copyA at ha
  split at ha
  · rename_i dt id off len cap ex n h0 hl
    unfold VR at hu
    obtain ⟨b, c, hb, rfl, _⟩ := hu
    split at ha
    · rename_i e ht
      split at ha
      · rename_i size hs
        split at ha
        · rename_i new hnew
          split at ha
          · rename_i h'' hp
            simp at ha
            obtain ⟨rfl, rfl⟩ := ha
            obtain ⟨ns, f1, f2⟩ := firstA_run (P := P) H hnew hv
            have hlen := lenA_run (P := P) (w := w) hl hv
            have hs' := sizeT_run hs w
            obtain ⟨w', s1, s2, s3⟩ := putCells_run (P := P) H hp hb f2
            refine ⟨μ, w', List.prefix_refl _, s2, s3, res_val (v := .int .i64 (Nat.min n len)) (run_v ?_) (by simp [VR])⟩
            simp [Builtin.copy_, h0, run_underlying ht, hlen, hs', f1, s1, goInt]
          · simp at ha
        · simp at ha
      · simp at ha
    · simp at ha
  · simp at ha

theorem freeze_setBlock {b n : Nat} {arr : Array Value} {t : TypeId} {fz : Nat × Nat} (hw : w.heap[b]? = some (.cells arr t fz)) (hn : n ≠ 0) : ∃ fz', w.freeze ⟨b, 0, none⟩ n = setBlock w b (.cells arr t fz') := by
  obtain ⟨lo, hi⟩ := fz
  refine ⟨if lo == hi then (0, 0 + n) else (min lo 0, max hi (0 + n)), ?_⟩
  unfold World.freeze setBlock
  rw [if_neg hn]
  congr 1
  obtain ⟨hbl, hbe⟩ := Array.getElem?_eq_some_iff.1 hw
  apply Array.ext
  · simp
  · intro k hk1 hk2
    by_cases hkb : b = k
    · subst hkb
      simp [Array.getElem_modify, hbe]
    · rw [Array.getElem_modify, if_neg hkb, Array.getElem_setIfInBounds_ne (h := hkb)]

theorem stringA_run {ts : Array TypeId} {ty : TypeId} {cs : Array Bool} {id n : Nat} {u v : Value} {nx : ANx} {h' : AH} (H : HR B μ h w) (ha : stringA P ts.toList h id n = some (nx, h')) (hu : VR μ (.ptr id 0) u) (hv : VR μ (.int .i64 (.ofNat n)) v) :
    OpR P B μ w nx h' ((builtin .unsafeString ts ty cs #[u, v]).run P w) := by
  unfold stringA at ha
  unfold VR at hu hv
  obtain ⟨b, hb, rfl⟩ := hu
  subst hv
  split at ha
  · rename_i pt it hts
    have hts' : ts = #[pt, it] := by rw [← Array.toArray_toList (xs := ts), hts]
    subst hts'
    split at ha
    · rename_i e cs0 t g hp hg
      split at ha
      · rename_i l hs hl
        split at ha
        · rename_i r hr
          cases hc : (Nat.beq t e && Nat.ble 1 n && Nat.ble n 1000000) with
          | false => rw [hc] at ha; simp at ha
          | true =>
            rw [hc] at ha
            simp at ha
            obtain ⟨rfl, rfl⟩ := ha
            simp only [Bool.and_eq_true, Nat.beq_eq, Nat.ble_eq] at hc
            obtain ⟨⟨rfl, c1⟩, c2⟩ := hc
            have hg' : h.t.get id = some (.cells cs0 t false g) := hg
            obtain ⟨C, e0, arr, fz, e1, e2, e3, e4⟩ := H.at hg' hb
            obtain ⟨g1, g2⟩ := VRs_takeN e2 hl
            have hrl := u8s_run hr g1
            obtain ⟨hl1, hl2⟩ := takeN_eq hl
            have hcl := VRs_length e2
            have hlen : r.length = n := by
              have := congrArg List.length hrl
              simp at this hcl g2
              omega
            have hn0 : n ≠ 0 := by omega
            have hcell : ∀ j x, r[j]? = some x → w.cell? ((⟨b, 0, none⟩ : Addr).add j) = some (.int .u8 x.toNat) := by
              intro j x hx
              rw [add_lit, cell_of_block e1, Nat.zero_add]
              have : (((arr.toList.take cs0.length).take n))[j]? = some (.int .u8 x.toNat) := by
                rw [hrl]; simp [hx]
              rw [List.getElem?_take, List.getElem?_take] at this
              split at this
              · split at this
                · simpa using this
                · simp at this
              · simp at this
            have hsz : P.cellsOf t = 1 := by
              unfold sizeT at hs
              split at hs
              · rename_i i hi; simp at hs; simp [Program.cellsOf, hi, hs]
              · simp at hs
            have hrun := Lib.run_unsafeString_row (P := P) (w := w) pt it ty t hp hsz b arr.size (by simp [World.shape?, e1]) r (by intro e; subst e; simp at hlen; omega) (by simp at hcl g2; omega) (by omega) hcell
            rw [hlen] at hrun
            obtain ⟨fz', hf⟩ := freeze_setBlock e1 hn0
            rw [hf] at hrun
            refine ⟨μ, _, List.prefix_refl _, H.put (ro' := true) hg' e0 e1 (H.id_lt hg') e2 (fun e => by simp at e) e4.1, below_setBlock (Bel.refl _ _) (e3 rfl).1 _, res_val (run_v hrun) (by unfold VR; rfl)⟩
        · simp at ha
      · simp at ha
    · simp at ha
  · simp at ha

theorem methodA_run {t : TypeId} {a : AV} {v : Value} {name : String} {f : FuncId} {r : AV} (ha : methodA P t a name = some (f, r)) (hv : VR μ a v) :
    ∃ u, (method (P.types.size + Made.depth) t v name).run P w = .ok (f, u) w ∧ VR μ r u := by
  have hd : 0 < Made.depth := by decide
  obtain ⟨k, hk⟩ : ∃ k, P.types.size + Made.depth = k + 1 := ⟨P.types.size + Made.depth - 1, by omega⟩
  rw [hk]
  unfold methodA at ha
  split at ha
  · simp at ha
  · rename_i i hi
    split at ha
    · simp at ha
    · rename_i m hm
      split at ha
      · rename_i hp
        split at ha
        · rename_i f' hf
          split at ha
          · rename_i e hu
            simp at ha
            obtain ⟨rfl, rfl⟩ := ha
            refine ⟨v, ?_, hv⟩
            simp [method, typeInfo, hi, hm, hp, hf, follow, receiverAt, run_underlying hu, Place.get]
          · simp at ha
        · rename_i f' hf
          split at ha
          · simp at ha
          · rename_i d hnp hu
            simp at ha
            obtain ⟨rfl, rfl⟩ := ha
            refine ⟨v, ?_, hv⟩
            have hr : ∀ (s : Option String) w, (receiverAt t (.val v) false s).run P w = .ok v w := by
              intro s w
              unfold receiverAt
              simp only [Sem.run_bind, run_underlying hu, Result.andThen]
              cases d <;> first | rfl | exact absurd hu (hnp _)
            simp [method, typeInfo, hi, hm, hp, hf, follow, hr]
          · simp at ha
        · simp at ha
      · simp at ha

theorem invokeA_run {r : AV} {u : Value} {name : String} {args : List AV} {vs : Array Value} {nx : ANx} (ha : invokeA P r name args = some nx) (hu : VR μ r u) (hv : VRs μ args vs.toList) :
    ResR P μ w nx ((callMethod u name vs).run P w) := by
  unfold invokeA at ha
  split at ha
  · rename_i t v
    unfold VR at hu
    obtain ⟨x, rfl, hx⟩ := hu
    split at ha
    · rename_i f y hm
      simp at ha; subst ha
      obtain ⟨z, h1, h2⟩ := methodA_run (w := w) hm hx
      refine ⟨#[z] ++ vs, ?_, ?_⟩
      · simp only [Array.toList_append, List.cons_append, List.nil_append]
        rw [VRs_cons]
        exact ⟨z, _, rfl, h2, hv⟩
      · simp [callMethod, h1]
    · simp at ha
  · simp at ha

theorem callA_run {fn : Fn} {args cap : List AV} {vs cs : Array Value} {nx : ANx} (ha : callA P fn args cap = some nx) (hv : VRs μ args vs.toList) (hc : VRs μ cap cs.toList) :
    ResR P μ w nx ((invoke (.fn fn cs) vs).run P w) := by
  unfold callA at ha
  split at ha
  · rename_i f
    simp at ha; subst ha
    refine ⟨vs ++ cs, by simpa using VRs_append hv hc, ?_⟩
    simp [invoke]
  · rename_i name
    split at ha
    · rename_i r args'
      rw [VRs_cons] at hv
      obtain ⟨v, rest, e, h1, h2⟩ := hv
      have h0 : vs[0]? = some v := by
        rw [← Array.getElem?_toList, e]; rfl
      have := invokeA_run (w := w) (vs := vs.extract 1 vs.size) ha h1 (by
        have : (vs.extract 1 vs.size).toList = rest := by
          simp [Array.toList_extract, e]
          rw [List.take_of_length_le]
          have := congrArg List.length e
          simp at this; omega
        rw [this]; exact h2)
      simpa [invoke, h0] using this
    · simp at ha
  · rename_i t name
    split at ha
    · rename_i r args'
      rw [VRs_cons] at hv
      obtain ⟨v, rest, e, h1, h2⟩ := hv
      have h0 : vs[0]? = some v := by
        rw [← Array.getElem?_toList, e]; rfl
      have hrest : (vs.extract 1 vs.size).toList = rest := by
        simp [Array.toList_extract, e]
        rw [List.take_of_length_le]
        have := congrArg List.length e
        simp at this; omega
      split at ha
      · rename_i ms hu
        have := invokeA_run (w := w) (vs := vs.extract 1 vs.size) ha h1 (by rw [hrest]; exact h2)
        simpa [invoke, h0, run_underlying hu] using this
      · rename_i d hni hu
        have := invokeA_run (w := w) (vs := vs.extract 1 vs.size) (u := .iface t v) ha (by unfold VR; exact ⟨_, rfl, h1⟩) (by rw [hrest]; exact h2)
        simp only [invoke, h0, Sem.run_bind, run_underlying hu, Result.andThen]
        cases d <;> first | exact this | exact absurd rfl (hni _)
      · simp at ha
    · simp at ha
  · simp at ha
end
end Go.Ev
