/-
  The reference's Same and Apply.
-/
import Derived.Test.YthebacladmjiiaaPg
import Derived.BigQuiet
namespace Go.Proofs.Ythebacladmjiiaa
open Go Go.RowKit Go.Lib

set_option maxRecDepth 100000 in
set_option maxHeartbeats 1600000 in
theorem same_list (l : List RecD) (A B : Option Addr) (ca cb : Nat) (w : World) (ha : Recs w w.heap.size (.slice A l.length ca) l) (hb : Recs w w.heap.size (.slice B l.length cb) l) (hl : l.length ≤ 600000) :
    Calls Try.prog 17 #[.slice A l.length ca, .slice B l.length cb] w fun e w' => e = .returned (.bool true) ∧ Below w.heap.size w w' := by
  have HA := Lib.hid ha
  have HB := Lib.hid hb
  have HL := Lib.hid hl
  clear ha hb hl
  go_enter Try.func17, Try.ntmps17
  go_wp2_with fail
  go_loopw [5] (fun i wr => ∃ (j : Nat), i = .int .i64 j ∧ j ≤ l.length ∧ Below w.heap.size w wr) (fun i _ => l.length - (intOf i).toNat)
  case atStart => exact ⟨0, rfl, Nat.zero_le _, Below.refl _ _⟩
  case round =>
    obtain ⟨j, rfl, hj, hb⟩ := hrel
    have BR := Lib.hid hb
    clear hb
    have hll := HL.out
    by_cases hlt : j < l.length
    · have hq1 : (j : Int) < (l.length : Int) := by omega
      have hq0 : (0 : Int) ≤ (j : Int) := by omega
      have W1 : IntKind.i64.wrap ((j : Int) + 1) = (j : Int) + 1 := IntWalk.i64_in _ (by omega)
      obtain ⟨x, hx⟩ : ∃ x, l[j]? = some x := ⟨_, List.getElem?_eq_getElem hlt⟩
      obtain ⟨g1, rfl, hg1, q0, q1, q2, q3, q4, q5⟩ := recs_at (HA.out.below BR.out) hx
      obtain ⟨g2, rfl, hg2, p0, p1, p2, p3, p4, p5⟩ := recs_at (HB.out.below BR.out) hx
      have hg : Try.prog.eqGuardType Try.prog.depth 36 = false := guard36
      have hq := fun w => rec_eq x w
      clear hx
      go_wp2_with fail
      go_quiet (fail)
      go_wp2_with fail
      go_roundw
      case rel => exact ⟨j + 1, by go_num, by omega, below_drewN BR.out _⟩
      case measure => simp [intOf]; omega
    · obtain rfl : j = l.length := by omega
      have hq1 : ¬ ((l.length : Nat) : Int) < (l.length : Int) := by omega
      go_wp2_with fail
      go_ret
      exact ⟨rfl, BR.out⟩

/-- Records' keys are keys. -/
def Keys (l : List RecD) : Prop := ∀ x ∈ l, 0 ≤ x.key ∧ x.key ≤ 4294967295
theorem one_keys (o : OpD) (r : RecD) (h : 0 ≤ r.key ∧ r.key ≤ 4294967295) : Keys (oneM o r) := by
  intro x hx
  unfold oneM at hx
  split at hx
  · simp at hx; subst hx; exact h
  · unfold resM at hx
    split at hx
    · simp at hx; subst hx; exact h
    · split at hx
      · simp at hx; subst hx
        dsimp only
        omega
      · split at hx
        · split at hx
          · simp at hx; subst hx; exact h
          · cases hx
        · split at hx
          · simp only [copiesM, List.mem_map] at hx
            obtain ⟨i, _, rfl⟩ := hx
            exact h
          · simp at hx; subst hx; exact h
theorem fold_keys : ∀ (ops : List OpD) (L : List RecD), Keys L → Keys (ops.foldl (fun l o => throughM o l) L)
  | [], L, h => h
  | o :: ops, L, h => by
    refine fold_keys ops (throughM o L) ?_
    intro x hx
    simp only [throughM, List.mem_flatMap] at hx
    obtain ⟨z, hz, hx⟩ := hx
    exact one_keys o z (h z hz) x hx
theorem apply_keys (ops : List OpD) (r : RecD) (h : 0 ≤ r.key ∧ r.key ≤ 4294967295) : Keys (applyM ops r) :=
  fold_keys ops [r] (fun x hx => by simp at hx; subst hx; exact h)
theorem one_len (o : OpD) (r : RecD) : (oneM o r).length ≤ 3 := Nat.le_trans (one_fac o r) (facM_le o).2

set_option maxRecDepth 100000 in
set_option maxHeartbeats 3200000 in
theorem rapply_any (ops : List OpD) (A : Option Addr) (cap : Nat) (r : RecD) (w : World) (hin : Opers w w.heap.size A ops) (hlen : ops.length ≤ 12) (hk : 0 ≤ r.key ∧ r.key ≤ 4294967295) :
    Calls Try.prog 16 #[.slice A ops.length cap, r.v] w (Gives w (applyM ops r)) := by
  have HIN := Lib.hid hin
  have HK := Lib.hid hk
  have HLEN := Lib.hid hlen
  clear hin hk
  obtain ⟨i1, hi, hz0, hz1, hz2⟩ := info_parts info36
  have KI := Lib.hid hi
  have KZ0 := Lib.hid hz0
  have KZ1 := Lib.hid hz1
  have KZ2 := Lib.hid hz2
  clear hi hz0 hz1 hz2
  go_enter Try.func16, Try.ntmps16
  go_wp2_with fail
  have HR0 := Lib.hid (recs_one (w.alloc (.cells r.cells.toArray 36)) r 36)
  go_loopw [5, 6] (fun v5 i wr => ∃ (j : Nat) (A5 : Option Addr) (c5 : Nat) (l : List RecD), i = .int .i64 j ∧ j ≤ ops.length ∧ v5 = .slice A5 l.length c5 ∧ l = applyM (ops.take j) r ∧ Recs wr wr.heap.size (.slice A5 l.length c5) l ∧ Below w.heap.size w wr) (fun _ i _ => ops.length - (intOf i).toNat)
  case atStart =>
    refine ⟨0, some ⟨w.heap.size + 1, 0, none⟩, 1, [r], rfl, Nat.zero_le _, rfl, rfl, ?_, ((Below.refl _ _).alloc (Nat.le_refl _) _).alloc (by simp) _⟩
    have := HR0.out
    simp only [World.size_alloc] at this ⊢
    exact this
  case round =>
    obtain ⟨j, A5, c5, l, rfl, hj, rfl, hl, hrec, hb⟩ := hrel
    have BR := Lib.hid hb
    have RR := Lib.hid hrec
    have HKS : Hid (Keys l) := Lib.hid (by rw [hl]; exact apply_keys _ r HK.out)
    have HLL : Hid (l.length ≤ 600000) := Lib.hid (by
      have h := applyM_len ops r j hj
      have h2 : (3 : Nat) ^ j ≤ 3 ^ 12 := Nat.pow_le_pow_right (by omega) (by omega)
      have h3 : (3 : Nat) ^ 12 = 531441 := by decide
      rw [hl]; omega)
    have HE := Lib.hid hl
    clear hb hrec hl
    rename World => wa
    by_cases hlt : j < ops.length
    · have hq1 : (j : Int) < (ops.length : Int) := by omega
      have hq0 : (0 : Int) ≤ (j : Int) := by omega
      have W1 : IntKind.i64.wrap ((j : Int) + 1) = (j : Int) + 1 := IntWalk.i64_in _ (by omega)
      obtain ⟨o, ho⟩ : ∃ o, ops[j] = o := ⟨_, rfl⟩
      obtain ⟨g, rfl, hg, oc⟩ := opers_at (x := o) (HIN.out.below BR.out) (by rw [List.getElem?_eq_getElem hlt, ho])
      have HO := Lib.hid oc
      have HG := Lib.hid hg
      have HNX : Hid (applyM (ops.take (j + 1)) r = l.flatMap (oneM o)) := Lib.hid (by rw [applyM_take hlt, HE.out, ho]; rfl)
      have HBND : Hid ((l.flatMap (oneM o)).length ≤ 600000) := Lib.hid (by
        rw [← HNX.out]
        have h := applyM_len ops r (j + 1) (by omega)
        have h2 : (3 : Nat) ^ (j + 1) ≤ 3 ^ 12 := Nat.pow_le_pow_right (by omega) (by omega)
        have h3 : (3 : Nat) ^ 12 = 531441 := by decide
        omega)
      clear oc ho hg
      go_wp2_with fail
      go_loopw [7, 8] (fun v7 i wr => ∃ (k : Nat) (A7 : Option Addr) (c7 : Nat) (out : List RecD), i = .int .i64 k ∧ k ≤ l.length ∧ v7 = .slice A7 out.length c7 ∧ out = (l.take k).flatMap (oneM o) ∧ wr.ownsRow wa.heap.size 36 6 (.slice A7 out.length c7) out.length (cellsL out) ∧ Below wa.heap.size wa wr) (fun _ i _ => l.length - (intOf i).toNat)
      case atStart => exact ⟨0, none, 0, [], rfl, Nat.zero_le _, rfl, rfl, World.ownsRow_nil _ _ _ _, Below.refl _ _⟩
      case round =>
        obtain ⟨k, A7, c7, out, rfl, hk, rfl, hout, hown, hb⟩ := hrel
        have B7 := Lib.hid hb
        have OW := Lib.hid hown
        have HOUT := Lib.hid hout
        have HOL : Hid (out.length ≤ 600000) := Lib.hid (by have h := flat_takeL (oneM o) l k; rw [← hout] at h; have := HBND.out; omega)
        clear hb hown hout
        have hll := HLL.out
        by_cases hlt2 : k < l.length
        · have hk1 : (k : Int) < (l.length : Int) := by omega
          have hk0 : (0 : Int) ≤ (k : Int) := by omega
          have W2 : IntKind.i64.wrap ((k : Int) + 1) = (k : Int) + 1 := IntWalk.i64_in _ (by omega)
          obtain ⟨x, hx⟩ : ∃ x, l[k] = x := ⟨_, rfl⟩
          have HKX : Hid (0 ≤ x.key ∧ x.key ≤ 4294967295) := Lib.hid (HKS.out x (by rw [← hx]; exact List.getElem_mem _))
          obtain ⟨g5, rfl, hg5, xc⟩ := recs_at (x := x) RR.out (by rw [List.getElem?_eq_getElem hlt2, hx])
          have HNO : Hid ((l.take (k + 1)).flatMap (oneM o) = out ++ oneM o x) := Lib.hid (by rw [flat_next _ _ _ hlt2, HOUT.out, hx])
          have HG5 := Lib.hid hg5
          have HX : Hid (∀ w', Below wa.heap.size wa w' → w'.cell? ⟨g, j * 4, none⟩ = some (.int .i64 o.kind) ∧ w'.cell? ⟨g, j * 4 + 1, none⟩ = some (.int .i64 o.a) ∧ w'.cell? ⟨g, j * 4 + 2, none⟩ = some (.int .i64 o.b) ∧ w'.cell? ⟨g, j * 4 + 3, none⟩ = some (.int .i64 o.agg) ∧ w'.cell? ⟨g5, k * 6, none⟩ = some (.int .u32 x.key) ∧ w'.cell? ⟨g5, k * 6 + 1, none⟩ = some (.int .i64 x.time) ∧ w'.cell? ⟨g5, k * 6 + 2, none⟩ = some (.int .i64 x.val) ∧ w'.cell? ⟨g5, k * 6 + 3, none⟩ = some (.int .u8 x.side) ∧ w'.cell? ⟨g5, k * 6 + 4, none⟩ = some (.bool x.err) ∧ w'.cell? ⟨g5, k * 6 + 5, none⟩ = some (.bool x.late)) := Lib.hid (fun w' h => by
            have hs1 := BR.out.size
            obtain ⟨a0, a1, a2, a3⟩ := HO.out.same (h.block g (by have := HG.out; omega))
            obtain ⟨b0, b1, b2, b3, b4, b5⟩ := xc.same (h.block g5 (by have := HG5.out; omega))
            exact ⟨a0, a1, a2, a3, b0, b1, b2, b3, b4, b5⟩)
          clear hx hg5 xc
          go_wp2_with fail
          go_region_held3 (fun w' => w'.cell? ⟨g, j * 4, none⟩ = some (.int .i64 o.kind) ∧ w'.cell? ⟨g, j * 4 + 1, none⟩ = some (.int .i64 o.a) ∧ w'.cell? ⟨g, j * 4 + 2, none⟩ = some (.int .i64 o.b) ∧ w'.cell? ⟨g, j * 4 + 3, none⟩ = some (.int .i64 o.agg) ∧ w'.cell? ⟨g5, k * 6, none⟩ = some (.int .u32 x.key) ∧ w'.cell? ⟨g5, k * 6 + 1, none⟩ = some (.int .i64 x.time) ∧ w'.cell? ⟨g5, k * 6 + 2, none⟩ = some (.int .i64 x.val) ∧ w'.cell? ⟨g5, k * 6 + 3, none⟩ = some (.int .u8 x.side) ∧ w'.cell? ⟨g5, k * 6 + 4, none⟩ = some (.bool x.err) ∧ w'.cell? ⟨g5, k * 6 + 5, none⟩ = some (.bool x.late))
            (first | assumption | (exact HX.out _ B7.out) | (exact HX.out _ B7.out.drew) | (exact HX.out _ B8.out) | (exact HX.out _ B9.out))
            (first
              | (go_at_call 24
                 (with_reducible refine (one_any o x HKX.out _).mono ?_)
                 rintro e w8 ⟨A8, c8, rfl, hr8, hb8⟩
                 have hs8 : Below wr.heap.size wr w8 := (Below.refl _ _).drew.trans hb8
                 have R8 := Lib.hid hr8
                 have B8 : Hid (Below wa.heap.size wa w8) := Lib.hid (B7.out.drew.trans (hb8.mono B7.out.size))
                 have OW8 : Hid (w8.ownsRow wa.heap.size 36 6 (.slice A7 out.length c7) out.length (cellsL out)) := Lib.hid (own_below OW.out hs8)
                 obtain ⟨l8, hl8⟩ : ∃ l8, oneM o x = l8 := ⟨_, rfl⟩
                 have HL8 := Lib.hid hl8
                 have HN8 : Hid (l8.length ≤ 3) := Lib.hid (by rw [← hl8]; exact one_len o x)
                 rw [hl8] at R8 ⊢
                 obtain ⟨ps2, hps2⟩ : ∃ ps2, out ++ l8 = ps2 := ⟨_, rfl⟩
                 have P2 := Lib.hid hps2
                 have N2 : Hid (out.length + l8.length = ps2.length) := Lib.hid (by rw [← hps2, List.length_append])
                 have C2 : Hid (cellsL out ++ cellsL l8 = cellsL ps2) := Lib.hid (by rw [← hps2, cellsL_app])
                 clear hl8 hr8 hb8 hps2)
              | (refine step_append_src _ rfl _ _ 39 rfl wa.heap.size 36 i1 _ 6 32 Try.underlying39 KI.out KZ0.out KZ1.out KZ2.out rfl (by decide) _ out.length (cellsL out) rfl OW8.out A8 l8.length c8 (cellsL l8) rfl (cellsL_len l8) R8.out.lies (oneCellsL l8) ps2.length N2.out (cellsL ps2) C2.out (by have := HOL.out; have := HN8.out; have := N2.out; unfold maxLen; omega) (by have := HOL.out; have := HN8.out; have := N2.out; omega) (by have := B8.out.size; simpa using this) ?_
                 intro A9 c9 w9 hown9 hg9
                 have O9 := Lib.hid hown9
                 have B9 : Hid (Below wa.heap.size wa w9) := Lib.hid (B8.out.grown hg9 B8.out.size (fun k e => (own_lt OW8.out e).1))
                 clear hown9 hg9))
          go_wp2_with fail
          go_roundw
          case rel => exact ⟨k + 1, A9, c9, ps2, by go_num, by omega, rfl, by rw [HNO.out, HL8.out, P2.out], O9.out, B9.out⟩
          case measure => simp [intOf]; omega
        · obtain rfl : k = l.length := by omega
          have hk1 : ¬ ((l.length : Nat) : Int) < (l.length : Int) := by omega
          go_wp2_with fail
          go_roundw
          case rel => exact ⟨j + 1, A7, c7, out, by go_num, by omega, rfl, by rw [HNX.out, HOUT.out, List.take_length], own_recs' OW.out, BR.out.trans (B7.out.mono BR.out.size)⟩
          case measure => simp [intOf]; omega
    · obtain rfl : j = ops.length := by omega
      have hq1 : ¬ ((ops.length : Nat) : Int) < (ops.length : Int) := by omega
      go_wp2_with fail
      go_ret
      rw [show applyM ops r = l by rw [HE.out, List.take_length]]
      exact ⟨A5, c5, rfl, RR.out, BR.out⟩
end Go.Proofs.Ythebacladmjiiaa
