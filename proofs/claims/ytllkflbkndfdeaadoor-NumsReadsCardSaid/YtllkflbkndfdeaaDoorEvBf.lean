/-
  Numbers read: the walks of text, and of the method Text.
-/
import Derived.Test.YtllkflbkndfdeaaDoorEvBe
import Derived.Test.YtllkflbkndfdeaaDoorShelf
import Derived.Deep.RegionHeld3
namespace Go.Proofs.YtllkflbkndfdeaaDoor
open Go Go.RowKit Go.Lib

theorem clone_any (s : ByteArray) (w : World) (h : s.size ≤ 281474976710656) : Calls Tryd.prog 62 #[.string s] w fun e w' => e = .returned (.string s) ∧ Below w.heap.size w w' := by
  go_enter Tryd.func62, Tryd.ntmps62
  go_wp2_with (go_at_call 65; (with_reducible refine (Tryd.stringslite_Clone s w h).mono ?_); rintro e w1 ⟨rfl, hb⟩)
  go_ret
  exact ⟨rfl, hb⟩
def badX (s : ByteArray) (k : Nat) (most : Int) : Nat :=
  if most < 0 then 2 else if bad s k ≠ 0 then bad s k else if most < (num s k : Int) then 4 else if s.size < nxt s k + num s k then 3 else 0
def txtV (s : ByteArray) (k : Nat) : Value := .string (s.extract (nxt s k) (nxt s k + num s k))
def nxtX (s : ByteArray) (k : Nat) : Nat := nxt s k + num s k
theorem nxt_le {s : ByteArray} {k : Nat} (hk : k ≤ s.size) : nxt s k ≤ s.size := by
  unfold nxt
  split
  · rename_i h
    unfold bad at h
    split at h
    · omega
    · omega
  · exact hk
theorem Rdr.below {w w' : World} {g : Nat} {s : ByteArray} {a : Nat} (h : Rdr w g s a) (hb : Below w.heap.size w w') : Rdr w' g s a :=
  ⟨(hb.cell (p := ⟨g, 0, none⟩) h.lt).trans h.c0, (hb.cell (p := ⟨g, 1, none⟩) h.lt).trans h.c1, (hb.frozen (p := ⟨g, 1, none⟩) h.lt).trans h.f1, Nat.lt_of_lt_of_le h.lt hb.size⟩

set_option maxRecDepth 100000 in
set_option maxHeartbeats 1600000 in
theorem text_any (s : ByteArray) (k g : Nat) (most : Int) (w : World) (hm1 : -9223372036854775808 ≤ most) (hm2 : most ≤ 9223372036854775807) (hs : s.size ≤ 140737488355328) (hk : k ≤ s.size) (h : Rdr w g s k) : Calls Tryd.prog 48 #[.pointer (some ⟨g, 0, none⟩), .int .i64 most] w (TEnd (badX s k most) (txtV s k) (nxtX s k) g s w) := by
  by_cases h1 : most < 0
  · have HB : Hid (badX s k most = 2) := Lib.hid (by unfold badX; rw [if_pos h1])
    have H := Lib.hid h
    clear h
    go_enter Tryd.func48, Tryd.ntmps48
    go_wp2
    exact ⟨rfl, Off.refl _ _, .inr ⟨by rw [HB.out]; omega, by rw [HB.out]; rfl, k, H.out⟩⟩
  have K : Calls Tryd.prog 35 #[.pointer (some ⟨g, 0, none⟩)] w (TEnd (bad s k) (.int .u64 (num s k)) (nxt s k) g s w) := number_any s k g w hs hk h
  by_cases hb : bad s k = 0
  · have K1 : Calls Tryd.prog 35 #[.pointer (some ⟨g, 0, none⟩)] w fun e w' => e = .returned (.int .u64 (num s k)) ∧ Off g w w' ∧ Rdr w' g s (nxt s k) := K.mono fun e w' he => by
      rcases he with ⟨ho, ⟨_, h1, h2⟩ | ⟨h0, _⟩⟩
      · exact ⟨h1, ho, h2⟩
      · exact absurd hb h0
    have hx := nxt_le (s := s) hk
    have hnl := num_lt s k
    have HX : Hid (badX s k most = if most < (num s k : Int) then 4 else if s.size < nxt s k + num s k then 3 else 0) := Lib.hid (by unfold badX; rw [if_neg h1, if_neg (by omega)])
    have HV : Hid (txtV s k = .string (s.extract (nxt s k) (nxt s k + num s k))) := Lib.hid rfl
    have HY : Hid (nxtX s k = nxt s k + num s k) := Lib.hid rfl
    clear hb K h
    obtain ⟨n, hn⟩ : ∃ n, n = num s k := ⟨_, rfl⟩
    obtain ⟨x, hxx⟩ : ∃ x, x = nxt s k := ⟨_, rfl⟩
    rw [← hn] at K1 HX HV HY hnl
    rw [← hxx] at K1 HX HV HY hx
    have HK := Lib.hid K1
    clear K1 hn hxx
    have W0 : IntKind.u64.wrap most = most := IntWalk.u64_in _ (by omega)
    by_cases h4 : most < (n : Int)
    · have HB : Hid (badX s k most = 4) := Lib.hid (by rw [HX.out, if_pos h4])
      clear HX HV HY
      go_enter Tryd.func48, Tryd.ntmps48
      go_wp2_with fail
      refine HK.out.mono ?_
      rintro e w1 ⟨rfl, ho, hr⟩
      go_wp2_with fail
      exact ⟨rfl, ho, .inr ⟨by rw [HB.out]; omega, by rw [HB.out]; rfl, x, hr⟩⟩
    have W1 : IntKind.u64.wrap ((s.size : Int) - (x : Int)) = (s.size : Int) - (x : Int) := IntWalk.u64_in _ (by omega)
    by_cases h3 : s.size < x + n
    · have HB : Hid (badX s k most = 3) := Lib.hid (by rw [HX.out, if_neg h4, if_pos h3])
      have hq : (s.size : Int) - (x : Int) < (n : Int) := by omega
      clear HX HV HY
      go_enter Tryd.func48, Tryd.ntmps48
      go_wp2_with fail
      refine HK.out.mono ?_
      rintro e w1 ⟨rfl, ho, hr⟩
      have HR := Lib.hid hr
      have HO := Lib.hid ho
      clear hr ho
      go_wp2_with fail
      refine (left_any s x g w1 hs hx HR.out).mono ?_
      rintro e w2 ⟨rfl, m, rfl⟩
      go_wp2_with fail
      exact ⟨rfl, HO.out.drewN _, .inr ⟨by rw [HB.out]; omega, by rw [HB.out]; rfl, x, HR.out.drewN _⟩⟩
    · have HB : Hid (badX s k most = 0) := Lib.hid (by rw [HX.out, if_neg h4, if_neg h3])
      have hq : ¬ (s.size : Int) - (x : Int) < (n : Int) := by omega
      have W2 : IntKind.i64.wrap (n : Int) = (n : Int) := IntWalk.i64_in _ (by omega)
      have W3 : IntKind.i64.wrap ((x : Int) + (n : Int)) = (x : Int) + (n : Int) := IntWalk.i64_in _ (by omega)
      have hcs : (s.extract x (x + n)).size ≤ 281474976710656 := by simp; omega
      have C : Hid (∀ w : World, Calls Tryd.prog 62 #[.string (s.extract x ((x : Int) + (n : Int)).toNat)] w fun e w' => e = .returned (.string (s.extract x (x + n))) ∧ Below w.heap.size w w') := Lib.hid (fun w => by
        rw [show ((x : Int) + (n : Int)).toNat = x + n by omega]
        exact clone_any (s.extract x (x + n)) w hcs)
      clear HX hcs
      have q1 : (0 : Int) ≤ (x : Int) := by omega
      have q2 : (x : Int) ≤ (x : Int) + (n : Int) := by omega
      have q3 : (x : Int) + (n : Int) ≤ (s.size : Int) := by omega
      go_enter Tryd.func48, Tryd.ntmps48
      go_wp2_with fail
      refine HK.out.mono ?_
      rintro e w1 ⟨rfl, ho, hr⟩
      have HR := Lib.hid hr
      have HO := Lib.hid ho
      clear hr ho
      go_wp2_with fail
      refine (left_any s x g w1 hs hx HR.out).mono ?_
      rintro e w2 ⟨rfl, m, rfl⟩
      have d1 := (HR.out.drewN m).c1
      have df := (HR.out.drewN m).f1
      have HR2 := Lib.hid ((HR.out.drewN m).set (x + n))
      have e0 : ((w1.drewN m).setCell ⟨g, 1, none⟩ (.int .i64 ((x : Int) + (n : Int)))).cell? ⟨g, 0, none⟩ = some (.string s) := HR2.out.c0
      have e1 : ((w1.drewN m).setCell ⟨g, 1, none⟩ (.int .i64 ((x : Int) + (n : Int)))).cell? ⟨g, 1, none⟩ = some (.int .i64 ((x : Int) + (n : Int))) := HR2.out.c1
      have el : g < ((w1.drewN m).setCell ⟨g, 1, none⟩ (.int .i64 ((x : Int) + (n : Int)))).heap.size := HR2.out.lt
      go_wp2_with fail
      go_region_held3 (fun w' => w'.cell? ⟨g, 0, none⟩ = some (.string s) ∧ w'.cell? ⟨g, 1, none⟩ = some (.int .i64 ((x : Int) + (n : Int))))
        (first | (refine ⟨by assumption, by assumption⟩) | (refine ⟨(by simp [*]; done), (by simp [*]; done)⟩) | exact ⟨(hb3.cell (p := ⟨g, 0, none⟩) (by simpa using el)).trans e0, (hb3.cell (p := ⟨g, 1, none⟩) (by simpa using el)).trans e1⟩)
        ((go_at_call 62; (with_reducible refine (C.out _).mono ?_); rintro e w3 ⟨rfl, hb3⟩))
      have HB3 := Lib.hid hb3
      go_wp2_with fail
      go_ret
      have hof : Off g ((w1.drewN m).setCell ⟨g, 1, none⟩ (.int .i64 ((x : Int) + (n : Int)))) w3 := Off.below ((Below.refl _ _).drew.trans HB3.out)
      refine ⟨((HO.out.drewN m).set 1 _).trans hof, .inl ⟨HB.out, by rw [HV.out]; rfl, ?_⟩⟩
      · rw [HY.out]
        exact (HR2.out.below (Below.refl _ _).drew).below HB3.out
  · have K1 : Calls Tryd.prog 35 #[.pointer (some ⟨g, 0, none⟩)] w fun e w' => e = .panicked [{ v := .iface 34 (.int .i64 (bad s k)), recovered := false }] ∧ Off g w w' ∧ ∃ a, Rdr w' g s a := K.mono fun e w' he => by
      rcases he with ⟨ho, ⟨h0, _⟩ | ⟨_, h1, h2⟩⟩
      · exact absurd h0 hb
      · exact ⟨h1, ho, h2⟩
    have HB : Hid (badX s k most = bad s k) := Lib.hid (by unfold badX; rw [if_neg h1, if_pos hb])
    have HK := Lib.hid K1
    have HB2 := Lib.hid hb
    clear K K1 hb
    go_enter Tryd.func48, Tryd.ntmps48
    go_wp2_with fail
    refine HK.out.mono ?_
    rintro e w1 ⟨rfl, ho, a, hr1⟩
    exact ⟨rfl, ho, .inr ⟨by rw [HB.out]; exact HB2.out, by rw [HB.out], a, hr1⟩⟩
set_option maxRecDepth 100000 in
theorem catch_idle_str (p q r : Addr) (w : World) :
    CallsD Tryd.prog 61 #[.pointer (some p), .pointer (some q), .pointer (some r)] .returning w fun e u' w' => e = .returned (.tuple #[]) ∧ u' = .returning ∧ w' = w := by
  have hnil : ∀ w : World, (binOp BinOp.neq 20 .nilIface .nilIface).run Tryd.prog w = .ok (.bool false) w := fun _ => by kernel_rfl
  refine callsD_of_wpS Tryd.func61 rfl fun c₀ cs hu => ?_
  apply wpS_seq
  apply wpS_region
  simp [wpOpsS, go_sem, recoverD, hu, Tryd.ntmps61, Exit.thenS]
  apply wpS_seq
  apply wpS_region
  simp [wpOpsS, go_sem, Exit.thenS, hnil]
  refine wpS_cond (t := false) (by simp [Act.eval, Array.replicate]) ?_
  simp only [Bool.false_eq_true, if_false]
  refine wpS_of_wp (wp_skip ?_)
  cases c₀
  simp_all [bodyPostS, results, Tryd.results61]

set_option maxRecDepth 100000 in
set_option maxHeartbeats 1600000 in
theorem catch_panicking_str (p q r : Addr) (g k c : Nat) (rv : Value) (older : List PanicEntry) (w : World) (hp : w.cell? p = some (.int .i64 k)) (hq : w.cell? q = some (.pointer (some ⟨g, 0, none⟩))) (hr : w.cell? r = some rv) (hrf : w.frozen? r = false) (s : ByteArray) (a : Nat) (hR : Rdr w g s a) (hrg : r.block ≠ g) (hrl : r.block < w.heap.size) :
    CallsD Tryd.prog 61 #[.pointer (some p), .pointer (some q), .pointer (some r)] (.panicking ({ v := .iface 34 (.int .i64 c), recovered := false } :: older)) w fun e u' w' =>
      e = .returned (.tuple #[]) ∧ u' = .panicking ({ v := .iface 34 (.int .i64 c), recovered := true } :: older) ∧
        w' = ((w.setCell ⟨g, 1, none⟩ (.int .i64 k)).alloc (.cells #[.int .i64 c, .int .i64 k] 36)).setCell r (.iface 84 (.pointer (some ⟨w.heap.size, 0, none⟩))) := by
  have hne : ∀ w : World, (binOp BinOp.neq 20 (.iface 34 (.int .i64 c)) .nilIface).run Tryd.prog w = .ok (.bool true) w := fun _ => by kernel_rfl
  have hta : ∀ w : World, (Instr.typeAssert (.iface 34 (.int .i64 c)) 20 34 true).run Tryd.prog w = .ok (.tuple #[.int .i64 c, .bool true]) w := fun _ => by kernel_rfl
  have hc1 := hR.c1
  have hf1 := hR.f1
  have hlt := hR.lt
  have q3 : (w.setCell ⟨g, 1, none⟩ (.int .i64 k)).cell? r = some rv := by
    rw [World.cell?_setCell_other _ _ _ _ (by rintro rfl; exact hrg rfl)]; exact hr
  have q1 : ∀ o, ((w.setCell ⟨g, 1, none⟩ (.int .i64 k)).alloc o).cell? r = some rv := fun o => by
    rw [World.cell?_alloc_lt _ _ _ (by simpa [World.setCell] using hrl)]; exact q3
  have q2 : ∀ o, ((w.setCell ⟨g, 1, none⟩ (.int .i64 k)).alloc o).frozen? r = false := fun o => by
    rw [World.frozen?_alloc_old _ _ r (by simpa [World.setCell] using Nat.ne_of_lt hrl)]
    simpa using hrf
  refine callsD_of_wpS Tryd.func61 rfl fun c₀ cs hu => ?_
  apply wpS_seq
  apply wpS_region
  simp [wpOpsS, go_sem, recoverD, hu, Tryd.ntmps61, Exit.thenS]
  apply wpS_seq
  apply wpS_region
  simp [wpOpsS, go_sem, Exit.thenS, hne]
  refine wpS_cond (t := true) (by simp [Act.eval, Array.replicate]) ?_
  simp only [if_true]
  refine wpS_of_wp ?_
  simp [Array.replicate]
  go_wp2
  simp [bodyPostS, results, Tryd.results61, go_sem]

set_option maxRecDepth 100000 in
set_option maxHeartbeats 1600000 in
theorem take_str (b : Nat) (v : Value) (x k g : Nat) (s : ByteArray) (w : World) (m : Nat) (most : Int) (hm : w.cell? ⟨m, 0, none⟩ = some (.int .i64 most)) (hml : m < w.heap.size) (h : Rdr w g s k) (K : ∀ W, Rdr W g s k → W.cell? ⟨m, 0, none⟩ = some (.int .i64 most) → Calls Tryd.prog 47 #[.pointer (some ⟨g, 0, none⟩), .pointer (some ⟨m, 0, none⟩)] W (TEnd b v x g s W)) :
    Calls Tryd.prog 46 #[.pointer (some ⟨g, 0, none⟩), .func (.func 47) #[] #[.pointer (some ⟨m, 0, none⟩)]] w (KEnd b v (.string ⟨#[]⟩) x k g s w) := by
  have hmf : ∀ (fn : Fn) (first cap : Array Value) (w : World), (Instr.makeFunc fn first cap).run Tryd.prog w = .ok (.func fn first cap) w := fun _ _ _ _ => rfl
  have hc1 := h.c1
  have hlt := h.lt
  have HM := Lib.hid (show (took w g k).cell? ⟨m, 0, none⟩ = some (.int .i64 most) by
    rw [World.cell?_alloc_lt _ _ _ (by simp; omega), World.cell?_alloc_lt _ _ _ (by simp; omega), World.cell?_alloc_lt _ _ _ hml]; exact hm)
  have HT := Lib.hid (show Rdr (took w g k) g s k from ((h.alloc _).alloc _).alloc _)
  by_cases hb : b = 0
  · have K0 : ∀ W, Rdr W g s k → W.cell? ⟨m, 0, none⟩ = some (.int .i64 most) → Calls Tryd.prog 47 #[.pointer (some ⟨g, 0, none⟩), .pointer (some ⟨m, 0, none⟩)] W fun e w' => e = .returned v ∧ Off g W w' ∧ Rdr w' g s x := fun W hW hM => (K W hW hM).mono fun e w' he => by
      rcases he with ⟨ho, ⟨_, h1, h2⟩ | ⟨h0, _⟩⟩
      · exact ⟨h1, ho, h2⟩
      · exact absurd hb h0
    have HK := Lib.hid K0
    have HB := Lib.hid hb
    have HH := Lib.hid h
    clear h K K0 hb
    go_enter_defers Tryd.func46, Tryd.ntmps46
    go_wp2_with fail
    refine (HK.out _ HT.out HM.out).mono ?_
    rintro e w1 ⟨rfl, ho, hr1⟩
    have g1 : w1.cell? ⟨w.heap.size + 1, 0, none⟩ = some .nilIface := by
      rw [ho.cell (p := ⟨w.heap.size + 1, 0, none⟩) (by simp [took]) (by show w.heap.size + 1 ≠ g; omega)]
      simp [took, go_sem]
    have g2 : w1.frozen? ⟨w.heap.size + 1, 0, none⟩ = false := by
      rw [ho.frozen (p := ⟨w.heap.size + 1, 0, none⟩) (by simp [took]) (by show w.heap.size + 1 ≠ g; omega)]
      simp [took, go_sem]
    have HO := Lib.hid ho
    have HR := Lib.hid hr1
    clear ho hr1
    go_wp2_with fail
    refine leaves_cons (f := 61) (args := #[.pointer (some ⟨w.heap.size + 1 + 1, 0, none⟩), .pointer (some ⟨w.heap.size, 0, none⟩), .pointer (some ⟨w.heap.size + 1, 0, none⟩)]) (by simp) (by simp [go_sem]) ?_
    refine (catch_idle_str _ _ _ _).mono ?_
    rintro e u' w'' ⟨rfl, rfl, rfl⟩
    have g3 : (w1.setCell ⟨w.heap.size + 1, 0, none⟩ .nilIface).cell? ⟨w.heap.size + 1, 0, none⟩ = some .nilIface := World.cell?_setCell_same _ _ _ g1
    simp [Leaves, settle, results, Tryd.results46, go_sem, g3]
    exact ⟨((((Off.refl g w).alloc _).alloc _).alloc _ |>.trans HO.out).setOwn (by simp) _, .inl ⟨HB.out, rfl, HR.out.other (by show w.heap.size + 1 ≠ g; omega) _⟩⟩
  · have K1 : ∀ W, Rdr W g s k → W.cell? ⟨m, 0, none⟩ = some (.int .i64 most) → Calls Tryd.prog 47 #[.pointer (some ⟨g, 0, none⟩), .pointer (some ⟨m, 0, none⟩)] W fun e w' => e = .panicked [{ v := .iface 34 (.int .i64 b), recovered := false }] ∧ Off g W w' ∧ ∃ a, Rdr w' g s a := fun W hW hM => (K W hW hM).mono fun e w' he => by
      rcases he with ⟨ho, ⟨h0, _⟩ | ⟨_, h1, h2⟩⟩
      · exact absurd h0 hb
      · exact ⟨h1, ho, h2⟩
    have HK := Lib.hid K1
    have HB := Lib.hid hb
    clear h K K1 hb
    go_enter_defers Tryd.func46, Tryd.ntmps46
    go_wp2_with fail
    refine (HK.out _ HT.out HM.out).mono ?_
    rintro e w1 ⟨rfl, ho, a, hr1⟩
    have g0 : w1.cell? ⟨w.heap.size, 0, none⟩ = some (.pointer (some ⟨g, 0, none⟩)) := by
      rw [ho.cell (p := ⟨w.heap.size, 0, none⟩) (by simp [took]; omega) (by show w.heap.size ≠ g; omega)]
      simp [took, go_sem]
    have g1 : w1.cell? ⟨w.heap.size + 1, 0, none⟩ = some .nilIface := by
      rw [ho.cell (p := ⟨w.heap.size + 1, 0, none⟩) (by simp [took]) (by show w.heap.size + 1 ≠ g; omega)]
      simp [took, go_sem]
    have g2 : w1.frozen? ⟨w.heap.size + 1, 0, none⟩ = false := by
      rw [ho.frozen (p := ⟨w.heap.size + 1, 0, none⟩) (by simp [took]) (by show w.heap.size + 1 ≠ g; omega)]
      simp [took, go_sem]
    have g4 : w1.cell? ⟨w.heap.size + 1 + 1, 0, none⟩ = some (.int .i64 k) := by
      rw [ho.cell (p := ⟨w.heap.size + 1 + 1, 0, none⟩) (by simp [took]) (by show w.heap.size + 1 + 1 ≠ g; omega)]
      simp [took, go_sem]
    have hsz : w.heap.size + 3 ≤ w1.heap.size := by have := ho.size; simp [took] at this; omega
    have HO := Lib.hid ho
    have HR := Lib.hid hr1
    clear ho hr1
    refine leaves_cons (f := 61) (args := #[.pointer (some ⟨w.heap.size + 1 + 1, 0, none⟩), .pointer (some ⟨w.heap.size, 0, none⟩), .pointer (some ⟨w.heap.size + 1, 0, none⟩)]) (by simp) (by simp [go_sem]) ?_
    refine (catch_panicking_str _ _ _ g k b .nilIface [] w1 g4 g0 g1 g2 s a HR.out (by show w.heap.size + 1 ≠ g; omega) (by show w.heap.size + 1 < _; omega)).mono ?_
    rintro e u' w'' ⟨rfl, rfl, rfl⟩
    have hR2 : Rdr ((w1.setCell ⟨g, 1, none⟩ (.int .i64 k)).alloc (.cells #[.int .i64 b, .int .i64 k] 36)) g s k := (HR.out.set k).alloc _
    have g5 : ((w1.setCell ⟨g, 1, none⟩ (.int .i64 k)).alloc (.cells #[.int .i64 b, .int .i64 k] 36)).cell? ⟨w.heap.size + 1, 0, none⟩ = some .nilIface := by
      rw [World.cell?_alloc_lt _ _ _ (by simp [World.setCell] <;> omega), World.cell?_setCell_other _ _ _ _ (by simp <;> omega)]
      exact g1
    have g6 : (((w1.setCell ⟨g, 1, none⟩ (.int .i64 k)).alloc (.cells #[.int .i64 b, .int .i64 k] 36)).setCell ⟨w.heap.size + 1, 0, none⟩ (.iface 84 (.pointer (some ⟨w1.heap.size, 0, none⟩)))).cell? ⟨w.heap.size + 1, 0, none⟩ = some (.iface 84 (.pointer (some ⟨w1.heap.size, 0, none⟩))) := World.cell?_setCell_same _ _ _ g5
    simp [Leaves, settle, results, Tryd.results46, go_sem, g6]
    refine ⟨?_, .inr ⟨HB.out, w1.heap.size, rfl, ?_, ?_, ?_, ?_, hR2.other (by show w.heap.size + 1 ≠ g; omega) _⟩⟩
    · exact ((((((Off.refl g w).alloc _).alloc _).alloc _ |>.trans HO.out).set 1 _).alloc _).setOwn (by simp) _
    · rw [World.cell?_setCell_other _ _ _ _ (by simp <;> omega), World.cell?_alloc_at _ _ _ _ (by simp [World.setCell])]
      rfl
    · rw [World.cell?_setCell_other _ _ _ _ (by simp <;> omega), World.cell?_alloc_at _ _ _ _ (by simp [World.setCell])]
      rfl
    · simp [World.setCell]
    · omega


theorem text1_any (s : ByteArray) (k g m : Nat) (most : Int) (w : World) (hm1 : -9223372036854775808 ≤ most) (hm2 : most ≤ 9223372036854775807) (hs : s.size ≤ 140737488355328) (hk : k ≤ s.size) (hm : w.cell? ⟨m, 0, none⟩ = some (.int .i64 most)) (h : Rdr w g s k) :
    Calls Tryd.prog 47 #[.pointer (some ⟨g, 0, none⟩), .pointer (some ⟨m, 0, none⟩)] w (TEnd (badX s k most) (txtV s k) (nxtX s k) g s w) := by
  have K := Lib.hid (text_any s k g most w hm1 hm2 hs hk h)
  clear h
  go_enter Tryd.func47, Tryd.ntmps47
  go_wp2_with fail
  refine K.out.mono ?_
  rintro e w1 ⟨ho, ⟨hb, rfl, hr⟩ | ⟨hb, rfl, hr⟩⟩
  · have HB := Lib.hid hb
    clear hb
    go_wp2_with fail
    go_ret
    exact ⟨ho, .inl ⟨HB.out, rfl, hr⟩⟩
  · exact ⟨rfl, ho, .inr ⟨hb, rfl, hr⟩⟩
theorem Text_any (s : ByteArray) (k g : Nat) (most : Int) (w : World) (hm1 : -9223372036854775808 ≤ most) (hm2 : most ≤ 9223372036854775807) (hs : s.size ≤ 140737488355328) (hk : k ≤ s.size) (h : Rdr w g s k) :
    Calls Tryd.prog 18 #[.pointer (some ⟨g, 0, none⟩), .int .i64 most] w (KEnd (badX s k most) (txtV s k) (.string ⟨#[]⟩) (nxtX s k) k g s w) := by
  have hmf : ∀ (fn : Fn) (first cap : Array Value) (w : World), (Instr.makeFunc fn first cap).run Tryd.prog w = .ok (.func fn first cap) w := fun _ _ _ _ => rfl
  have K := Lib.hid (take_str (badX s k most) (txtV s k) (nxtX s k) k g s (w.alloc (.cells #[.int .i64 most] 3)) w.heap.size most (by simp) (by simp) (h.alloc _) (fun W hW hM => text1_any s k g w.heap.size most W hm1 hm2 hs hk hM hW))
  clear h
  go_enter Tryd.func18, Tryd.ntmps18
  go_wp2_with fail
  refine K.out.mono ?_
  rintro e w1 ⟨ho, ⟨hb, rfl, hr⟩ | ⟨hb, F, rfl, hF1, hF2, hF3, hF4, hF5⟩⟩
  · have HB := Lib.hid hb
    clear hb
    go_wp2_with fail
    go_ret2
    exact ⟨((Off.refl g w).alloc _).trans ho, .inl ⟨HB.out, rfl, hr⟩⟩
  · have HB := Lib.hid hb
    have HF := Lib.hid (And.intro hF1 (And.intro hF2 (And.intro hF3 hF5)))
    clear hb hF1 hF2 hF3 hF5
    have hF6 : w.heap.size ≤ F := by simp at hF4; omega
    go_wp2_with fail
    go_ret2
    exact ⟨((Off.refl g w).alloc _).trans ho, .inr ⟨HB.out, F, rfl, HF.out.1, HF.out.2.1, HF.out.2.2.1, hF6, HF.out.2.2.2⟩⟩
end Go.Proofs.YtllkflbkndfdeaaDoor
