/-
  Numbers' bytes: the walks of after and P: for whatever bytes ahead, the bytes of the number behind them, in a new row.
-/
import Derived.Test.YtpfeaekankkpiaaGreatDoorEvW
import Derived.Maps.AppendAt
import Derived.Laws.AppendOwnNone
import Derived.Lib.AppendStr
import Derived.Deep.AppendLies
import Derived.OwnWalk
namespace Go.Proofs.YtpfeaekankkpiaaGreatDoor
open Go Go.RowKit Go.Lib

/-- A slice value's parts read as these cells, nil let in. -/
def Rd (w : World) (B : Nat) (A : Option Addr) (n c : Nat) (xs : List Value) : Prop :=
  xs.length = n ∧ (A = none → n = 0 ∧ c = 0) ∧ ∀ ad, A = some ad → (0 < n → ad.block < B) ∧ ∀ j u, xs[j]? = some u → w.cell? (ad.add j) = some u
theorem blk_add (a : Addr) (n : Nat) : (a.add n).block = a.block := by unfold Addr.add; split <;> rfl
theorem Rd.pos {w : World} {B : Nat} {A : Option Addr} {n c : Nat} {xs : List Value} (h : Rd w B A n c xs) {j : Nat} {u : Value} (hu : xs[j]? = some u) : 0 < n := by
  have := (List.getElem?_eq_some_iff.1 hu).1
  have := h.1
  omega
theorem Rd.below {w w' : World} {B : Nat} {A : Option Addr} {n c : Nat} {xs : List Value} (h : Rd w B A n c xs) (hb : Below B w w') : Rd w' B A n c xs :=
  ⟨h.1, h.2.1, fun ad e => ⟨(h.2.2 ad e).1, fun j u hu => (hb.cell (by rw [blk_add]; exact (h.2.2 ad e).1 (h.pos hu))).trans ((h.2.2 ad e).2 j u hu)⟩⟩
theorem Rd.mono {w : World} {B B' : Nat} {A : Option Addr} {n c : Nat} {xs : List Value} (h : Rd w B A n c xs) (hb : B ≤ B') : Rd w B' A n c xs :=
  ⟨h.1, h.2.1, fun ad e => ⟨fun h0 => Nat.lt_of_lt_of_le ((h.2.2 ad e).1 h0) hb, (h.2.2 ad e).2⟩⟩

theorem wl_append {P : Program} {w : World} {ops : Array Oper} {rest : List Oper} {o : Oper} {a : Act} {Q : Exit → Act → World → Prop} (hgd : o.guard = none) (s x : Operand) (t : TypeId)
    (ho : o.op = .call { callee := .builtin .append, args := #[s, x], argTypes := #[t, t] })
    (base : Nat) (e : TypeId) (i : TypeInfo) (z : Value) (ht : P.underlying t = some (.slice e)) (hi : P.info? e = some i) (hz : i.zero = some z)
    (hsize : i.size = 1) (hby : i.bytes = 1) (hzs : z.cells.size = 1)
    (v : Value) (n : Nat) (xs : List Value) (hs : a.eval s = v) (hown : w.ownsRow base e 1 v n xs)
    (B : Nat) (A : Option Addr) (m c : Nat) (news : List Value) (hx : a.eval x = .slice A m c) (hr : Rd w B A m c news) (h1 : ∀ u ∈ news, u.oneCell' = true)
    (h63 : n + m ≤ maxLen) (hbytes : n + m ≤ 140737488355328) (hbase : base ≤ w.heap.size)
    (h : ∀ v' w', w'.ownsRow base e 1 v' (n + m) (xs ++ news) → w.grownBy w' v.ownBlock → (v'.ownBlock = v.ownBlock ∨ v'.ownBlock = some w.heap.size) → wpList P ops Q rest (a.put o.dst v') w') :
    wpList P ops Q (o :: rest) a w := by
  cases A with
  | none =>
    obtain ⟨rfl, rfl⟩ := hr.2.1 rfl
    have hn : news = [] := List.eq_nil_of_length_eq_zero hr.1
    subst hn
    exact wpList_append_own_none hgd s x t ho base e i 1 ht hi v n xs hs hown hx (h v w (by simpa using hown) (World.grownBy.refl w _) (.inl rfl))
  | some ad =>
    exact wpList_append_own_at w hgd s x t ho base e i z 1 1 ht hi hz hsize hby hzs (by omega) v n xs hs hown ad m c news hx (by rw [hr.1]; omega) (hr.2.2 ad rfl).2 h1 h63 (by omega) hbase
      fun v' w' g1 g2 _ g4 => h v' w' g1 g2 g4

theorem u8_info : (Tryz.prog.info? 5).map (fun i => (i.zero, i.size, i.bytes)) = some (some (.int .u8 0), 1, 1) := by kernel_rfl

set_option maxRecDepth 100000 in
set_option maxHeartbeats 800000 in
theorem after_any (A1 A2 : Option Addr) (n1 n2 c1 c2 : Nat) (xs1 xs2 : List Value) (s : ByteArray) (w : World) (h1 : Rd w w.heap.size A1 n1 c1 xs1) (h2 : Rd w w.heap.size A2 n2 c2 xs2)
    (o1 : ∀ u ∈ xs1, u.oneCell' = true) (o2 : ∀ u ∈ xs2, u.oneCell' = true) (hm : n1 + n2 + s.size ≤ 140737488355328) :
    Calls Tryz.prog 94 #[.slice A1 n1 c1, .slice A2 n2 c2, .string s] w fun e w' => ∃ v, e = .returned v ∧ w'.ownsRow w.heap.size 5 1 v (n1 + n2 + s.size) (xs1 ++ xs2 ++ strCells s) ∧ Below w.heap.size w w' := by
  obtain ⟨i0, hi0, hz0, hz1, hz2⟩ := info_parts u8_info
  have H1 := Lib.hid h1; clear h1
  have H2 := Lib.hid h2; clear h2
  have O1 := Lib.hid o1; clear o1
  have O2 := Lib.hid o2; clear o2
  have HI := Lib.hid hi0; clear hi0
  have HZ0 := Lib.hid hz0; clear hz0
  have HZ1 := Lib.hid hz1; clear hz1
  have HZ2 := Lib.hid hz2; clear hz2
  go_enter Tryz.func94, Tryz.ntmps94
  go_wp2_with (first
    | (at_make
       refine wpList_make_own _ rfl _ _ 22 rfl w.heap.size 5 i0 _ 1 Tryz.underlying22 HI.out HZ0.out HZ1.out .i64 .i64 ((n1 : Int) + n2 + s.size) (n1 + n2 + s.size) rfl rfl (by simp) (by rw [HZ2.out]; omega) (by unfold maxLen; omega) (Nat.le_refl _) ?_
       intro w1 hown1 hg1
       have hb1 : Below w.heap.size w w1 := (Below.refl _ _).grown hg1 (Nat.le_refl _) (fun k hk => by cases hk)
       have hb1s := hb1.size
       have OW1 := Lib.hid hown1
       clear hown1 hg1)
    | (at_builtin
       refine wl_append rfl (.tmp 17) (.tmp 18) 22 rfl w.heap.size 5 i0 _ Tryz.underlying22 HI.out HZ0.out HZ1.out HZ2.out rfl _ 0 [] rfl OW1.out w.heap.size A1 n1 c1 xs1 rfl (H1.out.below hb1) O1.out (by unfold maxLen; omega) (by omega) hb1s ?_
       intro v2 w2 hown2 hg2 hat2
       have hb2 : Below w.heap.size w w2 := hb1.grown hg2 hb1s (fun k hk => (OW1.out.lt k hk).1)
       have hb2s := hb2.size
       have OW2 := Lib.hid hown2
       clear hown2 hg2 hat2)
    | (at_builtin
       refine wl_append rfl (.tmp 20) (.tmp 21) 22 rfl w.heap.size 5 i0 _ Tryz.underlying22 HI.out HZ0.out HZ1.out HZ2.out rfl v2 (0 + n1) ([] ++ xs1) rfl OW2.out w.heap.size A2 n2 c2 xs2 rfl (H2.out.below hb2) O2.out (by unfold maxLen; omega) (by omega) hb2s ?_
       intro v3 w3 hown3 hg3 hat3
       have hb3 : Below w.heap.size w w3 := hb2.grown hg3 hb2s (fun k hk => (OW2.out.lt k hk).1)
       have hb3s := hb3.size
       have OW3 := Lib.hid hown3
       clear hown3 hg3 hat3)
    | (at_builtin
       refine wpList_append_own_string w3 rfl (.tmp 23) (.tmp 24) 22 9 rfl w.heap.size 5 i0 Tryz.underlying22 Tryz.underlying9 HI.out HZ0.out HZ1.out HZ2.out v3 (0 + n1 + n2) ([] ++ xs1 ++ xs2) rfl OW3.out s rfl (by unfold maxLen; omega) (by omega) hb3s ?_
       intro v4 w4 hown4 hg4 hat4
       have hb4 : Below w.heap.size w w4 := hb3.grown hg4 hb3s (fun k hk => (OW3.out.lt k hk).1)
       have OW4 := Lib.hid hown4
       clear hown4 hg4 hat4))
  go_ret
  exact ⟨v4, rfl, by simpa using OW4.out, hb4⟩
end Go.Proofs.YtpfeaekankkpiaaGreatDoor
