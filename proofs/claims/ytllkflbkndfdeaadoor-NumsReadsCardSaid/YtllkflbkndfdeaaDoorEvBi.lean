/-
  The theorem NumsBack: things, their bytes, and what is read of them.
-/
import Derived.Test.YtllkflbkndfdeaaDoorEvBg
import Derived.Deep.CutBlock
namespace Go.Proofs.YtllkflbkndfdeaaDoor
open Go Go.RowKit Go.Lib

structure Th where
  kd : Nat
  n : Nat
  str : ByteArray
/-- A text that is cut to a hundred bytes. -/
def cut (x : ByteArray) : ByteArray := x.extract 0 (min (x.size : Int) 100).toNat
theorem cut_size (x : ByteArray) : (cut x).size ≤ 100 := by unfold cut; simp; omega
/-- A thing's bytes. -/
def tb (x : Th) : List Nat :=
  if x.kd % 5 = 0 then enc x.n else if x.kd % 5 = 1 then enc (zz (wrap64 x.n)) else if x.kd % 5 = 2 then [x.n % 256] else if x.kd % 5 = 3 then enc (x.n % 2) else enc (cut x.str).size ++ byts (cut x.str)
def tbs : List Th → List Nat
  | [] => []
  | x :: l => tb x ++ tbs l
theorem tbs_append (l m : List Th) : tbs (l ++ m) = tbs l ++ tbs m := by
  induction l with
  | nil => rfl
  | cons b l ih => simp [tbs, ih]
/-- A slice value reads as these things. -/
def Ths (w : World) (v : Value) (l : List Th) : Prop :=
  ∃ A c, v = .slice A l.length c ∧ (l = [] ∨ ∃ ad : Addr, A = some ad ∧ ad.block < w.heap.size ∧ ∀ j x, l[j]? = some x → w.cell? (ad.add (j * 3)) = some (.int .u8 x.kd) ∧ w.cell? (ad.add (j * 3 + 1)) = some (.int .u64 x.n) ∧ w.cell? (ad.add (j * 3 + 2)) = some (.string x.str))
def okTh (x : Th) : Prop := x.kd < 256 ∧ x.n < 18446744073709551616 ∧ x.str.size ≤ 9223372036854775807

theorem own_below {w w' : World} {B e size n : Nat} {v : Value} {xs : List Value} (h : w.ownsRow B e size v n xs) (hb : Below w.heap.size w w') : w'.ownsRow B e size v n xs := by
  refine ⟨h.1, ?_⟩
  rcases h.2 with hn | ⟨g, cap, cur, hv, hB, hg, rest⟩
  · exact .inl hn
  · refine .inr ⟨g, cap, cur, hv, hB, ?_, rest⟩
    rw [hb.block g (by
      rcases Nat.lt_or_ge g w.heap.size with h1 | h1
      · exact h1
      · rw [Array.getElem?_eq_none h1] at hg; cases hg)]
    exact hg
theorem own_rd {w : World} {B e n : Nat} {v : Value} {xs : List Value} (h : w.ownsRow B e 1 v n xs) : ∃ A c, v = .slice A n c ∧ Rd w w.heap.size A n c xs := by
  have hlen : xs.length = n := by have := h.1; omega
  rcases h.2 with ⟨rfl, rfl⟩ | ⟨g, cap, cur, rfl, _, hg, _⟩
  · exact ⟨none, 0, rfl, hlen, fun _ => ⟨rfl, rfl⟩, fun _ e => by cases e⟩
  · refine ⟨_, cap, rfl, hlen, (fun e => by cases e), ?_⟩
    rintro ad e
    cases e
    refine ⟨fun _ => ?_, h.cells (g := g) rfl⟩
    show g < w.heap.size
    rcases Nat.lt_or_ge g w.heap.size with h1 | h1
    · exact h1
    · rw [Array.getElem?_eq_none h1] at hg; cases hg
theorem int_cell (x : Int) (W : World) : ∀ (j : Nat) u, [Value.int .i64 x][j]? = some u → (W.alloc (.cells #[.int .i64 x] 3)).cell? ((⟨W.heap.size, 0, none⟩ : Addr).add j) = some u := by
  intro j u hu
  rw [Go.Ev.add_lit, Nat.zero_add, World.cell?_alloc_at _ _ _ _ rfl]
  simpa using hu
theorem int_one (k : IntKind) (x : Int) : ∀ u ∈ [Value.int k x], u.oneCell' = true := by
  intro u hu
  simp at hu
  subst hu
  rfl
theorem apart_ne {a b : Option Nat} (h : ∀ x, a = some x → b ≠ some x) : b = none ∨ b ≠ a := by
  cases b with
  | none => exact .inl rfl
  | some y => exact .inr fun e => h y e.symm rfl
theorem apart_flip {a b : Option Nat} (h : ∀ x, a = some x → b ≠ some x) : ∀ x, b = some x → a ≠ some x := fun x hb ha => h x ha hb
theorem fresh_apart {w : World} {B e n : Nat} {v v' u : Value} {xs : List Value} (h : ∀ x, v.ownBlock = some x → u.ownBlock ≠ some x) (hu : w.ownsRow B e 1 u n xs) (hat : v'.ownBlock = v.ownBlock ∨ v'.ownBlock = some w.heap.size) : ∀ x, v'.ownBlock = some x → u.ownBlock ≠ some x := by
  intro x hx hux
  rcases hat with e1 | e1
  · exact h x (e1.symm.trans hx) hux
  · rw [e1] at hx
    cases hx
    have := (hu.lt _ hux).2
    omega
/-- A row that was made above another one is apart from it. -/
theorem new_apart {w w' : World} {B e n e' n' : Nat} {v u : Value} {xs ys : List Value} (hv : w'.ownsRow w.heap.size e 1 v n xs) (hu : w.ownsRow B e' 1 u n' ys) : ∀ x, v.ownBlock = some x → u.ownBlock ≠ some x := fun x hx hux => by
  have h1 := (hv.lt x hx).1
  have h2 := (hu.lt x hux).2
  omega
theorem int_info : (Tryd.prog.info? 3).map (fun i => (i.zero, i.size, i.bytes)) = some (some (.int .i64 0), 1, 8) := by kernel_rfl
/-- Where each thing begins. -/
def plc (l : List Th) (k : Nat) : List Value := (List.range k).map fun i => Value.int .i64 ((tbs (l.take i)).length : Int)
theorem plc_snoc (l : List Th) (k : Nat) : plc l (k + 1) = plc l k ++ [.int .i64 ((tbs (l.take k)).length : Int)] := by
  unfold plc
  rw [List.range_succ, List.map_append]
  rfl
theorem wrap64_range (n : Int) : -9223372036854775808 ≤ wrap64 n ∧ wrap64 n < 9223372036854775808 := by unfold wrap64; omega
theorem tb_len (x : Th) (h : okTh x) : (tb x).length ≤ 110 := by
  unfold tb
  split
  · have := (enc_len h.2.1).2; omega
  split
  · have := (enc_len (zz_lt (wrap64_range (x.n : Int)).1 (wrap64_range (x.n : Int)).2)).2; omega
  split
  · simp
  split
  · have := (enc_len (n := x.n % 2) (by omega)).2; omega
  · have h1 := (enc_len (n := (cut x.str).size) (by have := cut_size x.str; omega)).2
    have h2 := cut_size x.str
    rw [List.length_append, byts_len]
    omega
theorem tbs_len (l : List Th) (h : ∀ x ∈ l, okTh x) : (tbs l).length ≤ 110 * l.length := by
  induction l with
  | nil => simp [tbs]
  | cons x l ih =>
    have h1 := tb_len x (h x (by simp))
    have h2 := ih (fun y hy => h y (by simp [hy]))
    simp [tbs]
    omega
theorem addr_next (a : Addr) (n m : Nat) (hm : m ≠ 0) : (⟨(a.add n).block, (a.add n).off + m, none⟩ : Addr) = a.add (n + m) := by
  unfold Addr.add
  by_cases hn : n = 0
  · subst hn
    simp [hm]
  · rw [if_neg hn, if_neg (by omega)]
    simp [Nat.add_assoc]
structure B1 (l : List Th) (w : World) (b pl : Value) (k : Nat) (wr : World) : Prop where
  kl : k ≤ l.length
  hb : wr.ownsRow w.heap.size 5 1 b (tbs (l.take k)).length (u8s (tbs (l.take k)))
  hp : wr.ownsRow w.heap.size 3 1 pl k (plc l k)
  ap : ∀ x, b.ownBlock = some x → pl.ownBlock ≠ some x
  below : Below w.heap.size w wr

theorem byte_cell (x : Int) (W : World) : ∀ (j : Nat) u, [Value.int .u8 x][j]? = some u → (W.alloc (.cells #[.int .u8 x] 5)).cell? ((⟨W.heap.size, 0, none⟩ : Addr).add j) = some u := by
  intro j u hu
  rw [Go.Ev.add_lit, Nat.zero_add, World.cell?_alloc_at _ _ _ _ rfl]
  simpa using hu
theorem u8s_byts (s : ByteArray) : u8s (byts s) = strCells s := by
  unfold u8s byts strCells
  rw [List.map_map]
  rfl
theorem text_own {w' : World} {B n : Nat} {v : Value} {xs : List Value} {s : ByteArray} (h : w'.ownsRow B 5 1 v (n + (enc s.size).length + s.size) (xs ++ u8s (enc s.size) ++ strCells s)) : w'.ownsRow B 5 1 v (n + (enc s.size ++ byts s).length) (xs ++ u8s (enc s.size ++ byts s)) := by
  have e : u8s (enc s.size ++ byts s) = u8s (enc s.size) ++ strCells s := by
    rw [← u8s_byts]; simp [u8s]
  rw [e, List.length_append, byts_len, ← List.append_assoc, ← Nat.add_assoc]
  exact h
theorem own_rd' {w : World} {B e n c : Nat} {A : Option Addr} {xs : List Value} (h : w.ownsRow B e 1 (.slice A n c) n xs) : Rd w w.heap.size A n c xs := by
  obtain ⟨A', c', e1, hr⟩ := own_rd h
  cases e1
  exact hr
theorem b1_step {t : List Th} {w w' : World} {k : Nat} {x : Th} {Bs l' : List Nat} {b' pl : Value} {h1 : k < t.length} (hx : x = t[k]'h1) (hk : k < t.length) (hBs : Bs = tbs (t.take k)) (hl : tb x = l')
    (hb : w'.ownsRow w.heap.size 5 1 b' (Bs.length + l'.length) (u8s Bs ++ u8s l')) (hp : w'.ownsRow w.heap.size 3 1 pl (k + 1) (plc t (k + 1))) (ha : ∀ x, b'.ownBlock = some x → pl.ownBlock ≠ some x) (hw : Below w.heap.size w w') : B1 t w b' pl (k + 1) w' := by
  have e : tbs (t.take (k + 1)) = Bs ++ l' := by
    rw [List.take_succ_eq_append_getElem hk, tbs_append, ← hBs, ← hl, hx]
    simp [tbs]
  refine ⟨by omega, ?_, hp, ha, hw⟩
  rw [e, List.length_append, show u8s (Bs ++ l') = u8s Bs ++ u8s l' by simp [u8s]]
  exact hb


theorem drop_tbs (t : List Th) (k : Nat) (h : k < t.length) : (tbs t).drop (tbs (t.take k)).length = tb (t[k]'h) ++ tbs (t.drop (k + 1)) := by
  have e : t = t.take k ++ (t[k]'h :: t.drop (k + 1)) := by
    rw [List.getElem_cons_drop, List.take_append_drop]
  have e2 : tbs t = tbs (t.take k) ++ (tb (t[k]'h) ++ tbs (t.drop (k + 1))) := by
    conv => lhs; rw [e]
    rw [tbs_append]; rfl
  rw [e2, List.drop_left]
theorem byts_lt (s : ByteArray) : ∀ y ∈ byts s, y < 256 := by
  intro y hy
  unfold byts at hy
  rw [List.mem_map] at hy
  obtain ⟨a, _, rfl⟩ := hy
  exact UInt8.toNat_lt a
theorem tb_lt (x : Th) : ∀ y ∈ tb x, y < 256 := by
  intro y hy
  unfold tb at hy
  split at hy
  · exact enc_small _ y hy
  split at hy
  · exact enc_small _ y hy
  split at hy
  · simp at hy; omega
  split at hy
  · exact enc_small _ y hy
  · rcases List.mem_append.1 hy with h | h
    · exact enc_small _ y h
    · exact byts_lt _ y h
theorem tbs_lt : ∀ (l : List Th), ∀ y ∈ tbs l, y < 256
  | [], y, hy => by cases hy
  | x :: l, y, hy => by
    rcases List.mem_append.1 hy with h | h
    · exact tb_lt x y h
    · exact tbs_lt l y h
theorem byts_sb (l : List Nat) (h : ∀ y ∈ l, y < 256) : byts (sb l) = l := by
  unfold byts sb
  simp only [List.map_map]
  conv => rhs; rw [← List.map_id l]
  refine List.map_congr_left fun y hy => ?_
  show (UInt8.ofNat y).toNat = y
  rw [UInt8.toNat_ofNat']
  exact Nat.mod_eq_of_lt (h y hy)
theorem sb_byts (s : ByteArray) : sb (byts s) = s := by
  unfold byts sb
  cases s with
  | mk d =>
    congr 1
    simp only [List.map_map]
    rw [show (UInt8.ofNat ∘ UInt8.toNat) = id from funext fun y => UInt8.ofNat_toNat, List.map_id, Array.toArray_toList]
/-- The bytes of a laid list, from its k-th thing on. -/
theorem laid_at (t : List Th) (k : Nat) (h : k < t.length) : (byts (sb (tbs t))).drop (tbs (t.take k)).length = tb (t[k]'h) ++ tbs (t.drop (k + 1)) := by
  rw [byts_sb _ (tbs_lt t)]
  exact drop_tbs t k h
theorem in_laid {S : ByteArray} {o : Nat} {l rest : List Nat} (h : (byts S).drop o = l ++ rest) (hl : l ≠ []) : o + l.length ≤ S.size := by
  have e := congrArg List.length h
  rw [List.length_drop, byts_len, List.length_append] at e
  have : 0 < l.length := List.length_pos_iff.2 hl
  omega
theorem whole_zz (N : Int) (h1 : -9223372036854775808 ≤ N) (h2 : N < 9223372036854775808) : whole (zz N) = N := by
  unfold zz whole
  split
  · rw [if_pos (by omega)]; omega
  · rw [if_neg (by omega)]; omega
theorem back_u {S : ByteArray} {o : Nat} {x : Th} {rest : List Nat} (hx : okTh x) (h : (byts S).drop o = tb x ++ rest) (hk : x.kd % 5 = 0) : bad S o = 0 ∧ num S o = x.n ∧ nxt S o = o + (tb x).length := by
  have e : tb x = enc x.n := by unfold tb; rw [if_pos hk]
  rw [e] at h ⊢
  exact read_enc hx.2.1 h
theorem back_i {S : ByteArray} {o : Nat} {x : Th} {rest : List Nat} (h : (byts S).drop o = tb x ++ rest) (hk : x.kd % 5 = 1) : bad S o = 0 ∧ whole (num S o) = wrap64 x.n ∧ nxt S o = o + (tb x).length := by
  have e : tb x = enc (zz (wrap64 x.n)) := by unfold tb; rw [if_neg (by omega), if_pos hk]
  rw [e] at h ⊢
  obtain ⟨h1, h2, h3⟩ := read_enc (zz_lt (wrap64_range _).1 (wrap64_range _).2) h
  refine ⟨h1, ?_, h3⟩
  rw [h2]
  exact whole_zz _ (wrap64_range _).1 (wrap64_range _).2
theorem back_b {S : ByteArray} {o : Nat} {x : Th} {rest : List Nat} (h : (byts S).drop o = tb x ++ rest) (hk : x.kd % 5 = 2) : badB S o = 0 ∧ octV S o = .int .u8 ((x.n : Int) % 256) ∧ nxtB S o = o + (tb x).length := by
  have e : tb x = [x.n % 256] := by unfold tb; rw [if_neg (by omega), if_neg (by omega), if_pos hk]
  rw [e] at h ⊢
  have hin := in_laid h (by simp)
  have hb : bt S o = x.n % 256 := by
    have := bt_byts S o 0
    rw [h] at this
    simpa using this
  simp only [List.length_singleton] at hin
  refine ⟨if_neg (by omega), ?_, if_neg (by omega)⟩
  unfold octV
  rw [hb]
  rfl
theorem enc_low {n : Nat} (h : n < 128) : enc n = [n] := by
  unfold enc
  rw [show n / 128 = 0 by omega, show n % 128 = n by omega]
  rfl
theorem back_t {S : ByteArray} {o : Nat} {x : Th} {rest : List Nat} (h : (byts S).drop o = tb x ++ rest) (hk : x.kd % 5 = 3) : badT S o = 0 ∧ truV S o = .bool (decide (x.n % 2 = 1)) ∧ nxtT o = o + (tb x).length := by
  have e : tb x = [x.n % 2] := by
    unfold tb; rw [if_neg (by omega), if_neg (by omega), if_neg (by omega), if_pos hk]
    exact enc_low (by omega)
  rw [e] at h ⊢
  have hin := in_laid h (by simp)
  have hb : bt S o = x.n % 2 := by
    have := bt_byts S o 0
    rw [h] at this
    simpa using this
  simp only [List.length_singleton] at hin
  refine ⟨?_, ?_, rfl⟩
  · unfold badT
    rw [if_neg (by omega), hb, if_neg (by omega)]
  · unfold truV
    rw [hb]
theorem byts_extract (S : ByteArray) (a b : Nat) : byts (S.extract a b) = ((byts S).drop a).take (b - a) := by
  unfold byts
  rw [← List.map_drop, ← List.map_take]
  congr 1
  rw [ByteArray.data_extract, Array.toList_extract, List.extract_eq_take_drop]
theorem byts_inj {a b : ByteArray} (h : byts a = byts b) : a = b := by
  rw [← sb_byts a, h, sb_byts]
theorem back_x {S : ByteArray} {o : Nat} {x : Th} {rest : List Nat} (h : (byts S).drop o = tb x ++ rest) (hk : x.kd % 5 = 4) : badX S o 100 = 0 ∧ txtV S o = .string (cut x.str) ∧ nxtX S o = o + (tb x).length := by
  have e : tb x = enc (cut x.str).size ++ byts (cut x.str) := by unfold tb; rw [if_neg (by omega), if_neg (by omega), if_neg (by omega), if_neg (by omega)]
  have hc := cut_size x.str
  rw [e, List.append_assoc] at h
  obtain ⟨h1, h2, h3⟩ := read_enc (by omega) h
  have hne : enc (cut x.str).size ++ byts (cut x.str) ≠ [] := by
    unfold enc; simp
  have hin := in_laid (by rw [List.append_assoc]; exact h) hne
  rw [List.length_append, byts_len] at hin
  refine ⟨?_, ?_, ?_⟩
  · unfold badX
    rw [if_neg (by omega), if_neg (by rw [h1]; simp), if_neg (by rw [h2]; omega), if_neg (by rw [h2, h3]; omega)]
  · unfold txtV
    congr 1
    apply byts_inj
    rw [byts_extract, h2, h3, Nat.add_sub_cancel_left, ← List.drop_drop, h, List.drop_left, ← byts_len, List.take_left]
  · unfold nxtX
    rw [h2, h3, e, List.length_append, byts_len]
    omega
/-- What is read of any bytes is laid as those bytes: one more number. -/
theorem again_step {s : ByteArray} {k : Nat} (h : bad s k = 0) : (byts s).take (nxt s k) = (byts s).take k ++ enc (num s k) := by
  obtain ⟨h1, h2, _⟩ := enc_read h
  rw [← h1, h2, List.take_add]
theorem nxt_stays {s : ByteArray} {k : Nat} (h : bad s k ≠ 0) : nxt s k = k := by
  unfold nxt
  rw [if_neg h]
theorem sb_take (s : ByteArray) (k : Nat) : sb ((byts s).take k) = s.extract 0 k := by
  apply byts_inj
  rw [byts_extract, byts_sb]
  · rfl
  · intro y hy
    exact byts_lt s y (List.mem_of_mem_take hy)
theorem u8s_sb {l : List Nat} (h : ∀ y ∈ l, y < 256) : u8s l = strCells (sb l) := by
  rw [← u8s_byts, byts_sb l h]
theorem rd_text {w : World} {B : Nat} {A : Option Addr} {m c : Nat} {X : ByteArray} (hr : Rd w B A m c (strCells X)) : (convert 61 9 (.slice A m c)).run Tryd.prog w = .ok (.string X) w := by
  have hx : X.size = m := by
    have := hr.1
    rwa [strCells_length] at this
  cases A with
  | none =>
    obtain ⟨rfl, rfl⟩ := hr.2.1 rfl
    have hX : X.data = #[] := Array.eq_empty_of_size_eq_zero hx
    have := run_convert_bytes_nil (P := Tryd.prog) w 61 5 Tryd.underlying61 Tryd.underlying5 0 0 9 Tryd.underlying9
    rw [show X = ByteArray.empty from ByteArray.ext hX]
    exact this
  | some ad =>
    have := run_convert_bytes_back (P := Tryd.prog) w 61 9 5 ad c X.data.toList Tryd.underlying61 Tryd.underlying5 Tryd.underlying9 (fun j hj => (hr.2.2 ad rfl).2 j _ (by simp [strCells, List.getElem?_eq_getElem hj]))
    rw [Array.length_toList] at this
    have hx' : X.data.size = m := hx
    rw [hx'] at this
    exact this
/-- Bytes laid in a row read as their text. -/
theorem own_text {w : World} {B c : Nat} {A : Option Addr} {l : List Nat} (hl : ∀ y ∈ l, y < 256) (h : w.ownsRow B 5 1 (.slice A l.length c) l.length (u8s l)) : (convert 61 9 (.slice A l.length c)).run Tryd.prog w = .ok (.string (sb l)) w := by
  have hr := own_rd' h
  rw [u8s_sb hl] at hr
  exact rd_text hr
theorem off_le (t : List Th) (k : Nat) : (tbs (t.take k)).length ≤ (tbs t).length := by
  conv => rhs; rw [← List.take_append_drop k t]
  rw [tbs_append, List.length_append]
  omega
theorem off_next (t : List Th) (k : Nat) (h : k < t.length) : (tbs (t.take (k + 1))).length = (tbs (t.take k)).length + (tb (t[k]'h)).length := by
  rw [List.take_succ_eq_append_getElem h, tbs_append]
  simp [tbs]
theorem plc_at (t : List Th) (n k : Nat) (h : k < n) : (plc t n)[k]? = some (.int .i64 ((tbs (t.take k)).length : Int)) := by
  simp [plc, h]
theorem Off.cellE {g : Nat} {a w : World} (h : Off g a w) {p : Addr} (hp : p.block < a.heap.size) (hg : p.block ≠ g) : w.cell? p = a.cell? p := World.cell?_of_block (w := a) (h.block p.block hp hg)
/-- A row that lies above the reader's block is kept as the reader reads. -/
theorem own_off {w w' : World} {B e size n g : Nat} {v : Value} {xs : List Value} (h : w.ownsRow B e size v n xs) (ho : Off g w w') (hgB : g < B) : w'.ownsRow B e size v n xs := by
  refine ⟨h.1, ?_⟩
  rcases h.2 with hn | ⟨b, cap, cur, hv, hB, hg, rest⟩
  · exact .inl hn
  · refine .inr ⟨b, cap, cur, hv, hB, ?_, rest⟩
    rw [ho.block b (by
      rcases Nat.lt_or_ge b w.heap.size with h1 | h1
      · exact h1
      · rw [Array.getElem?_eq_none h1] at hg; cases hg) (by omega)]
    exact hg
theorem KEnd.good {b : Nat} {v z : Value} {x k g : Nat} {s : ByteArray} {w w' : World} {e : Ending} (h : KEnd b v z x k g s w e w') (hb : b = 0) : e = .returned (.tuple #[v, .nilIface]) ∧ Off g w w' ∧ Rdr w' g s x := by
  rcases h.2 with h1 | h1
  · exact ⟨h1.2.1, h.1, h1.2.2⟩
  · exact absurd hb h1.1
theorem again_len {X : ByteArray} {o : Nat} (hb : bad X o = 0) : nxt X o = o + (enc (num X o)).length := by
  obtain ⟨h1, h3, h4⟩ := enc_read hb
  have h5 : (enc (num X o)).length = runAt X o + 1 := by
    rw [← h1, List.length_take, List.length_drop, byts_len]
    omega
  omega
theorem again_row {w : World} {B : Nat} {v : Value} {X : ByteArray} {o : Nat} (hb : bad X o = 0) (h : w.ownsRow B 5 1 v (o + (enc (num X o)).length) (u8s ((byts X).take o) ++ u8s (enc (num X o)))) : w.ownsRow B 5 1 v (nxt X o) (u8s ((byts X).take (nxt X o))) := by
  rw [again_step hb, again_len hb, show u8s ((byts X).take o ++ enc (num X o)) = u8s ((byts X).take o) ++ u8s (enc (num X o)) by simp [u8s]]
  exact h
theorem KEnd.fault {b : Nat} {v z : Value} {x k g : Nat} {s : ByteArray} {w w' : World} {e : Ending} (h : KEnd b v z x k g s w e w') (hb : b ≠ 0) : ∃ F, e = .returned (.tuple #[z, .iface 84 (.pointer (some ⟨F, 0, none⟩))]) ∧ Off g w w' ∧ Rdr w' g s k := by
  rcases h.2 with h1 | ⟨_, F, h1, _, _, _, _, h2⟩
  · exact absurd h1.1 hb
  · exact ⟨F, h1, h.1, h2⟩
end Go.Proofs.YtllkflbkndfdeaaDoor
