/-
  Frames: the walks of the program's Next, joined and Put, and of the document's Put.
-/
import Derived.Test.YtoknpadkkokbgaaFd
import Derived.Laws.IdiomStrings
namespace Go.Proofs.Ytoknpadkkokbgaa
open Go Go.RowKit Go.Lib

theorem clone_any (s : ByteArray) (w : World) (h : s.size ≤ 281474976710656) : Calls Try.prog 19 #[.string s] w fun e w' => e = .returned (.string s) ∧ Below w.heap.size w w' := by
  go_enter Try.func19, Try.ntmps19
  go_wp2_with (go_at_call 29; (with_reducible refine (Try.stringslite_Clone s w h).mono ?_); rintro e w1 ⟨rfl, hb⟩)
  go_ret
  exact ⟨rfl, hb⟩

set_option maxRecDepth 100000 in
set_option maxHeartbeats 800000 in
theorem next_any (s : ByteArray) (a : Int) (w : World) (hs : s.size ≤ 140737488355328) : Calls Try.prog 14 #[.string s, .int .i64 a] w (Told s a w) := by
  have K := Lib.hid (measured_any s a w hs)
  by_cases h : wrong s a = 0
  · obtain ⟨k, rfl⟩ : ∃ k : Nat, a = k := by
      refine ⟨a.toNat, ?_⟩
      have : ¬ (a < 0 ∨ (s.size : Int) < a) := by intro hc; unfold wrong at h; rw [if_pos hc] at h; omega
      omega
    have hl := len3_lt s k
    have hz : k + len3 s k + 5 ≤ s.size := by
      unfold wrong at h
      repeat (split at h; · simp at h)
      simp at *
      omega
    have HR := Lib.hid (read_good h)
    have e1 : MEnd s k w = fun e w' => e = .returned (.tuple #[.int .i64 (len3 s k), .int .i64 0]) ∧ Below w.heap.size w w' := by
      funext e w'; simp [MEnd, h]
    rw [e1] at K
    clear e1 h
    have hcs : (s.extract (k + 4) (k + 4 + len3 s k)).size ≤ 281474976710656 := by simp; omega
    have C : ∀ w, Calls Try.prog 19 #[.string (s.extract (k + 4) (k + 4 + len3 s k))] w fun e w' => e = .returned (.string (s.extract (k + 4) (k + 4 + len3 s k))) ∧ Below w.heap.size w w' := fun w => clone_any _ w hcs
    have HC := Lib.hid C
    clear C hcs
    have q1 : (0 : Int) ≤ (k : Int) + 4 := by omega
    have q2 : (k : Int) + 4 ≤ (k : Int) + 4 + (len3 s k : Int) := by omega
    have q3 : (k : Int) + 4 + (len3 s k : Int) ≤ (s.size : Int) := by omega
    go_enter Try.func14, Try.ntmps14
    go_wp2_with (first
      | (go_at_call 18; (with_reducible refine K.out.mono ?_); rintro e w1 ⟨rfl, hb1⟩)
      | (go_at_call 19; (with_reducible refine (HC.out _).mono ?_); rintro e w2 ⟨rfl, hb2⟩))
    go_ret3
    refine ⟨?_, hb1.trans (hb2.mono hb1.size)⟩
    rw [HR.out]
    rfl
  · have e0 : ((wrong s a : Int) != 0) = true := by simp; omega
    have HR : Hid (read s a = .tuple #[.string ⟨#[]⟩, .int .i64 a, .int .i64 (wrong s a)]) := Lib.hid (by simp [read, bodyOf, nextOf, h])
    have e1 : MEnd s a w = fun e w' => e = .returned (.tuple #[.int .i64 0, .int .i64 (wrong s a)]) ∧ Below w.heap.size w w' := by
      funext e w'; simp [MEnd, h]
    rw [e1] at K
    clear e1 h
    go_enter Try.func14, Try.ntmps14
    go_wp2_with (go_at_call 18; (with_reducible refine K.out.mono ?_); rintro e w1 ⟨rfl, hb1⟩)
    go_ret3
    refine ⟨?_, hb1⟩
    rw [HR.out]
    rfl

/-- The text of some bytes. -/
def sb (l : List Nat) : ByteArray := ⟨(l.map UInt8.ofNat).toArray⟩
theorem add_lit (b off n : Nat) : (⟨b, off, none⟩ : Addr).add n = ⟨b, off + n, none⟩ := by
  simp only [Addr.add]
  split <;> simp_all
theorem conv_lit (w : World) (l : List Nat) (hl : ∀ x ∈ l, x < 256) (c : Nat) :
    (convert 24 9 (.slice (some ⟨w.heap.size, 0, none⟩) l.length c)).run Try.prog (w.alloc (.cells (l.map fun x : Nat => Value.int .u8 (x : Int)).toArray 5)) = .ok (.string (sb l)) (w.alloc (.cells (l.map fun x : Nat => Value.int .u8 (x : Int)).toArray 5)) := by
  have := run_convert_bytes_back (P := Try.prog) (w.alloc (.cells (l.map fun x : Nat => Value.int .u8 (x : Int)).toArray 5)) 24 9 5 ⟨w.heap.size, 0, none⟩ c (l.map UInt8.ofNat) Try.underlying24 Try.underlying5 Try.underlying9 (fun j hj => by
    have hj' : j < l.length := by simpa using hj
    rw [add_lit, Nat.zero_add, World.cell?_alloc_at _ _ _ _ rfl]
    simp [List.getElem?_eq_getElem hj']
    have := hl _ (List.getElem_mem hj')
    omega)
  rw [List.length_map] at this
  exact this
/-- A body's frame. -/
def hd (n : Nat) : List Nat := [n / 65536, n / 256 % 256, n % 256]
def frm (s : ByteArray) : ByteArray := ⟨((([165] ++ (hd s.size).map UInt8.ofNat) ++ s.data.toList) ++ [90]).toArray⟩
def PutEnd (s : ByteArray) (w : World) (e : Ending) (w' : World) : Prop :=
  e = .returned (if 1048576 < s.size then .tuple #[.string ⟨#[]⟩, .int .i64 4] else .tuple #[.string (frm s), .int .i64 0]) ∧ Below w.heap.size w w'
theorem conv3 (n : Nat) (h : n ≤ 1048576) (w : World) (c : Nat) : (convert 24 9 (.slice (some ⟨w.heap.size, 0, none⟩) 3 c)).run Try.prog (w.alloc (.cells #[.int .u8 ((n : Int) / 65536), .int .u8 ((n : Int) / 256 % 256), .int .u8 ((n : Int) % 256)] 5))
    = .ok (.string (sb (hd n))) (w.alloc (.cells #[.int .u8 ((n : Int) / 65536), .int .u8 ((n : Int) / 256 % 256), .int .u8 ((n : Int) % 256)] 5)) := by
  have := conv_lit w (hd n) (by intro x hx; simp [hd] at hx; omega) c
  simpa [hd] using this
theorem conv4 (n : Nat) (h : n ≤ 1048576) (w : World) (c : Nat) : (convert 24 9 (.slice (some ⟨w.heap.size, 0, none⟩) 4 c)).run Try.prog (w.alloc (.cells #[.int .u8 165, .int .u8 ((n : Int) / 65536), .int .u8 ((n : Int) / 256 % 256), .int .u8 ((n : Int) % 256)] 5))
    = .ok (.string (sb (165 :: hd n))) (w.alloc (.cells #[.int .u8 165, .int .u8 ((n : Int) / 65536), .int .u8 ((n : Int) / 256 % 256), .int .u8 ((n : Int) % 256)] 5)) := by
  have := conv_lit w (165 :: hd n) (by intro x hx; simp [hd] at hx; omega) c
  simpa [hd] using this
theorem conv1 (w : World) (c : Nat) : (convert 24 9 (.slice (some ⟨w.heap.size, 0, none⟩) 1 c)).run Try.prog (w.alloc (.cells #[.int .u8 90] 5)) = .ok (.string ⟨#[90]⟩) (w.alloc (.cells #[.int .u8 90] 5)) :=
  conv_lit w [90] (by intro x hx; simp at hx; omega) c

theorem conv1' (w : World) (o : Obj) (c : Nat) : (convert 24 9 (.slice (some ⟨w.heap.size + 1, 0, none⟩) 1 c)).run Try.prog ((w.alloc o).alloc (.cells #[.int .u8 90] 5)) = .ok (.string ⟨#[90]⟩) ((w.alloc o).alloc (.cells #[.int .u8 90] 5)) := by
  have := conv1 (w.alloc o) c
  simpa using this
theorem sb_size (l : List Nat) : (sb l).size = l.length := by
  show (l.map UInt8.ofNat).toArray.size = _
  simp
theorem frm_eq (s : ByteArray) : (sb (165 :: hd s.size) ++ s) ++ ⟨#[90]⟩ = frm s := by
  apply ByteArray.ext
  simp [sb, frm, hd]
theorem join_eq (s : ByteArray) : (⟨(Lib.join ([⟨#[165]⟩, sb (hd s.size), s, ⟨#[90]⟩].map (·.data.toList)) (⟨#[]⟩ : ByteArray).data.toList).toArray⟩ : ByteArray) = frm s := by
  apply ByteArray.ext
  simp [sb, frm, Lib.join]

set_option maxRecDepth 100000 in
set_option maxHeartbeats 800000 in
theorem ref_put_any (s : ByteArray) (w : World) (hs : s.size ≤ 140737488355328) : Calls Try.prog 8 #[.string s] w (PutEnd s w) := by
  by_cases h : 1048576 < s.size
  · go_enter Try.func8, Try.ntmps8
    go_wp2
    go_ret2
    refine ⟨?_, Below.refl _ _⟩
    rw [if_pos h]
    rfl
  · have C4 := conv4 s.size (by omega)
    have C1 := conv1' w
    have F := Lib.hid (frm_eq s)
    have z1 : (sb (165 :: hd s.size)).size = 4 := by rw [sb_size]; rfl
    have z2 : (sb (165 :: hd s.size) ++ s).size = 4 + s.size := by rw [ByteArray.size_append, z1]
    have z3 : (⟨#[90]⟩ : ByteArray).size = 1 := rfl
    go_enter Try.func8, Try.ntmps8
    go_wp2
    go_ret2
    refine ⟨?_, ((Below.refl _ _).alloc (Nat.le_refl _) _).alloc (by simp) _⟩
    rw [if_neg h, ← F.out]
    rfl

theorem joined_any (g c : Nat) (s : ByteArray) (w : World) (hs : s.size ≤ 1048576) (hg : g < w.heap.size) (hc : 4 ≤ c)
    (h : ∀ (j : Nat) x, [(⟨#[165]⟩ : ByteArray), sb (hd s.size), s, ⟨#[90]⟩][j]? = some x → w.cell? ⟨g, j, none⟩ = some (.string x)) :
    Calls Try.prog 15 #[.slice (some ⟨g, 0, none⟩) 4 c] w fun e w' => e = .returned (.string (frm s)) ∧ Below w.heap.size w w' := by
  have K := Try.strings_Join g 0 c [⟨#[165]⟩, sb (hd s.size), s, ⟨#[90]⟩] ⟨#[]⟩ w (by simpa using h) hg (by simp) (by simpa using hc) (by
    have := congrArg (fun b : ByteArray => b.data.toList.length) (join_eq s)
    simp only [] at this
    rw [show ∀ l : List UInt8, (ByteArray.mk l.toArray).data.toList.length = l.length by intro l; simp] at this
    rw [this]
    simp [frm, hd]
    omega)
  rw [join_eq] at K
  have K' : Calls Try.prog 20 #[.slice (some ⟨g, 0, none⟩) 4 c, .string ⟨#[]⟩] w fun e w' => e = .returned (.string (frm s)) ∧ Below w.heap.size w w' := K
  have HK := Lib.hid K'
  clear K K' h
  go_enter Try.func15, Try.ntmps15
  go_wp2_with (go_at_call 20; (with_reducible refine HK.out.mono ?_); rintro e w1 ⟨rfl, hb⟩)
  go_ret
  exact ⟨rfl, hb⟩

set_option maxRecDepth 100000 in
set_option maxHeartbeats 800000 in
theorem put_any (s : ByteArray) (w : World) (hs : s.size ≤ 140737488355328) : Calls Try.prog 7 #[.string s] w (PutEnd s w) := by
  by_cases h : 1048576 < s.size
  · go_enter Try.func7, Try.ntmps7
    go_wp2
    go_ret2
    refine ⟨?_, Below.refl _ _⟩
    rw [if_pos h]
    rfl
  · have C3 := conv3 s.size (by omega)
    have K : ∀ o, Calls Try.prog 15 #[.slice (some ⟨w.heap.size + 1, 0, none⟩) 4 4] ((w.alloc o).alloc (.cells #[.string ⟨#[165]⟩, .string (sb (hd s.size)), .string s, .string ⟨#[90]⟩] 9))
        fun e w' => e = .returned (.string (frm s)) ∧ Below ((w.alloc o).alloc (.cells #[.string ⟨#[165]⟩, .string (sb (hd s.size)), .string s, .string ⟨#[90]⟩] 9)).heap.size ((w.alloc o).alloc (.cells #[.string ⟨#[165]⟩, .string (sb (hd s.size)), .string s, .string ⟨#[90]⟩] 9)) w' :=
      fun o => joined_any _ 4 s _ (by omega) (by simp) (Nat.le_refl _) (by
        intro j x hx
        rw [World.cell?_alloc_at _ _ _ _ (by simp)]
        match j with
        | 0 => simpa using hx
        | 1 => simpa using hx
        | 2 => simpa using hx
        | 3 => simpa using hx
        | j + 4 => simp at hx)
    have HK := Lib.hid K
    clear K
    go_enter Try.func7, Try.ntmps7
    go_wp2_with (go_at_call 15; (with_reducible refine (HK.out _).mono ?_); rintro e w1 ⟨rfl, hb⟩)
    go_ret2
    refine ⟨?_, (((Below.refl _ _).alloc (Nat.le_refl _) _).alloc (by simp) _).trans (hb.mono (by simp <;> omega))⟩
    rw [if_neg h]
    rfl
end Go.Proofs.Ytoknpadkkokbgaa
