/-
  A message of few entries and bins.
-/
import Derived.Test.YtpfeaekankkpiaaGreatDoorEvKv
import Derived.Handy
import Derived.Lib.SmallJoins
import Derived.Laws.Tables
import Derived.Laws.CopyOwn
import Derived.Laws.Rows
namespace Go.Proofs.YtpfeaekankkpiaaGreatDoor
open Go Go.RowKit Go.Lib Go.Ev

theorem far2 {W : World} {p : Addr} {v : Value} {k : Nat} (h : k ≠ p.block) : (W.setCell p v).heap[k]? = W.heap[k]? := by
  unfold World.setCell
  simp only [Array.getElem?_modify]
  rw [if_neg (Ne.symm h)]
set_option maxRecDepth 100000 in
set_option maxHeartbeats 3200000 in
theorem few_any (x : MsgD) (Ab Ae : Option Addr) (cb ce nb ne mb me : Nat) (W : World) (h1 : min nb 12 = mb) (h2 : min ne 70 = me) (k1 : nb ≤ cb) (k2 : ne ≤ ce) :
    Calls Tryz.prog 4 #[.agg #[.int .i64 x.kind, .int .i64 x.ver, .int .u32 (x.rc.key : Nat), .int .i64 x.rc.time, .int .i64 x.rc.val, .int .u8 (x.rc.side : Nat), .bool x.rc.err, .bool x.rc.late, .int .i64 x.time, .int .i64 x.num, .int .i64 x.cmd.kind, .int .i64 x.cmd.at_, .slice Ab nb cb, .int .i64 x.cmd.dst, .int .i64 x.cmd.node, .int .i64 x.cmd.op.kind, .int .i64 x.cmd.op.a, .int .i64 x.cmd.op.b, .int .i64 x.cmd.op.agg, .int .i64 x.cmd.mode, .int .i64 x.chunk.bin, .int .i64 x.chunk.span, .bool x.chunk.last, .slice Ae ne ce]] W fun e w' => e = .returned (.agg #[.int .i64 x.kind, .int .i64 x.ver, .int .u32 (x.rc.key : Nat), .int .i64 x.rc.time, .int .i64 x.rc.val, .int .u8 (x.rc.side : Nat), .bool x.rc.err, .bool x.rc.late, .int .i64 x.time, .int .i64 x.num, .int .i64 x.cmd.kind, .int .i64 x.cmd.at_, .slice Ab mb cb, .int .i64 x.cmd.dst, .int .i64 x.cmd.node, .int .i64 x.cmd.op.kind, .int .i64 x.cmd.op.a, .int .i64 x.cmd.op.b, .int .i64 x.cmd.op.agg, .int .i64 x.cmd.mode, .int .i64 x.chunk.bin, .int .i64 x.chunk.span, .bool x.chunk.last, .slice Ae me ce]) ∧ Below W.heap.size W w' := by
  have HI1 : (if (12 : Int) < (nb : Int) then (12 : Int) else (nb : Int)) = (mb : Int) := by split <;> omega
  have HI2 : (if (70 : Int) < (ne : Int) then (70 : Int) else (ne : Int)) = (me : Int) := by split <;> omega
  have hm1 : mb ≤ cb := by omega
  have hm2 : me ≤ ce := by omega
  clear h1 h2
  go_enter Tryz.func4, Tryz.ntmps4
  go_upto_region 1 with (fail)
  obtain ⟨W1, hW1⟩ : ∃ W1, W1 = (W.alloc (.cells #[.int .i64 x.kind, .int .i64 x.ver, .int .u32 (x.rc.key : Nat), .int .i64 x.rc.time, .int .i64 x.rc.val, .int .u8 (x.rc.side : Nat), .bool x.rc.err, .bool x.rc.late, .int .i64 x.time, .int .i64 x.num, .int .i64 x.cmd.kind, .int .i64 x.cmd.at_, .slice Ab nb cb, .int .i64 x.cmd.dst, .int .i64 x.cmd.node, .int .i64 x.cmd.op.kind, .int .i64 x.cmd.op.a, .int .i64 x.cmd.op.b, .int .i64 x.cmd.op.agg, .int .i64 x.cmd.mode, .int .i64 x.chunk.bin, .int .i64 x.chunk.span, .bool x.chunk.last, .slice Ae ne ce] 35)).alloc (.cells #[.int .i64 0, .int .i64 0, .int .u32 0, .int .i64 0, .int .i64 0, .int .u8 0, .bool false, .bool false, .int .i64 0, .int .i64 0, .int .i64 0, .int .i64 0, .slice none 0 0, .int .i64 0, .int .i64 0, .int .i64 0, .int .i64 0, .int .i64 0, .int .i64 0, .int .i64 0, .int .i64 0, .int .i64 0, .bool false, .slice none 0 0] 35) := ⟨_, rfl⟩
  have HB1 : Hid (Below W.heap.size W W1) := Lib.hid (by rw [hW1]; go_grown)
  have HX : W1.heap[W.heap.size]? = some (.cells #[.int .i64 x.kind, .int .i64 x.ver, .int .u32 (x.rc.key : Nat), .int .i64 x.rc.time, .int .i64 x.rc.val, .int .u8 (x.rc.side : Nat), .bool x.rc.err, .bool x.rc.late, .int .i64 x.time, .int .i64 x.num, .int .i64 x.cmd.kind, .int .i64 x.cmd.at_, .slice Ab nb cb, .int .i64 x.cmd.dst, .int .i64 x.cmd.node, .int .i64 x.cmd.op.kind, .int .i64 x.cmd.op.a, .int .i64 x.cmd.op.b, .int .i64 x.cmd.op.agg, .int .i64 x.cmd.mode, .int .i64 x.chunk.bin, .int .i64 x.chunk.span, .bool x.chunk.last, .slice Ae ne ce] 35 (0, 0)) := by rw [hW1, Below.heap_alloc _ _ _ (by simp)]; exact heap_alloc_new W _
  have HY : W1.heap[W.heap.size + 1]? = some (.cells #[.int .i64 0, .int .i64 0, .int .u32 0, .int .i64 0, .int .i64 0, .int .u8 0, .bool false, .bool false, .int .i64 0, .int .i64 0, .int .i64 0, .int .i64 0, .slice none 0 0, .int .i64 0, .int .i64 0, .int .i64 0, .int .i64 0, .int .i64 0, .int .i64 0, .int .i64 0, .int .i64 0, .int .i64 0, .bool false, .slice none 0 0] 35 (0, 0)) := by rw [hW1]; exact heap_alloc2_new W _ _
  rw [← hW1]
  clear hW1
  have c12 : W1.cell? ⟨W.heap.size, 12, none⟩ = some (.slice Ab nb cb) := by simp only [World.cell?, HX]; rfl
  have c23 : W1.cell? ⟨W.heap.size, 23, none⟩ = some (.slice Ae ne ce) := by simp only [World.cell?, HX]; rfl
  have f12 : W1.frozen? ⟨W.heap.size, 12, none⟩ = false := by simp [World.frozen?, HX]
  have f23 : W1.frozen? ⟨W.heap.size, 23, none⟩ = false := by simp [World.frozen?, HX]
  have KX := Lib.hid HX
  have KY := Lib.hid HY
  clear HX HY
  go_upto_region 3 with (fail)
  obtain ⟨W2, hW2⟩ : ∃ W2, W2 = (W1.setCell ⟨W.heap.size, 12, none⟩ (.slice Ab mb cb)).setCell ⟨W.heap.size, 23, none⟩ (.slice Ae me ce) := ⟨_, rfl⟩
  have HX2 : W2.heap[W.heap.size]? = some (.cells #[.int .i64 x.kind, .int .i64 x.ver, .int .u32 (x.rc.key : Nat), .int .i64 x.rc.time, .int .i64 x.rc.val, .int .u8 (x.rc.side : Nat), .bool x.rc.err, .bool x.rc.late, .int .i64 x.time, .int .i64 x.num, .int .i64 x.cmd.kind, .int .i64 x.cmd.at_, .slice Ab mb cb, .int .i64 x.cmd.dst, .int .i64 x.cmd.node, .int .i64 x.cmd.op.kind, .int .i64 x.cmd.op.a, .int .i64 x.cmd.op.b, .int .i64 x.cmd.op.agg, .int .i64 x.cmd.mode, .int .i64 x.chunk.bin, .int .i64 x.chunk.span, .bool x.chunk.last, .slice Ae me ce] 35 (0, 0)) := by
    rw [hW2]
    exact Go.Joins.block_setCell (i := 23) (Go.Joins.block_setCell (i := 12) KX.out _) _
  have HY2 : W2.heap[W.heap.size + 1]? = some (.cells #[.int .i64 0, .int .i64 0, .int .u32 0, .int .i64 0, .int .i64 0, .int .u8 0, .bool false, .bool false, .int .i64 0, .int .i64 0, .int .i64 0, .int .i64 0, .slice none 0 0, .int .i64 0, .int .i64 0, .int .i64 0, .int .i64 0, .int .i64 0, .int .i64 0, .int .i64 0, .int .i64 0, .int .i64 0, .bool false, .slice none 0 0] 35 (0, 0)) := by
    rw [hW2, far2 (by simp), far2 (by simp)]
    exact KY.out
  have HB2 : Hid (Below W.heap.size W W2) := Lib.hid (by rw [hW2]; exact (HB1.out.setCell (p := ⟨W.heap.size, 12, none⟩) (Nat.le_refl _) _).setCell (p := ⟨W.heap.size, 23, none⟩) (Nat.le_refl _) _)
  rw [← hW2]
  clear hW2 c12 c23 f12 f23
  go_wp2_with (first
    | (refine wpList_load_row rfl 35 _ rfl W.heap.size rfl 35 _ (0, 0) _ HX2 Tryz.underlying35 rfl (by kernel_rfl) ?_)
    | (refine wpList_store_row rfl 35 _ _ rfl (W.heap.size + 1) _ rfl rfl 35 _ HY2 (by kernel_rfl) rfl (by kernel_rfl) ?_))
  refine bodyPost_ret (v := .agg #[.int .i64 x.kind, .int .i64 x.ver, .int .u32 (x.rc.key : Nat), .int .i64 x.rc.time, .int .i64 x.rc.val, .int .u8 (x.rc.side : Nat), .bool x.rc.err, .bool x.rc.late, .int .i64 x.time, .int .i64 x.num, .int .i64 x.cmd.kind, .int .i64 x.cmd.at_, .slice Ab mb cb, .int .i64 x.cmd.dst, .int .i64 x.cmd.node, .int .i64 x.cmd.op.kind, .int .i64 x.cmd.op.a, .int .i64 x.cmd.op.b, .int .i64 x.cmd.op.agg, .int .i64 x.cmd.mode, .int .i64 x.chunk.bin, .int .i64 x.chunk.span, .bool x.chunk.last, .slice Ae me ce]) ?_ rfl ⟨rfl, below_setRow HB2.out (by omega) _⟩
  exact results_cell_row (p := 2) (ty := 35) (by kernel_rfl) _ _ _ _ _ (0, 0) _ rfl (setRow_heap _ _ _ _ _ _ HY2) Tryz.underlying35 rfl (by kernel_rfl)
end Go.Proofs.YtpfeaekankkpiaaGreatDoor
