/-
  works(), by evaluation.
-/
import Derived.Test.YteiedknpmlemkaaWt
namespace Go.Proofs.Yteiedknpmlemkaa
open Go Go.RowKit Go.Lib Go.Ev

set_option maxRecDepth 1000000 in
theorem works_t : isTrue (acall Try.prog 0 orc 1000000 16 [] h00) = true := by kernel_rfl
theorem works (w : World) : Calls Try.prog 16 #[] w fun e w' => e = .returned (.bool true) ∧ Below w.heap.size w w' := closed_here works_t w

set_option maxRecDepth 1000000 in
theorem known_t : isTrue (acall Try.prog 0 orc 1000000 7 [] h00) = true := by kernel_rfl
theorem known (w : World) : Calls Try.prog 7 #[] w fun e w' => e = .returned (.bool true) ∧ Below w.heap.size w w' := closed_here known_t w
end Go.Proofs.Yteiedknpmlemkaa
