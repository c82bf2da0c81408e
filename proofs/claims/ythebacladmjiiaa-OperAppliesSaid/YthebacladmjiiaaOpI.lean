/-
  works(), by evaluation.
-/
import Derived.Test.YthebacladmjiiaaOpH
namespace Go.Proofs.Ythebacladmjiiaa
open Go Go.RowKit Go.Lib Go.Ev

set_option maxRecDepth 1000000 in
theorem works_t : isTrue (acall Try.prog 0 orc 1000000 13 [] h00) = true := by kernel_rfl
theorem works (w : World) : Calls Try.prog 13 #[] w fun e w' => e = .returned (.bool true) ∧ Below w.heap.size w w' := closed_here works_t w
end Go.Proofs.Ythebacladmjiiaa
