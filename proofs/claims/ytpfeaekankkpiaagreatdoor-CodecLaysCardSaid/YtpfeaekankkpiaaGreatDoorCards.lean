/-
  DERIVED. GIVEN WITH THE SEED: THE CARDS: each row of YtpfeaekankkpiaaGreatDoorRows.lean that lists a variable, with what it lists TIED to the program's text (the seventh form; the later family's looks); each row that meets fmt, with fmt's text TOLD by the authors' own Lean function (tested against real Go, not proved from fmt's source: count such statements apart). THE CARD IS WHAT COUNTS. Prove the row's statement (the work); the ties are given (YtpfeaekankkpiaaGreatDoorTie.lean); close each card by the builder's one call (the guide's Derived/Test/ToyasCard.lean, 'card_holds'). Laid BY PROGRAM, IN A SANDBOX (cutbox-door.mjs). By AI agents, Wed Nov 11 2026. No macro, syntax, notation, axiom, sorry.
-/
import Derived.Test.YtpfeaekankkpiaaGreatDoorRows
import GoSem.ClaimSeven
namespace Go.Proofs.YtpfeaekankkpiaaGreatDoor
namespace Rows

/-- THE TIED CARD OF 'anabranchlaw03.CodecLays'. -/
def codecLaysCard : Claim7 := { stood := { row := codecLaysRow, standIns := [], harness := (true, "05fef5c50fec1615301d8e24ef06d6d5481676ea7f2a6b3e4216c637e9398bf1"), looks := true }, kinds := [], alts := [], laidByText := true, laidKinds := [.handle], laidTests := true, laidLooks := .later }
def CodecLaysCardSaid : Prop := Claim7.holds Tryz.pinned (.plain (OpenSpec.ofChange codecLaysSpec)) codecLaysCard

/-- THE SECOND FORM's CARD OF 'anabranchlaw03.CodecLays'. -/
def codecLaysUptoCard : Claim7 := { stood := { row := codecLaysUptoRow, standIns := [], harness := (true, "05fef5c50fec1615301d8e24ef06d6d5481676ea7f2a6b3e4216c637e9398bf1"), looks := true }, kinds := [], alts := [], laidByText := true, laidKinds := [.handle], laidTests := true, laidLooks := .later }
def CodecLaysUptoCardSaid : Prop := Claim7.holds Tryz.pinned (.plain (OpenSpec.upto codecLaysSpec)) codecLaysUptoCard
end Rows
end Go.Proofs.YtpfeaekankkpiaaGreatDoor
