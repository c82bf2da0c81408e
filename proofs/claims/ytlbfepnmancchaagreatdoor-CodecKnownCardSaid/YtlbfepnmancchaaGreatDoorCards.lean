/-
  DERIVED. GIVEN WITH THE SEED: THE CARDS: each row of YtlbfepnmancchaaGreatDoorRows.lean that lists a variable, with what it lists TIED to the program's text (the seventh form; the later family's looks); each row that meets fmt, with fmt's text TOLD by the authors' own Lean function (tested against real Go, not proved from fmt's source: count such statements apart). THE CARD IS WHAT COUNTS. Prove the row's statement (the work); the ties are given (YtlbfepnmancchaaGreatDoorTie.lean); close each card by the builder's one call (the guide's Derived/Test/ToyasCard.lean, 'card_holds'). Laid BY PROGRAM, IN A SANDBOX (cutbox-door.mjs). By AI agents, Wed Nov 11 2026. No macro, syntax, notation, axiom, sorry.
-/
import Derived.Test.YtlbfepnmancchaaGreatDoorRows
import GoSem.ClaimSeven
namespace Go.Proofs.YtlbfepnmancchaaGreatDoor
namespace Rows

/-- THE TIED CARD OF 'anabranchlaw03.CodecLays'. -/
def codecLaysCard : Claim7 := { stood := { row := codecLaysRow, standIns := [], harness := (true, "97d983d54b9efcd83daa6946a30782c8d6113411fc433b40c2dca37950c3d50c"), looks := true }, kinds := [], alts := [], laidByText := true, laidKinds := [.handle], laidTests := true, laidLooks := .later }
def CodecLaysCardSaid : Prop := Claim7.holds Tryz.pinned (.plain (OpenSpec.ofChange codecLaysSpec)) codecLaysCard

/-- THE TIED CARD OF 'anabranchlaw03.CodecReads'. -/
def codecReadsCard : Claim7 := { stood := { row := codecReadsRow, standIns := [], harness := (true, "97d983d54b9efcd83daa6946a30782c8d6113411fc433b40c2dca37950c3d50c"), looks := true }, kinds := [], alts := [], laidByText := true, laidKinds := [.handle], laidTests := true, laidLooks := .later }
def CodecReadsCardSaid : Prop := Claim7.holds Tryz.pinned (.plain (OpenSpec.ofChange codecReadsSpec)) codecReadsCard

/-- THE TIED CARD OF 'anabranchlaw03.CodecBack'. -/
def codecBackCard : Claim7 := { stood := { row := codecBackRow, standIns := [], harness := (true, "97d983d54b9efcd83daa6946a30782c8d6113411fc433b40c2dca37950c3d50c"), looks := true }, kinds := [], alts := [], laidByText := true, laidKinds := [.handle], laidTests := true, laidLooks := .later }
def CodecBackCardSaid : Prop := Claim7.holds Tryz.pinned (.plain (OpenSpec.ofChange codecBackSpec)) codecBackCard

/-- THE TIED CARD OF 'anabranchlaw03.CodecParts'. -/
def codecPartsCard : Claim7 := { stood := { row := codecPartsRow, standIns := [], harness := (true, "97d983d54b9efcd83daa6946a30782c8d6113411fc433b40c2dca37950c3d50c"), looks := true }, kinds := [], alts := [], laidByText := true, laidKinds := [.handle], laidTests := true, laidLooks := .later }
def CodecPartsCardSaid : Prop := Claim7.holds Tryz.pinned (.plain (OpenSpec.ofChange codecPartsSpec)) codecPartsCard

/-- THE TIED CARD OF 'anabranchlaw03.CodecKnown'. -/
def codecKnownCard : Claim7 := { stood := { row := codecKnownRow, standIns := [], harness := (true, "97d983d54b9efcd83daa6946a30782c8d6113411fc433b40c2dca37950c3d50c"), looks := true }, kinds := [], alts := [], laidByText := true, laidKinds := [.handle], laidTests := true, laidLooks := .later }
def CodecKnownCardSaid : Prop := Claim7.holds Tryz.pinned (.plain (OpenSpec.ofChange codecKnownSpec)) codecKnownCard

/-- THE SECOND FORM's CARD OF 'anabranchlaw03.CodecLays'. -/
def codecLaysUptoCard : Claim7 := { stood := { row := codecLaysUptoRow, standIns := [], harness := (true, "97d983d54b9efcd83daa6946a30782c8d6113411fc433b40c2dca37950c3d50c"), looks := true }, kinds := [], alts := [], laidByText := true, laidKinds := [.handle], laidTests := true, laidLooks := .later }
def CodecLaysUptoCardSaid : Prop := Claim7.holds Tryz.pinned (.plain (OpenSpec.upto codecLaysSpec)) codecLaysUptoCard

/-- THE SECOND FORM's CARD OF 'anabranchlaw03.CodecReads'. -/
def codecReadsUptoCard : Claim7 := { stood := { row := codecReadsUptoRow, standIns := [], harness := (true, "97d983d54b9efcd83daa6946a30782c8d6113411fc433b40c2dca37950c3d50c"), looks := true }, kinds := [], alts := [], laidByText := true, laidKinds := [.handle], laidTests := true, laidLooks := .later }
def CodecReadsUptoCardSaid : Prop := Claim7.holds Tryz.pinned (.plain (OpenSpec.upto codecReadsSpec)) codecReadsUptoCard

/-- THE SECOND FORM's CARD OF 'anabranchlaw03.CodecBack'. -/
def codecBackUptoCard : Claim7 := { stood := { row := codecBackUptoRow, standIns := [], harness := (true, "97d983d54b9efcd83daa6946a30782c8d6113411fc433b40c2dca37950c3d50c"), looks := true }, kinds := [], alts := [], laidByText := true, laidKinds := [.handle], laidTests := true, laidLooks := .later }
def CodecBackUptoCardSaid : Prop := Claim7.holds Tryz.pinned (.plain (OpenSpec.upto codecBackSpec)) codecBackUptoCard

/-- THE SECOND FORM's CARD OF 'anabranchlaw03.CodecParts'. -/
def codecPartsUptoCard : Claim7 := { stood := { row := codecPartsUptoRow, standIns := [], harness := (true, "97d983d54b9efcd83daa6946a30782c8d6113411fc433b40c2dca37950c3d50c"), looks := true }, kinds := [], alts := [], laidByText := true, laidKinds := [.handle], laidTests := true, laidLooks := .later }
def CodecPartsUptoCardSaid : Prop := Claim7.holds Tryz.pinned (.plain (OpenSpec.upto codecPartsSpec)) codecPartsUptoCard

/-- THE SECOND FORM's CARD OF 'anabranchlaw03.CodecKnown'. -/
def codecKnownUptoCard : Claim7 := { stood := { row := codecKnownUptoRow, standIns := [], harness := (true, "97d983d54b9efcd83daa6946a30782c8d6113411fc433b40c2dca37950c3d50c"), looks := true }, kinds := [], alts := [], laidByText := true, laidKinds := [.handle], laidTests := true, laidLooks := .later }
def CodecKnownUptoCardSaid : Prop := Claim7.holds Tryz.pinned (.plain (OpenSpec.upto codecKnownSpec)) codecKnownUptoCard
end Rows
end Go.Proofs.YtlbfepnmancchaaGreatDoor
