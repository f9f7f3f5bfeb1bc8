/-
  DERIVED. GIVEN WITH THE SEED: THE CARDS: each row of YtfnaelmgdjkchaaDoorRows.lean that lists a variable, with what it lists TIED to the program's text (the seventh form; the later family's looks); each row that meets fmt, with fmt's text TOLD by the authors' own Lean function (tested against real Go, not proved from fmt's source: count such statements apart). THE CARD IS WHAT COUNTS. Prove the row's statement (the work); the ties are given (YtfnaelmgdjkchaaDoorTie.lean); close each card by the builder's one call (the guide's Derived/Test/ToyasCard.lean, 'card_holds'). Laid BY PROGRAM, IN A SANDBOX (cutbox-door.mjs). By AI agents, Wed Nov 11 2026. No macro, syntax, notation, axiom, sorry.
-/
import Derived.Test.YtfnaelmgdjkchaaDoorRows
import GoSem.ClaimSeven
namespace Go.Proofs.YtfnaelmgdjkchaaDoor
namespace Rows

/-- THE TIED CARD OF 'strongroomlaw3.PolyNumbers'. -/
def polyNumbersCard : Claim7 := { stood := { row := polyNumbersRow, standIns := [], harness := (true, "e229f2ab93315e4a6cbc08a25b509821e65b63fa5816f29c724572fae1200075"), looks := false }, kinds := [], alts := [], laidByText := true, laidKinds := [.data], laidTests := true, laidLooks := .later }
def PolyNumbersCardSaid : Prop := Claim7.holds Tryd.pinned (.plain (OpenSpec.ofChange polyNumbersSpec)) polyNumbersCard

/-- THE TIED CARD OF 'strongroomlaw3.PolyTells'. -/
def polyTellsCard : Claim7 := { stood := { row := polyTellsRow, standIns := [], harness := (true, "e229f2ab93315e4a6cbc08a25b509821e65b63fa5816f29c724572fae1200075"), looks := false }, kinds := [], alts := [], laidByText := true, laidKinds := [.data], laidTests := true, laidLooks := .later }
def PolyTellsCardSaid : Prop := Claim7.holds Tryd.pinned (.plain (OpenSpec.ofChange polyTellsSpec)) polyTellsCard

/-- THE TIED CARD OF 'strongroomlaw3.PolyLine'. -/
def polyLineCard : Claim7 := { stood := { row := polyLineRow, standIns := [], harness := (true, "e229f2ab93315e4a6cbc08a25b509821e65b63fa5816f29c724572fae1200075"), looks := false }, kinds := [], alts := [], laidByText := true, laidKinds := [.data], laidTests := true, laidLooks := .later }
def PolyLineCardSaid : Prop := Claim7.holds Tryd.pinned (.plain (OpenSpec.ofChange polyLineSpec)) polyLineCard

/-- THE TIED CARD OF 'strongroomlaw3.PolyOne'. -/
def polyOneCard : Claim7 := { stood := { row := polyOneRow, standIns := [], harness := (true, "e229f2ab93315e4a6cbc08a25b509821e65b63fa5816f29c724572fae1200075"), looks := false }, kinds := [], alts := [], laidByText := true, laidKinds := [.data], laidTests := true, laidLooks := .later }
def PolyOneCardSaid : Prop := Claim7.holds Tryd.pinned (.plain (OpenSpec.ofChange polyOneSpec)) polyOneCard

/-- THE TIED CARD OF 'strongroomlaw3.PolyBlocks'. -/
def polyBlocksCard : Claim7 := { stood := { row := polyBlocksRow, standIns := [], harness := (true, "e229f2ab93315e4a6cbc08a25b509821e65b63fa5816f29c724572fae1200075"), looks := false }, kinds := [], alts := [], laidByText := true, laidKinds := [.data], laidTests := true, laidLooks := .later }
def PolyBlocksCardSaid : Prop := Claim7.holds Tryd.pinned (.plain (OpenSpec.ofChange polyBlocksSpec)) polyBlocksCard

/-- THE SECOND FORM's CARD OF 'strongroomlaw3.PolyNumbers'. -/
def polyNumbersUptoCard : Claim7 := { stood := { row := polyNumbersUptoRow, standIns := [], harness := (true, "e229f2ab93315e4a6cbc08a25b509821e65b63fa5816f29c724572fae1200075"), looks := false }, kinds := [], alts := [], laidByText := true, laidKinds := [.data], laidTests := true, laidLooks := .later }
def PolyNumbersUptoCardSaid : Prop := Claim7.holds Tryd.pinned (.plain (OpenSpec.upto polyNumbersSpec)) polyNumbersUptoCard

/-- THE SECOND FORM's CARD OF 'strongroomlaw3.PolyTells'. -/
def polyTellsUptoCard : Claim7 := { stood := { row := polyTellsUptoRow, standIns := [], harness := (true, "e229f2ab93315e4a6cbc08a25b509821e65b63fa5816f29c724572fae1200075"), looks := false }, kinds := [], alts := [], laidByText := true, laidKinds := [.data], laidTests := true, laidLooks := .later }
def PolyTellsUptoCardSaid : Prop := Claim7.holds Tryd.pinned (.plain (OpenSpec.upto polyTellsSpec)) polyTellsUptoCard

/-- THE SECOND FORM's CARD OF 'strongroomlaw3.PolyLine'. -/
def polyLineUptoCard : Claim7 := { stood := { row := polyLineUptoRow, standIns := [], harness := (true, "e229f2ab93315e4a6cbc08a25b509821e65b63fa5816f29c724572fae1200075"), looks := false }, kinds := [], alts := [], laidByText := true, laidKinds := [.data], laidTests := true, laidLooks := .later }
def PolyLineUptoCardSaid : Prop := Claim7.holds Tryd.pinned (.plain (OpenSpec.upto polyLineSpec)) polyLineUptoCard

/-- THE SECOND FORM's CARD OF 'strongroomlaw3.PolyOne'. -/
def polyOneUptoCard : Claim7 := { stood := { row := polyOneUptoRow, standIns := [], harness := (true, "e229f2ab93315e4a6cbc08a25b509821e65b63fa5816f29c724572fae1200075"), looks := false }, kinds := [], alts := [], laidByText := true, laidKinds := [.data], laidTests := true, laidLooks := .later }
def PolyOneUptoCardSaid : Prop := Claim7.holds Tryd.pinned (.plain (OpenSpec.upto polyOneSpec)) polyOneUptoCard

/-- THE SECOND FORM's CARD OF 'strongroomlaw3.PolyBlocks'. -/
def polyBlocksUptoCard : Claim7 := { stood := { row := polyBlocksUptoRow, standIns := [], harness := (true, "e229f2ab93315e4a6cbc08a25b509821e65b63fa5816f29c724572fae1200075"), looks := false }, kinds := [], alts := [], laidByText := true, laidKinds := [.data], laidTests := true, laidLooks := .later }
def PolyBlocksUptoCardSaid : Prop := Claim7.holds Tryd.pinned (.plain (OpenSpec.upto polyBlocksSpec)) polyBlocksUptoCard
end Rows
end Go.Proofs.YtfnaelmgdjkchaaDoor
