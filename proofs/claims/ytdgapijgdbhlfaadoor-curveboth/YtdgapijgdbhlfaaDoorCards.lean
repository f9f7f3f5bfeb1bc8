/-
  DERIVED. GIVEN WITH THE SEED: THE CARDS: each row of YtdgapijgdbhlfaaDoorRows.lean that lists a variable, with what it lists TIED to the program's text (the seventh form; the later family's looks); each row that meets fmt, with fmt's text TOLD by the authors' own Lean function (tested against real Go, not proved from fmt's source: count such statements apart). THE CARD IS WHAT COUNTS. Prove the row's statement (the work); the ties are given (YtdgapijgdbhlfaaDoorTie.lean); close each card by the builder's one call (the guide's Derived/Test/ToyasCard.lean, 'card_holds'). Laid BY PROGRAM, IN A SANDBOX (cutbox-door.mjs). By AI agents, Wed Nov 11 2026. No macro, syntax, notation, axiom, sorry.
-/
import Derived.Test.YtdgapijgdbhlfaaDoorRows
import GoSem.ClaimSeven
namespace Go.Proofs.YtdgapijgdbhlfaaDoor
namespace Rows

/-- THE TIED CARD OF 'strongroomlaw5.CurveNumbers'. -/
def curveNumbersCard : Claim7 := { stood := { row := curveNumbersRow, standIns := [], harness := (true, "1bf07922612a7bc123b31881b7eaabdbbef4bd78432dba794c77458de4794a30"), looks := false }, kinds := [], alts := [], laidByText := true, laidKinds := [.data], laidTests := true, laidLooks := .later }
def CurveNumbersCardSaid : Prop := Claim7.holds Tryd.pinned (.plain (OpenSpec.ofChange curveNumbersSpec)) curveNumbersCard

/-- THE TIED CARD OF 'strongroomlaw5.CurveTells'. -/
def curveTellsCard : Claim7 := { stood := { row := curveTellsRow, standIns := [], harness := (true, "1bf07922612a7bc123b31881b7eaabdbbef4bd78432dba794c77458de4794a30"), looks := false }, kinds := [], alts := [], laidByText := true, laidKinds := [.data], laidTests := true, laidLooks := .later }
def CurveTellsCardSaid : Prop := Claim7.holds Tryd.pinned (.plain (OpenSpec.ofChange curveTellsSpec)) curveTellsCard

/-- THE TIED CARD OF 'strongroomlaw5.CurveBoth'. -/
def curveBothCard : Claim7 := { stood := { row := curveBothRow, standIns := [], harness := (true, "1bf07922612a7bc123b31881b7eaabdbbef4bd78432dba794c77458de4794a30"), looks := false }, kinds := [], alts := [], laidByText := true, laidKinds := [.data], laidTests := true, laidLooks := .later }
def CurveBothCardSaid : Prop := Claim7.holds Tryd.pinned (.plain (OpenSpec.ofChange curveBothSpec)) curveBothCard

/-- THE TIED CARD OF 'strongroomlaw5.CurveThree'. -/
def curveThreeCard : Claim7 := { stood := { row := curveThreeRow, standIns := [], harness := (true, "1bf07922612a7bc123b31881b7eaabdbbef4bd78432dba794c77458de4794a30"), looks := false }, kinds := [], alts := [], laidByText := true, laidKinds := [.data], laidTests := true, laidLooks := .later }
def CurveThreeCardSaid : Prop := Claim7.holds Tryd.pinned (.plain (OpenSpec.ofChange curveThreeSpec)) curveThreeCard

/-- THE TIED CARD OF 'strongroomlaw5.CurveLow'. -/
def curveLowCard : Claim7 := { stood := { row := curveLowRow, standIns := [], harness := (true, "1bf07922612a7bc123b31881b7eaabdbbef4bd78432dba794c77458de4794a30"), looks := false }, kinds := [], alts := [], laidByText := true, laidKinds := [.data], laidTests := true, laidLooks := .later }
def CurveLowCardSaid : Prop := Claim7.holds Tryd.pinned (.plain (OpenSpec.ofChange curveLowSpec)) curveLowCard

/-- THE SECOND FORM's CARD OF 'strongroomlaw5.CurveNumbers'. -/
def curveNumbersUptoCard : Claim7 := { stood := { row := curveNumbersUptoRow, standIns := [], harness := (true, "1bf07922612a7bc123b31881b7eaabdbbef4bd78432dba794c77458de4794a30"), looks := false }, kinds := [], alts := [], laidByText := true, laidKinds := [.data], laidTests := true, laidLooks := .later }
def CurveNumbersUptoCardSaid : Prop := Claim7.holds Tryd.pinned (.plain (OpenSpec.upto curveNumbersSpec)) curveNumbersUptoCard

/-- THE SECOND FORM's CARD OF 'strongroomlaw5.CurveTells'. -/
def curveTellsUptoCard : Claim7 := { stood := { row := curveTellsUptoRow, standIns := [], harness := (true, "1bf07922612a7bc123b31881b7eaabdbbef4bd78432dba794c77458de4794a30"), looks := false }, kinds := [], alts := [], laidByText := true, laidKinds := [.data], laidTests := true, laidLooks := .later }
def CurveTellsUptoCardSaid : Prop := Claim7.holds Tryd.pinned (.plain (OpenSpec.upto curveTellsSpec)) curveTellsUptoCard

/-- THE SECOND FORM's CARD OF 'strongroomlaw5.CurveBoth'. -/
def curveBothUptoCard : Claim7 := { stood := { row := curveBothUptoRow, standIns := [], harness := (true, "1bf07922612a7bc123b31881b7eaabdbbef4bd78432dba794c77458de4794a30"), looks := false }, kinds := [], alts := [], laidByText := true, laidKinds := [.data], laidTests := true, laidLooks := .later }
def CurveBothUptoCardSaid : Prop := Claim7.holds Tryd.pinned (.plain (OpenSpec.upto curveBothSpec)) curveBothUptoCard

/-- THE SECOND FORM's CARD OF 'strongroomlaw5.CurveThree'. -/
def curveThreeUptoCard : Claim7 := { stood := { row := curveThreeUptoRow, standIns := [], harness := (true, "1bf07922612a7bc123b31881b7eaabdbbef4bd78432dba794c77458de4794a30"), looks := false }, kinds := [], alts := [], laidByText := true, laidKinds := [.data], laidTests := true, laidLooks := .later }
def CurveThreeUptoCardSaid : Prop := Claim7.holds Tryd.pinned (.plain (OpenSpec.upto curveThreeSpec)) curveThreeUptoCard

/-- THE SECOND FORM's CARD OF 'strongroomlaw5.CurveLow'. -/
def curveLowUptoCard : Claim7 := { stood := { row := curveLowUptoRow, standIns := [], harness := (true, "1bf07922612a7bc123b31881b7eaabdbbef4bd78432dba794c77458de4794a30"), looks := false }, kinds := [], alts := [], laidByText := true, laidKinds := [.data], laidTests := true, laidLooks := .later }
def CurveLowUptoCardSaid : Prop := Claim7.holds Tryd.pinned (.plain (OpenSpec.upto curveLowSpec)) curveLowUptoCard
end Rows
end Go.Proofs.YtdgapijgdbhlfaaDoor
