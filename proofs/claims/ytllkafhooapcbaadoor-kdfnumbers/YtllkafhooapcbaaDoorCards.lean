/-
  DERIVED. GIVEN WITH THE SEED: THE CARDS: each row of YtllkafhooapcbaaDoorRows.lean that lists a variable, with what it lists TIED to the program's text (the seventh form; the later family's looks); each row that meets fmt, with fmt's text TOLD by the authors' own Lean function (tested against real Go, not proved from fmt's source: count such statements apart). THE CARD IS WHAT COUNTS. Prove the row's statement (the work); the ties are given (YtllkafhooapcbaaDoorTie.lean); close each card by the builder's one call (the guide's Derived/Test/ToyasCard.lean, 'card_holds'). Laid BY PROGRAM, IN A SANDBOX (cutbox-door.mjs). By AI agents, Wed Nov 11 2026. No macro, syntax, notation, axiom, sorry.
-/
import Derived.Test.YtllkafhooapcbaaDoorRows
import GoSem.ClaimSeven
namespace Go.Proofs.YtllkafhooapcbaaDoor
namespace Rows

/-- THE TIED CARD OF 'strongroomlaw6.KdfNumbers'. -/
def kdfNumbersCard : Claim7 := { stood := { row := kdfNumbersRow, standIns := [], harness := (true, "f980b8e29a0376982411cf89507a00a8e0580dbf441ac7cc3c98d9e18059591c"), looks := false }, kinds := [], alts := [], laidByText := true, laidKinds := [.data], laidTests := true, laidLooks := .later }
def KdfNumbersCardSaid : Prop := Claim7.holds Tryd.pinned (.plain (OpenSpec.ofChange kdfNumbersSpec)) kdfNumbersCard

/-- THE TIED CARD OF 'strongroomlaw6.KdfTells'. -/
def kdfTellsCard : Claim7 := { stood := { row := kdfTellsRow, standIns := [], harness := (true, "f980b8e29a0376982411cf89507a00a8e0580dbf441ac7cc3c98d9e18059591c"), looks := false }, kinds := [], alts := [], laidByText := true, laidKinds := [.data], laidTests := true, laidLooks := .later }
def KdfTellsCardSaid : Prop := Claim7.holds Tryd.pinned (.plain (OpenSpec.ofChange kdfTellsSpec)) kdfTellsCard

/-- THE TIED CARD OF 'strongroomlaw6.KdfGrows'. -/
def kdfGrowsCard : Claim7 := { stood := { row := kdfGrowsRow, standIns := [], harness := (true, "f980b8e29a0376982411cf89507a00a8e0580dbf441ac7cc3c98d9e18059591c"), looks := false }, kinds := [], alts := [], laidByText := true, laidKinds := [.data], laidTests := true, laidLooks := .later }
def KdfGrowsCardSaid : Prop := Claim7.holds Tryd.pinned (.plain (OpenSpec.ofChange kdfGrowsSpec)) kdfGrowsCard

/-- THE TIED CARD OF 'strongroomlaw6.KdfMacs'. -/
def kdfMacsCard : Claim7 := { stood := { row := kdfMacsRow, standIns := [], harness := (true, "f980b8e29a0376982411cf89507a00a8e0580dbf441ac7cc3c98d9e18059591c"), looks := false }, kinds := [], alts := [], laidByText := true, laidKinds := [.data], laidTests := true, laidLooks := .later }
def KdfMacsCardSaid : Prop := Claim7.holds Tryd.pinned (.plain (OpenSpec.ofChange kdfMacsSpec)) kdfMacsCard

/-- THE TIED CARD OF 'strongroomlaw6.KdfJoins'. -/
def kdfJoinsCard : Claim7 := { stood := { row := kdfJoinsRow, standIns := [], harness := (true, "f980b8e29a0376982411cf89507a00a8e0580dbf441ac7cc3c98d9e18059591c"), looks := false }, kinds := [], alts := [], laidByText := true, laidKinds := [.data], laidTests := true, laidLooks := .later }
def KdfJoinsCardSaid : Prop := Claim7.holds Tryd.pinned (.plain (OpenSpec.ofChange kdfJoinsSpec)) kdfJoinsCard

/-- THE SECOND FORM's CARD OF 'strongroomlaw6.KdfNumbers'. -/
def kdfNumbersUptoCard : Claim7 := { stood := { row := kdfNumbersUptoRow, standIns := [], harness := (true, "f980b8e29a0376982411cf89507a00a8e0580dbf441ac7cc3c98d9e18059591c"), looks := false }, kinds := [], alts := [], laidByText := true, laidKinds := [.data], laidTests := true, laidLooks := .later }
def KdfNumbersUptoCardSaid : Prop := Claim7.holds Tryd.pinned (.plain (OpenSpec.upto kdfNumbersSpec)) kdfNumbersUptoCard

/-- THE SECOND FORM's CARD OF 'strongroomlaw6.KdfTells'. -/
def kdfTellsUptoCard : Claim7 := { stood := { row := kdfTellsUptoRow, standIns := [], harness := (true, "f980b8e29a0376982411cf89507a00a8e0580dbf441ac7cc3c98d9e18059591c"), looks := false }, kinds := [], alts := [], laidByText := true, laidKinds := [.data], laidTests := true, laidLooks := .later }
def KdfTellsUptoCardSaid : Prop := Claim7.holds Tryd.pinned (.plain (OpenSpec.upto kdfTellsSpec)) kdfTellsUptoCard

/-- THE SECOND FORM's CARD OF 'strongroomlaw6.KdfGrows'. -/
def kdfGrowsUptoCard : Claim7 := { stood := { row := kdfGrowsUptoRow, standIns := [], harness := (true, "f980b8e29a0376982411cf89507a00a8e0580dbf441ac7cc3c98d9e18059591c"), looks := false }, kinds := [], alts := [], laidByText := true, laidKinds := [.data], laidTests := true, laidLooks := .later }
def KdfGrowsUptoCardSaid : Prop := Claim7.holds Tryd.pinned (.plain (OpenSpec.upto kdfGrowsSpec)) kdfGrowsUptoCard

/-- THE SECOND FORM's CARD OF 'strongroomlaw6.KdfMacs'. -/
def kdfMacsUptoCard : Claim7 := { stood := { row := kdfMacsUptoRow, standIns := [], harness := (true, "f980b8e29a0376982411cf89507a00a8e0580dbf441ac7cc3c98d9e18059591c"), looks := false }, kinds := [], alts := [], laidByText := true, laidKinds := [.data], laidTests := true, laidLooks := .later }
def KdfMacsUptoCardSaid : Prop := Claim7.holds Tryd.pinned (.plain (OpenSpec.upto kdfMacsSpec)) kdfMacsUptoCard

/-- THE SECOND FORM's CARD OF 'strongroomlaw6.KdfJoins'. -/
def kdfJoinsUptoCard : Claim7 := { stood := { row := kdfJoinsUptoRow, standIns := [], harness := (true, "f980b8e29a0376982411cf89507a00a8e0580dbf441ac7cc3c98d9e18059591c"), looks := false }, kinds := [], alts := [], laidByText := true, laidKinds := [.data], laidTests := true, laidLooks := .later }
def KdfJoinsUptoCardSaid : Prop := Claim7.holds Tryd.pinned (.plain (OpenSpec.upto kdfJoinsSpec)) kdfJoinsUptoCard
end Rows
end Go.Proofs.YtllkafhooapcbaaDoor
