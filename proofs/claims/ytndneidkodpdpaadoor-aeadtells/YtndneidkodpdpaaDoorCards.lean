/-
  DERIVED. GIVEN WITH THE SEED: THE CARDS: each row of YtndneidkodpdpaaDoorRows.lean that lists a variable, with what it lists TIED to the program's text (the seventh form; the later family's looks); each row that meets fmt, with fmt's text TOLD by the authors' own Lean function (tested against real Go, not proved from fmt's source: count such statements apart). THE CARD IS WHAT COUNTS. Prove the row's statement (the work); the ties are given (YtndneidkodpdpaaDoorTie.lean); close each card by the builder's one call (the guide's Derived/Test/ToyasCard.lean, 'card_holds'). Laid BY PROGRAM, IN A SANDBOX (cutbox-door.mjs). By AI agents, Wed Nov 11 2026. No macro, syntax, notation, axiom, sorry.
-/
import Derived.Test.YtndneidkodpdpaaDoorRows
import GoSem.ClaimSeven
namespace Go.Proofs.YtndneidkodpdpaaDoor
namespace Rows

/-- THE TIED CARD OF 'strongroomlaw3.PolyNumbers'. -/
def polyNumbersCard : Claim7 := { stood := { row := polyNumbersRow, standIns := [], harness := (true, "0f6ccc1544d2cb9d3ed24a22c82cf7c2c18810382893f007596b18dd4d17e22d"), looks := false }, kinds := [], alts := [], laidByText := true, laidKinds := [.data], laidTests := true, laidLooks := .later }
def PolyNumbersCardSaid : Prop := Claim7.holds Tryd.pinned (.plain (OpenSpec.ofChange polyNumbersSpec)) polyNumbersCard

/-- THE TIED CARD OF 'strongroomlaw3.PolyTells'. -/
def polyTellsCard : Claim7 := { stood := { row := polyTellsRow, standIns := [], harness := (true, "0f6ccc1544d2cb9d3ed24a22c82cf7c2c18810382893f007596b18dd4d17e22d"), looks := false }, kinds := [], alts := [], laidByText := true, laidKinds := [.data], laidTests := true, laidLooks := .later }
def PolyTellsCardSaid : Prop := Claim7.holds Tryd.pinned (.plain (OpenSpec.ofChange polyTellsSpec)) polyTellsCard

/-- THE TIED CARD OF 'strongroomlaw4.AeadNumbers'. -/
def aeadNumbersCard : Claim7 := { stood := { row := aeadNumbersRow, standIns := [], harness := (true, "0f6ccc1544d2cb9d3ed24a22c82cf7c2c18810382893f007596b18dd4d17e22d"), looks := false }, kinds := [], alts := [], laidByText := true, laidKinds := [.data], laidTests := true, laidLooks := .later }
def AeadNumbersCardSaid : Prop := Claim7.holds Tryd.pinned (.plain (OpenSpec.ofChange aeadNumbersSpec)) aeadNumbersCard

/-- THE TIED CARD OF 'strongroomlaw4.AeadTells'. -/
def aeadTellsCard : Claim7 := { stood := { row := aeadTellsRow, standIns := [], harness := (true, "0f6ccc1544d2cb9d3ed24a22c82cf7c2c18810382893f007596b18dd4d17e22d"), looks := false }, kinds := [], alts := [], laidByText := true, laidKinds := [.data], laidTests := true, laidLooks := .later }
def AeadTellsCardSaid : Prop := Claim7.holds Tryd.pinned (.plain (OpenSpec.ofChange aeadTellsSpec)) aeadTellsCard

/-- THE TIED CARD OF 'strongroomlaw4.AeadBack'. -/
def aeadBackCard : Claim7 := { stood := { row := aeadBackRow, standIns := [], harness := (true, "0f6ccc1544d2cb9d3ed24a22c82cf7c2c18810382893f007596b18dd4d17e22d"), looks := false }, kinds := [], alts := [], laidByText := true, laidKinds := [.data], laidTests := true, laidLooks := .later }
def AeadBackCardSaid : Prop := Claim7.holds Tryd.pinned (.plain (OpenSpec.ofChange aeadBackSpec)) aeadBackCard

/-- THE TIED CARD OF 'strongroomlaw4.AeadTurned'. -/
def aeadTurnedCard : Claim7 := { stood := { row := aeadTurnedRow, standIns := [], harness := (true, "0f6ccc1544d2cb9d3ed24a22c82cf7c2c18810382893f007596b18dd4d17e22d"), looks := false }, kinds := [], alts := [], laidByText := true, laidKinds := [.data], laidTests := true, laidLooks := .later }
def AeadTurnedCardSaid : Prop := Claim7.holds Tryd.pinned (.plain (OpenSpec.ofChange aeadTurnedSpec)) aeadTurnedCard

/-- THE SECOND FORM's CARD OF 'strongroomlaw3.PolyNumbers'. -/
def polyNumbersUptoCard : Claim7 := { stood := { row := polyNumbersUptoRow, standIns := [], harness := (true, "0f6ccc1544d2cb9d3ed24a22c82cf7c2c18810382893f007596b18dd4d17e22d"), looks := false }, kinds := [], alts := [], laidByText := true, laidKinds := [.data], laidTests := true, laidLooks := .later }
def PolyNumbersUptoCardSaid : Prop := Claim7.holds Tryd.pinned (.plain (OpenSpec.upto polyNumbersSpec)) polyNumbersUptoCard

/-- THE SECOND FORM's CARD OF 'strongroomlaw3.PolyTells'. -/
def polyTellsUptoCard : Claim7 := { stood := { row := polyTellsUptoRow, standIns := [], harness := (true, "0f6ccc1544d2cb9d3ed24a22c82cf7c2c18810382893f007596b18dd4d17e22d"), looks := false }, kinds := [], alts := [], laidByText := true, laidKinds := [.data], laidTests := true, laidLooks := .later }
def PolyTellsUptoCardSaid : Prop := Claim7.holds Tryd.pinned (.plain (OpenSpec.upto polyTellsSpec)) polyTellsUptoCard

/-- THE SECOND FORM's CARD OF 'strongroomlaw4.AeadNumbers'. -/
def aeadNumbersUptoCard : Claim7 := { stood := { row := aeadNumbersUptoRow, standIns := [], harness := (true, "0f6ccc1544d2cb9d3ed24a22c82cf7c2c18810382893f007596b18dd4d17e22d"), looks := false }, kinds := [], alts := [], laidByText := true, laidKinds := [.data], laidTests := true, laidLooks := .later }
def AeadNumbersUptoCardSaid : Prop := Claim7.holds Tryd.pinned (.plain (OpenSpec.upto aeadNumbersSpec)) aeadNumbersUptoCard

/-- THE SECOND FORM's CARD OF 'strongroomlaw4.AeadTells'. -/
def aeadTellsUptoCard : Claim7 := { stood := { row := aeadTellsUptoRow, standIns := [], harness := (true, "0f6ccc1544d2cb9d3ed24a22c82cf7c2c18810382893f007596b18dd4d17e22d"), looks := false }, kinds := [], alts := [], laidByText := true, laidKinds := [.data], laidTests := true, laidLooks := .later }
def AeadTellsUptoCardSaid : Prop := Claim7.holds Tryd.pinned (.plain (OpenSpec.upto aeadTellsSpec)) aeadTellsUptoCard

/-- THE SECOND FORM's CARD OF 'strongroomlaw4.AeadBack'. -/
def aeadBackUptoCard : Claim7 := { stood := { row := aeadBackUptoRow, standIns := [], harness := (true, "0f6ccc1544d2cb9d3ed24a22c82cf7c2c18810382893f007596b18dd4d17e22d"), looks := false }, kinds := [], alts := [], laidByText := true, laidKinds := [.data], laidTests := true, laidLooks := .later }
def AeadBackUptoCardSaid : Prop := Claim7.holds Tryd.pinned (.plain (OpenSpec.upto aeadBackSpec)) aeadBackUptoCard

/-- THE SECOND FORM's CARD OF 'strongroomlaw4.AeadTurned'. -/
def aeadTurnedUptoCard : Claim7 := { stood := { row := aeadTurnedUptoRow, standIns := [], harness := (true, "0f6ccc1544d2cb9d3ed24a22c82cf7c2c18810382893f007596b18dd4d17e22d"), looks := false }, kinds := [], alts := [], laidByText := true, laidKinds := [.data], laidTests := true, laidLooks := .later }
def AeadTurnedUptoCardSaid : Prop := Claim7.holds Tryd.pinned (.plain (OpenSpec.upto aeadTurnedSpec)) aeadTurnedUptoCard
end Rows
end Go.Proofs.YtndneidkodpdpaaDoor
