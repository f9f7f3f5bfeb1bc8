/-
  DERIVED. GIVEN WITH THE SEED: THE CARDS: each row of YtndneidkodpdpabDoorRows.lean that lists a variable, with what it lists TIED to the program's text (the seventh form; the later family's looks); each row that meets fmt, with fmt's text TOLD by the authors' own Lean function (tested against real Go, not proved from fmt's source: count such statements apart). THE CARD IS WHAT COUNTS. Prove the row's statement (the work); the ties are given (YtndneidkodpdpabDoorTie.lean); close each card by the builder's one call (the guide's Derived/Test/ToyasCard.lean, 'card_holds'). Laid BY PROGRAM, IN A SANDBOX (cutbox-door.mjs). By AI agents, Wed Nov 11 2026. No macro, syntax, notation, axiom, sorry.
-/
import Derived.Test.YtndneidkodpdpabDoorRows
import GoSem.ClaimSeven
namespace Go.Proofs.YtndneidkodpdpabDoor
namespace Rows

/-- THE TIED CARD OF 'strongroomlaw4.AeadWhole'. -/
def aeadWholeCard : Claim7 := { stood := { row := aeadWholeRow, standIns := [], harness := (true, "0e4bec61a07d8a0359555b92400a9a3d47852d323dd210c161f9911c7b867cf6"), looks := false }, kinds := [], alts := [], laidByText := true, laidKinds := [.data], laidTests := true, laidLooks := .later }
def AeadWholeCardSaid : Prop := Claim7.holds Tryd.pinned (.plain (OpenSpec.ofChange aeadWholeSpec)) aeadWholeCard

/-- THE SECOND FORM's CARD OF 'strongroomlaw4.AeadWhole'. -/
def aeadWholeUptoCard : Claim7 := { stood := { row := aeadWholeUptoRow, standIns := [], harness := (true, "0e4bec61a07d8a0359555b92400a9a3d47852d323dd210c161f9911c7b867cf6"), looks := false }, kinds := [], alts := [], laidByText := true, laidKinds := [.data], laidTests := true, laidLooks := .later }
def AeadWholeUptoCardSaid : Prop := Claim7.holds Tryd.pinned (.plain (OpenSpec.upto aeadWholeSpec)) aeadWholeUptoCard
end Rows
end Go.Proofs.YtndneidkodpdpabDoor
