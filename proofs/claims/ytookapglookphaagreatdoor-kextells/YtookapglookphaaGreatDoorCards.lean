/-
  DERIVED. GIVEN WITH THE SEED: THE CARDS: each row of YtookapglookphaaGreatDoorRows.lean that lists a variable, with what it lists TIED to the program's text (the seventh form; the later family's looks); each row that meets fmt, with fmt's text TOLD by the authors' own Lean function (tested against real Go, not proved from fmt's source: count such statements apart). THE CARD IS WHAT COUNTS. Prove the row's statement (the work); the ties are given (YtookapglookphaaGreatDoorTie.lean); close each card by the builder's one call (the guide's Derived/Test/ToyasCard.lean, 'card_holds'). Laid BY PROGRAM, IN A SANDBOX (cutbox-door.mjs). By AI agents, Wed Nov 11 2026. No macro, syntax, notation, axiom, sorry.
-/
import Derived.Test.YtookapglookphaaGreatDoorRows
import GoSem.ClaimSeven
namespace Go.Proofs.YtookapglookphaaGreatDoor
namespace Rows

/-- THE TIED CARD OF 'strongroomlaw10.KexTells'. -/
def kexTellsCard : Claim7 := { stood := { row := kexTellsRow, standIns := [], harness := (true, "665b2d481ebfe2a91de4d805a7d2588f72e2bf95fdfa68130ceb23aff2e8e270"), looks := false }, kinds := [], alts := [], laidByText := true, laidKinds := [.data, .data], laidTests := true, laidLooks := .later }
def KexTellsCardSaid : Prop := Claim7.holds Tryz.pinned (.plain (OpenSpec.ofChange kexTellsSpec)) kexTellsCard

/-- THE TIED CARD OF 'strongroomlaw10.KexBoth'. -/
def kexBothCard : Claim7 := { stood := { row := kexBothRow, standIns := [], harness := (true, "665b2d481ebfe2a91de4d805a7d2588f72e2bf95fdfa68130ceb23aff2e8e270"), looks := false }, kinds := [], alts := [], laidByText := true, laidKinds := [.data, .data], laidTests := true, laidLooks := .later }
def KexBothCardSaid : Prop := Claim7.holds Tryz.pinned (.plain (OpenSpec.ofChange kexBothSpec)) kexBothCard

/-- THE SECOND FORM's CARD OF 'strongroomlaw10.KexTells'. -/
def kexTellsUptoCard : Claim7 := { stood := { row := kexTellsUptoRow, standIns := [], harness := (true, "665b2d481ebfe2a91de4d805a7d2588f72e2bf95fdfa68130ceb23aff2e8e270"), looks := false }, kinds := [], alts := [], laidByText := true, laidKinds := [.data, .data], laidTests := true, laidLooks := .later }
def KexTellsUptoCardSaid : Prop := Claim7.holds Tryz.pinned (.plain (OpenSpec.upto kexTellsSpec)) kexTellsUptoCard

/-- THE SECOND FORM's CARD OF 'strongroomlaw10.KexBoth'. -/
def kexBothUptoCard : Claim7 := { stood := { row := kexBothUptoRow, standIns := [], harness := (true, "665b2d481ebfe2a91de4d805a7d2588f72e2bf95fdfa68130ceb23aff2e8e270"), looks := false }, kinds := [], alts := [], laidByText := true, laidKinds := [.data, .data], laidTests := true, laidLooks := .later }
def KexBothUptoCardSaid : Prop := Claim7.holds Tryz.pinned (.plain (OpenSpec.upto kexBothSpec)) kexBothUptoCard
end Rows
end Go.Proofs.YtookapglookphaaGreatDoor
