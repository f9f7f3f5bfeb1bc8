/-
  DERIVED. GIVEN WITH THE SEED: THE CARDS: each row of YthkaibkmpenclabDoorRows.lean that lists a variable, with what it lists TIED to the program's text (the seventh form; the later family's looks); each row that meets fmt, with fmt's text TOLD by the authors' own Lean function (tested against real Go, not proved from fmt's source: count such statements apart). THE CARD IS WHAT COUNTS. Prove the row's statement (the work); the ties are given (YthkaibkmpenclabDoorTie.lean); close each card by the builder's one call (the guide's Derived/Test/ToyasCard.lean, 'card_holds'). Laid BY PROGRAM, IN A SANDBOX (cutbox-door.mjs). By AI agents, Wed Nov 11 2026. No macro, syntax, notation, axiom, sorry.
-/
import Derived.Test.YthkaibkmpenclabDoorRows
import GoSem.ClaimSeven
namespace Go.Proofs.YthkaibkmpenclabDoor
namespace Rows

/-- THE TIED CARD OF 'strongroomlaw8.PacketKeys'. -/
def packetKeysCard : Claim7 := { stood := { row := packetKeysRow, standIns := [], harness := (true, "09fded097cfdfdf0c5283f819be2254bf35255c32fd00cba25007f23b5515db0"), looks := false }, kinds := [], alts := [], laidByText := true, laidKinds := [.data], laidTests := true, laidLooks := .later }
def PacketKeysCardSaid : Prop := Claim7.holds Tryd.pinned (.plain (OpenSpec.ofChange packetKeysSpec)) packetKeysCard

/-- THE TIED CARD OF 'strongroomlaw8.PacketHeld'. -/
def packetHeldCard : Claim7 := { stood := { row := packetHeldRow, standIns := [], harness := (true, "09fded097cfdfdf0c5283f819be2254bf35255c32fd00cba25007f23b5515db0"), looks := false }, kinds := [], alts := [], laidByText := true, laidKinds := [.data], laidTests := true, laidLooks := .later }
def PacketHeldCardSaid : Prop := Claim7.holds Tryd.pinned (.plain (OpenSpec.ofChange packetHeldSpec)) packetHeldCard

/-- THE SECOND FORM's CARD OF 'strongroomlaw8.PacketKeys'. -/
def packetKeysUptoCard : Claim7 := { stood := { row := packetKeysUptoRow, standIns := [], harness := (true, "09fded097cfdfdf0c5283f819be2254bf35255c32fd00cba25007f23b5515db0"), looks := false }, kinds := [], alts := [], laidByText := true, laidKinds := [.data], laidTests := true, laidLooks := .later }
def PacketKeysUptoCardSaid : Prop := Claim7.holds Tryd.pinned (.plain (OpenSpec.upto packetKeysSpec)) packetKeysUptoCard

/-- THE SECOND FORM's CARD OF 'strongroomlaw8.PacketHeld'. -/
def packetHeldUptoCard : Claim7 := { stood := { row := packetHeldUptoRow, standIns := [], harness := (true, "09fded097cfdfdf0c5283f819be2254bf35255c32fd00cba25007f23b5515db0"), looks := false }, kinds := [], alts := [], laidByText := true, laidKinds := [.data], laidTests := true, laidLooks := .later }
def PacketHeldUptoCardSaid : Prop := Claim7.holds Tryd.pinned (.plain (OpenSpec.upto packetHeldSpec)) packetHeldUptoCard
end Rows
end Go.Proofs.YthkaibkmpenclabDoor
