/-
  DERIVED. GIVEN WITH THE SEED: THE CARDS: each row of YtookapglookphaaDoorRows.lean that lists a variable, with what it lists TIED to the program's text (the seventh form; the later family's looks); each row that meets fmt, with fmt's text TOLD by the authors' own Lean function (tested against real Go, not proved from fmt's source: count such statements apart). THE CARD IS WHAT COUNTS. Prove the row's statement (the work); the ties are given (YtookapglookphaaDoorTie.lean); close each card by the builder's one call (the guide's Derived/Test/ToyasCard.lean, 'card_holds'). Laid BY PROGRAM, IN A SANDBOX (cutbox-door.mjs). By AI agents, Wed Nov 11 2026. No macro, syntax, notation, axiom, sorry.
-/
import Derived.Test.YtookapglookphaaDoorRows
import GoSem.ClaimSeven
namespace Go.Proofs.YtookapglookphaaDoor
namespace Rows

/-- THE TIED CARD OF 'strongroomlaw10.KexNumbers'. -/
def kexNumbersCard : Claim7 := { stood := { row := kexNumbersRow, standIns := [], harness := (true, "229e6eab5bdeefea493e430d68aa6eb2351b20e37eca37b353cc8dcff495aa40"), looks := false }, kinds := [], alts := [], laidByText := true, laidKinds := [.data, .data], laidTests := true, laidLooks := .later }
def KexNumbersCardSaid : Prop := Claim7.holds Tryd.pinned (.plain (OpenSpec.ofChange kexNumbersSpec)) kexNumbersCard

/-- THE TIED CARD OF 'strongroomlaw10.KexForm'. -/
def kexFormCard : Claim7 := { stood := { row := kexFormRow, standIns := [], harness := (true, "229e6eab5bdeefea493e430d68aa6eb2351b20e37eca37b353cc8dcff495aa40"), looks := false }, kinds := [], alts := [], laidByText := true, laidKinds := [.data, .data], laidTests := true, laidLooks := .later }
def KexFormCardSaid : Prop := Claim7.holds Tryd.pinned (.plain (OpenSpec.ofChange kexFormSpec)) kexFormCard

/-- THE TIED CARD OF 'strongroomlaw10.KexKeys'. -/
def kexKeysCard : Claim7 := { stood := { row := kexKeysRow, standIns := [], harness := (true, "229e6eab5bdeefea493e430d68aa6eb2351b20e37eca37b353cc8dcff495aa40"), looks := false }, kinds := [], alts := [], laidByText := true, laidKinds := [.data, .data], laidTests := true, laidLooks := .later }
def KexKeysCardSaid : Prop := Claim7.holds Tryd.pinned (.plain (OpenSpec.ofChange kexKeysSpec)) kexKeysCard

/-- THE SECOND FORM's CARD OF 'strongroomlaw10.KexNumbers'. -/
def kexNumbersUptoCard : Claim7 := { stood := { row := kexNumbersUptoRow, standIns := [], harness := (true, "229e6eab5bdeefea493e430d68aa6eb2351b20e37eca37b353cc8dcff495aa40"), looks := false }, kinds := [], alts := [], laidByText := true, laidKinds := [.data, .data], laidTests := true, laidLooks := .later }
def KexNumbersUptoCardSaid : Prop := Claim7.holds Tryd.pinned (.plain (OpenSpec.upto kexNumbersSpec)) kexNumbersUptoCard

/-- THE SECOND FORM's CARD OF 'strongroomlaw10.KexForm'. -/
def kexFormUptoCard : Claim7 := { stood := { row := kexFormUptoRow, standIns := [], harness := (true, "229e6eab5bdeefea493e430d68aa6eb2351b20e37eca37b353cc8dcff495aa40"), looks := false }, kinds := [], alts := [], laidByText := true, laidKinds := [.data, .data], laidTests := true, laidLooks := .later }
def KexFormUptoCardSaid : Prop := Claim7.holds Tryd.pinned (.plain (OpenSpec.upto kexFormSpec)) kexFormUptoCard

/-- THE SECOND FORM's CARD OF 'strongroomlaw10.KexKeys'. -/
def kexKeysUptoCard : Claim7 := { stood := { row := kexKeysUptoRow, standIns := [], harness := (true, "229e6eab5bdeefea493e430d68aa6eb2351b20e37eca37b353cc8dcff495aa40"), looks := false }, kinds := [], alts := [], laidByText := true, laidKinds := [.data, .data], laidTests := true, laidLooks := .later }
def KexKeysUptoCardSaid : Prop := Claim7.holds Tryd.pinned (.plain (OpenSpec.upto kexKeysSpec)) kexKeysUptoCard
end Rows
end Go.Proofs.YtookapglookphaaDoor
