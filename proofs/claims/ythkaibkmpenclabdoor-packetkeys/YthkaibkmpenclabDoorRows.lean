/-
  NARROWER THAN 'FOR EVERY INPUT', by the rows' own cells (each row's printed sentence says how): PacketKeys: laid · PacketHeld: laid.
  DERIVED. THE GIVEN ROWS OF THIS SEAT. 2 by the template 'for every input the law returns true; each argument reads behind the call as it read before'; 0 by the template 'total and deterministic' (their statements: YthkaibkmpenclabDoorTotals.lean).
  GIVEN WITH THE SEED: the statements are not yours to turn. If you find one false, say at which input.
  Laid BY PROGRAM, IN A SANDBOX (cutbox-rows.mjs): the forced cells as the released guide's own fill.sh prints them over the translation 234898bafe7f0a3e… (all of the seat's roots in one cut). By AI agents, Wed Nov 11 2026. No macro, syntax, notation, axiom, sorry.
-/
import Derived.Test.YthkaibkmpenclabDoorChecked
import GoSem.Claim
import GoSem.ClaimJoined
import GoSem.ClaimMapViews
import Derived.JoinedTies
import Derived.KernelRfl
namespace Go.Proofs.YthkaibkmpenclabDoor
/- THE CELL 'sum', in the pinned program and in every row, IS THE sha256 OF THE DUMP (.gsa) THAT YthkaibkmpenclabDoorProg.lean LOADS. Nothing in Lean hashes anything: it is a label: what it is worth is what the hold of that sum in a sandbox is worth. -/
noncomputable def Tryd.pinned : Pinned := { name := "ythkaibkmpenclabdoor", sum := "234898bafe7f0a3e7c5ee4d076cdebb30858ac2cd2a9d1309899743b7a0abe7c", checked := Tryd.checked }
namespace Rows
def none {H : Type} : Left H := { results := [], args := [] }

/- WHAT THE LISTED PACKAGE-LEVEL VARIABLES READ AS WHEN THE CALL BEGINS. Each datum BY PROGRAM (the guide's laid-datum.mjs) off the statement by which the dump's own 'gosem.cut.vars' lays the variable. In a bare row this is a premise. The card (YthkaibkmpenclabDoorCards.lean) ties it to the program's text. -/
def laid_strongroom_poly_clamp {H : Type} : DataW H := .agg [.lit (.int .u8 255), .lit (.int .u8 255), .lit (.int .u8 255), .lit (.int .u8 15), .lit (.int .u8 252), .lit (.int .u8 255), .lit (.int .u8 255), .lit (.int .u8 15), .lit (.int .u8 252), .lit (.int .u8 255), .lit (.int .u8 255), .lit (.int .u8 15), .lit (.int .u8 252), .lit (.int .u8 255), .lit (.int .u8 255), .lit (.int .u8 15)]

/-- 'strongroomlaw8.PacketKeys': WHATEVER THE INPUT: true; the input reads as it did. -/
def packetKeysSpec : ChangeSpec := { name := "packetKeys", fn := fun _ => fun
  | [d1, d2, d3] => { results := [.lit (.bool true)], args := [d1, d2, d3] }
  | _ => none }
def packetKeysRow : OpenClaim := { program := "ythkaibkmpenclabdoor", sum := "234898bafe7f0a3e7c5ee4d076cdebb30858ac2cd2a9d1309899743b7a0abe7c", func := "strongroom/strongroomlaw8.PacketKeys", spec := "packetKeys", named := ["strongroom/poly.clamp"], apart := false, laid := [("strongroom/poly.clamp", laid_strongroom_poly_clamp)] }
def PacketKeysSaid : Prop := packetKeysRow.holds Tryd.pinned (OpenSpec.ofChange packetKeysSpec)

/-- ITS FALSE NEIGHBOUR: 'it returns false'. Refute it at one input. -/
def packetKeysWrong : ChangeSpec := { name := "packetKeys", fn := fun _ => fun
  | [d1, d2, d3] => { results := [.lit (.bool false)], args := [d1, d2, d3] }
  | _ => none }
def PacketKeysWrongFalsely : Prop := packetKeysRow.holds Tryd.pinned (OpenSpec.ofChange packetKeysWrong)

/-- 'strongroomlaw8.PacketHeld': WHATEVER THE INPUT: true; the input reads as it did. -/
def packetHeldSpec : ChangeSpec := { name := "packetHeld", fn := fun _ => fun
  | [d1, d2, d3, d4] => { results := [.lit (.bool true)], args := [d1, d2, d3, d4] }
  | _ => none }
def packetHeldRow : OpenClaim := { program := "ythkaibkmpenclabdoor", sum := "234898bafe7f0a3e7c5ee4d076cdebb30858ac2cd2a9d1309899743b7a0abe7c", func := "strongroom/strongroomlaw8.PacketHeld", spec := "packetHeld", named := ["strongroom/poly.clamp"], apart := false, laid := [("strongroom/poly.clamp", laid_strongroom_poly_clamp)] }
def PacketHeldSaid : Prop := packetHeldRow.holds Tryd.pinned (OpenSpec.ofChange packetHeldSpec)

/-- ITS FALSE NEIGHBOUR: 'it returns false'. Refute it at one input. -/
def packetHeldWrong : ChangeSpec := { name := "packetHeld", fn := fun _ => fun
  | [d1, d2, d3, d4] => { results := [.lit (.bool false)], args := [d1, d2, d3, d4] }
  | _ => none }
def PacketHeldWrongFalsely : Prop := packetHeldRow.holds Tryd.pinned (OpenSpec.ofChange packetHeldWrong)

/- THE SECOND FORM. 'bulk': how many values and letters a reading holds, each counted each time it is reached (what is shared counts as often as it is met; a slice's spare places count too). A statement '..UptoSaid' is the law's where the arguments, and the package variables that the reading takes, are together of bulk at most 1048576: NARROWER than '..Said'. Prove '..Said' where nothing that the law and all that it calls make is longer than what came in: it says more and counts as full. Else prove '..UptoSaid'. A law counts once. -/
mutual
def uptoBulk {H : Type} : DataW H → Nat
  | .lit (.string bytes) => bytes.length + 1
  | .lit _ => 1
  | .nil => 1
  | .ptr d => uptoBulk d + 1
  | .slice elems spare => uptoBulkAll elems + uptoBulkAll spare + 1
  | .agg parts => uptoBulkAll parts + 1
  | .iface _ d => uptoBulk d + 1
  | .map entries => uptoBulkEntries entries + 1
  | .held _ => 1
def uptoBulkAll {H : Type} : List (DataW H) → Nat
  | [] => 0
  | d :: r => uptoBulk d + uptoBulkAll r
def uptoBulkEntries {H : Type} : List (Lit × DataW H) → Nat
  | [] => 0
  | x :: r => uptoBulkEntry x + uptoBulkEntries r
def uptoBulkEntry {H : Type} : Lit × DataW H → Nat
  | (.string bytes, d) => bytes.length + uptoBulk d + 1
  | (_, d) => uptoBulk d + 1
 end
def uptoSmall : (H : Type) → List (DataW H) → Bool := fun _ ds => decide (uptoBulkAll ds ≤ 1048576)
def OpenSpec.upto (s : _root_.Go.ChangeSpec) : _root_.Go.OpenSpec := { _root_.Go.OpenSpec.ofChange s with cond := some uptoSmall }

/-- 'strongroomlaw8.PacketKeys', WHERE WHAT IT READS IS OF BULK AT MOST 1048576: true; the input reads as it did. -/
def packetKeysUptoRow : OpenClaim := { program := "ythkaibkmpenclabdoor", sum := "234898bafe7f0a3e7c5ee4d076cdebb30858ac2cd2a9d1309899743b7a0abe7c", func := "strongroom/strongroomlaw8.PacketKeys", spec := "packetKeys", named := ["strongroom/poly.clamp"], apart := false, laid := [("strongroom/poly.clamp", laid_strongroom_poly_clamp)], narrowed := true }
def PacketKeysUptoSaid : Prop := packetKeysUptoRow.holds Tryd.pinned (OpenSpec.upto packetKeysSpec)

/-- 'strongroomlaw8.PacketHeld', WHERE WHAT IT READS IS OF BULK AT MOST 1048576: true; the input reads as it did. -/
def packetHeldUptoRow : OpenClaim := { program := "ythkaibkmpenclabdoor", sum := "234898bafe7f0a3e7c5ee4d076cdebb30858ac2cd2a9d1309899743b7a0abe7c", func := "strongroom/strongroomlaw8.PacketHeld", spec := "packetHeld", named := ["strongroom/poly.clamp"], apart := false, laid := [("strongroom/poly.clamp", laid_strongroom_poly_clamp)], narrowed := true }
def PacketHeldUptoSaid : Prop := packetHeldUptoRow.holds Tryd.pinned (OpenSpec.upto packetHeldSpec)

end Rows
end Go.Proofs.YthkaibkmpenclabDoor
