/-
  NARROWER THAN 'FOR EVERY INPUT', by the rows' own cells (each row's printed sentence says how): PacketNumbers: laid · PacketWrites: laid · PacketReads: laid · PacketBack: laid · PacketSizes: laid · PacketTurned: laid.
  DERIVED. THE GIVEN ROWS OF THIS SEAT. 6 by the template 'for every input the law returns true; each argument reads behind the call as it read before'; 0 by the template 'total and deterministic' (their statements: YthkaibkmpenclaaDoorTotals.lean).
  GIVEN WITH THE SEED: the statements are not yours to turn. If you find one false, say at which input.
  Laid BY PROGRAM, IN A SANDBOX (cutbox-rows.mjs): the forced cells as the released guide's own fill.sh prints them over the translation 5bb527fee36b04a6… (all of the seat's roots in one cut). By AI agents, Wed Nov 11 2026. No macro, syntax, notation, axiom, sorry.
-/
import Derived.Test.YthkaibkmpenclaaDoorChecked
import GoSem.Claim
import GoSem.ClaimJoined
import GoSem.ClaimMapViews
import Derived.JoinedTies
import Derived.KernelRfl
namespace Go.Proofs.YthkaibkmpenclaaDoor
/- THE CELL 'sum', in the pinned program and in every row, IS THE sha256 OF THE DUMP (.gsa) THAT YthkaibkmpenclaaDoorProg.lean LOADS. Nothing in Lean hashes anything: it is a label: what it is worth is what the hold of that sum in a sandbox is worth. -/
noncomputable def Tryd.pinned : Pinned := { name := "ythkaibkmpenclaadoor", sum := "5bb527fee36b04a66018f8eb4b1916d163d6b75b370efdc20ad562927b1a3d83", checked := Tryd.checked }
namespace Rows
def none {H : Type} : Left H := { results := [], args := [] }

/- WHAT THE LISTED PACKAGE-LEVEL VARIABLES READ AS WHEN THE CALL BEGINS. Each datum BY PROGRAM (the guide's laid-datum.mjs) off the statement by which the dump's own 'gosem.cut.vars' lays the variable. In a bare row this is a premise. The card (YthkaibkmpenclaaDoorCards.lean) ties it to the program's text. -/
def laid_strongroom_poly_clamp {H : Type} : DataW H := .agg [.lit (.int .u8 255), .lit (.int .u8 255), .lit (.int .u8 255), .lit (.int .u8 15), .lit (.int .u8 252), .lit (.int .u8 255), .lit (.int .u8 255), .lit (.int .u8 15), .lit (.int .u8 252), .lit (.int .u8 255), .lit (.int .u8 255), .lit (.int .u8 15), .lit (.int .u8 252), .lit (.int .u8 255), .lit (.int .u8 255), .lit (.int .u8 15)]

/-- 'strongroomlaw8.PacketNumbers': WHATEVER THE INPUT: true; the input reads as it did. -/
def packetNumbersSpec : ChangeSpec := { name := "packetNumbers", fn := fun _ => fun
  | [] => { results := [.lit (.bool true)], args := [] }
  | _ => none }
def packetNumbersRow : OpenClaim := { program := "ythkaibkmpenclaadoor", sum := "5bb527fee36b04a66018f8eb4b1916d163d6b75b370efdc20ad562927b1a3d83", func := "strongroom/strongroomlaw8.PacketNumbers", spec := "packetNumbers", named := ["strongroom/poly.clamp"], apart := false, laid := [("strongroom/poly.clamp", laid_strongroom_poly_clamp)] }
def PacketNumbersSaid : Prop := packetNumbersRow.holds Tryd.pinned (OpenSpec.ofChange packetNumbersSpec)

/-- ITS FALSE NEIGHBOUR: 'it returns false'. Refute it at one input. -/
def packetNumbersWrong : ChangeSpec := { name := "packetNumbers", fn := fun _ => fun
  | [] => { results := [.lit (.bool false)], args := [] }
  | _ => none }
def PacketNumbersWrongFalsely : Prop := packetNumbersRow.holds Tryd.pinned (OpenSpec.ofChange packetNumbersWrong)

/-- 'strongroomlaw8.PacketWrites': WHATEVER THE INPUT: true; the input reads as it did. -/
def packetWritesSpec : ChangeSpec := { name := "packetWrites", fn := fun _ => fun
  | [d1, d2, d3] => { results := [.lit (.bool true)], args := [d1, d2, d3] }
  | _ => none }
def packetWritesRow : OpenClaim := { program := "ythkaibkmpenclaadoor", sum := "5bb527fee36b04a66018f8eb4b1916d163d6b75b370efdc20ad562927b1a3d83", func := "strongroom/strongroomlaw8.PacketWrites", spec := "packetWrites", named := ["strongroom/poly.clamp"], apart := false, laid := [("strongroom/poly.clamp", laid_strongroom_poly_clamp)] }
def PacketWritesSaid : Prop := packetWritesRow.holds Tryd.pinned (OpenSpec.ofChange packetWritesSpec)

/-- ITS FALSE NEIGHBOUR: 'it returns false'. Refute it at one input. -/
def packetWritesWrong : ChangeSpec := { name := "packetWrites", fn := fun _ => fun
  | [d1, d2, d3] => { results := [.lit (.bool false)], args := [d1, d2, d3] }
  | _ => none }
def PacketWritesWrongFalsely : Prop := packetWritesRow.holds Tryd.pinned (OpenSpec.ofChange packetWritesWrong)

/-- 'strongroomlaw8.PacketReads': WHATEVER THE INPUT: true; the input reads as it did. -/
def packetReadsSpec : ChangeSpec := { name := "packetReads", fn := fun _ => fun
  | [d1, d2, d3, d4, d5, d6, d7] => { results := [.lit (.bool true)], args := [d1, d2, d3, d4, d5, d6, d7] }
  | _ => none }
def packetReadsRow : OpenClaim := { program := "ythkaibkmpenclaadoor", sum := "5bb527fee36b04a66018f8eb4b1916d163d6b75b370efdc20ad562927b1a3d83", func := "strongroom/strongroomlaw8.PacketReads", spec := "packetReads", named := ["strongroom/poly.clamp"], apart := false, laid := [("strongroom/poly.clamp", laid_strongroom_poly_clamp)] }
def PacketReadsSaid : Prop := packetReadsRow.holds Tryd.pinned (OpenSpec.ofChange packetReadsSpec)

/-- ITS FALSE NEIGHBOUR: 'it returns false'. Refute it at one input. -/
def packetReadsWrong : ChangeSpec := { name := "packetReads", fn := fun _ => fun
  | [d1, d2, d3, d4, d5, d6, d7] => { results := [.lit (.bool false)], args := [d1, d2, d3, d4, d5, d6, d7] }
  | _ => none }
def PacketReadsWrongFalsely : Prop := packetReadsRow.holds Tryd.pinned (OpenSpec.ofChange packetReadsWrong)

/-- 'strongroomlaw8.PacketBack': WHATEVER THE INPUT: true; the input reads as it did. -/
def packetBackSpec : ChangeSpec := { name := "packetBack", fn := fun _ => fun
  | [d1, d2, d3, d4] => { results := [.lit (.bool true)], args := [d1, d2, d3, d4] }
  | _ => none }
def packetBackRow : OpenClaim := { program := "ythkaibkmpenclaadoor", sum := "5bb527fee36b04a66018f8eb4b1916d163d6b75b370efdc20ad562927b1a3d83", func := "strongroom/strongroomlaw8.PacketBack", spec := "packetBack", named := ["strongroom/poly.clamp"], apart := false, laid := [("strongroom/poly.clamp", laid_strongroom_poly_clamp)] }
def PacketBackSaid : Prop := packetBackRow.holds Tryd.pinned (OpenSpec.ofChange packetBackSpec)

/-- ITS FALSE NEIGHBOUR: 'it returns false'. Refute it at one input. -/
def packetBackWrong : ChangeSpec := { name := "packetBack", fn := fun _ => fun
  | [d1, d2, d3, d4] => { results := [.lit (.bool false)], args := [d1, d2, d3, d4] }
  | _ => none }
def PacketBackWrongFalsely : Prop := packetBackRow.holds Tryd.pinned (OpenSpec.ofChange packetBackWrong)

/-- 'strongroomlaw8.PacketSizes': WHATEVER THE INPUT: true; the input reads as it did. -/
def packetSizesSpec : ChangeSpec := { name := "packetSizes", fn := fun _ => fun
  | [d1, d2, d3] => { results := [.lit (.bool true)], args := [d1, d2, d3] }
  | _ => none }
def packetSizesRow : OpenClaim := { program := "ythkaibkmpenclaadoor", sum := "5bb527fee36b04a66018f8eb4b1916d163d6b75b370efdc20ad562927b1a3d83", func := "strongroom/strongroomlaw8.PacketSizes", spec := "packetSizes", named := ["strongroom/poly.clamp"], apart := false, laid := [("strongroom/poly.clamp", laid_strongroom_poly_clamp)] }
def PacketSizesSaid : Prop := packetSizesRow.holds Tryd.pinned (OpenSpec.ofChange packetSizesSpec)

/-- ITS FALSE NEIGHBOUR: 'it returns false'. Refute it at one input. -/
def packetSizesWrong : ChangeSpec := { name := "packetSizes", fn := fun _ => fun
  | [d1, d2, d3] => { results := [.lit (.bool false)], args := [d1, d2, d3] }
  | _ => none }
def PacketSizesWrongFalsely : Prop := packetSizesRow.holds Tryd.pinned (OpenSpec.ofChange packetSizesWrong)

/-- 'strongroomlaw8.PacketTurned': WHATEVER THE INPUT: true; the input reads as it did. -/
def packetTurnedSpec : ChangeSpec := { name := "packetTurned", fn := fun _ => fun
  | [d1, d2, d3, d4, d5] => { results := [.lit (.bool true)], args := [d1, d2, d3, d4, d5] }
  | _ => none }
def packetTurnedRow : OpenClaim := { program := "ythkaibkmpenclaadoor", sum := "5bb527fee36b04a66018f8eb4b1916d163d6b75b370efdc20ad562927b1a3d83", func := "strongroom/strongroomlaw8.PacketTurned", spec := "packetTurned", named := ["strongroom/poly.clamp"], apart := false, laid := [("strongroom/poly.clamp", laid_strongroom_poly_clamp)] }
def PacketTurnedSaid : Prop := packetTurnedRow.holds Tryd.pinned (OpenSpec.ofChange packetTurnedSpec)

/-- ITS FALSE NEIGHBOUR: 'it returns false'. Refute it at one input. -/
def packetTurnedWrong : ChangeSpec := { name := "packetTurned", fn := fun _ => fun
  | [d1, d2, d3, d4, d5] => { results := [.lit (.bool false)], args := [d1, d2, d3, d4, d5] }
  | _ => none }
def PacketTurnedWrongFalsely : Prop := packetTurnedRow.holds Tryd.pinned (OpenSpec.ofChange packetTurnedWrong)

/- THE SECOND FORM. 'bulk': how many values and letters a reading holds, each counted each time it is reached (what is shared counts as often as it is met; a slice's spare places count too). A statement '..UptoSaid' is the law's where the arguments, and the package variables that the reading takes, are together of bulk at most 1048576: NARROWER than '..Said'. Prove '..Said' where nothing that the law and all that it calls make is longer than what came in: it says more and counts as full. Else prove '..UptoSaid'. A law counts once. -/
mutual
def uptoBulk {H : Type} : DataW H → Nat
  | .lit (.string bytes) => bytes.length + 1
  | .lit _ => 1
  | .nil => 1
  | .ptr d => uptoBulk d + 1
  | .slice elems spare => uptoBulkAll elems + uptoBulkAll spare + 1
  | .agg parts => uptoBulkAll parts + 1
  | .iface _ d => uptoBulk d + 1
  | .map entries => uptoBulkEntries entries + 1
  | .held _ => 1
def uptoBulkAll {H : Type} : List (DataW H) → Nat
  | [] => 0
  | d :: r => uptoBulk d + uptoBulkAll r
def uptoBulkEntries {H : Type} : List (Lit × DataW H) → Nat
  | [] => 0
  | x :: r => uptoBulkEntry x + uptoBulkEntries r
def uptoBulkEntry {H : Type} : Lit × DataW H → Nat
  | (.string bytes, d) => bytes.length + uptoBulk d + 1
  | (_, d) => uptoBulk d + 1
 end
def uptoSmall : (H : Type) → List (DataW H) → Bool := fun _ ds => decide (uptoBulkAll ds ≤ 1048576)
def OpenSpec.upto (s : _root_.Go.ChangeSpec) : _root_.Go.OpenSpec := { _root_.Go.OpenSpec.ofChange s with cond := some uptoSmall }

/-- 'strongroomlaw8.PacketNumbers', WHERE WHAT IT READS IS OF BULK AT MOST 1048576: true; the input reads as it did. -/
def packetNumbersUptoRow : OpenClaim := { program := "ythkaibkmpenclaadoor", sum := "5bb527fee36b04a66018f8eb4b1916d163d6b75b370efdc20ad562927b1a3d83", func := "strongroom/strongroomlaw8.PacketNumbers", spec := "packetNumbers", named := ["strongroom/poly.clamp"], apart := false, laid := [("strongroom/poly.clamp", laid_strongroom_poly_clamp)], narrowed := true }
def PacketNumbersUptoSaid : Prop := packetNumbersUptoRow.holds Tryd.pinned (OpenSpec.upto packetNumbersSpec)

/-- 'strongroomlaw8.PacketWrites', WHERE WHAT IT READS IS OF BULK AT MOST 1048576: true; the input reads as it did. -/
def packetWritesUptoRow : OpenClaim := { program := "ythkaibkmpenclaadoor", sum := "5bb527fee36b04a66018f8eb4b1916d163d6b75b370efdc20ad562927b1a3d83", func := "strongroom/strongroomlaw8.PacketWrites", spec := "packetWrites", named := ["strongroom/poly.clamp"], apart := false, laid := [("strongroom/poly.clamp", laid_strongroom_poly_clamp)], narrowed := true }
def PacketWritesUptoSaid : Prop := packetWritesUptoRow.holds Tryd.pinned (OpenSpec.upto packetWritesSpec)

/-- 'strongroomlaw8.PacketReads', WHERE WHAT IT READS IS OF BULK AT MOST 1048576: true; the input reads as it did. -/
def packetReadsUptoRow : OpenClaim := { program := "ythkaibkmpenclaadoor", sum := "5bb527fee36b04a66018f8eb4b1916d163d6b75b370efdc20ad562927b1a3d83", func := "strongroom/strongroomlaw8.PacketReads", spec := "packetReads", named := ["strongroom/poly.clamp"], apart := false, laid := [("strongroom/poly.clamp", laid_strongroom_poly_clamp)], narrowed := true }
def PacketReadsUptoSaid : Prop := packetReadsUptoRow.holds Tryd.pinned (OpenSpec.upto packetReadsSpec)

/-- 'strongroomlaw8.PacketBack', WHERE WHAT IT READS IS OF BULK AT MOST 1048576: true; the input reads as it did. -/
def packetBackUptoRow : OpenClaim := { program := "ythkaibkmpenclaadoor", sum := "5bb527fee36b04a66018f8eb4b1916d163d6b75b370efdc20ad562927b1a3d83", func := "strongroom/strongroomlaw8.PacketBack", spec := "packetBack", named := ["strongroom/poly.clamp"], apart := false, laid := [("strongroom/poly.clamp", laid_strongroom_poly_clamp)], narrowed := true }
def PacketBackUptoSaid : Prop := packetBackUptoRow.holds Tryd.pinned (OpenSpec.upto packetBackSpec)

/-- 'strongroomlaw8.PacketSizes', WHERE WHAT IT READS IS OF BULK AT MOST 1048576: true; the input reads as it did. -/
def packetSizesUptoRow : OpenClaim := { program := "ythkaibkmpenclaadoor", sum := "5bb527fee36b04a66018f8eb4b1916d163d6b75b370efdc20ad562927b1a3d83", func := "strongroom/strongroomlaw8.PacketSizes", spec := "packetSizes", named := ["strongroom/poly.clamp"], apart := false, laid := [("strongroom/poly.clamp", laid_strongroom_poly_clamp)], narrowed := true }
def PacketSizesUptoSaid : Prop := packetSizesUptoRow.holds Tryd.pinned (OpenSpec.upto packetSizesSpec)

/-- 'strongroomlaw8.PacketTurned', WHERE WHAT IT READS IS OF BULK AT MOST 1048576: true; the input reads as it did. -/
def packetTurnedUptoRow : OpenClaim := { program := "ythkaibkmpenclaadoor", sum := "5bb527fee36b04a66018f8eb4b1916d163d6b75b370efdc20ad562927b1a3d83", func := "strongroom/strongroomlaw8.PacketTurned", spec := "packetTurned", named := ["strongroom/poly.clamp"], apart := false, laid := [("strongroom/poly.clamp", laid_strongroom_poly_clamp)], narrowed := true }
def PacketTurnedUptoSaid : Prop := packetTurnedUptoRow.holds Tryd.pinned (OpenSpec.upto packetTurnedSpec)

end Rows
end Go.Proofs.YthkaibkmpenclaaDoor
