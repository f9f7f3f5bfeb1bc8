/-
  NARROWER THAN 'FOR EVERY INPUT', by the rows' own cells (each row's printed sentence says how): PolyNumbers: laid · PolyTells: laid · PolyLine: laid · PolyOne: laid · PolyBlocks: laid.
  DERIVED. THE GIVEN ROWS OF THIS SEAT. 5 by the template 'for every input the law returns true; each argument reads behind the call as it read before'; 0 by the template 'total and deterministic' (their statements: YtfnaelmgdjkchaaDoorTotals.lean).
  GIVEN WITH THE SEED: the statements are not yours to turn. If you find one false, say at which input.
  Laid BY PROGRAM, IN A SANDBOX (cutbox-rows.mjs): the forced cells as the released guide's own fill.sh prints them over the translation fd10dac2c24ef3e3… (all of the seat's roots in one cut). By AI agents, Wed Nov 11 2026. No macro, syntax, notation, axiom, sorry.
-/
import Derived.Test.YtfnaelmgdjkchaaDoorChecked
import GoSem.Claim
import GoSem.ClaimJoined
import GoSem.ClaimMapViews
import Derived.JoinedTies
import Derived.KernelRfl
namespace Go.Proofs.YtfnaelmgdjkchaaDoor
/- THE CELL 'sum', in the pinned program and in every row, IS THE sha256 OF THE DUMP (.gsa) THAT YtfnaelmgdjkchaaDoorProg.lean LOADS. Nothing in Lean hashes anything: it is a label: what it is worth is what the hold of that sum in a sandbox is worth. -/
noncomputable def Tryd.pinned : Pinned := { name := "ytfnaelmgdjkchaadoor", sum := "fd10dac2c24ef3e32816f8cff3c8596493bcb04565ad9d7c4307daf537c992a3", checked := Tryd.checked }
namespace Rows
def none {H : Type} : Left H := { results := [], args := [] }

/- WHAT THE LISTED PACKAGE-LEVEL VARIABLES READ AS WHEN THE CALL BEGINS. Each datum BY PROGRAM (the guide's laid-datum.mjs) off the statement by which the dump's own 'gosem.cut.vars' lays the variable. In a bare row this is a premise. The card (YtfnaelmgdjkchaaDoorCards.lean) ties it to the program's text. -/
def laid_strongroom_poly_clamp {H : Type} : DataW H := .agg [.lit (.int .u8 255), .lit (.int .u8 255), .lit (.int .u8 255), .lit (.int .u8 15), .lit (.int .u8 252), .lit (.int .u8 255), .lit (.int .u8 255), .lit (.int .u8 15), .lit (.int .u8 252), .lit (.int .u8 255), .lit (.int .u8 255), .lit (.int .u8 15), .lit (.int .u8 252), .lit (.int .u8 255), .lit (.int .u8 255), .lit (.int .u8 15)]

/-- 'strongroomlaw3.PolyNumbers': WHATEVER THE INPUT: true; the input reads as it did. -/
def polyNumbersSpec : ChangeSpec := { name := "polyNumbers", fn := fun _ => fun
  | [] => { results := [.lit (.bool true)], args := [] }
  | _ => none }
def polyNumbersRow : OpenClaim := { program := "ytfnaelmgdjkchaadoor", sum := "fd10dac2c24ef3e32816f8cff3c8596493bcb04565ad9d7c4307daf537c992a3", func := "strongroom/strongroomlaw3.PolyNumbers", spec := "polyNumbers", named := ["strongroom/poly.clamp"], apart := false, laid := [("strongroom/poly.clamp", laid_strongroom_poly_clamp)] }
def PolyNumbersSaid : Prop := polyNumbersRow.holds Tryd.pinned (OpenSpec.ofChange polyNumbersSpec)

/-- ITS FALSE NEIGHBOUR: 'it returns false'. Refute it at one input. -/
def polyNumbersWrong : ChangeSpec := { name := "polyNumbers", fn := fun _ => fun
  | [] => { results := [.lit (.bool false)], args := [] }
  | _ => none }
def PolyNumbersWrongFalsely : Prop := polyNumbersRow.holds Tryd.pinned (OpenSpec.ofChange polyNumbersWrong)

/-- 'strongroomlaw3.PolyTells': WHATEVER THE INPUT: true; the input reads as it did. -/
def polyTellsSpec : ChangeSpec := { name := "polyTells", fn := fun _ => fun
  | [d1, d2, d3] => { results := [.lit (.bool true)], args := [d1, d2, d3] }
  | _ => none }
def polyTellsRow : OpenClaim := { program := "ytfnaelmgdjkchaadoor", sum := "fd10dac2c24ef3e32816f8cff3c8596493bcb04565ad9d7c4307daf537c992a3", func := "strongroom/strongroomlaw3.PolyTells", spec := "polyTells", named := ["strongroom/poly.clamp"], apart := false, laid := [("strongroom/poly.clamp", laid_strongroom_poly_clamp)] }
def PolyTellsSaid : Prop := polyTellsRow.holds Tryd.pinned (OpenSpec.ofChange polyTellsSpec)

/-- ITS FALSE NEIGHBOUR: 'it returns false'. Refute it at one input. -/
def polyTellsWrong : ChangeSpec := { name := "polyTells", fn := fun _ => fun
  | [d1, d2, d3] => { results := [.lit (.bool false)], args := [d1, d2, d3] }
  | _ => none }
def PolyTellsWrongFalsely : Prop := polyTellsRow.holds Tryd.pinned (OpenSpec.ofChange polyTellsWrong)

/-- 'strongroomlaw3.PolyLine': WHATEVER THE INPUT: true; the input reads as it did. -/
def polyLineSpec : ChangeSpec := { name := "polyLine", fn := fun _ => fun
  | [d1, d2] => { results := [.lit (.bool true)], args := [d1, d2] }
  | _ => none }
def polyLineRow : OpenClaim := { program := "ytfnaelmgdjkchaadoor", sum := "fd10dac2c24ef3e32816f8cff3c8596493bcb04565ad9d7c4307daf537c992a3", func := "strongroom/strongroomlaw3.PolyLine", spec := "polyLine", named := ["strongroom/poly.clamp"], apart := false, laid := [("strongroom/poly.clamp", laid_strongroom_poly_clamp)] }
def PolyLineSaid : Prop := polyLineRow.holds Tryd.pinned (OpenSpec.ofChange polyLineSpec)

/-- ITS FALSE NEIGHBOUR: 'it returns false'. Refute it at one input. -/
def polyLineWrong : ChangeSpec := { name := "polyLine", fn := fun _ => fun
  | [d1, d2] => { results := [.lit (.bool false)], args := [d1, d2] }
  | _ => none }
def PolyLineWrongFalsely : Prop := polyLineRow.holds Tryd.pinned (OpenSpec.ofChange polyLineWrong)

/-- 'strongroomlaw3.PolyOne': WHATEVER THE INPUT: true; the input reads as it did. -/
def polyOneSpec : ChangeSpec := { name := "polyOne", fn := fun _ => fun
  | [d] => { results := [.lit (.bool true)], args := [d] }
  | _ => none }
def polyOneRow : OpenClaim := { program := "ytfnaelmgdjkchaadoor", sum := "fd10dac2c24ef3e32816f8cff3c8596493bcb04565ad9d7c4307daf537c992a3", func := "strongroom/strongroomlaw3.PolyOne", spec := "polyOne", named := ["strongroom/poly.clamp"], apart := false, laid := [("strongroom/poly.clamp", laid_strongroom_poly_clamp)] }
def PolyOneSaid : Prop := polyOneRow.holds Tryd.pinned (OpenSpec.ofChange polyOneSpec)

/-- ITS FALSE NEIGHBOUR: 'it returns false'. Refute it at one input. -/
def polyOneWrong : ChangeSpec := { name := "polyOne", fn := fun _ => fun
  | [d] => { results := [.lit (.bool false)], args := [d] }
  | _ => none }
def PolyOneWrongFalsely : Prop := polyOneRow.holds Tryd.pinned (OpenSpec.ofChange polyOneWrong)

/-- 'strongroomlaw3.PolyBlocks': WHATEVER THE INPUT: true; the input reads as it did. -/
def polyBlocksSpec : ChangeSpec := { name := "polyBlocks", fn := fun _ => fun
  | [d1, d2, d3, d4] => { results := [.lit (.bool true)], args := [d1, d2, d3, d4] }
  | _ => none }
def polyBlocksRow : OpenClaim := { program := "ytfnaelmgdjkchaadoor", sum := "fd10dac2c24ef3e32816f8cff3c8596493bcb04565ad9d7c4307daf537c992a3", func := "strongroom/strongroomlaw3.PolyBlocks", spec := "polyBlocks", named := ["strongroom/poly.clamp"], apart := false, laid := [("strongroom/poly.clamp", laid_strongroom_poly_clamp)] }
def PolyBlocksSaid : Prop := polyBlocksRow.holds Tryd.pinned (OpenSpec.ofChange polyBlocksSpec)

/-- ITS FALSE NEIGHBOUR: 'it returns false'. Refute it at one input. -/
def polyBlocksWrong : ChangeSpec := { name := "polyBlocks", fn := fun _ => fun
  | [d1, d2, d3, d4] => { results := [.lit (.bool false)], args := [d1, d2, d3, d4] }
  | _ => none }
def PolyBlocksWrongFalsely : Prop := polyBlocksRow.holds Tryd.pinned (OpenSpec.ofChange polyBlocksWrong)

/- THE SECOND FORM. 'bulk': how many values and letters a reading holds, each counted each time it is reached (what is shared counts as often as it is met; a slice's spare places count too). A statement '..UptoSaid' is the law's where the arguments, and the package variables that the reading takes, are together of bulk at most 1048576: NARROWER than '..Said'. Prove '..Said' where nothing that the law and all that it calls make is longer than what came in: it says more and counts as full. Else prove '..UptoSaid'. A law counts once. -/
mutual
def uptoBulk {H : Type} : DataW H → Nat
  | .lit (.string bytes) => bytes.length + 1
  | .lit _ => 1
  | .nil => 1
  | .ptr d => uptoBulk d + 1
  | .slice elems spare => uptoBulkAll elems + uptoBulkAll spare + 1
  | .agg parts => uptoBulkAll parts + 1
  | .iface _ d => uptoBulk d + 1
  | .map entries => uptoBulkEntries entries + 1
  | .held _ => 1
def uptoBulkAll {H : Type} : List (DataW H) → Nat
  | [] => 0
  | d :: r => uptoBulk d + uptoBulkAll r
def uptoBulkEntries {H : Type} : List (Lit × DataW H) → Nat
  | [] => 0
  | x :: r => uptoBulkEntry x + uptoBulkEntries r
def uptoBulkEntry {H : Type} : Lit × DataW H → Nat
  | (.string bytes, d) => bytes.length + uptoBulk d + 1
  | (_, d) => uptoBulk d + 1
 end
def uptoSmall : (H : Type) → List (DataW H) → Bool := fun _ ds => decide (uptoBulkAll ds ≤ 1048576)
def OpenSpec.upto (s : _root_.Go.ChangeSpec) : _root_.Go.OpenSpec := { _root_.Go.OpenSpec.ofChange s with cond := some uptoSmall }

/-- 'strongroomlaw3.PolyNumbers', WHERE WHAT IT READS IS OF BULK AT MOST 1048576: true; the input reads as it did. -/
def polyNumbersUptoRow : OpenClaim := { program := "ytfnaelmgdjkchaadoor", sum := "fd10dac2c24ef3e32816f8cff3c8596493bcb04565ad9d7c4307daf537c992a3", func := "strongroom/strongroomlaw3.PolyNumbers", spec := "polyNumbers", named := ["strongroom/poly.clamp"], apart := false, laid := [("strongroom/poly.clamp", laid_strongroom_poly_clamp)], narrowed := true }
def PolyNumbersUptoSaid : Prop := polyNumbersUptoRow.holds Tryd.pinned (OpenSpec.upto polyNumbersSpec)

/-- 'strongroomlaw3.PolyTells', WHERE WHAT IT READS IS OF BULK AT MOST 1048576: true; the input reads as it did. -/
def polyTellsUptoRow : OpenClaim := { program := "ytfnaelmgdjkchaadoor", sum := "fd10dac2c24ef3e32816f8cff3c8596493bcb04565ad9d7c4307daf537c992a3", func := "strongroom/strongroomlaw3.PolyTells", spec := "polyTells", named := ["strongroom/poly.clamp"], apart := false, laid := [("strongroom/poly.clamp", laid_strongroom_poly_clamp)], narrowed := true }
def PolyTellsUptoSaid : Prop := polyTellsUptoRow.holds Tryd.pinned (OpenSpec.upto polyTellsSpec)

/-- 'strongroomlaw3.PolyLine', WHERE WHAT IT READS IS OF BULK AT MOST 1048576: true; the input reads as it did. -/
def polyLineUptoRow : OpenClaim := { program := "ytfnaelmgdjkchaadoor", sum := "fd10dac2c24ef3e32816f8cff3c8596493bcb04565ad9d7c4307daf537c992a3", func := "strongroom/strongroomlaw3.PolyLine", spec := "polyLine", named := ["strongroom/poly.clamp"], apart := false, laid := [("strongroom/poly.clamp", laid_strongroom_poly_clamp)], narrowed := true }
def PolyLineUptoSaid : Prop := polyLineUptoRow.holds Tryd.pinned (OpenSpec.upto polyLineSpec)

/-- 'strongroomlaw3.PolyOne', WHERE WHAT IT READS IS OF BULK AT MOST 1048576: true; the input reads as it did. -/
def polyOneUptoRow : OpenClaim := { program := "ytfnaelmgdjkchaadoor", sum := "fd10dac2c24ef3e32816f8cff3c8596493bcb04565ad9d7c4307daf537c992a3", func := "strongroom/strongroomlaw3.PolyOne", spec := "polyOne", named := ["strongroom/poly.clamp"], apart := false, laid := [("strongroom/poly.clamp", laid_strongroom_poly_clamp)], narrowed := true }
def PolyOneUptoSaid : Prop := polyOneUptoRow.holds Tryd.pinned (OpenSpec.upto polyOneSpec)

/-- 'strongroomlaw3.PolyBlocks', WHERE WHAT IT READS IS OF BULK AT MOST 1048576: true; the input reads as it did. -/
def polyBlocksUptoRow : OpenClaim := { program := "ytfnaelmgdjkchaadoor", sum := "fd10dac2c24ef3e32816f8cff3c8596493bcb04565ad9d7c4307daf537c992a3", func := "strongroom/strongroomlaw3.PolyBlocks", spec := "polyBlocks", named := ["strongroom/poly.clamp"], apart := false, laid := [("strongroom/poly.clamp", laid_strongroom_poly_clamp)], narrowed := true }
def PolyBlocksUptoSaid : Prop := polyBlocksUptoRow.holds Tryd.pinned (OpenSpec.upto polyBlocksSpec)

end Rows
end Go.Proofs.YtfnaelmgdjkchaaDoor
