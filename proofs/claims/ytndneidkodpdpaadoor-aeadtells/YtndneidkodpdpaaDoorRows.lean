/-
  NARROWER THAN 'FOR EVERY INPUT', by the rows' own cells (each row's printed sentence says how): PolyNumbers: laid · PolyTells: laid · AeadNumbers: laid · AeadTells: laid · AeadBack: laid · AeadTurned: laid.
  DERIVED. THE GIVEN ROWS OF THIS SEAT. 6 by the template 'for every input the law returns true; each argument reads behind the call as it read before'; 0 by the template 'total and deterministic' (their statements: YtndneidkodpdpaaDoorTotals.lean).
  GIVEN WITH THE SEED: the statements are not yours to turn. If you find one false, say at which input.
  Laid BY PROGRAM, IN A SANDBOX (cutbox-rows.mjs): the forced cells as the released guide's own fill.sh prints them over the translation 4e7ac46110f00797… (all of the seat's roots in one cut). By AI agents, Wed Nov 11 2026. No macro, syntax, notation, axiom, sorry.
-/
import Derived.Test.YtndneidkodpdpaaDoorChecked
import GoSem.Claim
import GoSem.ClaimJoined
import GoSem.ClaimMapViews
import Derived.JoinedTies
import Derived.KernelRfl
namespace Go.Proofs.YtndneidkodpdpaaDoor
/- THE CELL 'sum', in the pinned program and in every row, IS THE sha256 OF THE DUMP (.gsa) THAT YtndneidkodpdpaaDoorProg.lean LOADS. Nothing in Lean hashes anything: it is a label: what it is worth is what the hold of that sum in a sandbox is worth. -/
noncomputable def Tryd.pinned : Pinned := { name := "ytndneidkodpdpaadoor", sum := "4e7ac46110f007974715e06ddd023f74ff98a82e55efe9bd0ffff847aaeef1db", checked := Tryd.checked }
namespace Rows
def none {H : Type} : Left H := { results := [], args := [] }

/- WHAT THE LISTED PACKAGE-LEVEL VARIABLES READ AS WHEN THE CALL BEGINS. Each datum BY PROGRAM (the guide's laid-datum.mjs) off the statement by which the dump's own 'gosem.cut.vars' lays the variable. In a bare row this is a premise. The card (YtndneidkodpdpaaDoorCards.lean) ties it to the program's text. -/
def laid_strongroom_poly_clamp {H : Type} : DataW H := .agg [.lit (.int .u8 255), .lit (.int .u8 255), .lit (.int .u8 255), .lit (.int .u8 15), .lit (.int .u8 252), .lit (.int .u8 255), .lit (.int .u8 255), .lit (.int .u8 15), .lit (.int .u8 252), .lit (.int .u8 255), .lit (.int .u8 255), .lit (.int .u8 15), .lit (.int .u8 252), .lit (.int .u8 255), .lit (.int .u8 255), .lit (.int .u8 15)]

/-- 'strongroomlaw3.PolyNumbers': WHATEVER THE INPUT: true; the input reads as it did. -/
def polyNumbersSpec : ChangeSpec := { name := "polyNumbers", fn := fun _ => fun
  | [] => { results := [.lit (.bool true)], args := [] }
  | _ => none }
def polyNumbersRow : OpenClaim := { program := "ytndneidkodpdpaadoor", sum := "4e7ac46110f007974715e06ddd023f74ff98a82e55efe9bd0ffff847aaeef1db", func := "strongroom/strongroomlaw3.PolyNumbers", spec := "polyNumbers", named := ["strongroom/poly.clamp"], apart := false, laid := [("strongroom/poly.clamp", laid_strongroom_poly_clamp)] }
def PolyNumbersSaid : Prop := polyNumbersRow.holds Tryd.pinned (OpenSpec.ofChange polyNumbersSpec)

/-- ITS FALSE NEIGHBOUR: 'it returns false'. Refute it at one input. -/
def polyNumbersWrong : ChangeSpec := { name := "polyNumbers", fn := fun _ => fun
  | [] => { results := [.lit (.bool false)], args := [] }
  | _ => none }
def PolyNumbersWrongFalsely : Prop := polyNumbersRow.holds Tryd.pinned (OpenSpec.ofChange polyNumbersWrong)

/-- 'strongroomlaw3.PolyTells': WHATEVER THE INPUT: true; the input reads as it did. -/
def polyTellsSpec : ChangeSpec := { name := "polyTells", fn := fun _ => fun
  | [d1, d2, d3] => { results := [.lit (.bool true)], args := [d1, d2, d3] }
  | _ => none }
def polyTellsRow : OpenClaim := { program := "ytndneidkodpdpaadoor", sum := "4e7ac46110f007974715e06ddd023f74ff98a82e55efe9bd0ffff847aaeef1db", func := "strongroom/strongroomlaw3.PolyTells", spec := "polyTells", named := ["strongroom/poly.clamp"], apart := false, laid := [("strongroom/poly.clamp", laid_strongroom_poly_clamp)] }
def PolyTellsSaid : Prop := polyTellsRow.holds Tryd.pinned (OpenSpec.ofChange polyTellsSpec)

/-- ITS FALSE NEIGHBOUR: 'it returns false'. Refute it at one input. -/
def polyTellsWrong : ChangeSpec := { name := "polyTells", fn := fun _ => fun
  | [d1, d2, d3] => { results := [.lit (.bool false)], args := [d1, d2, d3] }
  | _ => none }
def PolyTellsWrongFalsely : Prop := polyTellsRow.holds Tryd.pinned (OpenSpec.ofChange polyTellsWrong)

/-- 'strongroomlaw4.AeadNumbers': WHATEVER THE INPUT: true; the input reads as it did. -/
def aeadNumbersSpec : ChangeSpec := { name := "aeadNumbers", fn := fun _ => fun
  | [] => { results := [.lit (.bool true)], args := [] }
  | _ => none }
def aeadNumbersRow : OpenClaim := { program := "ytndneidkodpdpaadoor", sum := "4e7ac46110f007974715e06ddd023f74ff98a82e55efe9bd0ffff847aaeef1db", func := "strongroom/strongroomlaw4.AeadNumbers", spec := "aeadNumbers", named := ["strongroom/poly.clamp"], apart := false, laid := [("strongroom/poly.clamp", laid_strongroom_poly_clamp)] }
def AeadNumbersSaid : Prop := aeadNumbersRow.holds Tryd.pinned (OpenSpec.ofChange aeadNumbersSpec)

/-- ITS FALSE NEIGHBOUR: 'it returns false'. Refute it at one input. -/
def aeadNumbersWrong : ChangeSpec := { name := "aeadNumbers", fn := fun _ => fun
  | [] => { results := [.lit (.bool false)], args := [] }
  | _ => none }
def AeadNumbersWrongFalsely : Prop := aeadNumbersRow.holds Tryd.pinned (OpenSpec.ofChange aeadNumbersWrong)

/-- 'strongroomlaw4.AeadTells': WHATEVER THE INPUT: true; the input reads as it did. -/
def aeadTellsSpec : ChangeSpec := { name := "aeadTells", fn := fun _ => fun
  | [d1, d2, d3, d4, d5, d6, d7] => { results := [.lit (.bool true)], args := [d1, d2, d3, d4, d5, d6, d7] }
  | _ => none }
def aeadTellsRow : OpenClaim := { program := "ytndneidkodpdpaadoor", sum := "4e7ac46110f007974715e06ddd023f74ff98a82e55efe9bd0ffff847aaeef1db", func := "strongroom/strongroomlaw4.AeadTells", spec := "aeadTells", named := ["strongroom/poly.clamp"], apart := false, laid := [("strongroom/poly.clamp", laid_strongroom_poly_clamp)] }
def AeadTellsSaid : Prop := aeadTellsRow.holds Tryd.pinned (OpenSpec.ofChange aeadTellsSpec)

/-- ITS FALSE NEIGHBOUR: 'it returns false'. Refute it at one input. -/
def aeadTellsWrong : ChangeSpec := { name := "aeadTells", fn := fun _ => fun
  | [d1, d2, d3, d4, d5, d6, d7] => { results := [.lit (.bool false)], args := [d1, d2, d3, d4, d5, d6, d7] }
  | _ => none }
def AeadTellsWrongFalsely : Prop := aeadTellsRow.holds Tryd.pinned (OpenSpec.ofChange aeadTellsWrong)

/-- 'strongroomlaw4.AeadBack': WHATEVER THE INPUT: true; the input reads as it did. -/
def aeadBackSpec : ChangeSpec := { name := "aeadBack", fn := fun _ => fun
  | [d1, d2, d3, d4] => { results := [.lit (.bool true)], args := [d1, d2, d3, d4] }
  | _ => none }
def aeadBackRow : OpenClaim := { program := "ytndneidkodpdpaadoor", sum := "4e7ac46110f007974715e06ddd023f74ff98a82e55efe9bd0ffff847aaeef1db", func := "strongroom/strongroomlaw4.AeadBack", spec := "aeadBack", named := ["strongroom/poly.clamp"], apart := false, laid := [("strongroom/poly.clamp", laid_strongroom_poly_clamp)] }
def AeadBackSaid : Prop := aeadBackRow.holds Tryd.pinned (OpenSpec.ofChange aeadBackSpec)

/-- ITS FALSE NEIGHBOUR: 'it returns false'. Refute it at one input. -/
def aeadBackWrong : ChangeSpec := { name := "aeadBack", fn := fun _ => fun
  | [d1, d2, d3, d4] => { results := [.lit (.bool false)], args := [d1, d2, d3, d4] }
  | _ => none }
def AeadBackWrongFalsely : Prop := aeadBackRow.holds Tryd.pinned (OpenSpec.ofChange aeadBackWrong)

/-- 'strongroomlaw4.AeadTurned': WHATEVER THE INPUT: true; the input reads as it did. -/
def aeadTurnedSpec : ChangeSpec := { name := "aeadTurned", fn := fun _ => fun
  | [d1, d2, d3, d4, d5, d6] => { results := [.lit (.bool true)], args := [d1, d2, d3, d4, d5, d6] }
  | _ => none }
def aeadTurnedRow : OpenClaim := { program := "ytndneidkodpdpaadoor", sum := "4e7ac46110f007974715e06ddd023f74ff98a82e55efe9bd0ffff847aaeef1db", func := "strongroom/strongroomlaw4.AeadTurned", spec := "aeadTurned", named := ["strongroom/poly.clamp"], apart := false, laid := [("strongroom/poly.clamp", laid_strongroom_poly_clamp)] }
def AeadTurnedSaid : Prop := aeadTurnedRow.holds Tryd.pinned (OpenSpec.ofChange aeadTurnedSpec)

/-- ITS FALSE NEIGHBOUR: 'it returns false'. Refute it at one input. -/
def aeadTurnedWrong : ChangeSpec := { name := "aeadTurned", fn := fun _ => fun
  | [d1, d2, d3, d4, d5, d6] => { results := [.lit (.bool false)], args := [d1, d2, d3, d4, d5, d6] }
  | _ => none }
def AeadTurnedWrongFalsely : Prop := aeadTurnedRow.holds Tryd.pinned (OpenSpec.ofChange aeadTurnedWrong)

/- THE SECOND FORM. 'bulk': how many values and letters a reading holds, each counted each time it is reached (what is shared counts as often as it is met; a slice's spare places count too). A statement '..UptoSaid' is the law's where the arguments, and the package variables that the reading takes, are together of bulk at most 1048576: NARROWER than '..Said'. Prove '..Said' where nothing that the law and all that it calls make is longer than what came in: it says more and counts as full. Else prove '..UptoSaid'. A law counts once. -/
mutual
def uptoBulk {H : Type} : DataW H → Nat
  | .lit (.string bytes) => bytes.length + 1
  | .lit _ => 1
  | .nil => 1
  | .ptr d => uptoBulk d + 1
  | .slice elems spare => uptoBulkAll elems + uptoBulkAll spare + 1
  | .agg parts => uptoBulkAll parts + 1
  | .iface _ d => uptoBulk d + 1
  | .map entries => uptoBulkEntries entries + 1
  | .held _ => 1
def uptoBulkAll {H : Type} : List (DataW H) → Nat
  | [] => 0
  | d :: r => uptoBulk d + uptoBulkAll r
def uptoBulkEntries {H : Type} : List (Lit × DataW H) → Nat
  | [] => 0
  | x :: r => uptoBulkEntry x + uptoBulkEntries r
def uptoBulkEntry {H : Type} : Lit × DataW H → Nat
  | (.string bytes, d) => bytes.length + uptoBulk d + 1
  | (_, d) => uptoBulk d + 1
 end
def uptoSmall : (H : Type) → List (DataW H) → Bool := fun _ ds => decide (uptoBulkAll ds ≤ 1048576)
def OpenSpec.upto (s : _root_.Go.ChangeSpec) : _root_.Go.OpenSpec := { _root_.Go.OpenSpec.ofChange s with cond := some uptoSmall }

/-- 'strongroomlaw3.PolyNumbers', WHERE WHAT IT READS IS OF BULK AT MOST 1048576: true; the input reads as it did. -/
def polyNumbersUptoRow : OpenClaim := { program := "ytndneidkodpdpaadoor", sum := "4e7ac46110f007974715e06ddd023f74ff98a82e55efe9bd0ffff847aaeef1db", func := "strongroom/strongroomlaw3.PolyNumbers", spec := "polyNumbers", named := ["strongroom/poly.clamp"], apart := false, laid := [("strongroom/poly.clamp", laid_strongroom_poly_clamp)], narrowed := true }
def PolyNumbersUptoSaid : Prop := polyNumbersUptoRow.holds Tryd.pinned (OpenSpec.upto polyNumbersSpec)

/-- 'strongroomlaw3.PolyTells', WHERE WHAT IT READS IS OF BULK AT MOST 1048576: true; the input reads as it did. -/
def polyTellsUptoRow : OpenClaim := { program := "ytndneidkodpdpaadoor", sum := "4e7ac46110f007974715e06ddd023f74ff98a82e55efe9bd0ffff847aaeef1db", func := "strongroom/strongroomlaw3.PolyTells", spec := "polyTells", named := ["strongroom/poly.clamp"], apart := false, laid := [("strongroom/poly.clamp", laid_strongroom_poly_clamp)], narrowed := true }
def PolyTellsUptoSaid : Prop := polyTellsUptoRow.holds Tryd.pinned (OpenSpec.upto polyTellsSpec)

/-- 'strongroomlaw4.AeadNumbers', WHERE WHAT IT READS IS OF BULK AT MOST 1048576: true; the input reads as it did. -/
def aeadNumbersUptoRow : OpenClaim := { program := "ytndneidkodpdpaadoor", sum := "4e7ac46110f007974715e06ddd023f74ff98a82e55efe9bd0ffff847aaeef1db", func := "strongroom/strongroomlaw4.AeadNumbers", spec := "aeadNumbers", named := ["strongroom/poly.clamp"], apart := false, laid := [("strongroom/poly.clamp", laid_strongroom_poly_clamp)], narrowed := true }
def AeadNumbersUptoSaid : Prop := aeadNumbersUptoRow.holds Tryd.pinned (OpenSpec.upto aeadNumbersSpec)

/-- 'strongroomlaw4.AeadTells', WHERE WHAT IT READS IS OF BULK AT MOST 1048576: true; the input reads as it did. -/
def aeadTellsUptoRow : OpenClaim := { program := "ytndneidkodpdpaadoor", sum := "4e7ac46110f007974715e06ddd023f74ff98a82e55efe9bd0ffff847aaeef1db", func := "strongroom/strongroomlaw4.AeadTells", spec := "aeadTells", named := ["strongroom/poly.clamp"], apart := false, laid := [("strongroom/poly.clamp", laid_strongroom_poly_clamp)], narrowed := true }
def AeadTellsUptoSaid : Prop := aeadTellsUptoRow.holds Tryd.pinned (OpenSpec.upto aeadTellsSpec)

/-- 'strongroomlaw4.AeadBack', WHERE WHAT IT READS IS OF BULK AT MOST 1048576: true; the input reads as it did. -/
def aeadBackUptoRow : OpenClaim := { program := "ytndneidkodpdpaadoor", sum := "4e7ac46110f007974715e06ddd023f74ff98a82e55efe9bd0ffff847aaeef1db", func := "strongroom/strongroomlaw4.AeadBack", spec := "aeadBack", named := ["strongroom/poly.clamp"], apart := false, laid := [("strongroom/poly.clamp", laid_strongroom_poly_clamp)], narrowed := true }
def AeadBackUptoSaid : Prop := aeadBackUptoRow.holds Tryd.pinned (OpenSpec.upto aeadBackSpec)

/-- 'strongroomlaw4.AeadTurned', WHERE WHAT IT READS IS OF BULK AT MOST 1048576: true; the input reads as it did. -/
def aeadTurnedUptoRow : OpenClaim := { program := "ytndneidkodpdpaadoor", sum := "4e7ac46110f007974715e06ddd023f74ff98a82e55efe9bd0ffff847aaeef1db", func := "strongroom/strongroomlaw4.AeadTurned", spec := "aeadTurned", named := ["strongroom/poly.clamp"], apart := false, laid := [("strongroom/poly.clamp", laid_strongroom_poly_clamp)], narrowed := true }
def AeadTurnedUptoSaid : Prop := aeadTurnedUptoRow.holds Tryd.pinned (OpenSpec.upto aeadTurnedSpec)

end Rows
end Go.Proofs.YtndneidkodpdpaaDoor
