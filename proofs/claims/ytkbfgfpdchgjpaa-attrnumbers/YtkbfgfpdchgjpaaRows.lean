/-
  No cell of these rows narrows 'for every input' (looked for: loops, veiled, ifaces, maps, wideKeys, modest, calm, conditions, laid).
  DERIVED. THE GIVEN ROWS OF THIS SEAT. 4 by the template 'for every input the law returns true; each argument reads behind the call as it read before'; 0 by the template 'total and deterministic' (their statements: YtkbfgfpdchgjpaaTotals.lean).
  GIVEN WITH THE SEED: the statements are not yours to turn. If you find one false, say at which input.
  Laid BY PROGRAM, IN A SANDBOX (cutbox-rows.mjs): the forced cells as the released guide's own fill.sh prints them over the translation 4f2e403b17ee0212… (all of the seat's roots in one cut). By AI agents, Wed Nov 11 2026. No macro, syntax, notation, axiom, sorry.
-/
import Derived.Test.YtkbfgfpdchgjpaaChecked
import GoSem.Claim
import GoSem.ClaimJoined
import GoSem.ClaimMapViews
import Derived.JoinedTies
import Derived.KernelRfl
namespace Go.Proofs.Ytkbfgfpdchgjpaa
/- THE CELL 'sum', in the pinned program and in every row, IS THE sha256 OF THE DUMP (.gsa) THAT YtkbfgfpdchgjpaaProg.lean LOADS. Nothing in Lean hashes anything: it is a label: what it is worth is what the hold of that sum in a sandbox is worth. -/
noncomputable def Try.pinned : Pinned := { name := "ytkbfgfpdchgjpaa", sum := "4f2e403b17ee0212b5365e06911237e75efad0d9ec36d57069baa7350687ed29", checked := Try.checked }
namespace Rows
def none {H : Type} : Left H := { results := [], args := [] }

/-- 'strongroomlaw14.AttrNumbers': WHATEVER THE INPUT: true; the input reads as it did. -/
def attrNumbersSpec : ChangeSpec := { name := "attrNumbers", fn := fun _ => fun
  | [] => { results := [.lit (.bool true)], args := [] }
  | _ => none }
def attrNumbersRow : OpenClaim := { program := "ytkbfgfpdchgjpaa", sum := "4f2e403b17ee0212b5365e06911237e75efad0d9ec36d57069baa7350687ed29", func := "strongroom/strongroomlaw14.AttrNumbers", spec := "attrNumbers", apart := false }
def AttrNumbersSaid : Prop := attrNumbersRow.holds Try.pinned (OpenSpec.ofChange attrNumbersSpec)

/-- ITS FALSE NEIGHBOUR: 'it returns false'. Refute it at one input. -/
def attrNumbersWrong : ChangeSpec := { name := "attrNumbers", fn := fun _ => fun
  | [] => { results := [.lit (.bool false)], args := [] }
  | _ => none }
def AttrNumbersWrongFalsely : Prop := attrNumbersRow.holds Try.pinned (OpenSpec.ofChange attrNumbersWrong)

/-- 'strongroomlaw14.AttrTells': WHATEVER THE INPUT: true; the input reads as it did. -/
def attrTellsSpec : ChangeSpec := { name := "attrTells", fn := fun _ => fun
  | [d1, d2, d3, d4, d5] => { results := [.lit (.bool true)], args := [d1, d2, d3, d4, d5] }
  | _ => none }
def attrTellsRow : OpenClaim := { program := "ytkbfgfpdchgjpaa", sum := "4f2e403b17ee0212b5365e06911237e75efad0d9ec36d57069baa7350687ed29", func := "strongroom/strongroomlaw14.AttrTells", spec := "attrTells", apart := false }
def AttrTellsSaid : Prop := attrTellsRow.holds Try.pinned (OpenSpec.ofChange attrTellsSpec)

/-- ITS FALSE NEIGHBOUR: 'it returns false'. Refute it at one input. -/
def attrTellsWrong : ChangeSpec := { name := "attrTells", fn := fun _ => fun
  | [d1, d2, d3, d4, d5] => { results := [.lit (.bool false)], args := [d1, d2, d3, d4, d5] }
  | _ => none }
def AttrTellsWrongFalsely : Prop := attrTellsRow.holds Try.pinned (OpenSpec.ofChange attrTellsWrong)

/-- 'strongroomlaw14.AttrBack': WHATEVER THE INPUT: true; the input reads as it did. -/
def attrBackSpec : ChangeSpec := { name := "attrBack", fn := fun _ => fun
  | [d1, d2, d3] => { results := [.lit (.bool true)], args := [d1, d2, d3] }
  | _ => none }
def attrBackRow : OpenClaim := { program := "ytkbfgfpdchgjpaa", sum := "4f2e403b17ee0212b5365e06911237e75efad0d9ec36d57069baa7350687ed29", func := "strongroom/strongroomlaw14.AttrBack", spec := "attrBack", apart := false }
def AttrBackSaid : Prop := attrBackRow.holds Try.pinned (OpenSpec.ofChange attrBackSpec)

/-- ITS FALSE NEIGHBOUR: 'it returns false'. Refute it at one input. -/
def attrBackWrong : ChangeSpec := { name := "attrBack", fn := fun _ => fun
  | [d1, d2, d3] => { results := [.lit (.bool false)], args := [d1, d2, d3] }
  | _ => none }
def AttrBackWrongFalsely : Prop := attrBackRow.holds Try.pinned (OpenSpec.ofChange attrBackWrong)

/-- 'strongroomlaw14.AttrCuts': WHATEVER THE INPUT: true; the input reads as it did. -/
def attrCutsSpec : ChangeSpec := { name := "attrCuts", fn := fun _ => fun
  | [d1, d2] => { results := [.lit (.bool true)], args := [d1, d2] }
  | _ => none }
def attrCutsRow : OpenClaim := { program := "ytkbfgfpdchgjpaa", sum := "4f2e403b17ee0212b5365e06911237e75efad0d9ec36d57069baa7350687ed29", func := "strongroom/strongroomlaw14.AttrCuts", spec := "attrCuts", apart := false }
def AttrCutsSaid : Prop := attrCutsRow.holds Try.pinned (OpenSpec.ofChange attrCutsSpec)

/-- ITS FALSE NEIGHBOUR: 'it returns false'. Refute it at one input. -/
def attrCutsWrong : ChangeSpec := { name := "attrCuts", fn := fun _ => fun
  | [d1, d2] => { results := [.lit (.bool false)], args := [d1, d2] }
  | _ => none }
def AttrCutsWrongFalsely : Prop := attrCutsRow.holds Try.pinned (OpenSpec.ofChange attrCutsWrong)

/- THE SECOND FORM. 'bulk': how many values and letters a reading holds, each counted each time it is reached (what is shared counts as often as it is met; a slice's spare places count too). A statement '..UptoSaid' is the law's where the arguments, and the package variables that the reading takes, are together of bulk at most 1048576: NARROWER than '..Said'. Prove '..Said' where nothing that the law and all that it calls make is longer than what came in: it says more and counts as full. Else prove '..UptoSaid'. A law counts once. -/
mutual
def uptoBulk {H : Type} : DataW H → Nat
  | .lit (.string bytes) => bytes.length + 1
  | .lit _ => 1
  | .nil => 1
  | .ptr d => uptoBulk d + 1
  | .slice elems spare => uptoBulkAll elems + uptoBulkAll spare + 1
  | .agg parts => uptoBulkAll parts + 1
  | .iface _ d => uptoBulk d + 1
  | .map entries => uptoBulkEntries entries + 1
  | .held _ => 1
def uptoBulkAll {H : Type} : List (DataW H) → Nat
  | [] => 0
  | d :: r => uptoBulk d + uptoBulkAll r
def uptoBulkEntries {H : Type} : List (Lit × DataW H) → Nat
  | [] => 0
  | x :: r => uptoBulkEntry x + uptoBulkEntries r
def uptoBulkEntry {H : Type} : Lit × DataW H → Nat
  | (.string bytes, d) => bytes.length + uptoBulk d + 1
  | (_, d) => uptoBulk d + 1
 end
def uptoSmall : (H : Type) → List (DataW H) → Bool := fun _ ds => decide (uptoBulkAll ds ≤ 1048576)
def OpenSpec.upto (s : _root_.Go.ChangeSpec) : _root_.Go.OpenSpec := { _root_.Go.OpenSpec.ofChange s with cond := some uptoSmall }

/-- 'strongroomlaw14.AttrNumbers', WHERE WHAT IT READS IS OF BULK AT MOST 1048576: true; the input reads as it did. -/
def attrNumbersUptoRow : OpenClaim := { program := "ytkbfgfpdchgjpaa", sum := "4f2e403b17ee0212b5365e06911237e75efad0d9ec36d57069baa7350687ed29", func := "strongroom/strongroomlaw14.AttrNumbers", spec := "attrNumbers", apart := false, narrowed := true }
def AttrNumbersUptoSaid : Prop := attrNumbersUptoRow.holds Try.pinned (OpenSpec.upto attrNumbersSpec)

/-- 'strongroomlaw14.AttrTells', WHERE WHAT IT READS IS OF BULK AT MOST 1048576: true; the input reads as it did. -/
def attrTellsUptoRow : OpenClaim := { program := "ytkbfgfpdchgjpaa", sum := "4f2e403b17ee0212b5365e06911237e75efad0d9ec36d57069baa7350687ed29", func := "strongroom/strongroomlaw14.AttrTells", spec := "attrTells", apart := false, narrowed := true }
def AttrTellsUptoSaid : Prop := attrTellsUptoRow.holds Try.pinned (OpenSpec.upto attrTellsSpec)

/-- 'strongroomlaw14.AttrBack', WHERE WHAT IT READS IS OF BULK AT MOST 1048576: true; the input reads as it did. -/
def attrBackUptoRow : OpenClaim := { program := "ytkbfgfpdchgjpaa", sum := "4f2e403b17ee0212b5365e06911237e75efad0d9ec36d57069baa7350687ed29", func := "strongroom/strongroomlaw14.AttrBack", spec := "attrBack", apart := false, narrowed := true }
def AttrBackUptoSaid : Prop := attrBackUptoRow.holds Try.pinned (OpenSpec.upto attrBackSpec)

/-- 'strongroomlaw14.AttrCuts', WHERE WHAT IT READS IS OF BULK AT MOST 1048576: true; the input reads as it did. -/
def attrCutsUptoRow : OpenClaim := { program := "ytkbfgfpdchgjpaa", sum := "4f2e403b17ee0212b5365e06911237e75efad0d9ec36d57069baa7350687ed29", func := "strongroom/strongroomlaw14.AttrCuts", spec := "attrCuts", apart := false, narrowed := true }
def AttrCutsUptoSaid : Prop := attrCutsUptoRow.holds Try.pinned (OpenSpec.upto attrCutsSpec)

end Rows
end Go.Proofs.Ytkbfgfpdchgjpaa
