/- What the proof of a row asks of the program itself. -/
import Derived.Test.YtmecclefkgbmpabRows
import Derived.Test.YtmecclefkgbmpabWrA
import Derived.ProofKit
import Derived.OpenShut
import Derived.ShutString
import Derived.ChangeOld
namespace Go.Proofs.Ytmecclefkgbmpab
open Go

theorem own : ownKnob Try.prog.godebug = none := by kernel_rfl
theorem laidOut : laidOutB Try.prog = true := by kernel_rfl

end Go.Proofs.Ytmecclefkgbmpab
