/- What the Reader's Rest, Fail, End, NewReader and Mpint do. -/
import Derived.Test.YtnigfnikajejaabRdC
namespace Go.Proofs.Ytnigfnikajejaab
open Go Go.RowKit


/-- What End tells. -/
def ends (bs : List UInt8) (p : Nat) (why : Int) : Int × Nat := if why = 0 then (if p < bs.length then (11, p) else (0, 0)) else (why, p)



end Go.Proofs.Ytnigfnikajejaab
