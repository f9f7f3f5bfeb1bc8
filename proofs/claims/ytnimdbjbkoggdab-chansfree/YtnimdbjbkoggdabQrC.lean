/- What seats without the document's Reader take of QrA. -/
import Derived.Test.YtnimdbjbkoggdabRdM
import Derived.Test.YtnimdbjbkoggdabRfC
namespace Go.Proofs.Ytnimdbjbkoggdab
open Go Go.RowKit

theorem wrap_small (x : Int) (h0 : 0 ≤ x) (h1 : x ≤ 4000000000000) : IntKind.i64.wrap x = x := by
  simp [IntKind.wrap, IntKind.bits, IntKind.signed]
  omega
end Go.Proofs.Ytnimdbjbkoggdab
