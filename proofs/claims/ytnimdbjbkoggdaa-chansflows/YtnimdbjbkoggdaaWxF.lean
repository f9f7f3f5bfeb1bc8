/- Same of numbers, and what is known. -/
import Derived.Test.YtnimdbjbkoggdaaWxE
namespace Go.Proofs.Ytnimdbjbkoggdaa
open Go Go.RowKit





theorem ord_refl (a : Nat) (h : a < 9007199254740992) : FloatKind.f64.format.order (nb a) (nb a) = some .eq := by
  rw [ordK, order_nb a a h h, Nat.compare_eq_eq.2 rfl]


end Go.Proofs.Ytnimdbjbkoggdaa
