/- What Get answers: attr's. -/
import Derived.Test.YtnigfnikajejaabAtG
namespace Go.Proofs.Ytnigfnikajejaab
open Go Go.RowKit









end Go.Proofs.Ytnigfnikajejaab
