/- What put does with a part of no kind: its text as it is. And put, whatever the kind. -/
import Derived.Test.YtahlefnkdbomfaaPutC
namespace Go.Proofs.Ytahlefnkdbomfaa
open Go Go.RowKit


end Go.Proofs.Ytahlefnkdbomfaa
