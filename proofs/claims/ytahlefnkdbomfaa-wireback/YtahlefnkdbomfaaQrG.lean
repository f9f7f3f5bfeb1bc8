/- What the document's Parts answers, and keep's Texts. -/
import Derived.Test.YtahlefnkdbomfaaQrF
namespace Go.Proofs.Ytahlefnkdbomfaa
open Go Go.RowKit

end Go.Proofs.Ytahlefnkdbomfaa
