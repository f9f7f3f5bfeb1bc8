/- What the document's Reader answers: Rest, Mpint. -/
import Derived.Test.YtnnhffjajbiicaaQrC
import Derived.Deep.RegionWith
namespace Go.Proofs.Ytnnhffjajbiicaa
open Go Go.RowKit

end Go.Proofs.Ytnnhffjajbiicaa
