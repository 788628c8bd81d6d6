/-
  Layer 4's laws: items in the making, the document's answers: contracts.
-/
import Derived.Test.YthhechgjablklaaPileB
namespace Go.Proofs.Ythhechgjablklaa
open Go.RowKit Go.Sort

end Go.Proofs.Ythhechgjablklaa
