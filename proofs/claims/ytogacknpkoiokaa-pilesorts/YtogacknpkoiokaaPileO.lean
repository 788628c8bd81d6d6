/-
  Layer 4's laws: items in the making, the document's answers: contracts.
-/
import Derived.Test.YtogacknpkoiokaaPileB
namespace Go.Proofs.Ytogacknpkoiokaa
open Go.RowKit Go.Sort

end Go.Proofs.Ytogacknpkoiokaa
