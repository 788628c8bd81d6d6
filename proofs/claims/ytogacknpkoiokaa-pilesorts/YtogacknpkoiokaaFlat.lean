/-
  A slice of elements of k cells in a block of its own, by its cells one behind the other: appending to it.
-/
import Derived.Test.YtogacknpkoiokaaPileP
import Derived.Test.YtogacknpkoiokaaBase
import Derived.Laws.IdiomCopy
namespace Go.Proofs.Ytogacknpkoiokaa
open Go.RowKit Go.Sort

end Go.Proofs.Ytogacknpkoiokaa
