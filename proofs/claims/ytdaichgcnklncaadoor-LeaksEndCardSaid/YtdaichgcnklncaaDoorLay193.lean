/- A laying of the shelf by hand. -/
import Derived.Shelf.Lays
import Derived.Test.YtdaichgcnklncaaDoorProg
namespace Go.Proofs
open Go.Shelf
end Go.Proofs
