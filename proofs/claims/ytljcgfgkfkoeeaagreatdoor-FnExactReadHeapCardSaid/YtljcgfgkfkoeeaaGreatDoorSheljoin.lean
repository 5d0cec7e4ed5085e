/- Nothing of the library is joined in this seat. -/
import Derived.Test.YtljcgfgkfkoeeaaGreatDoorProg
import Derived.Shelf.Strings.OnBuilder
namespace Go.Proofs
end Go.Proofs
