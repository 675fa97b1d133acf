/- strconv.Itoa of the library, laid at this seat's numbers. -/
import Derived.Shelf.Strconv.Itoa3
import Derived.Ground.Names2Prog
import Derived.Test.YtdndddlikdccgaaProg
namespace Go.Proofs
open Go.Shelf
end Go.Proofs
