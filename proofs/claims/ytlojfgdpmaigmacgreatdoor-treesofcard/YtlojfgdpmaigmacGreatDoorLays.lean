/- Contracts of functions of Go's library, laid at this dump. -/
import Derived.Shelf.Lays
import Derived.Shelf.Lays2
import Derived.Shelf.LaysM
import Derived.Shelf.SlLaysC2
import Derived.Shelf.SlLaysF0
import Derived.Test.YtlojfgdpmaigmacGreatDoorProg
namespace Go.Proofs
open Go.Shelf
