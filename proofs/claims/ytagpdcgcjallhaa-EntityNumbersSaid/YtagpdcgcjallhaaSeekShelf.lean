/-
  The contracts of strings.IndexByte and strings.Index at this program, laid by the numbers of its own functions and types; what the variable that the latter reads holds, whatever the world.
-/
import Derived.Shelf.Small.Strs
import Derived.Shelf.Strings.Search3
import Derived.Shelf.Vars
import Derived.Test.YtagpdcgcjallhaaProg
namespace Go.Proofs
open Go.Shelf
end Go.Proofs
