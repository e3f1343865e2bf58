/-
  The contract of strings.ContainsAny at this program, laid by the numbers of its own functions and types.
-/
import Derived.Test.YtddgabjhligeeaaGreatJvE
import Derived.Test.YtddgabjhligeeaaGreatProg
namespace Go.Proofs
open Go.Shelf
end Go.Proofs
