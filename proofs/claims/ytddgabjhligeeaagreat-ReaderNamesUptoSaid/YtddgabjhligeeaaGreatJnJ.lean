import Derived.Test.YtddgabjhligeeaaGreatJnG
import Derived.Test.YtddgabjhligeeaaGreatProg
namespace Go.Proofs
open Go.Shelf
end Go.Proofs
