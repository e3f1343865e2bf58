/-
  The contract of the reference's Rune.
-/
import Derived.Test.YtddgabjhligeeaaGreatJtS
import Derived.Test.YtddgabjhligeeaaGreatJtF
import Derived.Test.YtddgabjhligeeaaGreatJtQ
import Derived.Test.YtddgabjhligeeaaGreatJtO
import Derived.Outline
namespace Go.Proofs.YtddgabjhligeeaaGreat.mk
open Go.RowKit

end Go.Proofs.YtddgabjhligeeaaGreat.mk
