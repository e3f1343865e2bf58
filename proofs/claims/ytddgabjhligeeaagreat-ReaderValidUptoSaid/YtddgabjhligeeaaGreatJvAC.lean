/-
  The contract of the reference's Rune.
-/
import Derived.Test.YtddgabjhligeeaaGreatJvR
import Derived.Test.YtddgabjhligeeaaGreatJvD
import Derived.Test.YtddgabjhligeeaaGreatJvP
import Derived.Test.YtddgabjhligeeaaGreatJvN
import Derived.Outline
namespace Go.Proofs.YtddgabjhligeeaaGreat.mk
open Go.RowKit

end Go.Proofs.YtddgabjhligeeaaGreat.mk
