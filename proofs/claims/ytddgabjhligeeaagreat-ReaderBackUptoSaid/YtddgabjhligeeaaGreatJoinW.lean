import Derived.Test.YtddgabjhligeeaaGreatJoinO
import Derived.Test.YtddgabjhligeeaaGreatJoinD
import Derived.Test.YtddgabjhligeeaaGreatJoinM
import Derived.Test.YtddgabjhligeeaaGreatJoinL
import Derived.Outline
namespace Go.Proofs.YtddgabjhligeeaaGreat.mk
open Go.RowKit
end Go.Proofs.YtddgabjhligeeaaGreat.mk
