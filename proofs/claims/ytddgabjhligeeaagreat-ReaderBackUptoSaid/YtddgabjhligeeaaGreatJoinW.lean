import Derived.Test.YtddgabjhligeeaaGreatJoinP
import Derived.Test.YtddgabjhligeeaaGreatJoinM
namespace Go.Proofs.YtddgabjhligeeaaGreat.mk
open Go.RowKit
end Go.Proofs.YtddgabjhligeeaaGreat.mk
