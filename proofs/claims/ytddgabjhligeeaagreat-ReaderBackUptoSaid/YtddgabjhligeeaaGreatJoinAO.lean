import Derived.Test.YtddgabjhligeeaaGreatJoinAL
import Derived.Maps.OwnIn
namespace Go.Proofs.YtddgabjhligeeaaGreat.mk
open Go.RowKit
attribute [local go_sem] Oper.semAt_some zck zaD
end Go.Proofs.YtddgabjhligeeaaGreat.mk
