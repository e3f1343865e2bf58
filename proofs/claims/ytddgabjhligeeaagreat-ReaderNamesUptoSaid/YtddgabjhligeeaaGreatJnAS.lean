import Derived.Test.YtddgabjhligeeaaGreatJnAQ
import Derived.Maps.OwnIn
namespace Go.Proofs.YtddgabjhligeeaaGreat.mk
open Go.RowKit
attribute [local go_sem] Oper.semAt_some zbE zap
end Go.Proofs.YtddgabjhligeeaaGreat.mk
