import Derived.Test.YtddgabjhligeeaaGreatJnS
import Derived.Test.YtddgabjhligeeaaGreatJnF
import Derived.Test.YtddgabjhligeeaaGreatJnO
namespace Go.Proofs.YtddgabjhligeeaaGreat.mk
open Go.RowKit
end Go.Proofs.YtddgabjhligeeaaGreat.mk
