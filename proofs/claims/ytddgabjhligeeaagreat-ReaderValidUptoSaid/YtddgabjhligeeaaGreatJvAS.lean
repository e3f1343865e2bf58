/-
  Words: all texts, in order.
-/
import Derived.Test.YtddgabjhligeeaaGreatJvAQ
import Derived.Maps.OwnIn
namespace Go.Proofs.YtddgabjhligeeaaGreat.mk
open Go.RowKit
attribute [local go_sem] Oper.semAt_some wide_fn wide_depth

end Go.Proofs.YtddgabjhligeeaaGreat.mk
