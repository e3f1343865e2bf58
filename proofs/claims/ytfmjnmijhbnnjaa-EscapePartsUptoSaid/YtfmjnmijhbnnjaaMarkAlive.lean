/-
  The contract of the statements' own example: it is alive.
-/
import Derived.Test.YtfmjnmijhbnnjaaMarkCat
namespace Go.Proofs.Ytfmjnmijhbnnjaa.mk
open Go.RowKit

end Go.Proofs.Ytfmjnmijhbnnjaa.mk
