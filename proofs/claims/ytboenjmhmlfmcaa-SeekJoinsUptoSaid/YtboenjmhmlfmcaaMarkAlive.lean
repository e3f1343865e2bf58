/-
  The contract of the statements' own example: it is alive.
-/
import Derived.Test.YtboenjmhmlfmcaaMarkCat
namespace Go.Proofs.Ytboenjmhmlfmcaa.mk
open Go.RowKit

end Go.Proofs.Ytboenjmhmlfmcaa.mk
