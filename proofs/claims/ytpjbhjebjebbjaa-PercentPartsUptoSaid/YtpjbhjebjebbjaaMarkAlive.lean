/-
  The contract of the statements' own example: it is alive.
-/
import Derived.Test.YtpjbhjebjebbjaaMarkCat
namespace Go.Proofs.Ytpjbhjebjebbjaa.mk
open Go.RowKit

end Go.Proofs.Ytpjbhjebjebbjaa.mk
