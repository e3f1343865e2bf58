/-
  The contract of fold's behind.
-/
import Derived.Test.YtpjbhjebjebbjaaMarkJoin
namespace Go.Proofs.Ytpjbhjebjebbjaa.mk
open Go.RowKit

end Go.Proofs.Ytpjbhjebjebbjaa.mk
