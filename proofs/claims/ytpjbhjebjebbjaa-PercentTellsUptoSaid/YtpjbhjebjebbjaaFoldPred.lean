/-
  Contracts of fold's functions that tell whether a byte is sought, and of upper.
-/
import Derived.Test.YtpjbhjebjebbjaaMarkRefIs
import Derived.Test.YtpjbhjebjebbjaaMarkFix
namespace Go.Proofs.Ytpjbhjebjebbjaa.mk
open Go.RowKit

def upperB (b : UInt8) : Bool := decide (65 ≤ b.toNat) && decide (b.toNat ≤ 90)
def lowB (b : UInt8) : UInt8 := if upperB b then b + 32 else b

end Go.Proofs.Ytpjbhjebjebbjaa.mk
