/-
  The contract of the reference's In.
-/
import Derived.Test.YtpbpnffbaelcaaaMarkRefOf
import Derived.Test.YtpbpnffbaelcaaaMarkRefIs
namespace Go.Proofs.Ytpbpnffbaelcaaa.mk
open Go.RowKit

def InRel (x : UInt8) (l : List UInt8) (i : Value) : Prop :=
  ∃ k : Nat, k ≤ l.length ∧ i = .int .i64 (k : Int) ∧ (l.take k).contains x = false
/-- is it one of them? -/
def isIn (l : List UInt8) (x : UInt8) : Bool := l.contains x

end Go.Proofs.Ytpbpnffbaelcaaa.mk
