/-
  The statements' own look at two lists of texts that are one.
-/
import Derived.Test.YtnbdldapmllegaaGreatJrI
import Derived.Deep.RegionHeld3
import Derived.Lib.Hide
namespace Go.Proofs.YtnbdldapmllegaaGreat.mk
open Go.RowKit

def UpTo (n : Nat) (w0 : World) (i : Value) (wr : World) : Prop := ∃ k : Nat, k ≤ n ∧ i = .int .i64 (k : Int) ∧ Below w0.heap.size w0 wr

end Go.Proofs.YtnbdldapmllegaaGreat.mk
