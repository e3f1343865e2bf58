/-
  The contract of the reference's Index.
-/
import Derived.Test.YtkfhmmieefbjaaaJoinC
import Derived.Test.YtkfhmmieefbjaaaJoinV
import Derived.Test.YtkfhmmieefbjaaaJoinR
import Derived.Deep.QuietTactic
import Derived.BigQuiet
namespace Go.Proofs.Ytkfhmmieefbjaaa.mk
open Go.RowKit

def RefIRel (lb p : List UInt8) (a : Nat) (w0 : World) (i : Value) (wr : World) : Prop :=
  ∃ k : Nat, a ≤ k ∧ k ≤ lb.length + 1 ∧ i = .int .i64 (k : Int) ∧ (∀ j, a ≤ j → j < k → Lib.occAt lb p j = false) ∧ Below w0.heap.size w0 wr
theorem byte_beq (a b : UInt8) : ((a.toNat : Int) == (b.toNat : Int)) = (a == b) := by
  rw [Bool.eq_iff_iff]
  simp [← UInt8.toNat_inj]
  try omega
def RefIIn (lb p : List UInt8) (i : Nat) (w0 : World) (b k : Value) (wr : World) : Prop :=
  ∃ j : Nat, j ≤ p.length ∧ k = .int .i64 (j : Int) ∧ b = .bool (agree lb p i j) ∧ Below w0.heap.size w0 wr

end Go.Proofs.Ytkfhmmieefbjaaa.mk
