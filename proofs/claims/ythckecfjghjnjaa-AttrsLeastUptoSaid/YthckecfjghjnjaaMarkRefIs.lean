/-
  The contract of the reference's Is: is a labelled text, as told, these bytes?
-/
import Derived.Test.YthckecfjghjnjaaMarkRefStr
namespace Go.Proofs.Ythckecfjghjnjaa.mk
open Go.RowKit

/-- is it, as told, these bytes? -/
def isB (s : List UInt8) (rs : List (Int × Int)) (l : List (UInt8 × Int)) : Bool := decide (s = l.map (·.1) ∧ rs = comp (l.map (·.2)))

def IsRel (rs qs : List (Int × Int)) (n : Nat) (w3 : World) (i : Value) (wr : World) : Prop :=
  ∃ k : Nat, k ≤ n ∧ i = .int .i64 k ∧ rs.take k = qs.take k ∧ Below w3.heap.size w3 wr

theorem ret_bool {a b : Bool} (h : a = b) : Ending.returned (.bool a) = .returned (.bool b) := by rw [h]
theorem toList_data (s : ByteArray) : s.toList = s.data.toList := ByteArray.toList_eq s

end Go.Proofs.Ythckecfjghjnjaa.mk
