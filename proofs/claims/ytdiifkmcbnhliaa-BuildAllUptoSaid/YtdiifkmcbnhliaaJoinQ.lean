/-
  Contracts of utf's find (at replaced, and at Count's closure), Valid and Count.
-/
import Derived.Test.YtdiifkmcbnhliaaJoinL
import Derived.Test.YtdiifkmcbnhliaaJoinP
namespace Go.Proofs.Ytdiifkmcbnhliaa.mk
open Go.RowKit

theorem ba_list (s : ByteArray) (i j : Nat) : (s.extract i j).data.toList = (s.data.toList.drop i).take (j - i) := by
  simp [ByteArray.data_extract, List.extract_eq_take_drop]
theorem ba_tail (s : ByteArray) (i : Nat) : (s.extract i s.size).data.toList = s.data.toList.drop i := by
  rw [ba_list]
  refine List.take_of_length_le ?_
  rw [List.length_drop, Array.length_toList]
  exact Nat.le_refl _

theorem sought_of (l : List UInt8) : (!(nx l).2 || l.take (nx l).1 == [0]) = soughtB l := by
  unfold soughtB
  cases h : (nx l).2 with
  | false => rfl
  | true =>
    have := take_of_right h
    rw [Bool.eq_iff_iff]
    simpa using this
theorem ret_fr {l : List UInt8} {a b : Nat} {x y : Int} (h : fr l = (a, b)) (hx : x = a) (hy : y = b) : Ending.returned (.tuple #[.int .i64 x, .int .i64 y]) = .returned (.tuple #[.int .i64 (fr l).1, .int .i64 (fr l).2]) := by
  rw [h, hx, hy]

def FindRel (l : List UInt8) (at' : Value) : Prop :=
  ∃ k : Nat, k ≤ l.length ∧ at' = .int .i64 (k : Int) ∧ fr l = (k + (fr (l.drop k)).1, (fr (l.drop k)).2)

def CountRel (l : List UInt8) (b : Nat) (w0 : World) (at' : Value) (wr : World) : Prop :=
  ∃ k c : Nat, k ≤ l.length ∧ at' = .int .i64 (k : Int) ∧ cnt l = c + cnt (l.drop k) ∧ Whole wr b 3 #[.int .i64 c] ∧ Below b w0 wr

end Go.Proofs.Ytdiifkmcbnhliaa.mk
