/-
  The walk of the statement MarkMany.
-/
import Derived.Test.YtfmjnmijhbnnjaaJoinT
import Derived.Test.YtfmjnmijhbnnjaaJoinP
import Derived.Test.YtfmjnmijhbnnjaaJoinQ
import Derived.Test.YtfmjnmijhbnnjaaJoinW
namespace Go.Proofs.Ytfmjnmijhbnnjaa.mk
open Go.RowKit

/-- what is told of bytes with origins is them -/
theorem isB_told (l : List (UInt8 × Int)) : isB (l.map (·.1)) (comp (l.map (·.2))) l = true := by unfold isB; simp

def ManyRel (ts : List LT) (m : Nat) (w0 : World) (all i : Value) (wr : World) : Prop :=
  ∃ k : Nat, k ≤ m ∧ i = .int .i64 k ∧ wr.ownsRow w0.heap.size 33 2 all (catCh (ts.take k)).length (chCells (catCh (ts.take k))) ∧ Below w0.heap.size w0 wr

theorem Lies.take {w : World} {B : Nat} {A : Option Addr} {xs : List Value} (h : Lies w B A xs) (n : Nat) : Lies w B A (xs.take n) := by
  intro j u hu
  rw [List.getElem?_take] at hu
  split at hu
  · exact h j u hu
  · cases hu
theorem ltCells_take (ts : List LT) (n : Nat) : ltCells (ts.take n) = (ltCells ts).take (n * 2) := by
  induction ts generalizing n with
  | nil => simp [ltCells]
  | cons t ts ih =>
    cases n with
    | zero => simp [ltCells]
    | succ n =>
      have e : ltCells (t :: ts) = .string t.s :: .slice t.A t.n t.c :: ltCells ts := rfl
      rw [List.take_succ_cons, e, show (n + 1) * 2 = n * 2 + 1 + 1 by omega, List.take_succ_cons, List.take_succ_cons, ← ih]
      rfl

end Go.Proofs.Ytfmjnmijhbnnjaa.mk
