/-
  Contracts of utf's shape and Next.
-/
import Derived.Test.YtdiifkmcbnhliaaJoinB
import Derived.Test.YtdiifkmcbnhliaaJoinF
import Derived.WalkSpells
import Derived.Lib.Hide
import Derived.Outline
import Derived.WalkLawsBesides
namespace Go.Proofs.Ytdiifkmcbnhliaa.mk
open Go.RowKit

def NextRel (l : List UInt8) (m lo0 hi0 : Nat) (at' lo hi : Value) : Prop :=
  ∃ k p q : Nat, k ≤ m ∧ k + 1 ≤ l.length ∧ at' = .int .i64 ((k + 1 : Nat) : Int) ∧ lo = .int .u8 p ∧ hi = .int .u8 q ∧ p ≤ 160 ∧ q ≤ 191 ∧ fit m lo0 hi0 (l.drop 1) = k + fit (m - k) p q (l.drop (k + 1))

theorem eqz (k z : Nat) : ((k : Int) + 1 == (z : Int)) = decide (k + 1 = z) := by rw [Bool.eq_iff_iff]; simp; omega
theorem ret_nx {l : List UInt8} {a : Nat} {b y : Bool} {x : Int} (h : nx l = (a, b)) (hx : x = a) (hy : y = b) : Ending.returned (.tuple #[.int .i64 x, .bool y]) = .returned (.tuple #[.int .i64 (nx l).1, .bool (nx l).2]) := by
  rw [h, hx, hy]

end Go.Proofs.Ytdiifkmcbnhliaa.mk
