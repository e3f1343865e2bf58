/-
  The contract of the reference's Index.
-/
import Derived.Test.YtddgabjhligeeaaGreatJvA
import Derived.Test.YtddgabjhligeeaaGreatJvS
import Derived.Test.YtddgabjhligeeaaGreatJvO
import Derived.Deep.QuietTactic
import Derived.BigQuiet
namespace Go.Proofs.YtddgabjhligeeaaGreat.mk
open Go.RowKit

theorem byte_beq (a b : UInt8) : ((a.toNat : Int) == (b.toNat : Int)) = (a == b) := by
  rw [Bool.eq_iff_iff]
  simp [← UInt8.toNat_inj]
  try omega
end Go.Proofs.YtddgabjhligeeaaGreat.mk
