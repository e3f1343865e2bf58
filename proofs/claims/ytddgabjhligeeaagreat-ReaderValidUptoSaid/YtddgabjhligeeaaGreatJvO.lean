/-
  The contract of the reference's Of: a labelled text's bytes with their origins.
-/
import Derived.Test.YtddgabjhligeeaaGreatJvI
import Derived.Test.YtddgabjhligeeaaGreatJvD
import Derived.Deep.RegionHeld3
import Derived.Deep.AppendLies
import Derived.StillTactics
import Derived.WalkSpells
namespace Go.Proofs.YtddgabjhligeeaaGreat.mk
open Go.RowKit

theorem ch_info : (Tryz.prog.info? 135).map (fun i => (i.zero, i.size, i.bytes)) = some (some (.agg #[.int .u8 0, .int .i64 0]), 2, 16) := by kernel_rfl

/-- the origins that the inner loop has written -/
def inner (n : Nat) (rs : List (Int × Int)) (i k : Nat) (o : Int) : List Int := pre n (rs.take i) ++ List.replicate k (nearO o)

def sliceLen : Value → Nat
  | .slice _ n _ => n
  | _ => 0
end Go.Proofs.YtddgabjhligeeaaGreat.mk
