/-
  The contract of the reference's Of: a labelled text's bytes with their origins.
-/
import Derived.Test.YtpbpnffbaelcaaaMarkJoin
import Derived.Test.YtpbpnffbaelcaaaMarkMem
import Derived.Deep.RegionHeld3
import Derived.Deep.AppendLies
import Derived.StillTactics
import Derived.WalkSpells
namespace Go.Proofs.Ytpbpnffbaelcaaa.mk
open Go.RowKit

/-- the origins that the inner loop has written -/
def inner (n : Nat) (rs : List (Int × Int)) (i k : Nat) (o : Int) : List Int := pre n (rs.take i) ++ List.replicate k (nearO o)

theorem inner_end {n : Nat} {rs : List (Int × Int)} {k j : Nat} {l o : Int} {os : List Int} (hr : rs[k]? = some (l, o)) (hos : pre n (rs.take k) = os) (h1 : os.length + j ≤ n) (h2 : 0 < j → (j : Int) ≤ l) (h3 : ¬ (j : Int) < l ∨ ¬ os.length + j < n) :
    pre n (rs.take (k + 1)) = os ++ List.replicate j (nearO o) := by
  rw [take_next hr, pre_snoc, hos]
  have : min l.toNat (n - os.length) = j := by
    rcases Nat.eq_zero_or_pos j with h0 | h0
    · omega
    · have := h2 h0; omega
  simp only [this]
def sliceLen : Value → Nat
  | .slice _ n _ => n
  | _ => 0
end Go.Proofs.Ytpbpnffbaelcaaa.mk
