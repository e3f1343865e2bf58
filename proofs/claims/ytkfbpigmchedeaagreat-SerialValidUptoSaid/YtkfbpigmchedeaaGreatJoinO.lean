/-
  The contract of the reference's Of: a labelled text's bytes with their origins.
-/
import Derived.Test.YtkfbpigmchedeaaGreatJoinJ
import Derived.Test.YtkfbpigmchedeaaGreatJoinD
import Derived.Deep.RegionHeld3
import Derived.Deep.AppendLies
import Derived.StillTactics
import Derived.WalkSpells
namespace Go.Proofs.YtkfbpigmchedeaaGreat.mk
open Go.RowKit

theorem ch_info : (Tryz.prog.info? 54).map (fun i => (i.zero, i.size, i.bytes)) = some (some (.agg #[.int .u8 0, .int .i64 0]), 2, 16) := by kernel_rfl

/-- the origins that the inner loop has written -/
def inner (n : Nat) (rs : List (Int × Int)) (i k : Nat) (o : Int) : List Int := pre n (rs.take i) ++ List.replicate k (nearO o)

def RefOuter (s : ByteArray) (rs : List (Int × Int)) (n B : Nat) (w0 : World) (out i : Value) (wr : World) : Prop :=
  ∃ k : Nat, k ≤ n ∧ i = .int .i64 k ∧ wr.ownsRow B 54 2 out (pre s.size (rs.take k)).length (chCells (s.data.toList.zip (pre s.size (rs.take k)))) ∧ Below B w0 wr
def RefInner (s : ByteArray) (os : List Int) (l o : Int) (B : Nat) (w0 : World) (out k : Value) (wr : World) : Prop :=
  ∃ j : Nat, os.length + j ≤ s.size ∧ (0 < j → j ≤ l) ∧ k = .int .i64 j ∧ wr.ownsRow B 54 2 out (os.length + j) (chCells (s.data.toList.zip (os ++ List.replicate j (nearO o)))) ∧ Below B w0 wr

theorem inner_end {n : Nat} {rs : List (Int × Int)} {k j : Nat} {l o : Int} {os : List Int} (hr : rs[k]? = some (l, o)) (hos : pre n (rs.take k) = os) (h1 : os.length + j ≤ n) (h2 : 0 < j → (j : Int) ≤ l) (h3 : ¬ (j : Int) < l ∨ ¬ os.length + j < n) :
    pre n (rs.take (k + 1)) = os ++ List.replicate j (nearO o) := by
  rw [take_next hr, pre_snoc, hos]
  have : min l.toNat (n - os.length) = j := by
    rcases Nat.eq_zero_or_pos j with h0 | h0
    · omega
    · have := h2 h0; omega
  simp only [this]
def sliceLen : Value → Nat
  | .slice _ n _ => n
  | _ => 0
def RefFill (s : ByteArray) (os : List Int) (B : Nat) (w0 : World) (out : Value) (wr : World) : Prop :=
  ∃ j : Nat, os.length + j ≤ s.size ∧ wr.ownsRow B 54 2 out (os.length + j) (chCells (s.data.toList.zip (os ++ List.replicate j 65536))) ∧ Below B w0 wr

end Go.Proofs.YtkfbpigmchedeaaGreat.mk
