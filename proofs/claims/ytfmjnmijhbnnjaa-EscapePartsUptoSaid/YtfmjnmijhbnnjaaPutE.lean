/-
  Bytes of one origin.
-/
import Derived.Test.YtfmjnmijhbnnjaaInR
namespace Go.Proofs.Ytfmjnmijhbnnjaa.mk
open Go.RowKit

/-- bytes of one origin -/
def putE (p : List UInt8) (o : Int) : List (UInt8 × Int) := p.map fun b => (b, o)
theorem putE_fst (p : List UInt8) (o : Int) : (putE p o).map (·.1) = p := by unfold putE; rw [List.map_map]; exact List.map_id' _
theorem putE_snd (p : List UInt8) (o : Int) : (putE p o).map (·.2) = List.replicate p.length o := by
  unfold putE; rw [List.map_map]
  exact List.map_const'
theorem putE_len (p : List UInt8) (o : Int) : (putE p o).length = p.length := by unfold putE; rw [List.length_map]

end Go.Proofs.Ytfmjnmijhbnnjaa.mk
