/-
  What is escaped keeps the worst origin.
-/
import Derived.Test.YtfmjnmijhbnnjaaEscPure
import Derived.Test.YtfmjnmijhbnnjaaWor
namespace Go.Proofs.Ytfmjnmijhbnnjaa.mk
open Go.RowKit

theorem worstO_rep {o : Int} (h : 0 ≤ o) (n : Nat) (hn : 0 < n) : worstO (List.replicate n o) = o := by
  unfold worstO
  rw [foldl_max_replicate n o 0 hn]
  omega
theorem worstO_app (a b : List Int) : worstO (a ++ b) = max (worstO a) (worstO b) := by rw [worstO_append, foldl_max_acc _ _ (worstO_nn _)]
theorem worst_esc {v : Bool} {l : List (UInt8 × Int)} (h : InR l) : worstO ((escL v l).map (·.2)) = worstO (l.map (·.2)) := by
  induction l with
  | nil => rfl
  | cons x l ih =>
    have ho : 0 ≤ x.2 := (h x.2 (by simp)).1
    rw [escL_cons, List.map_append, worstO_app, ih (InR.drop h 1)]
    have e : (escC v x).map (·.2) = List.replicate (escB v x.1).length x.2 := putE_snd _ _
    rw [e, worstO_rep ho _ (escB_len v x.1).1]
    show _ = worstO ([x.2] ++ l.map (·.2))
    rw [worstO_app]
    congr 1
    show x.2 = max 0 x.2
    omega

end Go.Proofs.Ytfmjnmijhbnnjaa.mk
