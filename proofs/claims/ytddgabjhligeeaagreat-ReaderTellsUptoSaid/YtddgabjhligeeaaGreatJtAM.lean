/-
  Trees as HTML, purely: the parts that are put; what may be put; that what is put is valid.
-/
import Derived.Test.YtddgabjhligeeaaGreatJtJ
import Derived.Test.YtddgabjhligeeaaGreatJtR
import Derived.Test.YtddgabjhligeeaaGreatJtT
import Derived.Test.YtddgabjhligeeaaGreatJtX
import Derived.Test.YtddgabjhligeeaaGreatJtY
namespace Go.Proofs.YtddgabjhligeeaaGreat.mk
open Go.RowKit

end Go.Proofs.YtddgabjhligeeaaGreat.mk

namespace Go.Proofs.YtddgabjhligeeaaGreat.mk
open Go.RowKit

/-! ### What is valid -/
theorem valid_low {b : UInt8} (h0 : 1 ≤ b.toNat) (h1 : b.toNat < 128) (l : List UInt8) : validB (b :: l) = validB l := by
  have hn : nx (b :: l) = (1, true) := by
    have hs : shp b.toNat = (1, 0, 0) := by unfold shp; rw [if_pos h1]
    simp only [nx, hs]
    rfl
  have hs : soughtB (b :: l) = false := by
    unfold soughtB
    rw [hn]
    simp only [Bool.not_true, Bool.false_or, List.head?_cons]
    rw [beq_eq_false_iff_ne]
    intro h
    injection h with h
    subst h
    simp at h0
  rw [validB_next (by simp), hs, hn]
  rfl
theorem valid_lows {l : List UInt8} (h : ∀ b ∈ l, 1 ≤ b.toNat ∧ b.toNat < 128) : validB l = true := by
  induction l with
  | nil => exact validB_nil
  | cons b l ih =>
    have hb := h b (by simp)
    rw [valid_low hb.1 hb.2]
    exact ih fun c hc => h c (List.mem_cons_of_mem _ hc)
end Go.Proofs.YtddgabjhligeeaaGreat.mk
