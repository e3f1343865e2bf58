/-
  The worst origin of some bytes, and of the first of them.
-/
import Derived.Test.YtfmjnmijhbnnjaaMarkWorst
import Derived.Test.YtfmjnmijhbnnjaaInR
namespace Go.Proofs.Ytfmjnmijhbnnjaa.mk
open Go.RowKit

def worC (l : List (UInt8 × Int)) : Int := worstO (l.map (·.2))
theorem worstO_in {l : List Int} (h : ∀ o ∈ l, 0 ≤ o ∧ o ≤ 65536) : 0 ≤ worstO l ∧ worstO l ≤ 65536 := by
  have key : ∀ (l : List Int) (acc : Int), (∀ o ∈ l, 0 ≤ o ∧ o ≤ 65536) → 0 ≤ acc ∧ acc ≤ 65536 → 0 ≤ l.foldl max acc ∧ l.foldl max acc ≤ 65536 := by
    intro l
    induction l with
    | nil => intro acc _ h; exact h
    | cons x l ih => intro acc hl h; rw [List.foldl_cons]; exact ih _ (fun o ho => hl o (by simp [ho])) (by have := hl x (by simp); omega)
  exact key l 0 h (by omega)
def worT (l : List (UInt8 × Int)) (n : Nat) : Int := worC (l.take n)
theorem foldl_max_acc (l : List Int) (a : Int) (ha : 0 ≤ a) : l.foldl max a = max a (worstO l) := by
  unfold worstO
  have key : ∀ (l : List Int) (a b : Int), l.foldl max (max a b) = max a (l.foldl max b) := by
    intro l
    induction l with
    | nil => intro a b; rfl
    | cons x l ih => intro a b; rw [List.foldl_cons, List.foldl_cons, show max (max a b) x = max a (max b x) by omega, ih]
  have h := key l a 0
  rw [show max a 0 = a by omega] at h
  exact h
theorem worstO_nn (l : List Int) : 0 ≤ worstO l := by
  have key : ∀ (l : List Int) (a : Int), 0 ≤ a → 0 ≤ l.foldl max a := by
    intro l
    induction l with
    | nil => intro a h; exact h
    | cons x l ih => intro a h; rw [List.foldl_cons]; exact ih _ (by omega)
  exact key l 0 (by omega)
theorem ba_rest (s : ByteArray) (i : Nat) : (s.extract i s.size).data.toList = s.data.toList.drop i := by
  rw [ByteArray.data_extract, Array.toList_extract, List.extract_eq_take_drop]
  refine List.take_of_length_le ?_
  rw [List.length_drop, Array.length_toList]
  exact Nat.le_refl _
theorem worT_zero (l : List (UInt8 × Int)) : worT l 0 = 0 := rfl
theorem worT_next {l : List (UInt8 × Int)} {n : Nat} {c : UInt8 × Int} (h : l[n]? = some c) : worT l (n + 1) = max (worT l n) c.2 := by
  unfold worT worC
  rw [take_next h, List.map_append, worstO_append]
  rfl

end Go.Proofs.Ytfmjnmijhbnnjaa.mk
