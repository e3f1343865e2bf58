/-
  The first place of a byte.
-/
import Derived.Test.YtnbdldapmllegaaGreatJrA
import Derived.Lib.Index
namespace Go.Proofs.YtnbdldapmllegaaGreat.mk

/-- the place put to the nearest one -/
def atN (m : Nat) (f : Int) : Nat := (min (max f 0) (m : Int)).toNat
theorem atN_le (m : Nat) (f : Int) : atN m f ≤ m := by unfold atN; omega
theorem atN_eq (m : Nat) (f : Int) : min (max f 0) (m : Int) = (atN m f : Int) := by unfold atN; omega

/-- the first place from a place on -/
def findI (l p : List UInt8) (f : Int) : Int :=
  if Lib.index (l.drop (atN l.length f)) p < 0 then -1 else (atN l.length f : Int) + Lib.index (l.drop (atN l.length f)) p

theorem occ_drop (l p : List UInt8) (a j : Nat) : Lib.occAt (l.drop a) p j = Lib.occAt l p (a + j) := by
  unfold Lib.occAt; rw [List.drop_drop]
theorem index_le (l p : List UInt8) : Lib.index l p ≤ l.length := by
  induction l with
  | nil => unfold Lib.index; split <;> simp
  | cons b l ih =>
    unfold Lib.index
    split
    · simp; omega
    · split
      · simp; omega
      · simp; omega
/-- an instance at i and none from a to i -/
theorem findI_first {l p : List UInt8} {f : Int} {a i : Nat} (ha : a = atN l.length f) (hai : a ≤ i) (hi : i ≤ l.length) (h : Lib.occAt l p i = true) (hn : ∀ j, a ≤ j → j < i → Lib.occAt l p j = false) : findI l p f = i := by
  have hal := atN_le l.length f
  have e : Lib.index (l.drop (atN l.length f)) p = ((i - a : Nat) : Int) := by
    rw [← ha]
    refine Lib.index_first (by rw [List.length_drop]; omega) ?_ (fun j hj => ?_)
    · rw [occ_drop, show a + (i - a) = i by omega]; exact h
    · rw [occ_drop]; exact hn (a + j) (by omega) (by omega)
  unfold findI
  rw [e, if_neg (by omega), ← ha]
  omega
/-- what stands between the sought, the last part beside the others -/
def cutAll {α : Type} (p : α → Bool) (l : List α) : List (List α) × List α :=
  l.foldl (fun acc x => if p x then (acc.1 ++ [acc.2], []) else (acc.1, acc.2 ++ [x])) ([], [])
/-- all parts -/
def parts {α : Type} (p : α → Bool) (l : List α) : List (List α) := (cutAll p l).1 ++ [(cutAll p l).2]
end Go.Proofs.YtnbdldapmllegaaGreat.mk

namespace Go.Proofs.YtnbdldapmllegaaGreat.mk

theorem occ_one (l : List UInt8) (b : UInt8) (j : Nat) : Lib.occAt l [b] j = (l[j]? == some b) := by
  unfold Lib.occAt
  cases hd : l.drop j with
  | nil =>
    have : l[j]? = none := by rw [List.getElem?_eq_none_iff]; exact List.drop_eq_nil_iff.1 hd
    rw [this]
    rfl
  | cons x t =>
    have h2 : l[j]? = some x := by
      have h3 : (l.drop j)[0]? = some x := by rw [hd]; rfl
      rw [List.getElem?_drop] at h3
      simpa using h3
    rw [h2]
    rw [Bool.eq_iff_iff]
    simp only [List.isPrefixOf, Bool.and_true, beq_iff_eq, Option.some.injEq]
    exact eq_comm
end Go.Proofs.YtnbdldapmllegaaGreat.mk
