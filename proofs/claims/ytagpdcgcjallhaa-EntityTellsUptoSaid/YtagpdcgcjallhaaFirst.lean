/-
  The first place of a byte.
-/
import Derived.Test.YtagpdcgcjallhaaSeekPure
namespace Go.Proofs.Ytagpdcgcjallhaa.mk

/-- where the first of that byte stands; the length, if there is none -/
def firstN (b : UInt8) (l : List (UInt8 × Int)) : Nat := l.findIdx fun x => x.1 == b
theorem firstN_le (b : UInt8) (l : List (UInt8 × Int)) : firstN b l ≤ l.length := List.findIdx_le_length
theorem firstN_nil (b : UInt8) : firstN b [] = 0 := rfl
theorem firstN_step {b x : UInt8} {o : Int} {l : List (UInt8 × Int)} {k : Nat} (h : l[k]? = some (x, o)) : firstN b (l.drop k) = if x = b then 0 else firstN b (l.drop (k + 1)) + 1 := by
  obtain ⟨hk, hb⟩ := List.getElem?_eq_some_iff.1 h
  rw [List.drop_eq_getElem_cons hk, hb]
  unfold firstN
  rw [List.findIdx_cons]
  by_cases hx : x = b
  · subst hx; simp
  · have : (x == b) = false := by simpa using hx
    simp only [this, hx, if_false, cond_false]
theorem occ_one (l : List UInt8) (b : UInt8) (j : Nat) : Lib.occAt l [b] j = (l[j]? == some b) := by
  unfold Lib.occAt
  cases hd : l.drop j with
  | nil =>
    have : l[j]? = none := by rw [List.getElem?_eq_none_iff]; exact List.drop_eq_nil_iff.1 hd
    rw [this]
    rfl
  | cons x t =>
    have h2 : l[j]? = some x := by
      have h3 : (l.drop j)[0]? = some x := by rw [hd]; rfl
      rw [List.getElem?_drop] at h3
      simpa using h3
    rw [h2]
    rw [Bool.eq_iff_iff]
    simp only [List.isPrefixOf, Bool.and_true, beq_iff_eq, Option.some.injEq]
    exact eq_comm
theorem firstN_at {b : UInt8} {l : List (UInt8 × Int)} (h : firstN b l < l.length) : (l.map (·.1))[firstN b l]? = some b := by
  have h1 : (l[firstN b l]'h).1 == b := List.findIdx_getElem (xs := l) (p := fun x : UInt8 × Int => x.1 == b) (w := h)
  rw [List.getElem?_map, List.getElem?_eq_getElem h]
  simp only [Option.map_some, Option.some.injEq]
  exact beq_iff_eq.1 h1
theorem firstN_before {b : UInt8} {l : List (UInt8 × Int)} {j : Nat} (h : j < firstN b l) : (l.map (·.1))[j]? ≠ some b := by
  have h1 := List.not_of_lt_findIdx (xs := l) (p := fun x : UInt8 × Int => x.1 == b) h
  rw [List.getElem?_map, List.getElem?_eq_getElem (Nat.lt_of_lt_of_le h (firstN_le b l))]
  intro e
  simp only [Option.map_some, Option.some.injEq] at e
  simp [e] at h1
/-- the place that is searched for -/
theorem findI_one (b : UInt8) (l : List (UInt8 × Int)) : findI (l.map (·.1)) [b] 0 = if firstN b l < l.length then (firstN b l : Int) else -1 := by
  have ha : (0 : Nat) = atN (l.map (·.1)).length 0 := by unfold atN; omega
  have hn : ∀ j, 0 ≤ j → j < firstN b l → Lib.occAt (l.map (·.1)) [b] j = false := fun j _ hj => by
    rw [occ_one, beq_eq_false_iff_ne]
    exact firstN_before hj
  split
  · rename_i h
    exact findI_first ha (Nat.zero_le _) (by rw [List.length_map]; omega) (by rw [occ_one, firstN_at h]; simp) hn
  · rename_i h
    exact findI_none (i := firstN b l) ha (by rw [List.length_map]; simp; omega) hn

end Go.Proofs.Ytagpdcgcjallhaa.mk
