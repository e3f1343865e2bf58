/-
  Plain mathematics of addresses: one that is ready, where its scheme ends, its scheme, what is behind it, its parts. No call is named here.
-/
import Derived.Test.YtpbpnffbaelcaaaFoldSmall
import Derived.Test.YtpbpnffbaelcaaaFoldLower
import Derived.Test.YtpbpnffbaelcaaaInR
import Derived.Test.YtpbpnffbaelcaaaSeekPure
import Derived.Lib.Bytealg
namespace Go.Proofs.Ytpbpnffbaelcaaa.mk
open Go.RowKit

/-! ready -/
theorem dropWhile_first {α : Type} (p : α → Bool) (l : List α) : l.dropWhile p = [] ∨ ∃ x t, l.dropWhile p = x :: t ∧ p x = false := by
  induction l with
  | nil => exact .inl rfl
  | cons x l ih =>
    cases hx : p x with
    | true => rw [List.dropWhile_cons, if_pos hx]; exact ih
    | false => exact .inr ⟨x, l, dropWhile_stay hx, hx⟩
theorem trimL_mem {α : Type} {p : α → Bool} {l : List α} {x : α} (h : x ∈ trimL p l) : x ∈ l := by
  unfold trimL at h
  rw [List.mem_reverse] at h
  have h2 := (List.dropWhile_sublist p).subset h
  rw [List.mem_reverse] at h2
  exact (List.dropWhile_sublist p).subset h2
/-- what is left begins and ends with what stays -/
theorem trimL_ends {α : Type} (p : α → Bool) (l : List α) : trimL p l = [] ∨ ∃ x y, (trimL p l).head? = some x ∧ p x = false ∧ (trimL p l).getLast? = some y ∧ p y = false := by
  rcases dropWhile_first p (l.dropWhile p).reverse with h | ⟨y, t, h, hy⟩
  · left; unfold trimL; rw [h]; rfl
  · have e : trimL p l = (y :: t).reverse := by unfold trimL; rw [h]
    rcases dropWhile_first p l with h2 | ⟨x, t2, h2, hx⟩
    · rw [h2] at h; simp at h
    · refine .inr ⟨x, y, ?_, hx, ?_, hy⟩
      · rw [e, List.head?_reverse]
        obtain ⟨a, ha⟩ := List.dropWhile_suffix (l := (l.dropWhile p).reverse) p
        have h3 : ((l.dropWhile p).reverse).getLast? = some x := by rw [List.getLast?_reverse, h2]; rfl
        rw [← ha, h, List.getLast?_append] at h3
        cases hq : (y :: t).getLast? with
        | none => simp at hq
        | some q => rw [hq] at h3; simpa using h3
      · rw [e, List.getLast?_reverse]; rfl
theorem trimL_filter {α : Type} {p f : α → Bool} (hf : ∀ x, p x = false → f x = true) (l : List α) : trimL p ((trimL p l).filter f) = (trimL p l).filter f := by
  rcases trimL_ends p l with h | ⟨x, y, hx, hpx, hy, hpy⟩
  · rw [h]; rfl
  · have hh : ((trimL p l).filter f).head? = some x := by
      generalize trimL p l = m at *
      cases m with
      | nil => simp at hx
      | cons z m => simp at hx; subst hx; rw [List.filter_cons, if_pos (hf _ hpx)]; rfl
    have hl : ((trimL p l).filter f).getLast? = some y := by
      generalize trimL p l = m at *
      rw [← List.head?_reverse] at hy ⊢
      rw [← List.filter_reverse]
      cases hm : m.reverse with
      | nil => rw [hm] at hy; simp at hy
      | cons z m => rw [hm] at hy; simp at hy; subst hy; rw [List.filter_cons, if_pos (hf _ hpy)]; rfl
    have := trimL_mid (p := p) (a := []) (b := []) (m := (trimL p l).filter f) (by simp) (by simp) hh hpx hl hpy
    simpa using this

/-- what is taken off at the ends -/
def edgeC : UInt8 × Int → Bool := onB (fun b => decide (b.toNat ≤ 32))
/-- what an address that is ready has nowhere -/
def noneB : List UInt8 := [9, 10, 13]
def keepC (x : UInt8 × Int) : Bool := !isIn noneB x.1
/-- ready -/
def readyL (l : List (UInt8 × Int)) : List (UInt8 × Int) := (trimL edgeC l).filter keepC
theorem readyL_length (l : List (UInt8 × Int)) : (readyL l).length ≤ l.length := Nat.le_trans (List.length_filter_le _ _) (trimL_length _ _)
theorem readyL_in {l : List (UInt8 × Int)} (h : InR l) : InR (readyL l) := h.sub fun _ hx => trimL_mem (List.mem_filter.1 hx).1
theorem edge_keep (x : UInt8 × Int) (h : edgeC x = false) : keepC x = true := by
  unfold keepC isIn noneB
  have h1 : ¬ x.1.toNat ≤ 32 := by simpa [edgeC, onB] using h
  rw [Bool.not_eq_true', Bool.eq_false_iff]
  intro h2
  rw [List.contains_iff_mem] at h2
  simp only [List.mem_cons, List.not_mem_nil, or_false] at h2
  rcases h2 with h2 | h2 | h2 <;> (rw [h2] at h1; exact h1 (by decide))
theorem readyL_twice (l : List (UInt8 × Int)) : readyL (readyL l) = readyL l := by
  unfold readyL
  rw [trimL_filter edge_keep, List.filter_filter]
  congr 1
  funext x
  simp
theorem readyL_put (l : List (UInt8 × Int)) : replL (fun b => noneB.contains b) [] (trimL edgeC l) = readyL l := replL_filter _ _

/-! where the scheme ends -/
def letterB (b : UInt8) : Bool := (decide (65 ≤ b.toNat) && decide (b.toNat ≤ 90)) || (decide (97 ≤ b.toNat) && decide (b.toNat ≤ 122))
def signB : List UInt8 := [43, 45, 46]
def digitC (b : UInt8) : Bool := decide (48 ≤ b.toNat) && decide (b.toNat ≤ 57)
def laterB (b : UInt8) : Bool := digitC b || isIn signB b
/-- the colon that ends the scheme, the first byte being the k-th -/
def colonF : List UInt8 → Nat → Int
  | [], _ => -1
  | b :: l, k => if b = 58 ∧ 0 < k then (k : Int) else if letterB b || (decide (0 < k) && laterB b) then colonF l (k + 1) else -1
theorem colonF_next {l : List UInt8} {k : Nat} {b : UInt8} (h : l[k]? = some b) :
    colonF (l.drop k) k = if b = 58 ∧ 0 < k then (k : Int) else if letterB b || (decide (0 < k) && laterB b) then colonF (l.drop (k + 1)) (k + 1) else -1 := by
  obtain ⟨hk, hb⟩ := List.getElem?_eq_some_iff.1 h
  rw [List.drop_eq_getElem_cons hk, hb]
  rfl
theorem colonF_end {l : List UInt8} {k : Nat} (h : l.length ≤ k) : colonF (l.drop k) k = -1 := by
  rw [List.drop_of_length_le h]; rfl
theorem colonF_bd (l : List UInt8) (k : Nat) : colonF l k = -1 ∨ (k : Int) ≤ colonF l k ∧ colonF l k < (k : Int) + l.length := by
  induction l generalizing k with
  | nil => exact .inl rfl
  | cons b l ih =>
    unfold colonF
    split
    · right; simp only [List.length_cons]; omega
    · split
      · rcases ih (k + 1) with h | h
        · exact .inl h
        · right; simp only [List.length_cons]; omega
      · exact .inl rfl
def colonI (l : List (UInt8 × Int)) : Int := colonF (l.map (·.1)) 0
theorem colonI_bd (l : List (UInt8 × Int)) : colonI l = -1 ∨ 0 ≤ colonI l ∧ colonI l < l.length := by
  have := colonF_bd (l.map (·.1)) 0
  unfold colonI
  rw [List.length_map] at this
  omega

/-! the scheme, and what is behind it -/
def schemeL (r : List (UInt8 × Int)) : List (UInt8 × Int) := (r.take (colonI r).toNat).map fun x => (lowB x.1, x.2)
theorem schemeL_none {r : List (UInt8 × Int)} (h : colonI r = -1) : schemeL r = [] := by unfold schemeL; rw [h]; rfl
theorem schemeL_length (r : List (UInt8 × Int)) : (schemeL r).length ≤ r.length := by
  unfold schemeL
  rw [List.length_map, List.length_take]
  omega
def restL (r : List (UInt8 × Int)) : List (UInt8 × Int) := r.drop (colonI r + 1).toNat
theorem restL_length (r : List (UInt8 × Int)) : (restL r).length ≤ r.length := by
  unfold restL
  rw [List.length_drop]
  omega

/-! parts -/
/-- where the first of that byte stands; the length, if there is none -/
def firstN (b : UInt8) (l : List (UInt8 × Int)) : Nat := l.findIdx fun x => x.1 == b
theorem firstN_le (b : UInt8) (l : List (UInt8 × Int)) : firstN b l ≤ l.length := List.findIdx_le_length
theorem firstN_nil (b : UInt8) : firstN b [] = 0 := rfl
theorem firstN_step {b x : UInt8} {o : Int} {l : List (UInt8 × Int)} {k : Nat} (h : l[k]? = some (x, o)) : firstN b (l.drop k) = if x = b then 0 else firstN b (l.drop (k + 1)) + 1 := by
  obtain ⟨hk, hb⟩ := List.getElem?_eq_some_iff.1 h
  rw [List.drop_eq_getElem_cons hk, hb]
  unfold firstN
  rw [List.findIdx_cons]
  by_cases hx : x = b
  · subst hx; simp
  · have : (x == b) = false := by simpa using hx
    simp only [this, hx, if_false, cond_false]
theorem occ_one (l : List UInt8) (b : UInt8) (j : Nat) : Lib.occAt l [b] j = (l[j]? == some b) := by
  unfold Lib.occAt
  cases hd : l.drop j with
  | nil =>
    have : l[j]? = none := by rw [List.getElem?_eq_none_iff]; exact List.drop_eq_nil_iff.1 hd
    rw [this]
    rfl
  | cons x t =>
    have h2 : l[j]? = some x := by
      have h3 : (l.drop j)[0]? = some x := by rw [hd]; rfl
      rw [List.getElem?_drop] at h3
      simpa using h3
    rw [h2]
    rw [Bool.eq_iff_iff]
    simp only [List.isPrefixOf, Bool.and_true, beq_iff_eq, Option.some.injEq]
    exact eq_comm
theorem firstN_at {b : UInt8} {l : List (UInt8 × Int)} (h : firstN b l < l.length) : (l.map (·.1))[firstN b l]? = some b := by
  have h1 : (l[firstN b l]'h).1 == b := List.findIdx_getElem (xs := l) (p := fun x : UInt8 × Int => x.1 == b) (w := h)
  rw [List.getElem?_map, List.getElem?_eq_getElem h]
  simp only [Option.map_some, Option.some.injEq]
  exact beq_iff_eq.1 h1
theorem firstN_before {b : UInt8} {l : List (UInt8 × Int)} {j : Nat} (h : j < firstN b l) : (l.map (·.1))[j]? ≠ some b := by
  have h1 := List.not_of_lt_findIdx (xs := l) (p := fun x : UInt8 × Int => x.1 == b) h
  rw [List.getElem?_map, List.getElem?_eq_getElem (Nat.lt_of_lt_of_le h (firstN_le b l))]
  intro e
  simp only [Option.map_some, Option.some.injEq] at e
  simp [e] at h1
/-- the place that is searched for -/
theorem findI_one (b : UInt8) (l : List (UInt8 × Int)) : findI (l.map (·.1)) [b] 0 = if firstN b l < l.length then (firstN b l : Int) else -1 := by
  have ha : (0 : Nat) = atN (l.map (·.1)).length 0 := by unfold atN; omega
  have hn : ∀ j, 0 ≤ j → j < firstN b l → Lib.occAt (l.map (·.1)) [b] j = false := fun j _ hj => by
    rw [occ_one, beq_eq_false_iff_ne]
    exact firstN_before hj
  split
  · rename_i h
    exact findI_first ha (Nat.zero_le _) (by rw [List.length_map]; omega) (by rw [occ_one, firstN_at h]; simp) hn
  · rename_i h
    exact findI_none (i := firstN b l) ha (by rw [List.length_map]; simp; omega) hn

end Go.Proofs.Ytpbpnffbaelcaaa.mk
