/-
  Lists of names and values: places of names, what is put, dropped, left once, and changed.
-/
import Derived.Test.YthckecfjghjnjaaLtCh
namespace Go.Proofs.Ythckecfjghjnjaa.mk
open Go.RowKit

/-- bytes with their origins: of a name, and of a value -/
abbrev Ch := List (UInt8 × Int)
abbrev PA := Ch × Ch
def nmB (p : PA) : List UInt8 := p.1.map (·.1)
/-- the first place of a name; the length if there is none -/
def placeN (L : List PA) (nm : List UInt8) : Nat := L.findIdx (fun p => nmB p == nm)
/-- the first of a name -/
def getA (L : List PA) (nm : List UInt8) : Option PA := L[placeN L nm]?
def isI (f : PA → Bool) (L : List PA) (i : Nat) : Bool := match L[i]? with | some p => f p | none => false
/-- those at the places that are wanted, of the first so many -/
def selTo (p : Nat → Bool) (L : List PA) : Nat → List PA
  | 0 => []
  | k + 1 => selTo p L k ++ (if p k then (L[k]?).toList else [])
def sel (p : Nat → Bool) (L : List PA) : List PA := selTo p L L.length
def putA (L : List PA) (a : PA) : List PA := if placeN L (nmB a) < L.length then L.set (placeN L (nmB a)) a else L ++ [a]
def dropP (L : List PA) (nm : List UInt8) : Nat → Bool := isI (fun p => !(nmB p == nm)) L
def onceP (L : List PA) (i : Nat) : Bool := isI (fun p => placeN L (nmB p) == i) L i
def dropA (L : List PA) (nm : List UInt8) : List PA := sel (dropP L nm) L
def onceA (L : List PA) : List PA := sel (onceP L) L
/-- has x to be put, where a holds A? -/
def putP (A : List PA) : PA → Bool := fun x => !(getA A (nmB x) == some x)
def chgPut (A B : List PA) : List PA := sel (isI (putP A) B) B
def chgDrop (A B : List PA) : List PA := sel (isI (fun x => (getA B (nmB x)).isNone) A) A

theorem placeN_le (L : List PA) (nm : List UInt8) : placeN L nm ≤ L.length := List.findIdx_le_length
theorem placeN_hit {L : List PA} {nm : List UInt8} (h : placeN L nm < L.length) : ∃ p, L[placeN L nm]? = some p ∧ nmB p = nm := by
  refine ⟨_, List.getElem?_eq_getElem h, ?_⟩
  have := List.findIdx_getElem (w := h) (p := fun p => nmB p == nm)
  exact beq_iff_eq.1 this
theorem placeN_lt {L : List PA} {nm : List UInt8} {i : Nat} {p : PA} (h : i < placeN L nm) (hp : L[i]? = some p) : nmB p ≠ nm := by
  have := List.not_of_lt_findIdx h
  obtain ⟨hi, e⟩ := List.getElem?_eq_some_iff.1 hp
  rw [e] at this
  exact beq_eq_false_iff_ne.1 this
theorem placeN_of {L : List PA} {nm : List UInt8} {i : Nat} {p : PA} (hp : L[i]? = some p) (hn : nmB p = nm) (hb : ∀ (j : Nat) (q : PA), j < i → L[j]? = some q → nmB q ≠ nm) : placeN L nm = i := by
  obtain ⟨hi, e⟩ := List.getElem?_eq_some_iff.1 hp
  rcases Nat.lt_trichotomy (placeN L nm) i with h | h | h
  · obtain ⟨q, hq, hqn⟩ := placeN_hit (Nat.lt_trans h hi)
    exact absurd hqn (hb _ _ h hq)
  · exact h
  · exact absurd hn (placeN_lt h hp)
theorem placeN_none {L : List PA} {nm : List UInt8} (hb : ∀ (j : Nat) (q : PA), L[j]? = some q → nmB q ≠ nm) : placeN L nm = L.length := by
  rcases Nat.lt_or_ge (placeN L nm) L.length with h | h
  · obtain ⟨q, hq, hqn⟩ := placeN_hit h
    exact absurd hqn (hb _ _ hq)
  · exact Nat.le_antisymm (placeN_le _ _) h
theorem placeN_some {L : List PA} {nm : List UInt8} {i : Nat} {p : PA} (hp : L[i]? = some p) (hn : nmB p = nm) : placeN L nm ≤ i := by
  rcases Nat.lt_or_ge i (placeN L nm) with h | h
  · exact absurd hn (placeN_lt h hp)
  · exact h

theorem getA_nm {L : List PA} {nm : List UInt8} {p : PA} (h : getA L nm = some p) : nmB p = nm := by
  have hl := (List.getElem?_eq_some_iff.1 h).1
  obtain ⟨q, hq, hn⟩ := placeN_hit hl
  unfold getA at h
  rw [hq] at h
  injection h with h
  rw [← h]; exact hn
theorem getA_none {L : List PA} {nm : List UInt8} (h : getA L nm = none) : ∀ (j : Nat) (q : PA), L[j]? = some q → nmB q ≠ nm := by
  intro j q hq hn
  have h1 := placeN_some hq hn
  have h2 := (List.getElem?_eq_some_iff.1 hq).1
  unfold getA at h
  rw [List.getElem?_eq_none_iff] at h
  omega
theorem getA_eq_none {L : List PA} {nm : List UInt8} (h : ∀ (j : Nat) (q : PA), L[j]? = some q → nmB q ≠ nm) : getA L nm = none := by
  unfold getA
  rw [placeN_none h]
  exact List.getElem?_eq_none (Nat.le_refl _)
theorem getA_of {L : List PA} {nm : List UInt8} {i : Nat} {p : PA} (hp : L[i]? = some p) (hn : nmB p = nm) (hb : ∀ (j : Nat) (q : PA), j < i → L[j]? = some q → nmB q ≠ nm) : getA L nm = some p := by
  unfold getA
  rw [placeN_of hp hn hb]
  exact hp
theorem getA_append (L M : List PA) (nm : List UInt8) : getA (L ++ M) nm = (getA L nm).or (getA M nm) := by
  cases h : getA L nm with
  | some p =>
    have hl := (List.getElem?_eq_some_iff.1 h).1
    refine getA_of (i := placeN L nm) ?_ (getA_nm h) ?_
    · rw [List.getElem?_append_left hl]; exact h
    · intro j q hj hq
      rw [List.getElem?_append_left (by omega)] at hq
      exact placeN_lt hj hq
  | none =>
    have hn := getA_none h
    simp only [Option.none_or]
    cases h2 : getA M nm with
    | some p =>
      have hl := (List.getElem?_eq_some_iff.1 h2).1
      refine getA_of (i := L.length + placeN M nm) ?_ (getA_nm h2) ?_
      · rw [List.getElem?_append_right (by omega), Nat.add_sub_cancel_left]; exact h2
      · intro j q hj hq
        rcases Nat.lt_or_ge j L.length with h3 | h3
        · rw [List.getElem?_append_left h3] at hq; exact hn _ _ hq
        · rw [List.getElem?_append_right h3] at hq
          exact placeN_lt (by omega) hq
    | none =>
      have hm := getA_none h2
      refine getA_eq_none fun j q hq => ?_
      rcases Nat.lt_or_ge j L.length with h3 | h3
      · rw [List.getElem?_append_left h3] at hq; exact hn _ _ hq
      · rw [List.getElem?_append_right h3] at hq; exact hm _ _ hq
theorem getA_nil (nm : List UInt8) : getA [] nm = none := rfl
theorem getA_one (p : PA) (nm : List UInt8) : getA [p] nm = if nmB p = nm then some p else none := by
  by_cases h : nmB p = nm
  · rw [if_pos h]
    exact getA_of (i := 0) rfl h (fun j q hj => by omega)
  · rw [if_neg h]
    refine getA_eq_none fun j q hq => ?_
    cases j with
    | zero => injection hq with hq; rw [← hq]; exact h
    | succ j => cases hq

theorem isI_at {f : PA → Bool} {L : List PA} {i : Nat} {p : PA} (h : L[i]? = some p) : isI f L i = f p := by unfold isI; rw [h]
theorem selTo_next {p : Nat → Bool} {L : List PA} {k : Nat} {x : PA} (h : L[k]? = some x) : selTo p L (k + 1) = selTo p L k ++ (if p k then [x] else []) := by
  show selTo p L k ++ (if p k then (L[k]?).toList else []) = _
  rw [h]
  rfl
theorem selTo_len (p : Nat → Bool) (L : List PA) (k : Nat) : (selTo p L k).length ≤ k := by
  induction k with
  | zero => exact Nat.le_refl _
  | succ k ih =>
    unfold selTo
    rw [List.length_append]
    split
    · cases L[k]? <;> simp <;> omega
    · simp; omega
theorem sel_len (p : Nat → Bool) (L : List PA) : (sel p L).length ≤ L.length := selTo_len _ _ _
theorem selTo_mem {p : Nat → Bool} {L : List PA} {k : Nat} {x : PA} (h : x ∈ selTo p L k) : ∃ i, i < k ∧ p i = true ∧ L[i]? = some x := by
  induction k with
  | zero => cases h
  | succ k ih =>
    unfold selTo at h
    rcases List.mem_append.1 h with h | h
    · obtain ⟨i, h1, h2, h3⟩ := ih h
      exact ⟨i, by omega, h2, h3⟩
    · split at h
      · rename_i hp
        rw [Option.mem_toList] at h
        exact ⟨k, by omega, hp, h⟩
      · cases h
theorem mem_selTo {p : Nat → Bool} {L : List PA} {k i : Nat} {x : PA} (hi : i < k) (hp : p i = true) (hx : L[i]? = some x) : x ∈ selTo p L k := by
  induction k with
  | zero => omega
  | succ k ih =>
    unfold selTo
    rcases Nat.lt_or_ge i k with h | h
    · exact List.mem_append_left _ (ih h)
    · obtain rfl : i = k := by omega
      refine List.mem_append_right _ ?_
      rw [if_pos hp, hx]
      simp
theorem mem_sel {p : Nat → Bool} {L : List PA} {i : Nat} {x : PA} (hp : p i = true) (hx : L[i]? = some x) : x ∈ sel p L := mem_selTo (List.getElem?_eq_some_iff.1 hx).1 hp hx
theorem getA_selTo (p : Nat → Bool) (L : List PA) (k : Nat) (nm : List UInt8) : getA (selTo p L (k + 1)) nm = (getA (selTo p L k) nm).or (getA (if p k then (L[k]?).toList else []) nm) := getA_append _ _ _

theorem getA_once_to (L : List PA) (nm : List UInt8) (k : Nat) (hk : k ≤ L.length) : getA (selTo (onceP L) L k) nm = if placeN L nm < k then getA L nm else none := by
  induction k with
  | zero => rw [if_neg (by omega)]; rfl
  | succ k ih =>
    rw [getA_selTo, ih (by omega)]
    have hx : L[k]? = some (L[k]'(by omega)) := List.getElem?_eq_getElem _
    generalize L[k]'(by omega) = x at hx
    rw [hx]
    by_cases h : placeN L nm < k
    · rw [if_pos h, if_pos (show placeN L nm < k + 1 by omega)]
      unfold getA
      rw [List.getElem?_eq_getElem (show placeN L nm < L.length by omega)]
      rfl
    · rw [if_neg h, Option.none_or]
      have hp : onceP L k = (placeN L (nmB x) == k) := isI_at hx
      rw [hp]
      by_cases h2 : placeN L nm = k
      · rw [if_pos (show placeN L nm < k + 1 by omega)]
        obtain ⟨y, hy, hyn⟩ := placeN_hit (L := L) (nm := nm) (by omega)
        rw [h2, hx] at hy
        injection hy with hy
        subst hy
        have hk2 : placeN L (nmB x) = k := by rw [hyn]; exact h2
        rw [hk2, beq_self_eq_true, if_pos rfl, Option.toList_some, getA_one, if_pos hyn]
        unfold getA
        rw [h2, hx]
      · rw [if_neg (show ¬ placeN L nm < k + 1 by omega)]
        by_cases h3 : placeN L (nmB x) = k
        · rw [h3, beq_self_eq_true, if_pos rfl, Option.toList_some, getA_one, if_neg]
          intro e
          rw [e] at h3
          exact h2 h3
        · rw [beq_eq_false_iff_ne.2 h3, if_neg (by simp), getA_nil]
theorem getA_once (L : List PA) (nm : List UInt8) : getA (onceA L) nm = getA L nm := by
  unfold onceA sel
  rw [getA_once_to L nm _ (Nat.le_refl _)]
  split
  · rfl
  · rename_i h
    unfold getA
    rw [List.getElem?_eq_none (by omega)]
theorem getA_drop_to (L : List PA) (d nm : List UInt8) (k : Nat) (hk : k ≤ L.length) : getA (selTo (dropP L d) L k) nm = if nm = d then none else if placeN L nm < k then getA L nm else none := by
  induction k with
  | zero => rw [if_neg (by omega : ¬ placeN L nm < 0)]; split <;> rfl
  | succ k ih =>
    rw [getA_selTo, ih (by omega)]
    have hx : L[k]? = some (L[k]'(by omega)) := List.getElem?_eq_getElem _
    generalize L[k]'(by omega) = x at hx
    rw [hx]
    have hp : dropP L d k = !(nmB x == d) := isI_at hx
    rw [hp]
    by_cases hd : nm = d
    · rw [if_pos hd, if_pos hd, Option.none_or]
      cases hb : nmB x == d with
      | true => rfl
      | false =>
        have := beq_eq_false_iff_ne.1 hb
        rw [Bool.not_false, if_pos rfl, Option.toList_some, getA_one, if_neg (by rw [hd]; exact this)]
    · rw [if_neg hd, if_neg hd]
      by_cases h : placeN L nm < k
      · rw [if_pos h, if_pos (show placeN L nm < k + 1 by omega)]
        unfold getA
        rw [List.getElem?_eq_getElem (show placeN L nm < L.length by omega)]
        rfl
      · rw [if_neg h, Option.none_or]
        by_cases h2 : placeN L nm = k
        · rw [if_pos (show placeN L nm < k + 1 by omega)]
          obtain ⟨y, hy, hyn⟩ := placeN_hit (L := L) (nm := nm) (by omega)
          rw [h2, hx] at hy
          injection hy with hy
          subst hy
          have hne : (nmB x == d) = false := beq_eq_false_iff_ne.2 (by rw [hyn]; exact hd)
          rw [hne, Bool.not_false, if_pos rfl, Option.toList_some, getA_one, if_pos hyn]
          unfold getA
          rw [h2, hx]
        · rw [if_neg (show ¬ placeN L nm < k + 1 by omega)]
          have hxn : nmB x ≠ nm := by
            intro e
            have := placeN_some hx e
            omega
          cases (!(nmB x == d)) with
          | true => rw [if_pos rfl, Option.toList_some, getA_one, if_neg hxn]
          | false => rfl
theorem getA_drop (L : List PA) (d nm : List UInt8) : getA (dropA L d) nm = if nm = d then none else getA L nm := by
  unfold dropA sel
  rw [getA_drop_to L d nm _ (Nat.le_refl _)]
  split
  · rfl
  · split
    · rfl
    · rename_i h
      unfold getA
      rw [List.getElem?_eq_none (by omega)]
theorem getA_put (L : List PA) (a : PA) (nm : List UInt8) : getA (putA L a) nm = if nm = nmB a then some a else getA L nm := by
  unfold putA
  split
  · rename_i h
    obtain ⟨q, hq, hqn⟩ := placeN_hit h
    by_cases hn : nm = nmB a
    · subst hn
      rw [if_pos rfl]
      refine getA_of (i := placeN L (nmB a)) (by rw [List.getElem?_set_self h]) rfl ?_
      intro j x hj hx
      rw [List.getElem?_set_ne (by omega)] at hx
      exact placeN_lt hj hx
    · rw [if_neg hn]
      have key : ∀ (j : Nat) (x : PA), (L.set (placeN L (nmB a)) a)[j]? = some x → nmB x = nm → L[j]? = some x := by
        intro j x hx hxn
        by_cases hj : j = placeN L (nmB a)
        · subst hj
          rw [List.getElem?_set_self h] at hx
          injection hx with hx
          subst hx
          exact absurd hxn.symm hn
        · rw [List.getElem?_set_ne (Ne.symm hj)] at hx; exact hx
      cases h2 : getA L nm with
      | none => exact getA_eq_none fun j x hx hxn => getA_none h2 _ _ (key j x hx hxn) hxn
      | some p =>
        have hpn := getA_nm h2
        have hne : placeN L (nmB a) ≠ placeN L nm := by
          intro e
          unfold getA at h2
          rw [← e, hq] at h2
          injection h2 with h2
          rw [h2] at hqn
          exact hn (hpn ▸ hqn)
        refine getA_of (i := placeN L nm) (by rw [List.getElem?_set_ne hne]; exact h2) hpn ?_
        intro j x hj hx hxn
        exact placeN_lt hj (key j x hx hxn) hxn
  · rename_i h
    rw [getA_append, getA_one]
    by_cases hn : nm = nmB a
    · subst hn
      rw [if_pos rfl, if_pos rfl]
      have : getA L (nmB a) = none := by unfold getA; exact List.getElem?_eq_none (by omega)
      rw [this]; rfl
    · rw [if_neg hn, if_neg (Ne.symm hn), Option.or_none]
theorem mem_once {L : List PA} {x : PA} (h : x ∈ onceA L) : getA L (nmB x) = some x := by
  obtain ⟨i, _, hp, hx⟩ := selTo_mem h
  have hp' : (placeN L (nmB x) == i) = true := (isI_at (f := fun p => placeN L (nmB p) == i) hx).symm.trans hp
  unfold getA
  rw [beq_iff_eq.1 hp']
  exact hx
theorem once_mem {L : List PA} {nm : List UInt8} {x : PA} (h : getA L nm = some x) : x ∈ onceA L := by
  have hn := getA_nm h
  unfold getA at h
  refine mem_sel (i := placeN L nm) ?_ h
  unfold onceP
  rw [isI_at h, hn]
  simp

/-- what has to be put, and to be dropped, where both are once -/
def diffP (A B : List PA) : List PA := chgPut (onceA A) (onceA B)
def diffD (A B : List PA) : List PA := chgDrop (onceA A) (onceA B)
/-- Same -/
def sameA (A B : List PA) : Bool := (diffP A B).isEmpty && (diffD A B).isEmpty
theorem mem_sel_of {f : PA → Bool} {L : List PA} {x : PA} (h : x ∈ sel (isI f L) L) : x ∈ L ∧ f x = true := by
  obtain ⟨i, _, hp, hx⟩ := selTo_mem h
  rw [isI_at hx] at hp
  exact ⟨List.mem_of_getElem? hx, hp⟩
theorem sel_of_mem {f : PA → Bool} {L : List PA} {x : PA} (h : x ∈ L) (hf : f x = true) : x ∈ sel (isI f L) L := by
  obtain ⟨i, hi⟩ := List.mem_iff_getElem?.1 h
  exact mem_sel (by rw [isI_at hi]; exact hf) hi
theorem mem_diffP {A B : List PA} {x : PA} : x ∈ diffP A B ↔ getA B (nmB x) = some x ∧ getA A (nmB x) ≠ some x := by
  unfold diffP chgPut
  constructor
  · intro h
    obtain ⟨h1, h2⟩ := mem_sel_of h
    refine ⟨mem_once h1, ?_⟩
    unfold putP at h2
    rw [getA_once] at h2
    simpa using h2
  · rintro ⟨h1, h2⟩
    refine sel_of_mem (once_mem h1) ?_
    unfold putP
    rw [getA_once]
    simpa using h2
theorem mem_diffD {A B : List PA} {x : PA} : x ∈ diffD A B ↔ getA A (nmB x) = some x ∧ getA B (nmB x) = none := by
  unfold diffD chgDrop
  constructor
  · intro h
    obtain ⟨h1, h2⟩ := mem_sel_of h
    refine ⟨mem_once h1, ?_⟩
    rw [getA_once] at h2
    simpa using h2
  · rintro ⟨h1, h2⟩
    refine sel_of_mem (once_mem h1) ?_
    rw [getA_once, h2]
    rfl
theorem sameA_iff (A B : List PA) : sameA A B = true ↔ ∀ nm, getA A nm = getA B nm := by
  unfold sameA
  rw [Bool.and_eq_true, List.isEmpty_iff, List.isEmpty_iff]
  constructor
  · rintro ⟨h1, h2⟩ nm
    cases hb : getA B nm with
    | some x =>
      have hn := getA_nm hb
      apply Classical.byContradiction
      intro hne
      have : x ∈ diffP A B := mem_diffP.2 ⟨by rw [hn]; exact hb, by rw [hn]; exact hne⟩
      rw [h1] at this
      cases this
    | none =>
      cases ha : getA A nm with
      | none => rfl
      | some x =>
        have hn := getA_nm ha
        have : x ∈ diffD A B := mem_diffD.2 ⟨by rw [hn]; exact ha, by rw [hn]; exact hb⟩
        rw [h2] at this
        cases this
  · intro h
    refine ⟨List.eq_nil_iff_forall_not_mem.2 fun x hx => ?_, List.eq_nil_iff_forall_not_mem.2 fun x hx => ?_⟩
    · obtain ⟨h1, h2⟩ := mem_diffP.1 hx
      exact h2 (by rw [h]; exact h1)
    · obtain ⟨h1, h2⟩ := mem_diffD.1 hx
      rw [h, h2] at h1
      cases h1
theorem sameA_self (A : List PA) : sameA A A = true := (sameA_iff A A).2 fun _ => rfl
theorem sameA_comm (A B : List PA) : sameA A B = sameA B A := by
  rw [Bool.eq_iff_iff, sameA_iff, sameA_iff]
  exact ⟨fun h nm => (h nm).symm, fun h nm => (h nm).symm⟩

/-- all that has to be put, put -/
def putsA (L : List PA) (ps : List PA) : List PA := ps.foldl putA L
def dropsA (L : List PA) (ds : List (List UInt8)) : List PA := ds.foldl dropA L
theorem putsA_snoc (L ps : List PA) (x : PA) : putsA L (ps ++ [x]) = putA (putsA L ps) x := by unfold putsA; rw [List.foldl_append]; rfl
theorem dropsA_snoc (L : List PA) (ds : List (List UInt8)) (x : List UInt8) : dropsA L (ds ++ [x]) = dropA (dropsA L ds) x := by unfold dropsA; rw [List.foldl_append]; rfl
theorem getA_puts (L ps : List PA) (M : List PA) (h : ∀ x ∈ ps, getA M (nmB x) = some x) (nm : List UInt8) : getA (putsA L ps) nm = if nm ∈ ps.map nmB then getA M nm else getA L nm := by
  induction ps using snocInd with
  | nil => simp [putsA]
  | append_singleton ps x ih =>
    rw [putsA_snoc, getA_put, ih (fun y hy => h y (List.mem_append_left _ hy)), List.map_append]
    have hx := h x (by simp)
    by_cases hn : nm = nmB x
    · subst hn
      rw [if_pos rfl, if_pos (by simp), hx]
    · rw [if_neg hn]
      by_cases hm : nm ∈ ps.map nmB
      · rw [if_pos hm, if_pos (List.mem_append_left _ hm)]
      · rw [if_neg hm, if_neg]
        rw [List.mem_append]
        simp only [List.map_cons, List.map_nil, List.mem_singleton]
        rintro (h1 | h1)
        · exact hm h1
        · exact hn h1
theorem getA_drops (L : List PA) (ds : List (List UInt8)) (nm : List UInt8) : getA (dropsA L ds) nm = if nm ∈ ds then none else getA L nm := by
  induction ds using snocInd with
  | nil => simp [dropsA]
  | append_singleton ds x ih =>
    rw [dropsA_snoc, getA_drop, ih]
    by_cases hn : nm = x
    · subst hn
      rw [if_pos rfl, if_pos (by simp)]
    · rw [if_neg hn]
      by_cases hm : nm ∈ ds
      · rw [if_pos hm, if_pos (List.mem_append_left _ hm)]
      · rw [if_neg hm, if_neg]
        rw [List.mem_append]
        simp only [List.mem_singleton]
        rintro (h1 | h1)
        · exact hm h1
        · exact hn h1
/-- changes lead from the one to the other -/
theorem changed_same (A B : List PA) : sameA (dropsA (putsA (onceA A) (diffP A B)) ((diffD A B).map nmB)) B = true := by
  rw [sameA_iff]
  intro nm
  rw [getA_drops, getA_puts _ _ B (fun x hx => (mem_diffP.1 hx).1), getA_once]
  split
  · rename_i h
    obtain ⟨x, hx, rfl⟩ := List.mem_map.1 h
    rw [(mem_diffD.1 hx).2]
  · rename_i hd
    split
    · rfl
    · rename_i hp
      cases hb : getA B nm with
      | some x =>
        have hn := getA_nm hb
        apply Classical.byContradiction
        intro hne
        exact hp (List.mem_map.2 ⟨x, mem_diffP.2 ⟨by rw [hn]; exact hb, by rw [hn]; exact hne⟩, hn⟩)
      | none =>
        cases ha : getA A nm with
        | none => rfl
        | some x =>
          have hn := getA_nm ha
          exact absurd (List.mem_map.2 ⟨x, mem_diffD.2 ⟨by rw [hn]; exact ha, by rw [hn]; exact hb⟩, hn⟩) hd

end Go.Proofs.Ythckecfjghjnjaa.mk
