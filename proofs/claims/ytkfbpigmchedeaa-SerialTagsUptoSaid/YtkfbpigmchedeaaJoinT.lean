/-
  Trees that come in: a bundle; a text as a tree.
-/
import Derived.Test.YtkfbpigmchedeaaJoinS
import Derived.Test.YtkfbpigmchedeaaJoinO
import Derived.Test.YtkfbpigmchedeaaJoinQ
import Derived.Test.YtkfbpigmchedeaaJoinJ
import Derived.Test.YtkfbpigmchedeaaJoinE
namespace Go.Proofs.Ytkfbpigmchedeaa.mk
open Go.RowKit

def txtOf (l : List (UInt8 × Int)) : ByteArray := ⟨(l.map (·.1)).toArray⟩
def runN (l : List (UInt8 × Int)) : Nat := (comp (l.map (·.2))).length
def TellsL (l : List (UInt8 × Int)) (W : World) (e : Ending) (w' : World) : Prop :=
  ∃ D k, e = .returned (.agg #[.string (txtOf l), .slice D (runN l) k]) ∧ Lies w' w'.heap.size D (runCells (comp (l.map (·.2)))) ∧ Below W.heap.size W w'
def RowL (l : List (UInt8 × Int)) (n : Nat) (W : World) (e : Ending) (w' : World) : Prop :=
  ∃ D k, e = .returned (.slice D n k) ∧ Lies w' w'.heap.size D (chCells l) ∧ Below W.heap.size W w'
def SaysB (V : Value) (W : World) (e : Ending) (w' : World) : Prop := e = .returned V ∧ Below W.heap.size W w'
theorem tellsL_of {l : List (UInt8 × Int)} {W : World} {e : Ending} {w' : World} (h : Tells ⟨(l.map (·.1)).toArray⟩ (comp (l.map (·.2))) W e w') : TellsL l W e w' := by
  obtain ⟨v, rfl, ho, hb⟩ := h
  obtain ⟨D, k, rfl, _, _, _⟩ := own_form ho
  exact ⟨D, k, rfl, Lies.own ho, hb⟩
theorem rowL_of {l : List (UInt8 × Int)} {W : World} {e : Ending} {w' : World} (h : ∃ v, e = .returned v ∧ w'.ownsRow W.heap.size 54 2 v l.length (chCells l) ∧ Below W.heap.size W w') : RowL l l.length W e w' := by
  obtain ⟨v, rfl, ho, hb⟩ := h
  obtain ⟨D, k, rfl, _, _, _⟩ := own_form ho
  exact ⟨D, k, rfl, Lies.own ho, hb⟩

theorem runN_le (l : List (UInt8 × Int)) : runN l ≤ l.length := by
  have := comp_length_le (l.map (·.2))
  rw [List.length_map] at this
  exact this
end Go.Proofs.Ytkfbpigmchedeaa.mk

namespace Go.Proofs.Ytkfbpigmchedeaa.mk
open Go.RowKit

def LT.ch (t : LT) : List (UInt8 × Int) := chars t.bs t.rs
theorem LT.ch_length (t : LT) : t.ch.length = t.s.size := by unfold LT.ch; rw [chars_length, LT.bs_length]
theorem LT.ch_fst (t : LT) : t.ch.map (·.1) = t.bs := chars_fst _ _
theorem LT.ch_snd (t : LT) : t.ch.map (·.2) = t.os := by unfold LT.ch; rw [chars_snd, LT.bs_length]; rfl
theorem txtOf_size (l : List (UInt8 × Int)) : (txtOf l).size = l.length := by show (l.map (·.1)).toArray.size = _; simp
theorem txtOf_chars {l : List (UInt8 × Int)} (h : InR l) : chars (txtOf l).data.toList (comp (l.map (·.2))) = l := chars_told h

/-- a labelled text that was told -/
def toldT (l : List (UInt8 × Int)) (D : Option Addr) (k : Nat) : LT := ⟨txtOf l, D, runN l, k, comp (l.map (·.2))⟩
theorem toldT_ch {l : List (UInt8 × Int)} (h : InR l) (D : Option Addr) (k : Nat) : (toldT l D k).ch = l := txtOf_chars h
theorem toldT_ok {l : List (UInt8 × Int)} {D : Option Addr} {W : World} (k : Nat) (h : Lies W W.heap.size D (runCells (comp (l.map (·.2))))) (hn : l.length ≤ 4294967296) : (toldT l D k).ok W W.heap.size :=
  ⟨h, rfl, Nat.le_trans (runN_le l) hn, by show (txtOf l).size ≤ _; rw [txtOf_size]; exact hn⟩
theorem LT.ch_in (t : LT) : InR t.ch := InR.chars _ _
end Go.Proofs.Ytkfbpigmchedeaa.mk

namespace Go.Proofs.Ytkfbpigmchedeaa.mk
open Go.RowKit

/-- bytes with their origins: of a name, and of a value -/
abbrev Ch := List (UInt8 × Int)
abbrev PA := Ch × Ch
def nmB (p : PA) : List UInt8 := p.1.map (·.1)
/-- the first place of a name; the length if there is none -/
def placeN (L : List PA) (nm : List UInt8) : Nat := L.findIdx (fun p => nmB p == nm)
/-- the first of a name -/
def getA (L : List PA) (nm : List UInt8) : Option PA := L[placeN L nm]?
def isI (f : PA → Bool) (L : List PA) (i : Nat) : Bool := match L[i]? with | some p => f p | none => false
/-- those at the places that are wanted, of the first so many -/
def selTo (p : Nat → Bool) (L : List PA) : Nat → List PA
  | 0 => []
  | k + 1 => selTo p L k ++ (if p k then (L[k]?).toList else [])
def sel (p : Nat → Bool) (L : List PA) : List PA := selTo p L L.length
def putA (L : List PA) (a : PA) : List PA := if placeN L (nmB a) < L.length then L.set (placeN L (nmB a)) a else L ++ [a]
def dropP (L : List PA) (nm : List UInt8) : Nat → Bool := isI (fun p => !(nmB p == nm)) L
def onceP (L : List PA) (i : Nat) : Bool := isI (fun p => placeN L (nmB p) == i) L i
def dropA (L : List PA) (nm : List UInt8) : List PA := sel (dropP L nm) L
def onceA (L : List PA) : List PA := sel (onceP L) L
/-- has x to be put, where a holds A? -/
def putP (A : List PA) : PA → Bool := fun x => !(getA A (nmB x) == some x)
def chgPut (A B : List PA) : List PA := sel (isI (putP A) B) B
def chgDrop (A B : List PA) : List PA := sel (isI (fun x => (getA B (nmB x)).isNone) A) A

theorem placeN_le (L : List PA) (nm : List UInt8) : placeN L nm ≤ L.length := List.findIdx_le_length
theorem placeN_hit {L : List PA} {nm : List UInt8} (h : placeN L nm < L.length) : ∃ p, L[placeN L nm]? = some p ∧ nmB p = nm := by
  refine ⟨_, List.getElem?_eq_getElem h, ?_⟩
  have := List.findIdx_getElem (w := h) (p := fun p => nmB p == nm)
  exact beq_iff_eq.1 this
theorem placeN_lt {L : List PA} {nm : List UInt8} {i : Nat} {p : PA} (h : i < placeN L nm) (hp : L[i]? = some p) : nmB p ≠ nm := by
  have := List.not_of_lt_findIdx h
  obtain ⟨hi, e⟩ := List.getElem?_eq_some_iff.1 hp
  rw [e] at this
  exact beq_eq_false_iff_ne.1 this
theorem placeN_of {L : List PA} {nm : List UInt8} {i : Nat} {p : PA} (hp : L[i]? = some p) (hn : nmB p = nm) (hb : ∀ (j : Nat) (q : PA), j < i → L[j]? = some q → nmB q ≠ nm) : placeN L nm = i := by
  obtain ⟨hi, e⟩ := List.getElem?_eq_some_iff.1 hp
  rcases Nat.lt_trichotomy (placeN L nm) i with h | h | h
  · obtain ⟨q, hq, hqn⟩ := placeN_hit (Nat.lt_trans h hi)
    exact absurd hqn (hb _ _ h hq)
  · exact h
  · exact absurd hn (placeN_lt h hp)
theorem placeN_none {L : List PA} {nm : List UInt8} (hb : ∀ (j : Nat) (q : PA), L[j]? = some q → nmB q ≠ nm) : placeN L nm = L.length := by
  rcases Nat.lt_or_ge (placeN L nm) L.length with h | h
  · obtain ⟨q, hq, hqn⟩ := placeN_hit h
    exact absurd hqn (hb _ _ hq)
  · exact Nat.le_antisymm (placeN_le _ _) h
theorem placeN_some {L : List PA} {nm : List UInt8} {i : Nat} {p : PA} (hp : L[i]? = some p) (hn : nmB p = nm) : placeN L nm ≤ i := by
  rcases Nat.lt_or_ge i (placeN L nm) with h | h
  · exact absurd hn (placeN_lt h hp)
  · exact h

theorem getA_nm {L : List PA} {nm : List UInt8} {p : PA} (h : getA L nm = some p) : nmB p = nm := by
  have hl := (List.getElem?_eq_some_iff.1 h).1
  obtain ⟨q, hq, hn⟩ := placeN_hit hl
  unfold getA at h
  rw [hq] at h
  injection h with h
  rw [← h]; exact hn
theorem getA_none {L : List PA} {nm : List UInt8} (h : getA L nm = none) : ∀ (j : Nat) (q : PA), L[j]? = some q → nmB q ≠ nm := by
  intro j q hq hn
  have h1 := placeN_some hq hn
  have h2 := (List.getElem?_eq_some_iff.1 hq).1
  unfold getA at h
  rw [List.getElem?_eq_none_iff] at h
  omega
theorem getA_eq_none {L : List PA} {nm : List UInt8} (h : ∀ (j : Nat) (q : PA), L[j]? = some q → nmB q ≠ nm) : getA L nm = none := by
  unfold getA
  rw [placeN_none h]
  exact List.getElem?_eq_none (Nat.le_refl _)
theorem getA_of {L : List PA} {nm : List UInt8} {i : Nat} {p : PA} (hp : L[i]? = some p) (hn : nmB p = nm) (hb : ∀ (j : Nat) (q : PA), j < i → L[j]? = some q → nmB q ≠ nm) : getA L nm = some p := by
  unfold getA
  rw [placeN_of hp hn hb]
  exact hp
theorem getA_append (L M : List PA) (nm : List UInt8) : getA (L ++ M) nm = (getA L nm).or (getA M nm) := by
  cases h : getA L nm with
  | some p =>
    have hl := (List.getElem?_eq_some_iff.1 h).1
    refine getA_of (i := placeN L nm) ?_ (getA_nm h) ?_
    · rw [List.getElem?_append_left hl]; exact h
    · intro j q hj hq
      rw [List.getElem?_append_left (by omega)] at hq
      exact placeN_lt hj hq
  | none =>
    have hn := getA_none h
    simp only [Option.none_or]
    cases h2 : getA M nm with
    | some p =>
      have hl := (List.getElem?_eq_some_iff.1 h2).1
      refine getA_of (i := L.length + placeN M nm) ?_ (getA_nm h2) ?_
      · rw [List.getElem?_append_right (by omega), Nat.add_sub_cancel_left]; exact h2
      · intro j q hj hq
        rcases Nat.lt_or_ge j L.length with h3 | h3
        · rw [List.getElem?_append_left h3] at hq; exact hn _ _ hq
        · rw [List.getElem?_append_right h3] at hq
          exact placeN_lt (by omega) hq
    | none =>
      have hm := getA_none h2
      refine getA_eq_none fun j q hq => ?_
      rcases Nat.lt_or_ge j L.length with h3 | h3
      · rw [List.getElem?_append_left h3] at hq; exact hn _ _ hq
      · rw [List.getElem?_append_right h3] at hq; exact hm _ _ hq
theorem getA_nil (nm : List UInt8) : getA [] nm = none := rfl
theorem getA_one (p : PA) (nm : List UInt8) : getA [p] nm = if nmB p = nm then some p else none := by
  by_cases h : nmB p = nm
  · rw [if_pos h]
    exact getA_of (i := 0) rfl h (fun j q hj => by omega)
  · rw [if_neg h]
    refine getA_eq_none fun j q hq => ?_
    cases j with
    | zero => injection hq with hq; rw [← hq]; exact h
    | succ j => cases hq

theorem isI_at {f : PA → Bool} {L : List PA} {i : Nat} {p : PA} (h : L[i]? = some p) : isI f L i = f p := by unfold isI; rw [h]
theorem selTo_next {p : Nat → Bool} {L : List PA} {k : Nat} {x : PA} (h : L[k]? = some x) : selTo p L (k + 1) = selTo p L k ++ (if p k then [x] else []) := by
  show selTo p L k ++ (if p k then (L[k]?).toList else []) = _
  rw [h]
  rfl
theorem selTo_len (p : Nat → Bool) (L : List PA) (k : Nat) : (selTo p L k).length ≤ k := by
  induction k with
  | zero => exact Nat.le_refl _
  | succ k ih =>
    unfold selTo
    rw [List.length_append]
    split
    · cases L[k]? <;> simp <;> omega
    · simp; omega
theorem sel_len (p : Nat → Bool) (L : List PA) : (sel p L).length ≤ L.length := selTo_len _ _ _
theorem selTo_mem {p : Nat → Bool} {L : List PA} {k : Nat} {x : PA} (h : x ∈ selTo p L k) : ∃ i, i < k ∧ p i = true ∧ L[i]? = some x := by
  induction k with
  | zero => cases h
  | succ k ih =>
    unfold selTo at h
    rcases List.mem_append.1 h with h | h
    · obtain ⟨i, h1, h2, h3⟩ := ih h
      exact ⟨i, by omega, h2, h3⟩
    · split at h
      · rename_i hp
        rw [Option.mem_toList] at h
        exact ⟨k, by omega, hp, h⟩
      · cases h
theorem mem_selTo {p : Nat → Bool} {L : List PA} {k i : Nat} {x : PA} (hi : i < k) (hp : p i = true) (hx : L[i]? = some x) : x ∈ selTo p L k := by
  induction k with
  | zero => omega
  | succ k ih =>
    unfold selTo
    rcases Nat.lt_or_ge i k with h | h
    · exact List.mem_append_left _ (ih h)
    · obtain rfl : i = k := by omega
      refine List.mem_append_right _ ?_
      rw [if_pos hp, hx]
      simp
theorem mem_sel {p : Nat → Bool} {L : List PA} {i : Nat} {x : PA} (hp : p i = true) (hx : L[i]? = some x) : x ∈ sel p L := mem_selTo (List.getElem?_eq_some_iff.1 hx).1 hp hx
theorem getA_selTo (p : Nat → Bool) (L : List PA) (k : Nat) (nm : List UInt8) : getA (selTo p L (k + 1)) nm = (getA (selTo p L k) nm).or (getA (if p k then (L[k]?).toList else []) nm) := getA_append _ _ _

theorem getA_once_to (L : List PA) (nm : List UInt8) (k : Nat) (hk : k ≤ L.length) : getA (selTo (onceP L) L k) nm = if placeN L nm < k then getA L nm else none := by
  induction k with
  | zero => rw [if_neg (by omega)]; rfl
  | succ k ih =>
    rw [getA_selTo, ih (by omega)]
    have hx : L[k]? = some (L[k]'(by omega)) := List.getElem?_eq_getElem _
    generalize L[k]'(by omega) = x at hx
    rw [hx]
    by_cases h : placeN L nm < k
    · rw [if_pos h, if_pos (show placeN L nm < k + 1 by omega)]
      unfold getA
      rw [List.getElem?_eq_getElem (show placeN L nm < L.length by omega)]
      rfl
    · rw [if_neg h, Option.none_or]
      have hp : onceP L k = (placeN L (nmB x) == k) := isI_at hx
      rw [hp]
      by_cases h2 : placeN L nm = k
      · rw [if_pos (show placeN L nm < k + 1 by omega)]
        obtain ⟨y, hy, hyn⟩ := placeN_hit (L := L) (nm := nm) (by omega)
        rw [h2, hx] at hy
        injection hy with hy
        subst hy
        have hk2 : placeN L (nmB x) = k := by rw [hyn]; exact h2
        rw [hk2, beq_self_eq_true, if_pos rfl, Option.toList_some, getA_one, if_pos hyn]
        unfold getA
        rw [h2, hx]
      · rw [if_neg (show ¬ placeN L nm < k + 1 by omega)]
        by_cases h3 : placeN L (nmB x) = k
        · rw [h3, beq_self_eq_true, if_pos rfl, Option.toList_some, getA_one, if_neg]
          intro e
          rw [e] at h3
          exact h2 h3
        · rw [beq_eq_false_iff_ne.2 h3, if_neg (by simp), getA_nil]
theorem getA_once (L : List PA) (nm : List UInt8) : getA (onceA L) nm = getA L nm := by
  unfold onceA sel
  rw [getA_once_to L nm _ (Nat.le_refl _)]
  split
  · rfl
  · rename_i h
    unfold getA
    rw [List.getElem?_eq_none (by omega)]
theorem getA_drop_to (L : List PA) (d nm : List UInt8) (k : Nat) (hk : k ≤ L.length) : getA (selTo (dropP L d) L k) nm = if nm = d then none else if placeN L nm < k then getA L nm else none := by
  induction k with
  | zero => rw [if_neg (by omega : ¬ placeN L nm < 0)]; split <;> rfl
  | succ k ih =>
    rw [getA_selTo, ih (by omega)]
    have hx : L[k]? = some (L[k]'(by omega)) := List.getElem?_eq_getElem _
    generalize L[k]'(by omega) = x at hx
    rw [hx]
    have hp : dropP L d k = !(nmB x == d) := isI_at hx
    rw [hp]
    by_cases hd : nm = d
    · rw [if_pos hd, if_pos hd, Option.none_or]
      cases hb : nmB x == d with
      | true => rfl
      | false =>
        have := beq_eq_false_iff_ne.1 hb
        rw [Bool.not_false, if_pos rfl, Option.toList_some, getA_one, if_neg (by rw [hd]; exact this)]
    · rw [if_neg hd, if_neg hd]
      by_cases h : placeN L nm < k
      · rw [if_pos h, if_pos (show placeN L nm < k + 1 by omega)]
        unfold getA
        rw [List.getElem?_eq_getElem (show placeN L nm < L.length by omega)]
        rfl
      · rw [if_neg h, Option.none_or]
        by_cases h2 : placeN L nm = k
        · rw [if_pos (show placeN L nm < k + 1 by omega)]
          obtain ⟨y, hy, hyn⟩ := placeN_hit (L := L) (nm := nm) (by omega)
          rw [h2, hx] at hy
          injection hy with hy
          subst hy
          have hne : (nmB x == d) = false := beq_eq_false_iff_ne.2 (by rw [hyn]; exact hd)
          rw [hne, Bool.not_false, if_pos rfl, Option.toList_some, getA_one, if_pos hyn]
          unfold getA
          rw [h2, hx]
        · rw [if_neg (show ¬ placeN L nm < k + 1 by omega)]
          have hxn : nmB x ≠ nm := by
            intro e
            have := placeN_some hx e
            omega
          cases (!(nmB x == d)) with
          | true => rw [if_pos rfl, Option.toList_some, getA_one, if_neg hxn]
          | false => rfl
theorem getA_drop (L : List PA) (d nm : List UInt8) : getA (dropA L d) nm = if nm = d then none else getA L nm := by
  unfold dropA sel
  rw [getA_drop_to L d nm _ (Nat.le_refl _)]
  split
  · rfl
  · split
    · rfl
    · rename_i h
      unfold getA
      rw [List.getElem?_eq_none (by omega)]
theorem getA_put (L : List PA) (a : PA) (nm : List UInt8) : getA (putA L a) nm = if nm = nmB a then some a else getA L nm := by
  unfold putA
  split
  · rename_i h
    obtain ⟨q, hq, hqn⟩ := placeN_hit h
    by_cases hn : nm = nmB a
    · subst hn
      rw [if_pos rfl]
      refine getA_of (i := placeN L (nmB a)) (by rw [List.getElem?_set_self h]) rfl ?_
      intro j x hj hx
      rw [List.getElem?_set_ne (by omega)] at hx
      exact placeN_lt hj hx
    · rw [if_neg hn]
      have key : ∀ (j : Nat) (x : PA), (L.set (placeN L (nmB a)) a)[j]? = some x → nmB x = nm → L[j]? = some x := by
        intro j x hx hxn
        by_cases hj : j = placeN L (nmB a)
        · subst hj
          rw [List.getElem?_set_self h] at hx
          injection hx with hx
          subst hx
          exact absurd hxn.symm hn
        · rw [List.getElem?_set_ne (Ne.symm hj)] at hx; exact hx
      cases h2 : getA L nm with
      | none => exact getA_eq_none fun j x hx hxn => getA_none h2 _ _ (key j x hx hxn) hxn
      | some p =>
        have hpn := getA_nm h2
        have hne : placeN L (nmB a) ≠ placeN L nm := by
          intro e
          unfold getA at h2
          rw [← e, hq] at h2
          injection h2 with h2
          rw [h2] at hqn
          exact hn (hpn ▸ hqn)
        refine getA_of (i := placeN L nm) (by rw [List.getElem?_set_ne hne]; exact h2) hpn ?_
        intro j x hj hx hxn
        exact placeN_lt hj (key j x hx hxn) hxn
  · rename_i h
    rw [getA_append, getA_one]
    by_cases hn : nm = nmB a
    · subst hn
      rw [if_pos rfl, if_pos rfl]
      have : getA L (nmB a) = none := by unfold getA; exact List.getElem?_eq_none (by omega)
      rw [this]; rfl
    · rw [if_neg hn, if_neg (Ne.symm hn), Option.or_none]
theorem mem_once {L : List PA} {x : PA} (h : x ∈ onceA L) : getA L (nmB x) = some x := by
  obtain ⟨i, _, hp, hx⟩ := selTo_mem h
  have hp' : (placeN L (nmB x) == i) = true := (isI_at (f := fun p => placeN L (nmB p) == i) hx).symm.trans hp
  unfold getA
  rw [beq_iff_eq.1 hp']
  exact hx
theorem once_mem {L : List PA} {nm : List UInt8} {x : PA} (h : getA L nm = some x) : x ∈ onceA L := by
  have hn := getA_nm h
  unfold getA at h
  refine mem_sel (i := placeN L nm) ?_ h
  unfold onceP
  rw [isI_at h, hn]
  simp

/-- what has to be put, and to be dropped, where both are once -/
def diffP (A B : List PA) : List PA := chgPut (onceA A) (onceA B)
def diffD (A B : List PA) : List PA := chgDrop (onceA A) (onceA B)
/-- Same -/
def sameA (A B : List PA) : Bool := (diffP A B).isEmpty && (diffD A B).isEmpty
theorem mem_sel_of {f : PA → Bool} {L : List PA} {x : PA} (h : x ∈ sel (isI f L) L) : x ∈ L ∧ f x = true := by
  obtain ⟨i, _, hp, hx⟩ := selTo_mem h
  rw [isI_at hx] at hp
  exact ⟨List.mem_of_getElem? hx, hp⟩
theorem sel_of_mem {f : PA → Bool} {L : List PA} {x : PA} (h : x ∈ L) (hf : f x = true) : x ∈ sel (isI f L) L := by
  obtain ⟨i, hi⟩ := List.mem_iff_getElem?.1 h
  exact mem_sel (by rw [isI_at hi]; exact hf) hi
theorem mem_diffP {A B : List PA} {x : PA} : x ∈ diffP A B ↔ getA B (nmB x) = some x ∧ getA A (nmB x) ≠ some x := by
  unfold diffP chgPut
  constructor
  · intro h
    obtain ⟨h1, h2⟩ := mem_sel_of h
    refine ⟨mem_once h1, ?_⟩
    unfold putP at h2
    rw [getA_once] at h2
    simpa using h2
  · rintro ⟨h1, h2⟩
    refine sel_of_mem (once_mem h1) ?_
    unfold putP
    rw [getA_once]
    simpa using h2
theorem mem_diffD {A B : List PA} {x : PA} : x ∈ diffD A B ↔ getA A (nmB x) = some x ∧ getA B (nmB x) = none := by
  unfold diffD chgDrop
  constructor
  · intro h
    obtain ⟨h1, h2⟩ := mem_sel_of h
    refine ⟨mem_once h1, ?_⟩
    rw [getA_once] at h2
    simpa using h2
  · rintro ⟨h1, h2⟩
    refine sel_of_mem (once_mem h1) ?_
    rw [getA_once, h2]
    rfl
theorem sameA_iff (A B : List PA) : sameA A B = true ↔ ∀ nm, getA A nm = getA B nm := by
  unfold sameA
  rw [Bool.and_eq_true, List.isEmpty_iff, List.isEmpty_iff]
  constructor
  · rintro ⟨h1, h2⟩ nm
    cases hb : getA B nm with
    | some x =>
      have hn := getA_nm hb
      apply Classical.byContradiction
      intro hne
      have : x ∈ diffP A B := mem_diffP.2 ⟨by rw [hn]; exact hb, by rw [hn]; exact hne⟩
      rw [h1] at this
      cases this
    | none =>
      cases ha : getA A nm with
      | none => rfl
      | some x =>
        have hn := getA_nm ha
        have : x ∈ diffD A B := mem_diffD.2 ⟨by rw [hn]; exact ha, by rw [hn]; exact hb⟩
        rw [h2] at this
        cases this
  · intro h
    refine ⟨List.eq_nil_iff_forall_not_mem.2 fun x hx => ?_, List.eq_nil_iff_forall_not_mem.2 fun x hx => ?_⟩
    · obtain ⟨h1, h2⟩ := mem_diffP.1 hx
      exact h2 (by rw [h]; exact h1)
    · obtain ⟨h1, h2⟩ := mem_diffD.1 hx
      rw [h, h2] at h1
      cases h1
theorem sameA_self (A : List PA) : sameA A A = true := (sameA_iff A A).2 fun _ => rfl
theorem sameA_comm (A B : List PA) : sameA A B = sameA B A := by
  rw [Bool.eq_iff_iff, sameA_iff, sameA_iff]
  exact ⟨fun h nm => (h nm).symm, fun h nm => (h nm).symm⟩

/-- all that has to be put, put -/
def putsA (L : List PA) (ps : List PA) : List PA := ps.foldl putA L
def dropsA (L : List PA) (ds : List (List UInt8)) : List PA := ds.foldl dropA L
theorem putsA_snoc (L ps : List PA) (x : PA) : putsA L (ps ++ [x]) = putA (putsA L ps) x := by unfold putsA; rw [List.foldl_append]; rfl
theorem dropsA_snoc (L : List PA) (ds : List (List UInt8)) (x : List UInt8) : dropsA L (ds ++ [x]) = dropA (dropsA L ds) x := by unfold dropsA; rw [List.foldl_append]; rfl
theorem getA_puts (L ps : List PA) (M : List PA) (h : ∀ x ∈ ps, getA M (nmB x) = some x) (nm : List UInt8) : getA (putsA L ps) nm = if nm ∈ ps.map nmB then getA M nm else getA L nm := by
  induction ps using snocInd with
  | nil => simp [putsA]
  | append_singleton ps x ih =>
    rw [putsA_snoc, getA_put, ih (fun y hy => h y (List.mem_append_left _ hy)), List.map_append]
    have hx := h x (by simp)
    by_cases hn : nm = nmB x
    · subst hn
      rw [if_pos rfl, if_pos (by simp), hx]
    · rw [if_neg hn]
      by_cases hm : nm ∈ ps.map nmB
      · rw [if_pos hm, if_pos (List.mem_append_left _ hm)]
      · rw [if_neg hm, if_neg]
        rw [List.mem_append]
        simp only [List.map_cons, List.map_nil, List.mem_singleton]
        rintro (h1 | h1)
        · exact hm h1
        · exact hn h1
theorem getA_drops (L : List PA) (ds : List (List UInt8)) (nm : List UInt8) : getA (dropsA L ds) nm = if nm ∈ ds then none else getA L nm := by
  induction ds using snocInd with
  | nil => simp [dropsA]
  | append_singleton ds x ih =>
    rw [dropsA_snoc, getA_drop, ih]
    by_cases hn : nm = x
    · subst hn
      rw [if_pos rfl, if_pos (by simp)]
    · rw [if_neg hn]
      by_cases hm : nm ∈ ds
      · rw [if_pos hm, if_pos (List.mem_append_left _ hm)]
      · rw [if_neg hm, if_neg]
        rw [List.mem_append]
        simp only [List.mem_singleton]
        rintro (h1 | h1)
        · exact hm h1
        · exact hn h1
/-- changes lead from the one to the other -/
theorem changed_same (A B : List PA) : sameA (dropsA (putsA (onceA A) (diffP A B)) ((diffD A B).map nmB)) B = true := by
  rw [sameA_iff]
  intro nm
  rw [getA_drops, getA_puts _ _ B (fun x hx => (mem_diffP.1 hx).1), getA_once]
  split
  · rename_i h
    obtain ⟨x, hx, rfl⟩ := List.mem_map.1 h
    rw [(mem_diffD.1 hx).2]
  · rename_i hd
    split
    · rfl
    · rename_i hp
      cases hb : getA B nm with
      | some x =>
        have hn := getA_nm hb
        apply Classical.byContradiction
        intro hne
        exact hp (List.mem_map.2 ⟨x, mem_diffP.2 ⟨by rw [hn]; exact hb, by rw [hn]; exact hne⟩, hn⟩)
      | none =>
        cases ha : getA A nm with
        | none => rfl
        | some x =>
          have hn := getA_nm ha
          exact absurd (List.mem_map.2 ⟨x, mem_diffD.2 ⟨by rw [hn]; exact ha, by rw [hn]; exact hb⟩, hn⟩) hd

end Go.Proofs.Ytkfbpigmchedeaa.mk

namespace Go.Proofs.Ytkfbpigmchedeaa.mk
open Go.RowKit

/-- a tree: an element, if its tag has bytes; else a text -/
structure PT where
  tag : Ch
  attrs : List PA
  kids : List PT
  text : Ch
def txT (c : Ch) : PT := ⟨[], [], [], c⟩

/-- one tree more, its kids merged, behind those that are merged -/
def addT (out : List PT) (t : PT) (ks : List PT) : List PT :=
  if t.tag ≠ [] then out ++ [⟨t.tag, onceA t.attrs, ks, []⟩]
  else if t.text = [] then out
  else match out.getLast? with
    | some x => if x.tag = [] then out.dropLast ++ [txT (x.text ++ t.text)] else out ++ [txT t.text]
    | none => out ++ [txT t.text]
mutual
def PT.mg : PT → List PT
  | ⟨_, _, kids, _⟩ => mgO [] kids
def mgO : List PT → List PT → List PT
  | out, [] => out
  | out, t :: ts => mgO (addT out t t.mg) ts
end
def mergeP (l : List PT) : List PT := mgO [] l

mutual
def PT.wt : PT → Nat
  | ⟨_, _, kids, _⟩ => 1 + wtL kids
def wtL : List PT → Nat
  | [] => 0
  | t :: ts => t.wt + wtL ts
end
mutual
def PT.deep : PT → Nat → Nat
  | ⟨tag, _, kids, _⟩, k => max (deepL kids (k + 1)) (if tag ≠ [] then k else 0)
def deepL : List PT → Nat → Nat
  | [], _ => 0
  | t :: ts, k => max (t.deep k) (deepL ts k)
end
mutual
def PT.words : PT → Ch
  | ⟨_, _, kids, text⟩ => text ++ wordsL kids
def wordsL : List PT → Ch
  | [] => []
  | t :: ts => t.words ++ wordsL ts
end
mutual
def PT.tags : PT → List (List UInt8)
  | ⟨tag, _, kids, _⟩ => (if tag ≠ [] then [tag.map (·.1)] else []) ++ tagsL kids
def tagsL : List PT → List (List UInt8)
  | [] => []
  | t :: ts => t.tags ++ tagsL ts
end
/-- names and values alike; with their origins, where they are not pale -/
def metA (pale : Bool) (p q : PA) : Bool := nmB p == nmB q && p.2.map (·.1) == q.2.map (·.1) && (pale || p == q)
mutual
def PT.same (pale : Bool) : PT → PT → Bool
  | ⟨tag, attrs, kids, text⟩, y =>
    tag.map (·.1) == y.tag.map (·.1) && text.map (·.1) == y.text.map (·.1) && attrs.length == y.attrs.length && sameL pale kids y.kids &&
      (pale || (tag == y.tag && text == y.text)) && attrs.all fun p => y.attrs.any fun q => metA pale p q
def sameL (pale : Bool) : List PT → List PT → Bool
  | [], [] => true
  | [], _ :: _ => false
  | _ :: _, [] => false
  | x :: xs, y :: ys => x.same pale y && sameL pale xs ys
end

theorem PT.eta (t : PT) : t = ⟨t.tag, t.attrs, t.kids, t.text⟩ := by cases t; rfl
theorem PT.mg_eq (t : PT) : t.mg = mergeP t.kids := by cases t; rw [PT.mg]; rfl
theorem PT.wt_eq (t : PT) : t.wt = 1 + wtL t.kids := by cases t; rw [PT.wt]
theorem PT.deep_eq (t : PT) (k : Nat) : t.deep k = max (deepL t.kids (k + 1)) (if t.tag ≠ [] then k else 0) := by cases t; rw [PT.deep]
theorem PT.words_eq (t : PT) : t.words = t.text ++ wordsL t.kids := by cases t; rw [PT.words]
theorem PT.tags_eq (t : PT) : t.tags = (if t.tag ≠ [] then [t.tag.map (·.1)] else []) ++ tagsL t.kids := by cases t; rw [PT.tags]
theorem PT.same_eq (pale : Bool) (x y : PT) : x.same pale y = (x.tag.map (·.1) == y.tag.map (·.1) && x.text.map (·.1) == y.text.map (·.1) && x.attrs.length == y.attrs.length && sameL pale x.kids y.kids &&
      (pale || (x.tag == y.tag && x.text == y.text)) && x.attrs.all fun p => y.attrs.any fun q => metA pale p q) := by cases x; rw [PT.same]

theorem mgO_append (ts us : List PT) : ∀ out, mgO out (ts ++ us) = mgO (mgO out ts) us := by
  induction ts with
  | nil => intro out; rw [List.nil_append, mgO]
  | cons t ts ih => intro out; rw [List.cons_append, mgO, mgO, ih]
theorem mgO_snoc (out ts : List PT) (t : PT) : mgO out (ts ++ [t]) = addT (mgO out ts) t t.mg := by rw [mgO_append, mgO, mgO]
theorem merge_snoc (ts : List PT) (t : PT) : mergeP (ts ++ [t]) = addT (mergeP ts) t (mergeP t.kids) := by rw [← PT.mg_eq]; exact mgO_snoc [] ts t
theorem merge_next {L : List PT} {k : Nat} {t : PT} (h : L[k]? = some t) : mergeP (L.take (k + 1)) = addT (mergeP (L.take k)) t (mergeP t.kids) := by rw [take_next h, merge_snoc]
theorem wtL_append (ts us : List PT) : wtL (ts ++ us) = wtL ts + wtL us := by
  induction ts with
  | nil => simp [wtL]
  | cons t ts ih => rw [List.cons_append, wtL, wtL, ih]; omega
theorem wordsL_append (ts us : List PT) : wordsL (ts ++ us) = wordsL ts ++ wordsL us := by
  induction ts with
  | nil => simp [wordsL]
  | cons t ts ih => rw [List.cons_append, wordsL, wordsL, ih, List.append_assoc]
theorem tagsL_append (ts us : List PT) : tagsL (ts ++ us) = tagsL ts ++ tagsL us := by
  induction ts with
  | nil => simp [tagsL]
  | cons t ts ih => rw [List.cons_append, tagsL, tagsL, ih, List.append_assoc]
theorem deepL_append (ts us : List PT) (k : Nat) : deepL (ts ++ us) k = max (deepL ts k) (deepL us k) := by
  induction ts with
  | nil => rw [List.nil_append, deepL]; omega
  | cons t ts ih => rw [List.cons_append, deepL, deepL, ih]; omega
theorem wtL_one (t : PT) : wtL [t] = t.wt := by rw [wtL, wtL]; omega
theorem wordsL_one (t : PT) : wordsL [t] = t.words := by rw [wordsL, wordsL, List.append_nil]
theorem tagsL_one (t : PT) : tagsL [t] = t.tags := by rw [tagsL, tagsL, List.append_nil]
theorem deepL_one (t : PT) (k : Nat) : deepL [t] k = t.deep k := by rw [deepL, deepL]; omega
theorem wtL_kids {L : List PT} {t : PT} (h : t ∈ L) : wtL t.kids < wtL L := by
  induction L with
  | nil => cases h
  | cons x L ih =>
    rw [wtL]
    rcases List.mem_cons.1 h with rfl | h
    · have := t.wt_eq; omega
    · have := ih h; omega
theorem wtL_len (L : List PT) : L.length ≤ wtL L := by
  induction L with
  | nil => exact Nat.zero_le _
  | cons x L ih => rw [wtL, List.length_cons]; have := x.wt_eq; omega
/-- by how much is below -/
theorem PT.ind {p : List PT → Prop} (h : ∀ L, (∀ t ∈ L, p t.kids) → p L) : ∀ L, p L := by
  have key : ∀ n L, wtL L < n → p L := by
    intro n
    induction n with
    | zero => intro L h0; omega
    | succ n ih => intro L hl; exact h L fun t ht => ih _ (by have := wtL_kids ht; omega)
  exact fun L => key _ L (Nat.lt_succ_self _)

/-- put behind those that are merged: what is merged by itself, the two texts that meet put together -/
def glueT (out m : List PT) : List PT :=
  match out.getLast?, m with
  | some x, y :: ys => if x.tag = [] ∧ y.tag = [] then out.dropLast ++ txT (x.text ++ y.text) :: ys else out ++ y :: ys
  | _, _ => out ++ m

theorem addT_el {t : PT} (h : t.tag ≠ []) (out ks : List PT) : addT out t ks = out ++ [⟨t.tag, onceA t.attrs, ks, []⟩] := if_pos h
theorem addT_no {t : PT} (h : t.tag = []) (h2 : t.text = []) (out ks : List PT) : addT out t ks = out := by unfold addT; rw [if_neg (by simp [h]), if_pos h2]
theorem addT_nil {t : PT} (h : t.tag = []) (h2 : t.text ≠ []) (ks : List PT) : addT [] t ks = [txT t.text] := by unfold addT; rw [if_neg (by simp [h]), if_neg h2]; rfl
theorem addT_tx {t : PT} (h : t.tag = []) (h2 : t.text ≠ []) (out : List PT) (x : PT) (hx : x.tag = []) (ks : List PT) : addT (out ++ [x]) t ks = out ++ [txT (x.text ++ t.text)] := by
  unfold addT; rw [if_neg (by simp [h]), if_neg h2, List.getLast?_concat]; simp only [hx, if_true, List.dropLast_concat]
theorem addT_far {t : PT} (h : t.tag = []) (h2 : t.text ≠ []) (out : List PT) (x : PT) (hx : x.tag ≠ []) (ks : List PT) : addT (out ++ [x]) t ks = out ++ [x] ++ [txT t.text] := by
  unfold addT; rw [if_neg (by simp [h]), if_neg h2, List.getLast?_concat]; simp only [if_neg hx]
/-- a list is empty, or has a last one -/
theorem last_cases {α : Type} (l : List α) : l = [] ∨ ∃ xs x, l = xs ++ [x] := by
  rcases l.eq_nil_or_concat with h | ⟨xs, x, h⟩
  · exact .inl h
  · exact .inr ⟨xs, x, by rw [h, List.concat_eq_append]⟩

end Go.Proofs.Ytkfbpigmchedeaa.mk

namespace Go.Proofs.Ytkfbpigmchedeaa.mk
open Go.RowKit

/-- once is as once more -/
theorem once_dist_to (L : List PA) (k : Nat) : ((selTo (onceP L) L k).map nmB).Nodup := by
  induction k with
  | zero => exact List.nodup_nil
  | succ k ih =>
    unfold selTo
    cases hp : onceP L k with
    | false => simpa using ih
    | true =>
      cases hx : L[k]? with
      | none => simpa using ih
      | some x =>
        have hk : placeN L (nmB x) = k := by
          unfold onceP at hp
          rw [isI_at hx] at hp
          exact beq_iff_eq.1 hp
        simp only [if_true, Option.toList_some, List.map_append, List.map_cons, List.map_nil]
        rw [List.nodup_append]
        refine ⟨ih, by simp, ?_⟩
        intro a ha b hb hab
        simp only [List.mem_singleton] at hb
        obtain ⟨y, hy, rfl⟩ := List.mem_map.1 ha
        obtain ⟨i, hi, hpi, hyi⟩ := selTo_mem hy
        unfold onceP at hpi
        rw [isI_at hyi] at hpi
        have := beq_iff_eq.1 hpi
        rw [hab, hb, hk] at this
        omega
theorem once_dist (L : List PA) : ((onceA L).map nmB).Nodup := once_dist_to L _
theorem dist_place {M : List PA} (h : (M.map nmB).Nodup) {i : Nat} {x : PA} (hx : M[i]? = some x) : placeN M (nmB x) = i := by
  refine placeN_of hx rfl fun j q hj hq e => ?_
  have h1 : (M.map nmB)[j]? = some (nmB q) := by rw [List.getElem?_map, hq]; rfl
  have h2 : (M.map nmB)[i]? = some (nmB x) := by rw [List.getElem?_map, hx]; rfl
  have h3 : j = i := (List.getElem?_inj (List.getElem?_eq_some_iff.1 h1).1 h).1 (by rw [h1, h2, e])
  omega
theorem once_of_dist {M : List PA} (h : (M.map nmB).Nodup) : onceA M = M := by
  have key : ∀ k, k ≤ M.length → selTo (onceP M) M k = M.take k := by
    intro k
    induction k with
    | zero => intro _; simp [selTo]
    | succ k ih =>
      intro hk
      have hx : M[k]? = some (M[k]'(by omega)) := List.getElem?_eq_getElem _
      generalize M[k]'(by omega) = x at hx
      rw [selTo_next hx, ih (by omega), take_next hx]
      have : onceP M k = true := by
        unfold onceP
        rw [isI_at hx, dist_place h hx]
        simp
      rw [if_pos this]
  unfold onceA sel
  rw [key _ (Nat.le_refl _), List.take_length]
theorem once_once (L : List PA) : onceA (onceA L) = onceA L := once_of_dist (once_dist L)

/-- what stands in a merged list: a text has bytes, and nothing beside its text; an element has no text -/
def okT (x : PT) : Prop := (x.tag = [] → x = txT x.text ∧ x.text ≠ []) ∧ (x.tag ≠ [] → x.text = [])
theorem okT_tx {c : Ch} (h : c ≠ []) : okT (txT c) := ⟨fun _ => ⟨rfl, h⟩, fun h => absurd rfl h⟩
theorem ok_addT {out : List PT} (h : ∀ x ∈ out, okT x) (t : PT) (ks : List PT) : ∀ x ∈ addT out t ks, okT x := by
  by_cases ht : t.tag = []
  · by_cases hx : t.text = []
    · rw [addT_no ht hx]; exact h
    · rcases last_cases out with rfl | ⟨xs, y, rfl⟩
      · rw [addT_nil ht hx]
        intro x hm
        simp at hm; subst hm
        exact okT_tx hx
      · by_cases hy : y.tag = []
        · rw [addT_tx ht hx xs y hy]
          intro x hm
          rcases List.mem_append.1 hm with hm | hm
          · exact h x (List.mem_append_left _ hm)
          · simp at hm; subst hm
            exact okT_tx (by simp [hx])
        · rw [addT_far ht hx xs y hy]
          intro x hm
          rcases List.mem_append.1 hm with hm | hm
          · exact h x hm
          · simp at hm; subst hm
            exact okT_tx hx
  · rw [addT_el ht]
    intro x hm
    rcases List.mem_append.1 hm with hm | hm
    · exact h x hm
    · simp at hm; subst hm
      exact ⟨fun e => absurd e ht, fun _ => rfl⟩
theorem merge_ok (L : List PT) : ∀ x ∈ mergeP L, okT x := by
  induction L using snocInd with
  | nil => intro x hx; cases hx
  | append_singleton ts t ih => rw [merge_snoc]; exact ok_addT ih t _

theorem glue_nil (out : List PT) : glueT out [] = out := by unfold glueT; cases out.getLast? <;> simp
theorem glue_none (m : List PT) : glueT [] m = m := rfl
theorem glue_at (xs : List PT) (x y : PT) (ys : List PT) : glueT (xs ++ [x]) (y :: ys) = if x.tag = [] ∧ y.tag = [] then xs ++ txT (x.text ++ y.text) :: ys else xs ++ [x] ++ y :: ys := by
  unfold glueT; rw [List.getLast?_concat, List.dropLast_concat]
theorem glue_snoc (out : List PT) {M : List PT} (h : M ≠ []) (z : PT) : glueT out (M ++ [z]) = glueT out M ++ [z] := by
  cases M with
  | nil => exact absurd rfl h
  | cons y ys =>
    rcases last_cases out with rfl | ⟨xs, x, rfl⟩
    · rfl
    · rw [List.cons_append, glue_at, glue_at]
      split <;> simp
theorem glue_add (out M : List PT) (t : PT) (ks : List PT) : addT (glueT out M) t ks = glueT out (addT M t ks) := by
  by_cases ht : t.tag = []
  · by_cases hx : t.text = []
    · rw [addT_no ht hx, addT_no ht hx]
    · rcases last_cases M with rfl | ⟨ms, m, rfl⟩
      · rw [glue_nil, addT_nil ht hx]
        rcases last_cases out with rfl | ⟨xs, y, rfl⟩
        · rw [addT_nil ht hx, glue_none]
        · rw [glue_at]
          by_cases hy : y.tag = []
          · rw [addT_tx ht hx xs y hy, if_pos ⟨hy, rfl⟩]; rfl
          · rw [addT_far ht hx xs y hy, if_neg (fun h => hy h.1)]
      · by_cases hm : m.tag = []
        · rw [addT_tx ht hx ms m hm]
          by_cases hms : ms = []
          · subst hms
            rw [List.nil_append, List.nil_append]
            rcases last_cases out with rfl | ⟨xs, y, rfl⟩
            · rw [glue_none, glue_none]; exact addT_tx ht hx [] m hm ks
            · rw [glue_at, glue_at]
              by_cases hy : y.tag = []
              · rw [if_pos ⟨hy, hm⟩, if_pos ⟨hy, rfl⟩]
                have h1 := addT_tx ht hx xs (txT (y.text ++ m.text)) rfl ks
                rw [h1]
                show xs ++ [txT (y.text ++ m.text ++ t.text)] = xs ++ [txT (y.text ++ (m.text ++ t.text))]
                rw [List.append_assoc]
              · rw [if_neg (fun h => hy h.1), if_neg (fun h => hy h.1)]
                exact addT_tx ht hx (xs ++ [y]) m hm ks
          · rw [glue_snoc out hms, glue_snoc out hms, addT_tx ht hx _ m hm]
        · rw [addT_far ht hx ms m hm, glue_snoc out (M := ms ++ [m]) (by simp) (txT t.text)]
          have : ∃ P, glueT out (ms ++ [m]) = P ++ [m] := by
            by_cases hms : ms = []
            · subst hms
              rw [List.nil_append]
              rcases last_cases out with rfl | ⟨xs, y, rfl⟩
              · exact ⟨[], rfl⟩
              · rw [glue_at, if_neg (fun h => hm h.2)]; exact ⟨xs ++ [y], rfl⟩
            · exact ⟨_, glue_snoc out hms m⟩
          obtain ⟨P, hP⟩ := this
          rw [hP, addT_far ht hx P m hm]
  · rw [addT_el ht, addT_el ht]
    by_cases hM : M = []
    · subst hM
      rw [glue_nil, List.nil_append]
      rcases last_cases out with rfl | ⟨xs, y, rfl⟩
      · rfl
      · rw [glue_at, if_neg (fun h => ht h.2)]
    · rw [glue_snoc out hM]
theorem mgO_glue (out b : List PT) : mgO out b = glueT out (mergeP b) := by
  induction b using snocInd with
  | nil => unfold mergeP; rw [mgO, mgO, glue_nil]
  | append_singleton ts t ih => rw [mgO_snoc, ih, merge_snoc, PT.mg_eq, glue_add]
theorem merge_append (a b : List PT) : mergeP (a ++ b) = glueT (mergeP a) (mergeP b) := by
  unfold mergeP
  rw [mgO_append, mgO_glue]
  rfl

theorem glue_words {a m : List PT} (ha : ∀ x ∈ a, okT x) (hm : ∀ x ∈ m, okT x) : wordsL (glueT a m) = wordsL a ++ wordsL m := by
  cases m with
  | nil => rw [glue_nil, wordsL, List.append_nil]
  | cons y ys =>
    rcases last_cases a with rfl | ⟨xs, x, rfl⟩
    · rw [glue_none, wordsL, List.nil_append]
    · rw [glue_at]
      split
      · rename_i h
        have hx := ((ha x (by simp)).1 h.1).1
        have hy := ((hm y (by simp)).1 h.2).1
        rw [wordsL_append, wordsL_append, wordsL_one, wordsL, wordsL, hx, hy]
        simp only [PT.words_eq, txT, wordsL, List.append_nil, List.append_assoc]
      · rw [wordsL_append]
theorem glue_tags {a m : List PT} (ha : ∀ x ∈ a, okT x) (hm : ∀ x ∈ m, okT x) : tagsL (glueT a m) = tagsL a ++ tagsL m := by
  cases m with
  | nil => rw [glue_nil, tagsL, List.append_nil]
  | cons y ys =>
    rcases last_cases a with rfl | ⟨xs, x, rfl⟩
    · rw [glue_none, tagsL, List.nil_append]
    · rw [glue_at]
      split
      · rename_i h
        have hx := ((ha x (by simp)).1 h.1).1
        have hy := ((hm y (by simp)).1 h.2).1
        rw [tagsL_append, tagsL_append, tagsL_one, tagsL, tagsL, hx, hy]
        simp [PT.tags_eq, txT, tagsL]
      · rw [tagsL_append]
theorem glue_deep {a m : List PT} (ha : ∀ x ∈ a, okT x) (hm : ∀ x ∈ m, okT x) (k : Nat) : deepL (glueT a m) k = max (deepL a k) (deepL m k) := by
  cases m with
  | nil => rw [glue_nil, deepL]; omega
  | cons y ys =>
    rcases last_cases a with rfl | ⟨xs, x, rfl⟩
    · rw [glue_none, deepL, deepL]; omega
    · rw [glue_at]
      split
      · rename_i h
        have hx := ((ha x (by simp)).1 h.1).1
        have hy := ((hm y (by simp)).1 h.2).1
        rw [deepL_append, deepL_append, deepL_one, deepL, deepL, hx, hy]
        simp [PT.deep_eq, txT, deepL]
      · rw [deepL_append]
theorem glue_wt {a m : List PT} (ha : ∀ x ∈ a, okT x) (hm : ∀ x ∈ m, okT x) : wtL (glueT a m) = wtL a + wtL m ∨ wtL (glueT a m) + 1 = wtL a + wtL m := by
  cases m with
  | nil => rw [glue_nil, wtL]; exact .inl rfl
  | cons y ys =>
    rcases last_cases a with rfl | ⟨xs, x, rfl⟩
    · rw [glue_none, wtL, wtL]; exact .inl (by omega)
    · rw [glue_at]
      split
      · rename_i h
        have hx := ((ha x (by simp)).1 h.1).1
        have hy := ((hm y (by simp)).1 h.2).1
        refine .inr ?_
        rw [wtL_append, wtL_append, wtL_one, wtL, wtL, hx, hy]
        simp only [PT.wt_eq, txT, wtL]
        omega
      · rw [wtL_append]; exact .inl rfl

/-- merged once more -/
theorem merge_merge : ∀ L : List PT, mergeP (mergeP L) = mergeP L := by
  apply PT.ind
  intro L hk
  induction L using snocInd with
  | nil => rfl
  | append_singleton ts t ih =>
    have ih := ih fun x hx => hk x (List.mem_append_left _ hx)
    have hkt := hk t (by simp)
    have hok := merge_ok ts
    rw [merge_snoc]
    generalize mergeP ts = M at *
    by_cases ht : t.tag = []
    · by_cases hx : t.text = []
      · rw [addT_no ht hx]; exact ih
      · have hone : ∀ c : Ch, c ≠ [] → ∀ N, (N = [] ∨ ∃ P p, N = P ++ [p] ∧ p.tag ≠ []) → addT N (txT c) [] = N ++ [txT c] := by
          intro c hc N hN
          rcases hN with rfl | ⟨P, p, rfl, hp⟩
          · exact addT_nil rfl hc []
          · exact addT_far rfl hc P p hp []
        have hmk : ∀ c : Ch, mergeP (txT c).kids = [] := fun _ => rfl
        rcases last_cases M with rfl | ⟨ms, m, rfl⟩
        · rw [addT_nil ht hx]
          have h1 := merge_snoc [] (txT t.text)
          rw [List.nil_append, hmk] at h1
          rw [h1]
          exact hone _ hx _ (.inl rfl)
        · by_cases hm : m.tag = []
          · rw [addT_tx ht hx ms m hm]
            obtain ⟨hm1, hm2⟩ := (hok m (by simp)).1 hm
            have h1 := ih
            rw [merge_snoc] at h1
            have hms := merge_ok ms
            have key : mergeP ms = ms ∧ (ms = [] ∨ ∃ P p, ms = P ++ [p] ∧ p.tag ≠ []) := by
              rcases last_cases (mergeP ms) with h2 | ⟨P, p, h2⟩
              · rw [h2, addT_nil hm hm2] at h1
                have h3 : ms = [] := by
                  have := congrArg List.length h1
                  rw [List.length_append] at this
                  simp only [List.length_cons, List.length_nil] at this
                  exact List.eq_nil_of_length_eq_zero (by omega)
                exact ⟨h2.trans h3.symm, .inl h3⟩
              · by_cases hp : p.tag = []
                · rw [h2, addT_tx hm hm2 P p hp] at h1
                  have h3 := (List.append_inj' h1 rfl).2
                  have h4 : (txT (p.text ++ m.text)).text = m.text := by injection h3 with h3; rw [h3]
                  have h5 : p.text ++ m.text = m.text := h4
                  have h6 : p.text = [] := by
                    have := congrArg List.length h5
                    rw [List.length_append] at this
                    exact List.eq_nil_of_length_eq_zero (by omega)
                  rw [h2] at hms
                  exact absurd h6 ((hms p (by simp)).1 hp).2
                · rw [h2, addT_far hm hm2 P p hp] at h1
                  have h3 := (List.append_inj' h1 rfl).1
                  exact ⟨h2.trans h3, .inr ⟨P, p, h3.symm, hp⟩⟩
            have h7 := merge_snoc ms (txT (m.text ++ t.text))
            rw [hmk, key.1] at h7
            rw [h7]
            exact hone _ (by simp [hx]) _ key.2
          · rw [addT_far ht hx ms m hm]
            have h7 := merge_snoc (ms ++ [m]) (txT t.text)
            rw [hmk, ih] at h7
            rw [h7]
            exact hone _ hx _ (.inr ⟨ms, m, rfl, hm⟩)
    · rw [addT_el ht, merge_snoc, ih, addT_el (t := ⟨t.tag, onceA t.attrs, mergeP t.kids, []⟩) ht]
      show M ++ [⟨t.tag, onceA (onceA t.attrs), mergeP (mergeP t.kids), []⟩] = _
      rw [once_once, hkt]

theorem metA_self (pale : Bool) (p : PA) : metA pale p p = true := by unfold metA; simp
theorem same_self (pale : Bool) : ∀ L : List PT, sameL pale L L = true := by
  apply PT.ind
  intro L hk
  induction L with
  | nil => rw [sameL]
  | cons x xs ih =>
    rw [sameL, ih fun t ht => hk t (List.mem_cons_of_mem _ ht), PT.same_eq, hk x (by simp)]
    simp only [beq_self_eq_true, Bool.and_self, Bool.or_true, Bool.and_true, Bool.true_and]
    rw [List.all_eq_true]
    intro p hp
    rw [List.any_eq_true]
    exact ⟨p, hp, metA_self pale p⟩

end Go.Proofs.Ytkfbpigmchedeaa.mk

namespace Go.Proofs.Ytkfbpigmchedeaa.mk
open Go.RowKit

mutual
def PT.bk : PT → Nat
  | ⟨tag, attrs, kids, text⟩ => tag.length + attrs.length + text.length + 1 + bkL kids
def bkL : List PT → Nat
  | [] => 0
  | t :: ts => t.bk + bkL ts
end
theorem PT.bk_eq (t : PT) : t.bk = t.tag.length + t.attrs.length + t.text.length + 1 + bkL t.kids := by cases t; rw [PT.bk]
theorem bkL_append (ts us : List PT) : bkL (ts ++ us) = bkL ts + bkL us := by
  induction ts with
  | nil => simp [bkL]
  | cons t ts ih => rw [List.cons_append, bkL, bkL, ih]; omega
theorem bkL_one (t : PT) : bkL [t] = t.bk := by rw [bkL, bkL]; omega
theorem bkL_mem {L : List PT} {t : PT} (h : t ∈ L) : t.bk ≤ bkL L := by
  induction L with
  | nil => cases h
  | cons x L ih =>
    rw [bkL]
    rcases List.mem_cons.1 h with rfl | h
    · omega
    · have := ih h; omega
theorem bkL_kids {L : List PT} {t : PT} (h : t ∈ L) : bkL t.kids < bkL L := by
  have := bkL_mem h
  have := t.bk_eq
  omega
theorem bkL_len (L : List PT) : L.length ≤ bkL L := by
  induction L with
  | nil => exact Nat.zero_le _
  | cons x L ih => rw [bkL, List.length_cons]; have := x.bk_eq; omega
theorem bk_text {L : List PT} {t : PT} (h : t ∈ L) : t.text.length < bkL L := by
  have := bkL_mem h
  have := t.bk_eq
  omega
theorem bk_tag {L : List PT} {t : PT} (h : t ∈ L) : t.tag.length < bkL L := by
  have := bkL_mem h
  have := t.bk_eq
  omega
theorem bk_attrs {L : List PT} {t : PT} (h : t ∈ L) : t.attrs.length < bkL L := by
  have := bkL_mem h
  have := t.bk_eq
  omega
theorem bk_take (L : List PT) (k : Nat) : bkL (L.take k) ≤ bkL L := by
  have := bkL_append (L.take k) (L.drop k)
  rw [List.take_append_drop] at this
  omega
theorem bk_wt : ∀ L : List PT, wtL L ≤ bkL L := by
  apply PT.ind
  intro L hk
  induction L with
  | nil => rw [wtL]; exact Nat.zero_le _
  | cons x L ih =>
    have h1 := ih fun t ht => hk t (List.mem_cons_of_mem _ ht)
    have h2 := hk x (by simp)
    rw [wtL, bkL, PT.wt_eq, PT.bk_eq]
    omega
theorem bk_words : ∀ L : List PT, (wordsL L).length ≤ bkL L := by
  apply PT.ind
  intro L hk
  induction L with
  | nil => rw [wordsL]; exact Nat.zero_le _
  | cons x L ih =>
    have h1 := ih fun t ht => hk t (List.mem_cons_of_mem _ ht)
    have h2 := hk x (by simp)
    rw [wordsL, bkL, PT.words_eq, PT.bk_eq, List.length_append, List.length_append]
    omega
theorem bk_tags : ∀ L : List PT, (tagsL L).length ≤ bkL L := by
  apply PT.ind
  intro L hk
  induction L with
  | nil => rw [tagsL]; exact Nat.zero_le _
  | cons x L ih =>
    have h1 := ih fun t ht => hk t (List.mem_cons_of_mem _ ht)
    have h2 := hk x (by simp)
    rw [tagsL, bkL, PT.tags_eq, PT.bk_eq, List.length_append, List.length_append]
    have h3 : (if x.tag ≠ [] then [x.tag.map (·.1)] else []).length ≤ 1 := by split <;> simp
    omega
theorem bk_deep : ∀ (L : List PT) (k : Nat), deepL L k ≤ k + bkL L := by
  apply PT.ind
  intro L hk
  induction L with
  | nil => intro k; rw [deepL]; exact Nat.zero_le _
  | cons x L ih =>
    intro k
    have h1 := ih (fun t ht => hk t (List.mem_cons_of_mem _ ht)) k
    have h2 := hk x (by simp) (k + 1)
    rw [deepL, bkL, PT.deep_eq, PT.bk_eq]
    have h3 : (if x.tag ≠ [] then k else 0) ≤ k := by split <;> omega
    omega
/-- merged they are no larger -/
theorem bk_add (out ks : List PT) (t : PT) (hk : bkL ks ≤ bkL t.kids) : bkL (addT out t ks) ≤ bkL out + t.bk := by
  have hbk := t.bk_eq
  by_cases ht : t.tag = []
  · by_cases hx : t.text = []
    · rw [addT_no ht hx]; omega
    · rcases last_cases out with rfl | ⟨xs, y, rfl⟩
      · rw [addT_nil ht hx, bkL_one, PT.bk_eq]
        simp only [txT, List.length_nil, bkL]
        omega
      · by_cases hy : y.tag = []
        · rw [addT_tx ht hx xs y hy, bkL_append, bkL_append, bkL_one, bkL_one, PT.bk_eq, y.bk_eq]
          simp only [txT, List.length_nil, bkL, List.length_append]
          omega
        · rw [addT_far ht hx xs y hy, bkL_append, bkL_one (txT _), PT.bk_eq]
          simp only [txT, List.length_nil, bkL]
          omega
  · rw [addT_el ht, bkL_append, bkL_one, PT.bk_eq]
    have := sel_len (onceP t.attrs) t.attrs
    have h2 : (onceA t.attrs).length ≤ t.attrs.length := this
    simp only [List.length_nil]
    omega
theorem bk_merge : ∀ L : List PT, bkL (mergeP L) ≤ bkL L := by
  apply PT.ind
  intro L hk
  induction L using snocInd with
  | nil => exact Nat.le_refl _
  | append_singleton ts t ih =>
    rw [merge_snoc, bkL_append, bkL_one]
    have h1 := ih fun x hx => hk x (List.mem_append_left _ hx)
    have h2 := bk_add (mergeP ts) (mergeP t.kids) t (hk t (by simp))
    omega

end Go.Proofs.Ytkfbpigmchedeaa.mk

namespace Go.Proofs.Ytkfbpigmchedeaa.mk
open Go.RowKit

def upperB (b : UInt8) : Bool := decide (65 ≤ b.toNat) && decide (b.toNat ≤ 90)
def lowB (b : UInt8) : UInt8 := if upperB b then b + 32 else b

set_option maxHeartbeats 400000 in
theorem swapF_any (b x : UInt8) (g : Nat) (w : World) (h : w.cell? ⟨g, 0, none⟩ = some (.int .u8 x.toNat)) :
    Calls Try.prog 70 #[.int .u8 b.toNat, .pointer (some ⟨g, 0, none⟩)] w fun e w' => e = .returned (.bool (b == x)) ∧ w = w' := by
  go_enter Try.func70, Try.ntmps70
  go_wp2
  go_ret
  refine ⟨ret_bool ?_, rfl⟩
  rw [Bool.eq_iff_iff]
  simp [← UInt8.toNat_inj]
  try omega

theorem zero_given (w : World) : Sem.run Try.prog (zeroValue 110) w = Result.ok (.agg (Array.replicate 256 (.bool false))) w := by kernel_rfl

def AmongRel (l : List UInt8) (g : Nat) (w0 : World) (i : Value) (wr : World) : Prop :=
  ∃ k : Nat, k ≤ l.length ∧ i = .int .i64 (k : Int) ∧ (∃ cs, cs.size = 256 ∧ Whole wr g 110 cs ∧ ∀ b : UInt8, cs[b.toNat]? = some (.bool ((l.take k).contains b))) ∧ Below g w0 wr

end Go.Proofs.Ytkfbpigmchedeaa.mk

namespace Go.Proofs.Ytkfbpigmchedeaa.mk
open Go.RowKit

def RwK (N : Nat) (S : Nat → Prop) (Inv : Nat → World → Prop) (out : Nat → List (UInt8 × Int)) (sz : Nat) (qs : List (Int × Int)) (ta : Value) (w0 : World) (k : Nat) (v at_ : Value) (wr : World) : Prop :=
  at_ = .int .i64 (k : Int) ∧ k ≤ sz ∧ (comp ((out k).map (·.2))).length ≤ k ∧ RwSt N S qs ta w0 ((out k).map (·.1)) ((out k).map (·.2)) v wr ∧ Inv k wr
def RwOut (N : Nat) (S : Nat → Prop) (Inv : Nat → World → Prop) (out : Nat → List (UInt8 × Int)) (sz : Nat) (qs : List (Int × Int)) (ta : Value) (w0 : World) (v at_ i : Value) (wr : World) : Prop :=
  ∃ j : Nat, j ≤ qs.length ∧ i = .int .i64 (j : Int) ∧ RwK N S Inv out sz qs ta w0 (expand (qs.take j)).length v at_ wr
def RwIn (N : Nat) (S : Nat → Prop) (Inv : Nat → World → Prop) (out : Nat → List (UInt8 × Int)) (sz : Nat) (qs : List (Int × Int)) (ta : Value) (w0 : World) (r k : Nat) (l o : Int) (v at_ i : Value) (wr : World) : Prop :=
  ∃ m : Nat, (m : Int) ≤ l ∧ i = .int .i64 (m : Int) ∧ RwK N S Inv out sz qs ta w0 (k + m) v at_ wr ∧ Whole wr r 51 #[.int .i64 l, .int .i64 o] ∧ v.ownBlock ≠ some r

/-- what rewrite leaves -/
def RwPost (S : Nat → Prop) (I : World → Prop) (q : List (UInt8 × Int)) (w : World) (e : Ending) (w' : World) : Prop :=
  ∃ v, e = .returned (.agg #[.string ⟨(q.map (·.1)).toArray⟩, v]) ∧ w'.ownsRow w.heap.size 51 2 v (comp (q.map (·.2))).length (runCells (comp (q.map (·.2)))) ∧ Moved S w w' ∧ I w'

/-- what a function that tells what stands for a byte must do -/
def Puts (F : Nat) (caps : Array Value) (S : Nat → Prop) (Inv : Nat → World → Prop) (out : Nat → List (UInt8 × Int)) (L : List (UInt8 × Int)) (N : Nat) : Prop :=
  ∀ k b o w', L[k]? = some (b, o) → Inv k w' → N ≤ w'.heap.size → Calls Try.prog F (#[.int .i64 (k : Int), .int .i64 o] ++ caps) w' fun e w'' =>
    ∃ (part : ByteArray) (o' : Int), e = .returned (.tuple #[.string part, .int .i64 o']) ∧ out (k + 1) = out k ++ part.data.toList.map (fun x => (x, o')) ∧ Inv (k + 1) w'' ∧ Moved S w' w''

set_option maxHeartbeats 2000000 in
set_option maxRecDepth 100000 in
theorem rewrite_any (F : Nat) (caps : Array Value) (S : Nat → Prop) (Inv : Nat → World → Prop) (out : Nat → List (UInt8 × Int)) (s : ByteArray) (A : Option Addr) (n c : Nat) (rs : List (Int × Int)) (w : World) (hl : Lies w w.heap.size A (runCells rs)) (hn : rs.length = n) (hs : s.size ≤ 4294967296) (hn2 : n ≤ 4294967296)
    (hE : ∀ args w', Sem.run Try.prog (callFunc F args) w' = .ok (.enter F args) w') (hS : ∀ g, S g → g < w.heap.size) (hI : ∀ k w' w'', Inv k w' → Below w.heap.size w' w'' → Inv k w'')
    (hP : Puts F caps S Inv out (chars s.data.toList rs) w.heap.size) (h0 : out 0 = []) (hI0 : Inv 0 w) (hout : ∀ k, k ≤ s.size → (out k).length ≤ 70368744177664) :
    Calls Try.prog 78 #[.agg #[.string s, .slice A n c], .func (.func F) #[] caps] w (RwPost S (Inv s.size) (out s.size) w) := by
  have HN := Lib.hid hn
  have HE := Lib.hid hE
  have HS := Lib.hid hS
  have HI := Lib.hid hI
  have HP := Lib.hid hP
  have HB := Lib.hid hout
  have H0 := Lib.hid h0
  have HI0 := Lib.hid hI0
  clear hn hE hS hI hP hout h0 hI0
  go_enter Try.func78, Try.ntmps78
  go_wp2_with fail
  refine (fix_any s A n c rs _ ?_ HN.out (by omega) hn2).mono ?_
  · exact (((hl.alloc (Nat.le_refl _) _).alloc (by simp) _).alloc (by simp; omega) _).mono (by simp; omega)
  rintro e w3 ⟨v, rfl, hown, hb3⟩
  obtain ⟨A3, c3, rfl, _, _, _⟩ := own_form hown
  have fr1 := fun w' => field_runs s A3 (taken s.size rs).length c3 w'
  go_wp2_with fail
  clear fr1
  simp only [World.size_alloc] at hown hb3
  have hz3 := hb3.size
  simp only [World.size_alloc] at hz3
  have hex : expand (taken s.size rs) = origins s.size rs := expand_comp _
  have hpos : ∀ r ∈ taken s.size rs, 1 ≤ r.1 := comp_pos _
  have hql : (taken s.size rs).length ≤ s.size := by have := comp_length_le (origins s.size rs); rw [origins_length] at this; exact this
  generalize hqs : taken s.size rs = qs at *
  have hexl : (expand qs).length = s.size := by rw [hex, origins_length]
  have y1 : Whole w3 (w.heap.size + 1) 24 #[.string ⟨#[]⟩, .slice none 0 0] := by
    have h := (Whole.made (w.alloc (.cells #[.string s, .slice A n c] 24)) 24 #[.string ⟨#[]⟩, .slice none 0 0]).alloc (.cells #[.pointer none, .slice none 0 0] 68)
    simp only [World.size_alloc] at h
    exact h.below hb3 (by omega)
  have hi0 : Lib.IsBuilderF 68 5 (w.heap.size + 2) (w.heap.size + 2) (Lib.byteCells []) w3 := by
    have h := Lib.IsBuilderF.of (Lib.fresh_isBuilder 68 5 ((w.alloc (.cells #[.string s, .slice A n c] 24)).alloc (.cells #[.string ⟨#[]⟩, .slice none 0 0] 24)))
    simp only [World.size_alloc] at h
    exact builder_below h (hb3.mono (by simp)) (by decide)
  have hbw : Below w.heap.size w w3 := ((((Below.refl _ _).alloc (Nat.le_refl _) _).alloc (by simp) _).alloc (by simp; omega) _).trans (hb3.mono (by omega))
  have hst0 : RwSt w.heap.size S qs (.slice A3 qs.length c3) w3 [] [] (.slice none 0 0) w3 :=
    ⟨World.ownsRow_nil _ _ _ _, hown, by intro g hg; simp [Value.ownBlock] at hg, hi0, Kept.refl _ _ _, by omega⟩
  have HST := Lib.hid hst0
  have HEX := Lib.hid hex
  have HEL := Lib.hid hexl
  have HPOS := Lib.hid hpos
  clear hst0 hown hi0 hb3 hqs hex hexl hpos
  generalize hqn : qs.length = z at *
  have HZ := Lib.hid hqn
  clear hqn
  go_loopw [6, 7, 16] (RwOut w.heap.size S Inv out s.size qs (.slice A3 z c3) w3) (fun _ _ i _ => z - (intOf i).toNat)
  case atStart => exact ⟨0, Nat.zero_le _, rfl, by simp [expand], Nat.zero_le _, by simp [expand, H0.out, comp], by simpa [expand, H0.out] using HST.out, HI.out _ _ _ HI0.out hbw⟩
  case round =>
    obtain ⟨j, hj, rfl, rfl, hks, hcl, hst, hinv⟩ := hrel
    rw [HZ.out] at hj
    have HK1 := Lib.hid hcl
    have HK2 := Lib.hid hst
    have HK3 := Lib.hid hinv
    clear hcl hst hinv
    have hwz : w.heap.size + 3 ≤ wr.heap.size := HK2.out.2.2.2.2.2
    by_cases hjl : j < z
    · have hta2 := HK2.out.2.1
      rw [HZ.out] at hta2
      obtain ⟨ad', l, o, rfl, hbA, hd1, hd2, HR⟩ := (Lies.own hta2).run (k := j) (by rw [HZ.out]; exact hjl)
      have hl1 : 1 ≤ l := HPOS.out (l, o) (List.mem_of_getElem? HR.out)
      have HNX := Lib.hid (expand_take_next HR.out)
      have hx2 := expand_take_len qs (j + 1)
      rw [HNX.out, HEL.out] at hx2
      have HAT : Hid (∀ m : Nat, (m : Int) < l → (origins s.size rs)[(expand (qs.take j)).length + m]? = some o) := fun m hm => by rw [← HEX.out]; exact expand_at HR.out (by omega)
      clear hta2
      generalize hd : (expand (qs.take j)).length = d at *
      have HD := Lib.hid hd
      clear hd
      have hj0 : (0 : Int) ≤ (j : Int) := Int.natCast_nonneg _
      have hj1 : (j : Int) < (z : Int) := by omega
      go_wp2_with fail
      have hrb : Whole (wr.alloc (.cells #[.int .i64 l, .int .i64 o] 51)) wr.heap.size 51 #[.int .i64 l, .int .i64 o] := Whole.made _ _ _
      generalize hw4 : wr.alloc (.cells #[.int .i64 l, .int .i64 o] 51) = w4 at *
      have hb4 : Below wr.heap.size wr w4 := by rw [← hw4]; exact (Below.refl _ _).alloc (Nat.le_refl _) _
      have hst4 := HK2.out.below hb4
      have hinv4 := HI.out _ _ _ HK3.out (hb4.mono (by omega))
      have hv4 : u6.ownBlock ≠ some wr.heap.size := fun e => by have := (HK2.out.1.lt _ e).2; omega
      have HSI : Hid (RwIn w.heap.size S Inv out s.size qs (.slice (some ad') z c3) w3 wr.heap.size d l o u6 (.int .i64 (d : Int)) (.int .i64 0) w4) :=
        ⟨0, by omega, rfl, ⟨rfl, hks, HK1.out, hst4, hinv4⟩, hrb, hv4⟩
      obtain ⟨g, hg⟩ : ∃ g, g = wr.heap.size := ⟨_, rfl⟩
      have hgz : w.heap.size + 3 ≤ g := by omega
      have HSI2 : Hid (RwIn w.heap.size S Inv out s.size qs (.slice (some ad') z c3) w3 g d l o u6 (.int .i64 (d : Int)) (.int .i64 0) w4) := by rw [hg]; exact HSI
      rw [← hg]
      clear HSI hg hw4 hrb hb4 hst4 hinv4 hv4 hd1 hd2 HK1 HK2 HK3
      go_loopw [6, 7, 22] (RwIn w.heap.size S Inv out s.size qs (.slice (some ad') z c3) w3 g d l o) (fun _ _ i _ => l.toNat - (intOf i).toNat)
      case atStart => exact HSI2.out
      case round =>
        obtain ⟨m, hml, rfl, ⟨rfl, hks2, hcl, hst, hinv⟩, hrb, hvg⟩ := hrel
        have HK1 := Lib.hid hcl
        have HK2 := Lib.hid hst
        have HK3 := Lib.hid hinv
        have HRB := Lib.hid hrb
        have HVG := Lib.hid hvg
        clear hcl hst hinv hvg HSI2
        have hbz : w.heap.size + 3 ≤ wr.heap.size := HK2.out.2.2.2.2.2
        have hc1 : wr.cell? ⟨g, 1, none⟩ = some (.int .i64 o) := hrb.at_ 1
        clear hrb
        by_cases hm : (m : Int) < l
        · have hk : d + m < s.size := by omega
          have HLK : Hid ((chars s.data.toList rs)[d + m]? = some (s[d + m]'hk, o)) := chars_at hk (HAT.out m hm)
          have hB0 := HB.out (d + m) (by omega)
          have hB1 := HB.out (d + m + 1) (by omega)
          have HM := Lib.hid hm
          go_wp2_with fail
          rw [HE.out]
          refine (HP.out (d + m) _ o _ HLK.out HK3.out (by omega)).mono ?_
          rintro e w5 ⟨part, o', rfl, hout1, hinv5, hmv⟩
          have hps : (out (d + m + 1)).length = (out (d + m)).length + part.size := by
            rw [hout1, List.length_append, List.length_map, Array.length_toList]; rfl
          have hst5 := HK2.out.moved hmv HS.out
          have hrb5 := hmv.whole HRB.out (fun hs => by have := HS.out _ hs; omega)
          have hz5 := hmv.size
          have H5 := Lib.hid hst5
          have R5 := Lib.hid hrb5
          have I5 := Lib.hid hinv5
          have O5 := Lib.hid hout1
          have P5 := Lib.hid hps
          have hpb : (out (d + m)).length + part.size ≤ 70368744177664 := by omega
          clear hst5 hrb5 hinv5 hout1 hmv hps hc1
          go_wp2_with fail
          refine (writeString_any (w.heap.size + 2) (w.heap.size + 2) (Lib.byteCells ((out (d + m)).map (·.1))) part _ H5.out.2.2.2.1 (by rw [Lib.byteCells_length, List.length_map]; omega) (by omega)).mono ?_
          rintro e w6 ⟨rfl, hbu, hbl, hoth⟩
          have hst6 := H5.out.write hbu hbl hoth
          have hrb6 : Whole w6 g 51 #[.int .i64 l, .int .i64 o] := hoth _ _ R5.out (by intro e; injection e with e; omega) (by intro c fz e; injection e with _ e _; exact absurd e (by decide))
          have hinv6 := HI.out _ _ _ I5.out (hbl.mono (by omega))
          have hz6 := hbl.size
          have H6 := Lib.hid hst6
          have R6 := Lib.hid hrb6
          have I6 := Lib.hid hinv6
          have hc6 := HK1.out
          clear hst6 hrb6 hinv6 hbu hbl hoth
          go_wp2_with fail
          refine (behind_comp (w.heap.size + 3) u6 ((out (d + m)).map (·.2)) (part.size : Int) o' _ H6.out.1 (by omega) (by omega) (by rw [List.length_map]; omega) (by omega) (by omega)).mono ?_
          rintro e w7 ⟨v7, rfl, hown7, hg7, hat7⟩
          have hz7 := hg7.size
          rw [Int.toNat_natCast] at hown7
          have hst7 := H6.out.join hown7 hg7 hat7
          have hjl : (comp ((out (d + m)).map (·.2) ++ List.replicate part.size o')).length ≤ (comp ((out (d + m)).map (·.2))).length + 1 := by rw [comp_replicate]; exact joinR_len _ _ _
          have e1 : (out (d + m + 1)).map (·.1) = (out (d + m)).map (·.1) ++ part.data.toList := by rw [O5.out, List.map_append, List.map_map]; congr 1; exact List.map_id' _
          have e2 : (out (d + m + 1)).map (·.2) = (out (d + m)).map (·.2) ++ List.replicate part.size o' := by
            rw [O5.out, List.map_append, List.map_map]
            congr 1
            have : part.data.toList.length = part.size := by rw [Array.length_toList]; rfl
            rw [← this]
            exact List.map_const'
          rw [← e1, ← e2] at hst7
          rw [← e2] at hjl
          have hrb7 : Whole w7 g 51 #[.int .i64 l, .int .i64 o] := R6.out.grown hg7 (fun e => HVG.out e.symm)
          have hinv7 := HI.out _ _ _ I6.out ((Below.refl _ _).grown hg7 (by omega) (fun k hk => by have := (H6.out.1.lt k hk).1; omega))
          have hvg7 : v7.ownBlock ≠ some g := by
            rcases hat7 with e | ⟨k, hk, e⟩
            · rw [e]; exact HVG.out
            · rw [e]; intro e2; injection e2 with e2; have := R6.out.lt; omega
          have HREL : Hid (RwIn w.heap.size S Inv out s.size qs (.slice (some ad') z c3) w3 g d l o v7 (.int .i64 ((d + m + 1 : Nat) : Int)) (.int .i64 ((m + 1 : Nat) : Int)) w7) :=
            ⟨m + 1, by have := HM.out; omega, rfl, ⟨rfl, by omega, by have : d + (m + 1) = d + m + 1 := rfl; rw [this]; omega, hst7, hinv7⟩, hrb7, hvg7⟩
          clear hst7 hrb7 hinv7 hvg7 hown7 hg7 hat7 hjl e1 e2
          go_wp2_with fail
          go_roundw
          case rel =>
            have h := HREL.out
            first | exact h | (simpa using h)
          case measure => simp [intOf]; omega
        · obtain rfl : l = (m : Int) := by omega
          have HREL : Hid (RwOut w.heap.size S Inv out s.size qs (.slice (some ad') z c3) w3 u6 (.int .i64 ((d + m : Nat) : Int)) (.int .i64 ((j + 1 : Nat) : Int)) wr) := by
            refine ⟨j + 1, by rw [HZ.out]; omega, rfl, ?_⟩
            rw [HNX.out, Int.toNat_natCast]
            exact ⟨rfl, hks2, HK1.out, HK2.out, HK3.out⟩
          go_wp2_with fail
          go_roundw
          case rel => exact HREL.out
          case measure => simp [intOf]; omega
    · obtain rfl : j = z := by omega
      have hfull : (expand (qs.take j)).length = s.size := by rw [List.take_of_length_le (by rw [HZ.out]; exact Nat.le_refl _), HEL.out]
      rw [hfull] at HK1 HK2 HK3
      have HFULL := Lib.hid hfull
      have hB0 := HB.out s.size (Nat.le_refl _)
      clear hfull
      go_wp2_with fail
      refine (Try.Builder_String_any_k (w.heap.size + 2) (w.heap.size + 2) ((out s.size).map (·.1)) wr HK2.out.2.2.2.1 (by omega)).mono ?_
      rintro e w5 ⟨rfl, _, hbl5, hoth5⟩
      have ho5 := own_others HK2.out.1 hoth5 (by omega)
      have hinv5 := HI.out _ _ _ HK3.out (hbl5.mono (by omega))
      have hkp := HK2.out.2.2.2.2.1.below hbl5
      have hW := (y1.same (hkp.block _ (by omega) (fun hs => by have := HS.out _ hs; omega)))
      have f0 := hW.free 0
      have f1 := hW.free 1
      have d0 : w5.cell? ⟨w.heap.size + 1, 0, none⟩ = some (.string ⟨#[]⟩) := hW.at_ 0
      have d1 : w5.cell? ⟨w.heap.size + 1, 1, none⟩ = some (.slice none 0 0) := hW.at_ 1
      obtain ⟨A5, c5, rfl, _, _, _⟩ := own_form ho5
      have HO5 := Lib.hid ho5
      have HI5 := Lib.hid hinv5
      have HKP := Lib.hid hkp
      clear ho5 hinv5 hkp
      generalize hq1 : (out s.size).map (·.1) = st at *
      generalize hq2 : comp ((out s.size).map (·.2)) = q at *
      have HQ1 := Lib.hid hq1
      have HQ2 := Lib.hid hq2
      clear hq1 hq2
      go_wp2
      refine bodyPost_ret (v := .agg #[.string ⟨st.toArray⟩, .slice A5 q.length c5]) ?_ rfl ?_
      · simp [results, Try.results78, go_sem, d0, d1]
      · refine ⟨.slice A5 q.length c5, by rw [HQ1.out], ?_, ?_, ?_⟩
        · rw [HQ2.out]
          refine own_mono (base := w.heap.size + 3) (own_far (own_far HO5.out _ (fun h => ?_) _) _ (fun h => ?_) _) (by omega)
          · exact absurd (HO5.out.lt _ h).1 (by simp)
          · exact absurd (HO5.out.lt _ h).1 (by simp)
        · have hk := HKP.out
          have hkb : Below (w.heap.size + 1) w5 ((w5.setCell ⟨w.heap.size + 1, 0, none⟩ (.string ⟨st.toArray⟩)).setCell ⟨w.heap.size + 1, 1, none⟩ (.slice A5 q.length c5)) := ((Below.refl _ _).setCell (p := ⟨w.heap.size + 1, 0, none⟩) (Nat.le_refl _) _).setCell (p := ⟨w.heap.size + 1, 1, none⟩) (Nat.le_refl _) _
          exact ⟨hkb.os.trans (hk.os.trans hbw.os), hkb.tape.trans (hk.tape.trans hbw.tape), hkb.output.trans (hk.output.trans hbw.output), Nat.le_trans (Nat.le_trans hbw.size hk.size) hkb.size, fun g hg hs => (hkb.block g (by omega)).trans ((hk.block g (by omega) hs).trans (hbw.block g hg))⟩
        · exact HI.out _ _ _ HI5.out (((Below.refl _ _).setCell (p := ⟨w.heap.size + 1, 0, none⟩) (Nat.le_succ _) _).setCell (p := ⟨w.heap.size + 1, 1, none⟩) (Nat.le_succ _) _)

end Go.Proofs.Ytkfbpigmchedeaa.mk

namespace Go.Proofs.Ytkfbpigmchedeaa.mk
open Go.RowKit

def trimL {α : Type} (p : α → Bool) (l : List α) : List α := ((l.dropWhile p).reverse.dropWhile p).reverse
theorem dropWhile_front {α : Type} {p : α → Bool} {a m : List α} (h : ∀ x ∈ a, p x = true) : (a ++ m).dropWhile p = m.dropWhile p := by
  induction a with
  | nil => rfl
  | cons x a ih => rw [List.cons_append, List.dropWhile_cons, if_pos (h x (by simp)), ih (fun y hy => h y (by simp [hy]))]
theorem dropWhile_stay {α : Type} {p : α → Bool} {x : α} {m : List α} (h : p x = false) : (x :: m).dropWhile p = x :: m := by
  rw [List.dropWhile_cons, if_neg (by simp [h])]
theorem dropWhile_all {α : Type} {p : α → Bool} {a : List α} (h : ∀ x ∈ a, p x = true) : a.dropWhile p = [] := by
  have := dropWhile_front (m := []) h
  simpa using this
theorem trimL_all {α : Type} {p : α → Bool} {a : List α} (h : ∀ x ∈ a, p x = true) : trimL p a = [] := by
  unfold trimL; rw [dropWhile_all h]; rfl
theorem trimL_mid {α : Type} {p : α → Bool} {a m b : List α} {x y : α} (ha : ∀ x ∈ a, p x = true) (hb : ∀ x ∈ b, p x = true) (hx : m.head? = some x) (hpx : p x = false) (hy : m.getLast? = some y) (hpy : p y = false) : trimL p (a ++ m ++ b) = m := by
  unfold trimL
  have h1 : (a ++ m ++ b).dropWhile p = m ++ b := by
    rw [List.append_assoc, dropWhile_front ha]
    cases m with
    | nil => simp at hx
    | cons z m => simp at hx; subst hx; rw [List.cons_append, dropWhile_stay hpx]
  rw [h1, List.reverse_append, dropWhile_front (fun z hz => hb z (by simpa using hz))]
  rcases snoc_cases m with rfl | ⟨r, z, rfl⟩
  · simp at hy
  · simp at hy; subst hy
    rw [List.reverse_append, List.reverse_singleton, List.singleton_append, dropWhile_stay hpy]
    simp

/-- what is known of the first k: where the first and the last are that stay -/
def Mid {α : Type} (p : α → Bool) (l : List α) (k a b : Nat) : Prop :=
  (a = l.length ∧ b = 0 ∧ ∀ (i : Nat) (x : α), i < k → l[i]? = some x → p x = true) ∨
  (a < b ∧ b ≤ k ∧ (∀ (i : Nat) (x : α), i < a → l[i]? = some x → p x = true) ∧ (∃ x, l[a]? = some x ∧ p x = false) ∧ (∃ x, l[b - 1]? = some x ∧ p x = false) ∧ ∀ (i : Nat) (x : α), b ≤ i → i < k → l[i]? = some x → p x = true)
theorem Mid.zero {α : Type} (p : α → Bool) (l : List α) : Mid p l 0 l.length 0 := .inl ⟨rfl, rfl, fun i x h => by omega⟩
theorem Mid.skip {α : Type} {p : α → Bool} {l : List α} {k a b : Nat} {x : α} (h : Mid p l k a b) (hx : l[k]? = some x) (hp : p x = true) : Mid p l (k + 1) a b := by
  rcases h with ⟨h1, h2, h3⟩ | ⟨h1, h2, h3, h4, h5, h6⟩
  · refine .inl ⟨h1, h2, fun i y hi hy => ?_⟩
    rcases Nat.lt_or_ge i k with h | h
    · exact h3 i y h hy
    · obtain rfl : i = k := by omega
      rw [hx] at hy; injection hy with hy; subst hy; exact hp
  · refine .inr ⟨h1, by omega, h3, h4, h5, fun i y hb hi hy => ?_⟩
    rcases Nat.lt_or_ge i k with h | h
    · exact h6 i y hb h hy
    · obtain rfl : i = k := by omega
      rw [hx] at hy; injection hy with hy; subst hy; exact hp
theorem Mid.here {α : Type} {p : α → Bool} {l : List α} {k a b : Nat} {x : α} (h : Mid p l k a b) (hx : l[k]? = some x) (hp : p x = false) : Mid p l (k + 1) (min a k) (k + 1) := by
  have hk : k < l.length := (List.getElem?_eq_some_iff.1 hx).1
  rcases h with ⟨h1, h2, h3⟩ | ⟨h1, h2, h3, h4, h5, h6⟩
  · rw [show min a k = k by omega]
    exact .inr ⟨by omega, by omega, h3, ⟨x, hx, hp⟩, ⟨x, by simpa using hx, hp⟩, fun i y hb hi => by omega⟩
  · rw [show min a k = a by omega]
    exact .inr ⟨by omega, by omega, h3, h4, ⟨x, by simpa using hx, hp⟩, fun i y hb hi => by omega⟩
theorem Mid.bd {α : Type} {p : α → Bool} {l : List α} {k a b : Nat} (h : Mid p l k a b) (hk : k ≤ l.length) : a ≤ l.length ∧ b ≤ l.length := by
  rcases h with ⟨h1, h2, _⟩ | ⟨h1, h2, _⟩ <;> omega
theorem Mid.end_ {α : Type} {p : α → Bool} {l : List α} {a b : Nat} (h : Mid p l l.length a b) : (l.take b).drop a = trimL p l := by
  rcases h with ⟨h1, h2, h3⟩ | ⟨h1, h2, h3, ⟨x, h4, h4'⟩, ⟨y, h5, h5'⟩, h6⟩
  · subst h2
    rw [trimL_all (fun x hx => ?_)]
    · simp
    · obtain ⟨i, hi⟩ := List.mem_iff_getElem?.1 hx
      exact h3 i x (List.getElem?_eq_some_iff.1 hi).1 hi
  · have hlen : ((l.take b).drop a).length = b - a := by rw [List.length_drop, List.length_take]; omega
    have e : l = l.take a ++ (l.take b).drop a ++ l.drop b := by
      have e1 : l.take a = (l.take b).take a := by rw [List.take_take]; congr 1; omega
      rw [e1, List.take_append_drop, List.take_append_drop]
    conv => rhs; rw [e]
    refine (trimL_mid (x := x) (y := y) (fun z hz => ?_) (fun z hz => ?_) ?_ h4' ?_ h5').symm
    · obtain ⟨i, hi⟩ := List.mem_iff_getElem?.1 hz
      rw [List.getElem?_take] at hi
      split at hi
      · rename_i hlt; exact h3 i z hlt hi
      · cases hi
    · obtain ⟨i, hi⟩ := List.mem_iff_getElem?.1 hz
      rw [List.getElem?_drop] at hi
      exact h6 (b + i) z (by omega) (List.getElem?_eq_some_iff.1 hi).1 hi
    · rw [List.head?_drop, List.getElem?_take, if_pos h1]; exact h4
    · rw [List.getLast?_eq_getElem?, hlen, List.getElem?_drop, List.getElem?_take, if_pos (by omega), show a + (b - a - 1) = b - 1 by omega]; exact h5

/-- whether a byte with its origin is sought -/
def onB (f : UInt8 → Bool) (x : UInt8 × Int) : Bool := f x.1
theorem Mid.map {f : UInt8 → Bool} {L : List (UInt8 × Int)} {l : List UInt8} {k a b : Nat} (h : Mid f l k a b) (hl : L.map (·.1) = l) : Mid (onB f) L k a b := by
  subst hl
  have hg : ∀ (i : Nat) (x : UInt8 × Int), L[i]? = some x → (L.map (·.1))[i]? = some x.1 := fun i x hx => by rw [List.getElem?_map, hx]; rfl
  have hg' : ∀ (i : Nat) (x : UInt8), (L.map (·.1))[i]? = some x → ∃ y, L[i]? = some y ∧ y.1 = x := fun i x hx => by
    rw [List.getElem?_map] at hx
    cases hL : L[i]? with
    | none => rw [hL] at hx; cases hx
    | some y => rw [hL] at hx; exact ⟨y, rfl, by injection hx⟩
  rcases h with ⟨h1, h2, h3⟩ | ⟨h1, h2, h3, ⟨x, h4, h4'⟩, ⟨y, h5, h5'⟩, h6⟩
  · exact .inl ⟨by simpa using h1, h2, fun i x hi hx => h3 i x.1 hi (hg i x hx)⟩
  · obtain ⟨x', hx, rfl⟩ := hg' _ _ h4
    obtain ⟨y', hy, rfl⟩ := hg' _ _ h5
    exact .inr ⟨h1, h2, fun i x hi hx => h3 i x.1 hi (hg i x hx), ⟨x', hx, h4'⟩, ⟨y', hy, h5'⟩, fun i x hb hi hx => h6 i x.1 hb hi (hg i x hx)⟩

def StripRel (f : UInt8 → Bool) (l : List UInt8) (a b i : Value) : Prop :=
  ∃ k x y : Nat, k ≤ l.length ∧ i = .int .i64 (k : Int) ∧ a = .int .i64 (x : Int) ∧ b = .int .i64 (y : Int) ∧ Mid f l k x y

end Go.Proofs.Ytkfbpigmchedeaa.mk

namespace Go.Proofs.Ytkfbpigmchedeaa.mk
open Go.RowKit

/-- by for each sought byte, of that byte's origin -/
def replL (f : UInt8 → Bool) (by_ : List UInt8) (l : List (UInt8 × Int)) : List (UInt8 × Int) := l.flatMap fun x => if f x.1 then by_.map (fun y => (y, x.2)) else [x]
theorem replL_next {f : UInt8 → Bool} {by_ : List UInt8} {l : List (UInt8 × Int)} {k : Nat} {b : UInt8} {o : Int} (h : l[k]? = some (b, o)) : replL f by_ (l.take (k + 1)) = replL f by_ (l.take k) ++ (if f b then by_ else [b]).map (fun y => (y, o)) := by
  rw [take_next h]
  unfold replL
  rw [List.flatMap_append]
  congr 1
  rw [List.flatMap_singleton]
  split <;> rfl
theorem replL_length (f : UInt8 → Bool) (by_ : List UInt8) (l : List (UInt8 × Int)) : (replL f by_ l).length ≤ l.length * (by_.length + 1) := by
  induction l with
  | nil => simp [replL]
  | cons x l ih =>
    have e : replL f by_ (x :: l) = (if f x.1 then by_.map (fun y => (y, x.2)) else [x]) ++ replL f by_ l := by simp [replL]
    rw [e, List.length_append, List.length_cons, Nat.add_mul]
    have : (if f x.1 then by_.map (fun y => (y, x.2)) else [x]).length ≤ by_.length + 1 := by split <;> simp
    omega

theorem one_byte (s : ByteArray) (k : Nat) (hk : k < s.size) : (s.extract k (k + 1)).data.toList = [s[k]'hk] := by
  have hsl : s.data.toList.length = s.size := by rw [Array.length_toList]; rfl
  rw [ByteArray.data_extract, Array.toList_extract]
  have hk' : k < s.data.toList.length := by rw [hsl]; exact hk
  rw [List.extract_eq_take_drop, List.drop_eq_getElem_cons hk', show k + 1 - k = 1 by omega]
  rfl

set_option maxHeartbeats 1000000 in
set_option maxRecDepth 100000 in
theorem replF_any (F : Nat) (caps : Array Value) (f : UInt8 → Bool) (bS bQ bB : Nat) (s y : ByteArray) (v : Value) (k : Nat) (o : Int) (hk : k < s.size) (hs : s.size ≤ 4294967296) (w : World)
    (hE : ∀ args w', Sem.run Try.prog (callFunc F args) w' = .ok (.enter F args) w')
    (hF : ∀ (b : UInt8) w', Below w.heap.size w w' → Calls Try.prog F (#[.int .u8 b.toNat] ++ caps) w' fun e w'' => e = .returned (.bool (f b)) ∧ w' = w'')
    (b0 : bS < w.heap.size) (b1 : bQ < w.heap.size) (b2 : bB < w.heap.size)
    (c0 : w.cell? ⟨bS, 0, none⟩ = some (.string s)) (c1 : w.cell? ⟨bS, 1, none⟩ = some v) (c2 : w.cell? ⟨bQ, 0, none⟩ = some (.func (.func F) #[] caps)) (c3 : w.cell? ⟨bB, 0, none⟩ = some (.string y)) :
    Calls Try.prog 79 #[.int .i64 (k : Int), .int .i64 o, .pointer (some ⟨bQ, 0, none⟩), .pointer (some ⟨bS, 0, none⟩), .pointer (some ⟨bB, 0, none⟩)] w fun e w' => (∃ part : ByteArray, e = .returned (.tuple #[.string part, .int .i64 o]) ∧ part.data.toList = (if f (s[k]'hk) then y.data.toList else [s[k]'hk])) ∧ Below w.heap.size w w' := by
  have HE := Lib.hid hE
  have HF := Lib.hid hF
  clear hE hF
  have hk0 : (0 : Int) ≤ (k : Int) := Int.natCast_nonneg _
  have hk1 : (k : Int) < (s.size : Int) := by omega
  have hk2 : (k : Int) + 1 ≤ (s.size : Int) := by omega
  go_enter Try.func79, Try.ntmps79
  go_wp2_with fail
  have KS : ∀ w', Below w.heap.size w w' → w'.cell? ⟨bS, 0, none⟩ = some (.string s) ∧ w'.cell? ⟨bS, 1, none⟩ = some v ∧ w'.cell? ⟨bQ, 0, none⟩ = some (.func (.func F) #[] caps) ∧ w'.cell? ⟨bB, 0, none⟩ = some (.string y) ∧ Below w.heap.size w w' := fun w' h =>
    ⟨(h.cell b0).trans c0, (h.cell b0).trans c1, (h.cell b1).trans c2, (h.cell b2).trans c3, h⟩
  have HKS := Lib.hid KS
  clear KS
  go_region_held3 (fun w' => w'.cell? ⟨bS, 0, none⟩ = some (.string s) ∧ w'.cell? ⟨bS, 1, none⟩ = some v ∧ w'.cell? ⟨bQ, 0, none⟩ = some (.func (.func F) #[] caps) ∧ w'.cell? ⟨bB, 0, none⟩ = some (.string y) ∧ Below w.heap.size w w')
    (first
      | exact HKS.out _ (Below.drew (Below.refl _ _))
      | (go_split_ands; exact HKS.out _ (by assumption)))
    (first
      | (rw [HE.out]; refine (HF.out (s[k]'hk) _ ?_).mono ?_; (go_split_ands; assumption); rintro e w' ⟨rfl, rfl⟩))
  have hbd : Below w.heap.size w w.drew := (Below.refl _ _).drew
  cases hf : f (s[k]'hk) with
  | true =>
    go_wp2_with fail
    go_ret2
    exact ⟨⟨y, rfl, rfl⟩, hbd⟩
  | false =>
    have HO := Lib.hid (one_byte s k hk)
    go_wp2_with fail
    all_goals
      go_ret2
      exact ⟨⟨_, rfl, by simpa using HO.out⟩, hbd⟩

set_option maxHeartbeats 1000000 in
set_option maxRecDepth 100000 in
theorem replace_any (F : Nat) (caps : Array Value) (f : UInt8 → Bool) (s y : ByteArray) (A : Option Addr) (n c : Nat) (rs : List (Int × Int)) (w : World) (hl : Lies w w.heap.size A (runCells rs)) (hn : rs.length = n) (hs : s.size ≤ 4294967296) (hn2 : n ≤ 4294967296) (hby : s.size * (y.size + 1) ≤ 70368744177664)
    (hE : ∀ args w', Sem.run Try.prog (callFunc F args) w' = .ok (.enter F args) w')
    (hF : ∀ (b : UInt8) w', Below w.heap.size w w' → Calls Try.prog F (#[.int .u8 b.toNat] ++ caps) w' fun e w'' => e = .returned (.bool (f b)) ∧ w' = w'') :
    Calls Try.prog 69 #[.agg #[.string s, .slice A n c], .func (.func F) #[] caps, .string y] w (Tells ⟨((replL f y.data.toList (chars s.data.toList rs)).map (·.1)).toArray⟩ (comp ((replL f y.data.toList (chars s.data.toList rs)).map (·.2))) w) := by
  have HN := Lib.hid hn
  have HE := Lib.hid hE
  have HF := Lib.hid hF
  clear hn hE hF
  have hsl : s.data.toList.length = s.size := by rw [Array.length_toList]; rfl
  have HSL := Lib.hid hsl
  clear hsl
  go_enter Try.func69, Try.ntmps69
  go_wp2_with fail
  generalize hwE : (((w.alloc (.cells #[.string s, .slice A n c] 24)).alloc (.cells #[.func (.func F) #[] caps] 94)).alloc (.cells #[.string y] 9)).alloc (.cells #[.string ⟨#[]⟩, .slice none 0 0] 24) = wE
  have y0 : Whole wE w.heap.size 24 #[.string s, .slice A n c] := by rw [← hwE]; exact (((Whole.made w _ _).alloc _).alloc _).alloc _
  have y1 : Whole wE (w.heap.size + 1) 94 #[.func (.func F) #[] caps] := by
    rw [← hwE]
    have h := ((Whole.made (w.alloc (.cells #[.string s, .slice A n c] 24)) 94 #[.func (.func F) #[] caps]).alloc (.cells #[.string y] 9)).alloc (.cells #[.string ⟨#[]⟩, .slice none 0 0] 24)
    simp only [World.size_alloc] at h
    exact h
  have y2 : Whole wE (w.heap.size + 1 + 1) 9 #[.string y] := by
    rw [← hwE]
    have h := (Whole.made ((w.alloc (.cells #[.string s, .slice A n c] 24)).alloc (.cells #[.func (.func F) #[] caps] 94)) 9 #[.string y]).alloc (.cells #[.string ⟨#[]⟩, .slice none 0 0] 24)
    simp only [World.size_alloc] at h
    exact h
  have y3 : Whole wE (w.heap.size + 1 + 1 + 1) 24 #[.string ⟨#[]⟩, .slice none 0 0] := by
    rw [← hwE]
    have h := Whole.made (((w.alloc (.cells #[.string s, .slice A n c] 24)).alloc (.cells #[.func (.func F) #[] caps] 94)).alloc (.cells #[.string y] 9)) 24 #[.string ⟨#[]⟩, .slice none 0 0]
    simp only [World.size_alloc] at h
    exact h
  have hzE : wE.heap.size = w.heap.size + 4 := by rw [← hwE]; simp
  have hbE : Below w.heap.size w wE := by rw [← hwE]; exact ((((Below.refl _ _).alloc (Nat.le_refl _) _).alloc (by simp) _).alloc (by simp; omega) _).alloc (by simp; omega) _
  have hlE : Lies wE wE.heap.size A (runCells rs) := hl.next hbE (Nat.le_refl _)
  clear hwE
  have HLN : Hid ((chars s.data.toList rs).length = s.size) := by show _ = _; rw [chars_length, HSL.out]
  have HYL : Hid (y.data.toList.length = y.size) := by show _ = _; rw [Array.length_toList]; rfl
  refine (rewrite_any 79 #[.pointer (some ⟨w.heap.size + 1, 0, none⟩), .pointer (some ⟨w.heap.size, 0, none⟩), .pointer (some ⟨w.heap.size + 1 + 1, 0, none⟩)] (fun _ => False) (fun _ w' => Below wE.heap.size wE w') (fun k => replL f y.data.toList ((chars s.data.toList rs).take k)) s A n c rs wE hlE HN.out hs hn2 (fun _ _ => rfl) (fun _ h => h.elim) (fun k w' w'' h1 h2 => h1.trans h2) ?_ rfl (Below.refl _ _) ?_).mono ?_
  · intro k b o w' hL hI hN'
    have hk : k < s.size := by rw [← HLN.out]; exact (List.getElem?_eq_some_iff.1 hL).1
    have hb : s[k]'hk = b := by
      have h1 : (chars s.data.toList rs).map (·.1) = s.data.toList := chars_fst _ _
      have h2 : ((chars s.data.toList rs).map (·.1))[k]? = some b := by rw [List.getElem?_map, hL]; rfl
      rw [h1, List.getElem?_eq_getElem (by rw [HSL.out]; exact hk)] at h2
      injection h2
    have z0 := y0.below hI y0.lt
    have z1 := y1.below hI y1.lt
    have z2 := y2.below hI y2.lt
    refine (replF_any F caps f w.heap.size (w.heap.size + 1) (w.heap.size + 1 + 1) s y (.slice A n c) k o hk hs w' HE.out (fun b w'' hb'' => HF.out b w'' (below_next hbE (Nat.le_refl _) (below_next hI (Nat.le_refl _) hb''))) z0.lt z1.lt z2.lt (z0.at_ 0) (z0.at_ 1) (z1.at_ 0) (z2.at_ 0)).mono ?_
    rintro e w'' ⟨⟨part, rfl, hp⟩, hb''⟩
    refine ⟨part, o, rfl, ?_, below_next hI (Nat.le_refl _) hb'', Moved.of_below hb''⟩
    rw [hp, hb]
    exact replL_next hL
  · intro k _
    refine Nat.le_trans (replL_length _ _ _) (Nat.le_trans (Nat.mul_le_mul_right _ ?_) (by rw [HYL.out]; exact hby))
    rw [List.length_take, HLN.out]
    omega
  rintro e w2 ⟨v, rfl, hown, hmv, _⟩
  have hb2 : Below wE.heap.size wE w2 := hmv.below (Nat.le_refl _) (fun _ _ h => h)
  have hful : (chars s.data.toList rs).take s.size = chars s.data.toList rs := List.take_of_length_le (by rw [HLN.out]; exact Nat.le_refl _)
  rw [hful] at hown
  obtain ⟨A2, c2, rfl, _, _, _⟩ := own_form hown
  have hW := y3.below hb2 y3.lt
  have f0 := hW.free 0
  have f1 := hW.free 1
  have d0 : w2.cell? ⟨w.heap.size + 1 + 1 + 1, 0, none⟩ = some (.string ⟨#[]⟩) := hW.at_ 0
  have d1 : w2.cell? ⟨w.heap.size + 1 + 1 + 1, 1, none⟩ = some (.slice none 0 0) := hW.at_ 1
  have HO := Lib.hid hown
  have HFUL := Lib.hid hful
  clear hown hmv hful
  simp only [HFUL.out] at *
  generalize hT : replL f y.data.toList (chars s.data.toList rs) = T at *
  generalize hq : comp (T.map (·.2)) = q at *
  generalize hst : T.map (·.1) = st at *
  have HT := Lib.hid hT
  have HQ := Lib.hid hq
  have HS := Lib.hid hst
  clear hT hq hst
  go_wp2
  refine bodyPost_ret (v := .agg #[.string ⟨st.toArray⟩, .slice A2 q.length c2]) ?_ rfl ?_
  · simp [results, Try.results69, go_sem, d0, d1]
  · rw [HT.out, HQ.out, HS.out]
    exact tells_end (g := w.heap.size + 1 + 1 + 1) (by omega) (own_mono HO.out (by omega)) (below_next hbE (Nat.le_refl _) hb2)

set_option maxHeartbeats 1000000 in
set_option maxRecDepth 100000 in
theorem swap_any (s y : ByteArray) (x : UInt8) (A : Option Addr) (n c : Nat) (rs : List (Int × Int)) (w : World) (hl : Lies w w.heap.size A (runCells rs)) (hn : rs.length = n) (hs : s.size ≤ 4294967296) (hn2 : n ≤ 4294967296) (hby : s.size * (y.size + 1) ≤ 70368744177664) :
    Calls Try.prog 52 #[.agg #[.string s, .slice A n c], .int .u8 x.toNat, .string y] w (Tells ⟨((replL (fun b => b == x) y.data.toList (chars s.data.toList rs)).map (·.1)).toArray⟩ (comp ((replL (fun b => b == x) y.data.toList (chars s.data.toList rs)).map (·.2))) w) := by
  have HN := Lib.hid hn
  clear hn
  go_enter Try.func52, Try.ntmps52
  go_wp2_with fail
  generalize hwE : ((w.alloc (.cells #[.string s, .slice A n c] 24)).alloc (.cells #[.int .u8 x.toNat] 5)).alloc (.cells #[.string ⟨#[]⟩, .slice none 0 0] 24) = wE
  have y1 : Whole wE (w.heap.size + 1) 5 #[.int .u8 x.toNat] := by
    rw [← hwE]
    have h := (Whole.made (w.alloc (.cells #[.string s, .slice A n c] 24)) 5 #[.int .u8 x.toNat]).alloc (.cells #[.string ⟨#[]⟩, .slice none 0 0] 24)
    simp only [World.size_alloc] at h
    exact h
  have y3 : Whole wE (w.heap.size + 1 + 1) 24 #[.string ⟨#[]⟩, .slice none 0 0] := by
    rw [← hwE]
    have h := Whole.made ((w.alloc (.cells #[.string s, .slice A n c] 24)).alloc (.cells #[.int .u8 x.toNat] 5)) 24 #[.string ⟨#[]⟩, .slice none 0 0]
    simp only [World.size_alloc] at h
    exact h
  have hzE : wE.heap.size = w.heap.size + 3 := by rw [← hwE]; simp
  have hbE : Below w.heap.size w wE := by rw [← hwE]; exact (((Below.refl _ _).alloc (Nat.le_refl _) _).alloc (by simp) _).alloc (by simp; omega) _
  have hlE : Lies wE wE.heap.size A (runCells rs) := hl.next hbE (Nat.le_refl _)
  clear hwE
  refine (replace_any 70 #[.pointer (some ⟨w.heap.size + 1, 0, none⟩)] (fun b => b == x) s y A n c rs wE hlE HN.out hs hn2 hby (fun _ _ => rfl) (fun b w' hb => swapF_any b x (w.heap.size + 1) w' ((hb.cell y1.lt).trans (y1.at_ 0)))).mono ?_
  generalize hT : replL (fun b => b == x) y.data.toList (chars s.data.toList rs) = T at *
  generalize hq : comp (T.map (·.2)) = q at *
  generalize hst : T.map (·.1) = st at *
  have HT := Lib.hid hT
  have HQ := Lib.hid hq
  have HS := Lib.hid hst
  clear hT hq hst
  rintro e w2 ⟨v, rfl, hown, hb2⟩
  obtain ⟨A2, c2, rfl, _, _, _⟩ := own_form hown
  have hW := y3.below hb2 y3.lt
  have f0 := hW.free 0
  have f1 := hW.free 1
  have d0 : w2.cell? ⟨w.heap.size + 1 + 1, 0, none⟩ = some (.string ⟨#[]⟩) := hW.at_ 0
  have d1 : w2.cell? ⟨w.heap.size + 1 + 1, 1, none⟩ = some (.slice none 0 0) := hW.at_ 1
  have HO := Lib.hid hown
  clear hown
  go_wp2
  refine bodyPost_ret (v := .agg #[.string ⟨st.toArray⟩, .slice A2 q.length c2]) ?_ rfl ?_
  · simp [results, Try.results52, go_sem, d0, d1]
  · rw [HT.out, HQ.out, HS.out]
    exact tells_end (g := w.heap.size + 1 + 1) (by omega) (own_mono HO.out (by omega)) (below_next hbE (Nat.le_refl _) hb2)

/-- tab, line feed, form feed, return, blank -/
def blanksB (b : UInt8) : Bool := [9, 10, 12, 13, 32].contains b
end Go.Proofs.Ytkfbpigmchedeaa.mk

namespace Go.Proofs.Ytkfbpigmchedeaa.mk
open Go.RowKit

def catCh (ts : List LT) : List (UInt8 × Int) := ts.flatMap LT.ch
theorem catCh_fst (ts : List LT) : (catCh ts).map (·.1) = catBs ts := by
  induction ts with
  | nil => rfl
  | cons t ts ih => simp only [catCh, catBs, List.flatMap_cons, List.map_append, LT.ch_fst] at ih ⊢; rw [ih]
theorem catCh_snd (ts : List LT) : (catCh ts).map (·.2) = catOs ts := by
  induction ts with
  | nil => rfl
  | cons t ts ih => simp only [catCh, catOs, List.flatMap_cons, List.map_append, LT.ch_snd] at ih ⊢; rw [ih]
theorem catCh_length (ts : List LT) : (catCh ts).length = (catOs ts).length := by rw [← catCh_snd, List.length_map]
theorem catCh_next {ts : List LT} {k : Nat} {t : LT} (h : ts[k]? = some t) : catCh (ts.take (k + 1)) = catCh (ts.take k) ++ t.ch := by rw [take_next h]; simp [catCh]
/-- labelled texts, put together -/
theorem catl_any (ts : List LT) (L : Option Addr) (m c : Nat) (W : World) (hl : Lies W W.heap.size L (ltCells ts)) (hm : ts.length = m) (hm2 : m ≤ 4294967296) (hok : ∀ t ∈ ts, t.ok W W.heap.size) (hz : (catCh ts).length ≤ 4294967296) :
    Calls Try.prog 19 #[.slice L m c] W (Tells (txtOf (catCh ts)) (comp ((catCh ts).map (·.2))) W) := by
  have h := cat_any L m c ts W hl hm hm2 hok (by rw [← catCh_length]; exact hz)
  unfold txtOf
  rw [catCh_fst, catCh_snd]
  exact h

end Go.Proofs.Ytkfbpigmchedeaa.mk

namespace Go.Proofs.Ytkfbpigmchedeaa.mk
open Go.RowKit

/-- an attribute as it lies in memory -/
structure AT where
  nm : LT
  vl : LT
def AT.v (a : AT) : Value := .agg #[.string a.nm.s, .slice a.nm.A a.nm.n a.nm.c, .string a.vl.s, .slice a.vl.A a.vl.n a.vl.c]
def AT.ok (w : World) (B : Nat) (a : AT) : Prop := a.nm.ok w B ∧ a.vl.ok w B
def AT.ch (a : AT) : PA := (a.nm.ch, a.vl.ch)
def atRow (a : AT) : List Value := [.string a.nm.s, .slice a.nm.A a.nm.n a.nm.c, .string a.vl.s, .slice a.vl.A a.vl.n a.vl.c]
def atCells (l : List AT) : List Value := l.flatMap atRow
theorem AT.nmB (a : AT) : nmB a.ch = a.nm.bs := LT.ch_fst _
theorem LT.ok.keep {w0 w : World} {B : Nat} {t : LT} (h : t.ok w0 B) (hk : ∀ p : Addr, p.block < B → w.cell? p = w0.cell? p) : t.ok w B := ⟨h.1.keep hk, h.2⟩
theorem LT.ok.mono {w : World} {B B' : Nat} {t : LT} (h : t.ok w B) (hb : B ≤ B') : t.ok w B' := ⟨h.1.mono hb, h.2⟩
theorem AT.ok.keep {w0 w : World} {B : Nat} {t : AT} (h : t.ok w0 B) (hk : ∀ p : Addr, p.block < B → w.cell? p = w0.cell? p) : t.ok w B := ⟨h.1.keep hk, h.2.keep hk⟩
theorem AT.ok.mono {w : World} {B B' : Nat} {t : AT} (h : t.ok w B) (hb : B ≤ B') : t.ok w B' := ⟨h.1.mono hb, h.2.mono hb⟩
theorem AT.ok.next {w0 w : World} {B : Nat} {t : AT} (h : t.ok w0 B) (hb : Below B w0 w) (hz : B ≤ w0.heap.size) : t.ok w w.heap.size := ⟨h.1.next hb hz, h.2.next hb hz⟩
theorem AT.ok.below {w0 w : World} {B : Nat} {t : AT} (h : t.ok w0 B) (hb : Below B w0 w) : t.ok w B := h.keep fun _ hp => hb.cell hp
theorem atCells_length (ts : List AT) : (atCells ts).length = ts.length * 4 := by
  induction ts with
  | nil => rfl
  | cons r l ih => simp only [atCells, atRow, List.flatMap_cons, List.length_append, List.length_cons, List.length_nil] at ih ⊢; omega
theorem atCells_snoc (ts : List AT) (t : AT) : atCells (ts ++ [t]) = atCells ts ++ atRow t := by simp [atCells]
theorem atCells_append (ts us : List AT) : atCells (ts ++ us) = atCells ts ++ atCells us := by simp [atCells]
theorem atCells_at (ts : List AT) (k : Nat) (t : AT) (h : ts[k]? = some t) (j : Nat) (hj : j < 4) : (atCells ts)[k * 4 + j]? = (atRow t)[j]? := by
  induction ts generalizing k with
  | nil => simp at h
  | cons x ts ih =>
    have e : atCells (x :: ts) = atRow x ++ atCells ts := rfl
    rw [e]
    have hl : (atRow x).length = 4 := rfl
    cases k with
    | zero =>
      simp at h
      subst h
      rw [Nat.zero_mul, Nat.zero_add, List.getElem?_append_left (by omega)]
    | succ k =>
      rw [List.getElem?_append_right (by omega), hl]
      have : (k + 1) * 4 + j - 4 = k * 4 + j := by omega
      rw [this]
      exact ih k (by simpa using h)
theorem addr_nexts (ad : Addr) (k : Nat) : ad.add (k + 1) = ⟨(ad.add k).block, (ad.add k).off + 1, none⟩ ∧ ad.add (k + 2) = ⟨(ad.add k).block, (ad.add k).off + 2, none⟩ ∧ ad.add (k + 3) = ⟨(ad.add k).block, (ad.add k).off + 3, none⟩ := by
  refine ⟨addr_next ad k, ?_, ?_⟩
  · rw [addr_next ad (k + 1), addr_next ad k]
  · rw [addr_next ad (k + 2), addr_next ad (k + 1), addr_next ad k]
/-- attribute k of a row: its four cells, as the walk spells them -/
theorem Lies.att {w : World} {B : Nat} {A : Option Addr} {ts : List AT} (h : Lies w B A (atCells ts)) {k : Nat} (hk : k < ts.length) :
    ∃ ad t, A = some ad ∧ ad.block < B ∧ w.cell? (ad.add (k * 4)) = some (.string t.nm.s) ∧ w.cell? ⟨(ad.add (k * 4)).block, (ad.add (k * 4)).off + 1, none⟩ = some (.slice t.nm.A t.nm.n t.nm.c) ∧
      w.cell? ⟨(ad.add (k * 4)).block, (ad.add (k * 4)).off + 2, none⟩ = some (.string t.vl.s) ∧ w.cell? ⟨(ad.add (k * 4)).block, (ad.add (k * 4)).off + 3, none⟩ = some (.slice t.vl.A t.vl.n t.vl.c) ∧ Hid (ts[k]? = some t) := by
  have ht : ts[k]? = some ts[k] := List.getElem?_eq_getElem hk
  generalize ts[k] = t at ht
  have key : ∀ j u, j < 4 → (atRow t)[j]? = some u → ∃ ad, A = some ad ∧ ad.block < B ∧ w.cell? (ad.add (k * 4 + j)) = some u := fun j u hj hu => h _ _ ((atCells_at ts k t ht j hj).trans hu)
  obtain ⟨ad, e, hb, h0⟩ := key 0 _ (by omega) rfl
  subst e
  have key' : ∀ j u, j < 4 → (atRow t)[j]? = some u → w.cell? (ad.add (k * 4 + j)) = some u := by
    intro j u hj hu
    obtain ⟨ad', e, _, hc⟩ := key j u hj hu
    injection e with e
    subst e
    exact hc
  obtain ⟨e1, e2, e3⟩ := addr_nexts ad (k * 4)
  exact ⟨ad, t, rfl, hb, h0, by rw [← e1]; exact key' 1 _ (by omega) rfl, by rw [← e2]; exact key' 2 _ (by omega) rfl, by rw [← e3]; exact key' 3 _ (by omega) rfl, ht⟩

/-- the runs of a labelled text, and of an attribute, are rows of the call's own -/
def OwnL (w : World) (base : Nat) (t : LT) : Prop := t.rs.length = t.n ∧ t.n ≤ 4294967296 ∧ t.s.size ≤ 4294967296 ∧ w.ownsRow base 51 2 (.slice t.A t.n t.c) t.n (runCells t.rs)
def OwnA (w : World) (base : Nat) (a : AT) : Prop := OwnL w base a.nm ∧ OwnL w base a.vl
theorem OwnL.ok {w : World} {base : Nat} {t : LT} (h : OwnL w base t) : t.ok w w.heap.size := ⟨Lies.own h.2.2.2, h.1, h.2.1, h.2.2.1⟩
theorem OwnA.ok {w : World} {base : Nat} {t : AT} (h : OwnA w base t) : t.ok w w.heap.size := ⟨h.1.ok, h.2.ok⟩
theorem OwnL.mono {w : World} {base base' : Nat} {t : LT} (h : OwnL w base t) (hb : base' ≤ base) : OwnL w base' t := ⟨h.1, h.2.1, h.2.2.1, own_mono h.2.2.2 hb⟩
theorem OwnA.mono {w : World} {base base' : Nat} {t : AT} (h : OwnA w base t) (hb : base' ≤ base) : OwnA w base' t := ⟨h.1.mono hb, h.2.mono hb⟩
theorem OwnL.keep {w w' : World} {base : Nat} {t : LT} (h : OwnL w base t) (hk : ∀ g c, base ≤ g → w.heap[g]? = some (.cells c 51 (0, 0)) → w'.heap[g]? = w.heap[g]?) : OwnL w' base t := by
  refine ⟨h.1, h.2.1, h.2.2.1, own_same h.2.2.2 fun g hg => ?_⟩
  obtain ⟨cur, hc⟩ := own_kind h.2.2.2 hg
  exact hk g cur (h.2.2.2.lt g hg).1 hc
theorem OwnL.below {w w' : World} {base : Nat} {t : LT} (h : OwnL w base t) (hb : Below w.heap.size w w') : OwnL w' base t := h.keep fun _ _ _ hc => hb.block _ (Array.getElem?_eq_some_iff.1 hc).1
theorem OwnA.keep {w w' : World} {base : Nat} {t : AT} (h : OwnA w base t) (hk : ∀ g c, base ≤ g → w.heap[g]? = some (.cells c 51 (0, 0)) → w'.heap[g]? = w.heap[g]?) : OwnA w' base t := ⟨h.1.keep hk, h.2.keep hk⟩
theorem OwnA.below {w w' : World} {base : Nat} {t : AT} (h : OwnA w base t) (hb : Below w.heap.size w w') : OwnA w' base t := h.keep fun _ _ _ hc => hb.block _ (Array.getElem?_eq_some_iff.1 hc).1
/-- a row of attributes of the call's own is written, or grows: runs stay -/
theorem kind_apart {w : World} {base n g : Nat} {v : Value} {xs : List Value} {c : Array Value} {size : Nat} {e : TypeId} (ho : w.ownsRow base e size v n xs) (he : e ≠ 51) (hc : w.heap[g]? = some (.cells c 51 (0, 0))) : some g ≠ v.ownBlock := by
  intro h
  obtain ⟨cur, hc'⟩ := own_kind ho h.symm
  rw [hc] at hc'
  injection hc' with hc'
  injection hc' with _ h _
  exact he h.symm
theorem OwnA.grown {w w' : World} {base base' n : Nat} {v : Value} {xs : List Value} {t : AT} {size : Nat} {e : TypeId} (h : OwnA w base t) (ho : w.ownsRow base' e size v n xs) (he : e ≠ 51) (hg : w.grownBy w' v.ownBlock) : OwnA w' base t :=
  h.keep fun g _ _ hc => hg.block g (Array.getElem?_eq_some_iff.1 hc).1 (kind_apart ho he hc)

/-- what is read of a list of attributes: it lies there, below a block -/
def AllOk (w : World) (B : Nat) (ts : List AT) : Prop := ∀ t ∈ ts, t.ok w B
def AllOwn (w : World) (base : Nat) (ts : List AT) : Prop := ∀ t ∈ ts, OwnA w base t
theorem AllOwn.ok {w : World} {base : Nat} {ts : List AT} (h : AllOwn w base ts) : AllOk w w.heap.size ts := fun t ht => (h t ht).ok
theorem AllOwn.mono {w : World} {base base' : Nat} {ts : List AT} (h : AllOwn w base ts) (hb : base' ≤ base) : AllOwn w base' ts := fun t ht => (h t ht).mono hb
theorem AllOwn.below {w w' : World} {base : Nat} {ts : List AT} (h : AllOwn w base ts) (hb : Below w.heap.size w w') : AllOwn w' base ts := fun t ht => (h t ht).below hb
theorem AllOwn.snoc {w : World} {base : Nat} {ts : List AT} {t : AT} (h : AllOwn w base ts) (ht : OwnA w base t) : AllOwn w base (ts ++ [t]) := by
  intro x hx
  rcases List.mem_append.1 hx with hx | hx
  · exact h x hx
  · simp at hx; subst hx; exact ht
theorem AllOk.next {w0 w : World} {B : Nat} {ts : List AT} (h : AllOk w0 B ts) (hb : Below B w0 w) (hz : B ≤ w0.heap.size) : AllOk w w.heap.size ts := fun t ht => (h t ht).next hb hz
theorem AllOk.keep {w0 w : World} {B : Nat} {ts : List AT} (h : AllOk w0 B ts) (hk : ∀ p : Addr, p.block < B → w.cell? p = w0.cell? p) : AllOk w B ts := fun t ht => (h t ht).keep hk
theorem AllOk.mono {w : World} {B B' : Nat} {ts : List AT} (h : AllOk w B ts) (hb : B ≤ B') : AllOk w B' ts := fun t ht => (h t ht).mono hb
theorem AllOk.get {w : World} {B : Nat} {ts : List AT} (h : AllOk w B ts) {k : Nat} {t : AT} (ht : ts[k]? = some t) : t.ok w B := h t (List.mem_of_getElem? ht)
theorem chs_at {ts : List AT} {k : Nat} {t : AT} (h : ts[k]? = some t) : (ts.map AT.ch)[k]? = some t.ch := by rw [List.getElem?_map, h]; rfl

/-- a list of attributes that is told: in memory of its own -/
def TellsA (qs : List PA) (w : World) (e : Ending) (w' : World) : Prop :=
  ∃ A c ts, e = .returned (.slice A ts.length c) ∧ w'.ownsRow w.heap.size 40 4 (.slice A ts.length c) ts.length (atCells ts) ∧ AllOwn w' w.heap.size ts ∧ ts.map AT.ch = qs ∧ Below w.heap.size w w'
theorem att_info : (Try.prog.info? 40).map (fun i => (i.zero, i.size, i.bytes)) = some (some (.agg #[.string ⟨#[]⟩, .slice none 0 0, .string ⟨#[]⟩, .slice none 0 0]), 4, 80) := by kernel_rfl
/-- what is told of bytes and origins gives them back -/
theorem chars_taken (s : ByteArray) (rs : List (Int × Int)) : chars s.data.toList (taken s.size rs) = chars s.data.toList rs := by
  have h := chars_told (InR.chars s.data.toList rs)
  rw [chars_fst, chars_snd] at h
  have hl : s.data.toList.length = s.size := by rw [Array.length_toList]; rfl
  rw [hl] at h
  exact h
theorem own_told {s : ByteArray} {rs : List (Int × Int)} {v : Value} {base : Nat} {w : World} (hs : s.size ≤ 4294967296) (h : w.ownsRow base 51 2 v (taken s.size rs).length (runCells (taken s.size rs))) :
    ∃ t : LT, v = .slice t.A t.n t.c ∧ t.s = s ∧ t.ch = chars s.data.toList rs ∧ OwnL w base t := by
  obtain ⟨A, c, rfl, _, _, _⟩ := own_form h
  refine ⟨⟨s, A, _, c, taken s.size rs⟩, rfl, rfl, chars_taken s rs, rfl, ?_, hs, h⟩
  show (taken s.size rs).length ≤ _
  have := comp_length_le (origins s.size rs)
  rw [origins_length] at this
  unfold taken
  omega

end Go.Proofs.Ytkfbpigmchedeaa.mk

namespace Go.Proofs.Ytkfbpigmchedeaa.mk
open Go.RowKit

/-- the cells xs lie one behind the other from A on, in blocks of S -/
def LiesS (S : Nat → Prop) (w : World) (A : Option Addr) (xs : List Value) : Prop :=
  ∀ j u, xs[j]? = some u → ∃ ad, A = some ad ∧ S ad.block ∧ ad.block < w.heap.size ∧ w.cell? (ad.add j) = some u
/-- the blocks of S stay -/
def Stays (S : Nat → Prop) (w w' : World) : Prop := w.heap.size ≤ w'.heap.size ∧ ∀ b, S b → b < w.heap.size → w'.heap[b]? = w.heap[b]?
theorem Stays.of {S : Nat → Prop} {w w' : World} (h : Below w.heap.size w w') : Stays S w w' := ⟨h.size, fun b _ hb => h.block b hb⟩
theorem Stays.refl (S : Nat → Prop) (w : World) : Stays S w w := ⟨Nat.le_refl _, fun _ _ _ => rfl⟩
theorem Stays.trans {S : Nat → Prop} {a b c : World} (h : Stays S a b) (k : Stays S b c) : Stays S a c := ⟨Nat.le_trans h.1 k.1, fun x hx hl => (k.2 x hx (Nat.lt_of_lt_of_le hl h.1)).trans (h.2 x hx hl)⟩
theorem LiesS.keep {S : Nat → Prop} {w w' : World} {A : Option Addr} {xs : List Value} (h : LiesS S w A xs) (hk : Stays S w w') : LiesS S w' A xs := by
  intro j u hu
  obtain ⟨ad, e, hs, hb, hc⟩ := h j u hu
  exact ⟨ad, e, hs, Nat.lt_of_lt_of_le hb hk.1, (World.cell?_of_block (w := w) (hk.2 _ (by rw [addr_block]; exact hs) (by rw [addr_block]; exact hb))).trans hc⟩
theorem LiesS.mono {S S' : Nat → Prop} {w : World} {A : Option Addr} {xs : List Value} (h : LiesS S w A xs) (hS : ∀ b, S b → b < w.heap.size → S' b) : LiesS S' w A xs := by
  intro j u hu
  obtain ⟨ad, e, hs, hb, hc⟩ := h j u hu
  exact ⟨ad, e, hS _ hs hb, hb, hc⟩
theorem LiesS.lies {S : Nat → Prop} {w : World} {A : Option Addr} {xs : List Value} (h : LiesS S w A xs) : Lies w w.heap.size A xs := by
  intro j u hu
  obtain ⟨ad, e, _, hb, hc⟩ := h j u hu
  exact ⟨ad, e, hb, hc⟩
theorem Lies.inS {w : World} {B : Nat} {A : Option Addr} {xs : List Value} (h : Lies w B A xs) (hB : B ≤ w.heap.size) : LiesS (fun b => b < B) w A xs := by
  intro j u hu
  obtain ⟨ad, e, hb, hc⟩ := h j u hu
  exact ⟨ad, e, hb, Nat.lt_of_lt_of_le hb hB, hc⟩
theorem own_inS {w : World} {base : Nat} {e : TypeId} {size n : Nat} {A : Option Addr} {c : Nat} {xs : List Value} (h : w.ownsRow base e size (.slice A n c) n xs) : LiesS (fun b => base ≤ b) w A xs := by
  intro j u hu
  obtain ⟨ad, hA, hb, hc⟩ := Lies.own h j u hu
  refine ⟨ad, hA, ?_, hb, hc⟩
  rcases h.2 with ⟨hv, h0⟩ | ⟨g, cap, cur, hv, hg, _⟩
  · injection hv with hv
    rw [hv] at hA; cases hA
  · injection hv with hv
    rw [hv] at hA
    injection hA with hA
    rw [← hA]
    exact (h.lt g (by rw [hv]; rfl)).1
theorem LiesS.nil (S : Nat → Prop) (w : World) (A : Option Addr) : LiesS S w A [] := fun j u h => by simp at h

def LT.inS (S : Nat → Prop) (w : World) (t : LT) : Prop := LiesS S w t.A (runCells t.rs) ∧ t.rs.length = t.n ∧ t.n ≤ 4294967296 ∧ t.s.size ≤ 4294967296
theorem LT.inS.ok {S : Nat → Prop} {w : World} {t : LT} (h : t.inS S w) : t.ok w w.heap.size := ⟨h.1.lies, h.2⟩
theorem LT.inS.keep {S : Nat → Prop} {w w' : World} {t : LT} (h : t.inS S w) (hk : Stays S w w') : t.inS S w' := ⟨h.1.keep hk, h.2⟩
theorem LT.inS.mono {S S' : Nat → Prop} {w : World} {t : LT} (h : t.inS S w) (hS : ∀ b, S b → b < w.heap.size → S' b) : t.inS S' w := ⟨h.1.mono hS, h.2⟩
theorem LT.ok.inS {w : World} {B : Nat} {t : LT} (h : t.ok w B) (hB : B ≤ w.heap.size) : t.inS (fun b => b < B) w := ⟨h.1.inS hB, h.2⟩
theorem OwnL.inS {w : World} {base : Nat} {t : LT} (h : OwnL w base t) : t.inS (fun b => base ≤ b) w := ⟨own_inS h.2.2.2, h.1, h.2.1, h.2.2.1⟩
def AT.inS (S : Nat → Prop) (w : World) (a : AT) : Prop := a.nm.inS S w ∧ a.vl.inS S w
theorem AT.inS.ok {S : Nat → Prop} {w : World} {t : AT} (h : t.inS S w) : t.ok w w.heap.size := ⟨h.1.ok, h.2.ok⟩
theorem AT.inS.keep {S : Nat → Prop} {w w' : World} {t : AT} (h : t.inS S w) (hk : Stays S w w') : t.inS S w' := ⟨h.1.keep hk, h.2.keep hk⟩
theorem AT.inS.mono {S S' : Nat → Prop} {w : World} {t : AT} (h : t.inS S w) (hS : ∀ b, S b → b < w.heap.size → S' b) : t.inS S' w := ⟨h.1.mono hS, h.2.mono hS⟩
theorem AT.ok.inS {w : World} {B : Nat} {t : AT} (h : t.ok w B) (hB : B ≤ w.heap.size) : t.inS (fun b => b < B) w := ⟨LT.ok.inS h.1 hB, LT.ok.inS h.2 hB⟩
theorem OwnA.inS {w : World} {base : Nat} {t : AT} (h : OwnA w base t) : t.inS (fun b => base ≤ b) w := ⟨h.1.inS, h.2.inS⟩

/-- a tree as it lies in memory -/
structure TT where
  tag : LT
  A : Option Addr
  n : Nat
  c : Nat
  atts : List AT
  K : Option Addr
  kn : Nat
  kc : Nat
  kids : List TT
  text : LT
def treeRow (t : TT) : List Value := [.string t.tag.s, .slice t.tag.A t.tag.n t.tag.c, .slice t.A t.n t.c, .slice t.K t.kn t.kc, .string t.text.s, .slice t.text.A t.text.n t.text.c]
def TT.v (t : TT) : Value := .agg #[.string t.tag.s, .slice t.tag.A t.tag.n t.tag.c, .slice t.A t.n t.c, .slice t.K t.kn t.kc, .string t.text.s, .slice t.text.A t.text.n t.text.c]
def treeCells (l : List TT) : List Value := l.flatMap treeRow
mutual
def TT.ch : TT → PT
  | ⟨tag, _, _, _, atts, _, _, _, kids, text⟩ => ⟨tag.ch, atts.map AT.ch, chL kids, text.ch⟩
def chL : List TT → List PT
  | [] => []
  | t :: ts => t.ch :: chL ts
end
mutual
def TT.nodes : TT → List TT
  | ⟨tag, A, n, c, atts, K, kn, kc, kids, text⟩ => ⟨tag, A, n, c, atts, K, kn, kc, kids, text⟩ :: nodesL kids
def nodesL : List TT → List TT
  | [] => []
  | t :: ts => t.nodes ++ nodesL ts
end
theorem TT.ch_eq (t : TT) : t.ch = ⟨t.tag.ch, t.atts.map AT.ch, chL t.kids, t.text.ch⟩ := by cases t; rw [TT.ch]
theorem TT.nodes_eq (t : TT) : t.nodes = t :: nodesL t.kids := by cases t; rw [TT.nodes]
theorem TT.ch_tag (t : TT) : t.ch.tag = t.tag.ch := by rw [TT.ch_eq]
theorem TT.ch_attrs (t : TT) : t.ch.attrs = t.atts.map AT.ch := by rw [TT.ch_eq]
theorem TT.ch_kids (t : TT) : t.ch.kids = chL t.kids := by rw [TT.ch_eq]
theorem TT.ch_text (t : TT) : t.ch.text = t.text.ch := by rw [TT.ch_eq]
theorem chL_map (ts : List TT) : chL ts = ts.map TT.ch := by
  induction ts with
  | nil => rw [chL]; rfl
  | cons t ts ih => rw [chL, ih]; rfl
theorem chL_length (ts : List TT) : (chL ts).length = ts.length := by rw [chL_map, List.length_map]
theorem chL_at {ts : List TT} {k : Nat} {t : TT} (h : ts[k]? = some t) : (chL ts)[k]? = some t.ch := by rw [chL_map, List.getElem?_map, h]; rfl
theorem chL_append (ts us : List TT) : chL (ts ++ us) = chL ts ++ chL us := by simp [chL_map]
theorem nodesL_append (ts us : List TT) : nodesL (ts ++ us) = nodesL ts ++ nodesL us := by
  induction ts with
  | nil => rw [nodesL]; rfl
  | cons t ts ih => rw [List.cons_append, nodesL, nodesL, ih, List.append_assoc]
theorem nodesL_one (t : TT) : nodesL [t] = t.nodes := by rw [nodesL, nodesL, List.append_nil]
theorem mem_nodes {ts : List TT} {t x : TT} (h : t ∈ ts) (hx : x ∈ t.nodes) : x ∈ nodesL ts := by
  induction ts with
  | nil => cases h
  | cons y ts ih =>
    rw [nodesL]
    rcases List.mem_cons.1 h with rfl | h
    · exact List.mem_append_left _ hx
    · exact List.mem_append_right _ (ih h)
theorem mem_self {ts : List TT} {t : TT} (h : t ∈ ts) : t ∈ nodesL ts := mem_nodes h (by rw [TT.nodes_eq]; exact List.mem_cons_self)
theorem mem_kids {ts : List TT} {t x : TT} (h : t ∈ ts) (hx : x ∈ nodesL t.kids) : x ∈ nodesL ts := mem_nodes h (by rw [TT.nodes_eq]; exact List.mem_cons_of_mem _ hx)
theorem nodes_mem {ts : List TT} {x : TT} (h : x ∈ nodesL ts) : ∃ t ∈ ts, x ∈ t.nodes := by
  induction ts with
  | nil => rw [nodesL] at h; cases h
  | cons y ts ih =>
    rw [nodesL] at h
    rcases List.mem_append.1 h with h | h
    · exact ⟨y, by simp, h⟩
    · obtain ⟨t, ht, hx⟩ := ih h
      exact ⟨t, List.mem_cons_of_mem _ ht, hx⟩

/-- what one tree itself names lies in blocks of S -/
structure TT.inS (S : Nat → Prop) (w : World) (t : TT) : Prop where
  tag : t.tag.inS S w
  text : t.text.inS S w
  att : LiesS S w t.A (atCells t.atts)
  an : t.atts.length = t.n
  ac : t.A = none → t.c = 0
  am : t.n ≤ 1048576
  atts : ∀ a ∈ t.atts, a.inS S w
  kid : LiesS S w t.K (treeCells t.kids)
  kn : t.kids.length = t.kn
  kc : t.K = none → t.kc = 0
  km : t.kn ≤ 1048576
theorem TT.inS.keep {S : Nat → Prop} {w w' : World} {t : TT} (h : t.inS S w) (hk : Stays S w w') : t.inS S w' :=
  ⟨h.tag.keep hk, h.text.keep hk, h.att.keep hk, h.an, h.ac, h.am, fun a ha => (h.atts a ha).keep hk, h.kid.keep hk, h.kn, h.kc, h.km⟩
theorem TT.inS.mono {S S' : Nat → Prop} {w : World} {t : TT} (h : t.inS S w) (hS : ∀ b, S b → b < w.heap.size → S' b) : t.inS S' w :=
  ⟨h.tag.mono hS, h.text.mono hS, h.att.mono hS, h.an, h.ac, h.am, fun a ha => (h.atts a ha).mono hS, h.kid.mono hS, h.kn, h.kc, h.km⟩
/-- all that the trees reach lies in blocks of S -/
def AllS (S : Nat → Prop) (w : World) (ts : List TT) : Prop := ∀ x ∈ nodesL ts, x.inS S w
theorem AllS.keep {S : Nat → Prop} {w w' : World} {ts : List TT} (h : AllS S w ts) (hk : Stays S w w') : AllS S w' ts := fun x hx => (h x hx).keep hk
theorem AllS.mono {S S' : Nat → Prop} {w : World} {ts : List TT} (h : AllS S w ts) (hS : ∀ b, S b → b < w.heap.size → S' b) : AllS S' w ts := fun x hx => (h x hx).mono hS
theorem AllS.nil (S : Nat → Prop) (w : World) : AllS S w [] := fun x hx => by rw [nodesL] at hx; cases hx
theorem AllS.get {S : Nat → Prop} {w : World} {ts : List TT} (h : AllS S w ts) {t : TT} (ht : t ∈ ts) : t.inS S w := h t (mem_self ht)
theorem AllS.kids {S : Nat → Prop} {w : World} {ts : List TT} (h : AllS S w ts) {t : TT} (ht : t ∈ ts) : AllS S w t.kids := fun x hx => h x (mem_kids ht hx)
theorem AllS.append {S : Nat → Prop} {w : World} {ts us : List TT} (h : AllS S w ts) (h2 : AllS S w us) : AllS S w (ts ++ us) := by
  intro x hx
  rw [nodesL_append] at hx
  rcases List.mem_append.1 hx with hx | hx
  · exact h x hx
  · exact h2 x hx
theorem AllS.one {S : Nat → Prop} {w : World} {t : TT} (h : t.inS S w) (hk : AllS S w t.kids) : AllS S w [t] := by
  intro x hx
  rw [nodesL_one, TT.nodes_eq] at hx
  rcases List.mem_cons.1 hx with rfl | hx
  · exact h
  · exact hk x hx
theorem AllS.sub {S : Nat → Prop} {w : World} {ts us : List TT} (h : AllS S w ts) (hs : ∀ t ∈ us, t ∈ ts) : AllS S w us := by
  intro x hx
  obtain ⟨t, ht, hx⟩ := nodes_mem hx
  exact h x (mem_nodes (hs t ht) hx)

theorem treeCells_length (ts : List TT) : (treeCells ts).length = ts.length * 6 := by
  induction ts with
  | nil => rfl
  | cons r l ih => simp only [treeCells, treeRow, List.flatMap_cons, List.length_append, List.length_cons, List.length_nil] at ih ⊢; omega
theorem treeCells_snoc (ts : List TT) (t : TT) : treeCells (ts ++ [t]) = treeCells ts ++ treeRow t := by simp [treeCells]
theorem treeCells_append (ts us : List TT) : treeCells (ts ++ us) = treeCells ts ++ treeCells us := by simp [treeCells]
theorem treeRow_one (t : TT) : ∀ u ∈ treeRow t, u.oneCell' = true := by simp [Value.oneCell', treeRow]
theorem treeCells_one (ts : List TT) : ∀ u ∈ treeCells ts, u.oneCell' = true := by
  intro u hu
  unfold treeCells at hu
  rw [List.mem_flatMap] at hu
  obtain ⟨t, _, h⟩ := hu
  exact treeRow_one t u h
theorem treeCells_at (ts : List TT) (k : Nat) (t : TT) (h : ts[k]? = some t) (j : Nat) (hj : j < 6) : (treeCells ts)[k * 6 + j]? = (treeRow t)[j]? := by
  induction ts generalizing k with
  | nil => simp at h
  | cons x ts ih =>
    have e : treeCells (x :: ts) = treeRow x ++ treeCells ts := rfl
    rw [e]
    have hl : (treeRow x).length = 6 := rfl
    cases k with
    | zero =>
      simp at h
      subst h
      rw [Nat.zero_mul, Nat.zero_add, List.getElem?_append_left (by omega)]
    | succ k =>
      rw [List.getElem?_append_right (by omega), hl]
      have : (k + 1) * 6 + j - 6 = k * 6 + j := by omega
      rw [this]
      exact ih k (by simpa using h)
theorem treeCells_set (ts : List TT) (k : Nat) (t : TT) (h : k < ts.length) :
    ((((((treeCells ts).set (k * 6) (.string t.tag.s)).set (k * 6 + 1) (.slice t.tag.A t.tag.n t.tag.c)).set (k * 6 + 2) (.slice t.A t.n t.c)).set (k * 6 + 3) (.slice t.K t.kn t.kc)).set (k * 6 + 4) (.string t.text.s)).set (k * 6 + 5) (.slice t.text.A t.text.n t.text.c) = treeCells (ts.set k t) := by
  induction ts generalizing k with
  | nil => simp at h
  | cons x ts ih =>
    have e : treeCells (x :: ts) = treeRow x ++ treeCells ts := rfl
    cases k with
    | zero => rw [List.set_cons_zero]; rfl
    | succ k =>
      rw [List.set_cons_succ]
      have e2 : treeCells (x :: ts.set k t) = treeRow x ++ treeCells (ts.set k t) := rfl
      rw [e, e2, ← ih k (by simpa using h)]
      have hl : (treeRow x).length = 6 := rfl
      have e3 : ∀ (l : List Value) (j : Nat) (u : Value), (treeRow x ++ l).set ((k + 1) * 6 + j) u = treeRow x ++ l.set (k * 6 + j) u := by
        intro l j u
        rw [List.set_append, if_neg (by omega), hl]
        congr 2
        omega
      have e4 : ∀ (l : List Value) (u : Value), (treeRow x ++ l).set ((k + 1) * 6) u = treeRow x ++ l.set (k * 6) u := fun l u => e3 l 0 u
      rw [e4, e3, e3, e3, e3, e3]
theorem addr_nexts5 (ad : Addr) (k : Nat) : ad.add (k + 4) = ⟨(ad.add k).block, (ad.add k).off + 4, none⟩ ∧ ad.add (k + 5) = ⟨(ad.add k).block, (ad.add k).off + 5, none⟩ := by
  obtain ⟨e1, e2, e3⟩ := addr_nexts ad k
  have e4 : ad.add (k + 4) = ⟨(ad.add k).block, (ad.add k).off + 4, none⟩ := by rw [addr_next ad (k + 3), e3]
  exact ⟨e4, by rw [addr_next ad (k + 4), e4]⟩
/-- tree k of a row: its six cells, as the walk spells them -/
theorem Lies.tree {w : World} {B : Nat} {A : Option Addr} {ts : List TT} (h : Lies w B A (treeCells ts)) {k : Nat} (hk : k < ts.length) :
    ∃ ad t, A = some ad ∧ ad.block < B ∧ w.cell? (ad.add (k * 6)) = some (.string t.tag.s) ∧ w.cell? ⟨(ad.add (k * 6)).block, (ad.add (k * 6)).off + 1, none⟩ = some (.slice t.tag.A t.tag.n t.tag.c) ∧
      w.cell? ⟨(ad.add (k * 6)).block, (ad.add (k * 6)).off + 2, none⟩ = some (.slice t.A t.n t.c) ∧ w.cell? ⟨(ad.add (k * 6)).block, (ad.add (k * 6)).off + 3, none⟩ = some (.slice t.K t.kn t.kc) ∧
      w.cell? ⟨(ad.add (k * 6)).block, (ad.add (k * 6)).off + 4, none⟩ = some (.string t.text.s) ∧ w.cell? ⟨(ad.add (k * 6)).block, (ad.add (k * 6)).off + 5, none⟩ = some (.slice t.text.A t.text.n t.text.c) ∧ Hid (ts[k]? = some t) := by
  have ht : ts[k]? = some ts[k] := List.getElem?_eq_getElem hk
  generalize ts[k] = t at ht
  have key : ∀ j u, j < 6 → (treeRow t)[j]? = some u → ∃ ad, A = some ad ∧ ad.block < B ∧ w.cell? (ad.add (k * 6 + j)) = some u := fun j u hj hu => h _ _ ((treeCells_at ts k t ht j hj).trans hu)
  obtain ⟨ad, e, hb, h0⟩ := key 0 _ (by omega) rfl
  subst e
  have key' : ∀ j u, j < 6 → (treeRow t)[j]? = some u → w.cell? (ad.add (k * 6 + j)) = some u := by
    intro j u hj hu
    obtain ⟨ad', e, _, hc⟩ := key j u hj hu
    injection e with e
    subst e
    exact hc
  obtain ⟨e1, e2, e3⟩ := addr_nexts ad (k * 6)
  obtain ⟨e4, e5⟩ := addr_nexts5 ad (k * 6)
  exact ⟨ad, t, rfl, hb, h0, by rw [← e1]; exact key' 1 _ (by omega) rfl, by rw [← e2]; exact key' 2 _ (by omega) rfl, by rw [← e3]; exact key' 3 _ (by omega) rfl, by rw [← e4]; exact key' 4 _ (by omega) rfl, by rw [← e5]; exact key' 5 _ (by omega) rfl, ht⟩

/-- a list of trees that is told: its row in memory of its own, all else in blocks of S -/
def TellsT (S : Nat → Prop) (qs : List PT) (w : World) (e : Ending) (w' : World) : Prop :=
  ∃ A c ts, e = .returned (.slice A ts.length c) ∧ w'.ownsRow w.heap.size 28 6 (.slice A ts.length c) ts.length (treeCells ts) ∧ AllS S w' ts ∧ chL ts = qs ∧ Below w.heap.size w w'
theorem tree_info : (Try.prog.info? 28).map (fun i => (i.zero, i.size, i.bytes)) = some (some (.agg #[.string ⟨#[]⟩, .slice none 0 0, .slice none 0 0, .slice none 0 0, .string ⟨#[]⟩, .slice none 0 0]), 6, 128) := by kernel_rfl

end Go.Proofs.Ytkfbpigmchedeaa.mk

namespace Go.Proofs.Ytkfbpigmchedeaa.mk
open Go.RowKit

/-- what comes in: it lies below, and is not too large -/
structure TreesIn0 (w : World) (A : Option Addr) (n : Nat) (ts : List TT) : Prop where
  lies : LiesS (fun b => b < w.heap.size) w A (treeCells ts)
  all : AllS (fun b => b < w.heap.size) w ts
  len : ts.length = n
  bulk : bkL (chL ts) ≤ 1048576
theorem TreesIn0.next {w w' : World} {A : Option Addr} {n : Nat} {ts : List TT} (h : TreesIn0 w A n ts) (hb : Below w.heap.size w w') : TreesIn0 w' A n ts :=
  ⟨(h.lies.keep (Stays.of hb)).mono fun _ hb2 _ => Nat.lt_of_lt_of_le hb2 hb.size, (h.all.keep (Stays.of hb)).mono fun _ hb2 _ => Nat.lt_of_lt_of_le hb2 hb.size, h.len, h.bulk⟩
theorem TreesIn0.small {w : World} {A : Option Addr} {n : Nat} {ts : List TT} (h : TreesIn0 w A n ts) : n ≤ 1048576 := by
  have h1 := bkL_len (chL ts)
  rw [chL_length, h.len] at h1
  exact Nat.le_trans h1 h.bulk

theorem TreesIn0.kid {w : World} {A : Option Addr} {n : Nat} {ts : List TT} (h : TreesIn0 w A n ts) {x : TT} (hx : x ∈ ts) : TreesIn0 w x.K x.kn x.kids := by
  have h1 := h.all.get hx
  refine ⟨h1.kid, h.all.kids hx, h1.kn, ?_⟩
  have h2 : x.ch ∈ chL ts := by rw [chL_map]; exact List.mem_map.2 ⟨x, hx, rfl⟩
  have h3 := bkL_kids h2
  rw [TT.ch_kids] at h3
  have := h.bulk
  omega

/-- a text as a tree -/
def noT : LT := ⟨⟨#[]⟩, none, 0, 0, []⟩
def txT1 (t : LT) : TT := ⟨noT, none, 0, 0, [], none, 0, 0, [], t⟩
theorem noT_ch : noT.ch = [] := by rfl
theorem txT1_ch (t : LT) : (txT1 t).ch = txT t.ch := by rw [TT.ch_eq]; show (⟨noT.ch, [], chL [], t.ch⟩ : PT) = _; rw [noT_ch, chL]; rfl
theorem noT_in (S : Nat → Prop) (w : World) : noT.inS S w := ⟨LiesS.nil _ _ _, rfl, Nat.zero_le _, Nat.zero_le _⟩
theorem txT1_in {S : Nat → Prop} {w : World} {t : LT} (h : t.inS S w) : (txT1 t).inS S w :=
  ⟨noT_in S w, h, LiesS.nil _ _ _, rfl, fun _ => rfl, Nat.zero_le _, (fun a ha => by cases ha), LiesS.nil _ _ _, rfl, fun _ => rfl, Nat.zero_le _⟩
theorem ch_bytes {t : LT} {l : List UInt8} (h : t.s.data.toList = l) : t.ch.map (·.1) = l := by rw [LT.ch_fst]; exact h


end Go.Proofs.Ytkfbpigmchedeaa.mk
