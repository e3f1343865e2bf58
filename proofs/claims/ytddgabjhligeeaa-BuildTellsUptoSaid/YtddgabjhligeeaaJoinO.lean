/-
  Trees that come in: a bundle; a text as a tree.
-/
import Derived.Test.YtddgabjhligeeaaJoinN
import Derived.Test.YtddgabjhligeeaaJoinL
import Derived.Test.YtddgabjhligeeaaJoinM
import Derived.Test.YtddgabjhligeeaaJoinD
namespace Go.Proofs.Ytddgabjhligeeaa.mk
open Go.RowKit

def txtOf (l : List (UInt8 × Int)) : ByteArray := ⟨(l.map (·.1)).toArray⟩
def runN (l : List (UInt8 × Int)) : Nat := (comp (l.map (·.2))).length
def TellsL (l : List (UInt8 × Int)) (W : World) (e : Ending) (w' : World) : Prop :=
  ∃ D k, e = .returned (.agg #[.string (txtOf l), .slice D (runN l) k]) ∧ Lies w' w'.heap.size D (runCells (comp (l.map (·.2)))) ∧ Below W.heap.size W w'
def RowL (l : List (UInt8 × Int)) (n : Nat) (W : World) (e : Ending) (w' : World) : Prop :=
  ∃ D k, e = .returned (.slice D n k) ∧ Lies w' w'.heap.size D (chCells l) ∧ Below W.heap.size W w'
def SaysB (V : Value) (W : World) (e : Ending) (w' : World) : Prop := e = .returned V ∧ Below W.heap.size W w'
theorem tellsL_of {l : List (UInt8 × Int)} {W : World} {e : Ending} {w' : World} (h : Tells ⟨(l.map (·.1)).toArray⟩ (comp (l.map (·.2))) W e w') : TellsL l W e w' := by
  obtain ⟨v, rfl, ho, hb⟩ := h
  obtain ⟨D, k, rfl, _, _, _⟩ := own_form ho
  exact ⟨D, k, rfl, Lies.own ho, hb⟩
theorem rowL_of {l : List (UInt8 × Int)} {W : World} {e : Ending} {w' : World} (h : ∃ v, e = .returned v ∧ w'.ownsRow W.heap.size 74 2 v l.length (chCells l) ∧ Below W.heap.size W w') : RowL l l.length W e w' := by
  obtain ⟨v, rfl, ho, hb⟩ := h
  obtain ⟨D, k, rfl, _, _, _⟩ := own_form ho
  exact ⟨D, k, rfl, Lies.own ho, hb⟩

theorem runN_le (l : List (UInt8 × Int)) : runN l ≤ l.length := by
  have := comp_length_le (l.map (·.2))
  rw [List.length_map] at this
  exact this
end Go.Proofs.Ytddgabjhligeeaa.mk

namespace Go.Proofs.Ytddgabjhligeeaa.mk
open Go.RowKit

def LT.ch (t : LT) : List (UInt8 × Int) := chars t.bs t.rs
theorem LT.ch_length (t : LT) : t.ch.length = t.s.size := by unfold LT.ch; rw [chars_length, LT.bs_length]
theorem LT.ch_fst (t : LT) : t.ch.map (·.1) = t.bs := chars_fst _ _
theorem LT.ch_snd (t : LT) : t.ch.map (·.2) = t.os := by unfold LT.ch; rw [chars_snd, LT.bs_length]; rfl
theorem txtOf_size (l : List (UInt8 × Int)) : (txtOf l).size = l.length := by show (l.map (·.1)).toArray.size = _; simp
theorem txtOf_chars {l : List (UInt8 × Int)} (h : InR l) : chars (txtOf l).data.toList (comp (l.map (·.2))) = l := chars_told h

/-- a labelled text that was told -/
def toldT (l : List (UInt8 × Int)) (D : Option Addr) (k : Nat) : LT := ⟨txtOf l, D, runN l, k, comp (l.map (·.2))⟩
theorem toldT_ch {l : List (UInt8 × Int)} (h : InR l) (D : Option Addr) (k : Nat) : (toldT l D k).ch = l := txtOf_chars h
theorem toldT_ok {l : List (UInt8 × Int)} {D : Option Addr} {W : World} (k : Nat) (h : Lies W W.heap.size D (runCells (comp (l.map (·.2))))) (hn : l.length ≤ 4294967296) : (toldT l D k).ok W W.heap.size :=
  ⟨h, rfl, Nat.le_trans (runN_le l) hn, by show (txtOf l).size ≤ _; rw [txtOf_size]; exact hn⟩
theorem LT.ch_in (t : LT) : InR t.ch := InR.chars _ _
end Go.Proofs.Ytddgabjhligeeaa.mk

namespace Go.Proofs.Ytddgabjhligeeaa.mk
open Go.RowKit

/-- bytes with their origins: of a name, and of a value -/
abbrev Ch := List (UInt8 × Int)
abbrev PA := Ch × Ch
def nmB (p : PA) : List UInt8 := p.1.map (·.1)
/-- the first place of a name; the length if there is none -/
def placeN (L : List PA) (nm : List UInt8) : Nat := L.findIdx (fun p => nmB p == nm)
/-- the first of a name -/
def getA (L : List PA) (nm : List UInt8) : Option PA := L[placeN L nm]?
def isI (f : PA → Bool) (L : List PA) (i : Nat) : Bool := match L[i]? with | some p => f p | none => false
/-- those at the places that are wanted, of the first so many -/
def selTo (p : Nat → Bool) (L : List PA) : Nat → List PA
  | 0 => []
  | k + 1 => selTo p L k ++ (if p k then (L[k]?).toList else [])
def sel (p : Nat → Bool) (L : List PA) : List PA := selTo p L L.length
def putA (L : List PA) (a : PA) : List PA := if placeN L (nmB a) < L.length then L.set (placeN L (nmB a)) a else L ++ [a]
def dropP (L : List PA) (nm : List UInt8) : Nat → Bool := isI (fun p => !(nmB p == nm)) L
def onceP (L : List PA) (i : Nat) : Bool := isI (fun p => placeN L (nmB p) == i) L i
def dropA (L : List PA) (nm : List UInt8) : List PA := sel (dropP L nm) L
def onceA (L : List PA) : List PA := sel (onceP L) L
/-- has x to be put, where a holds A? -/
def putP (A : List PA) : PA → Bool := fun x => !(getA A (nmB x) == some x)
def chgPut (A B : List PA) : List PA := sel (isI (putP A) B) B
def chgDrop (A B : List PA) : List PA := sel (isI (fun x => (getA B (nmB x)).isNone) A) A

theorem placeN_le (L : List PA) (nm : List UInt8) : placeN L nm ≤ L.length := List.findIdx_le_length
theorem placeN_hit {L : List PA} {nm : List UInt8} (h : placeN L nm < L.length) : ∃ p, L[placeN L nm]? = some p ∧ nmB p = nm := by
  refine ⟨_, List.getElem?_eq_getElem h, ?_⟩
  have := List.findIdx_getElem (w := h) (p := fun p => nmB p == nm)
  exact beq_iff_eq.1 this
theorem placeN_lt {L : List PA} {nm : List UInt8} {i : Nat} {p : PA} (h : i < placeN L nm) (hp : L[i]? = some p) : nmB p ≠ nm := by
  have := List.not_of_lt_findIdx h
  obtain ⟨hi, e⟩ := List.getElem?_eq_some_iff.1 hp
  rw [e] at this
  exact beq_eq_false_iff_ne.1 this
theorem placeN_of {L : List PA} {nm : List UInt8} {i : Nat} {p : PA} (hp : L[i]? = some p) (hn : nmB p = nm) (hb : ∀ (j : Nat) (q : PA), j < i → L[j]? = some q → nmB q ≠ nm) : placeN L nm = i := by
  obtain ⟨hi, e⟩ := List.getElem?_eq_some_iff.1 hp
  rcases Nat.lt_trichotomy (placeN L nm) i with h | h | h
  · obtain ⟨q, hq, hqn⟩ := placeN_hit (Nat.lt_trans h hi)
    exact absurd hqn (hb _ _ h hq)
  · exact h
  · exact absurd hn (placeN_lt h hp)
theorem placeN_none {L : List PA} {nm : List UInt8} (hb : ∀ (j : Nat) (q : PA), L[j]? = some q → nmB q ≠ nm) : placeN L nm = L.length := by
  rcases Nat.lt_or_ge (placeN L nm) L.length with h | h
  · obtain ⟨q, hq, hqn⟩ := placeN_hit h
    exact absurd hqn (hb _ _ hq)
  · exact Nat.le_antisymm (placeN_le _ _) h
theorem placeN_some {L : List PA} {nm : List UInt8} {i : Nat} {p : PA} (hp : L[i]? = some p) (hn : nmB p = nm) : placeN L nm ≤ i := by
  rcases Nat.lt_or_ge i (placeN L nm) with h | h
  · exact absurd hn (placeN_lt h hp)
  · exact h

theorem getA_nm {L : List PA} {nm : List UInt8} {p : PA} (h : getA L nm = some p) : nmB p = nm := by
  have hl := (List.getElem?_eq_some_iff.1 h).1
  obtain ⟨q, hq, hn⟩ := placeN_hit hl
  unfold getA at h
  rw [hq] at h
  injection h with h
  rw [← h]; exact hn
theorem getA_none {L : List PA} {nm : List UInt8} (h : getA L nm = none) : ∀ (j : Nat) (q : PA), L[j]? = some q → nmB q ≠ nm := by
  intro j q hq hn
  have h1 := placeN_some hq hn
  have h2 := (List.getElem?_eq_some_iff.1 hq).1
  unfold getA at h
  rw [List.getElem?_eq_none_iff] at h
  omega
theorem getA_eq_none {L : List PA} {nm : List UInt8} (h : ∀ (j : Nat) (q : PA), L[j]? = some q → nmB q ≠ nm) : getA L nm = none := by
  unfold getA
  rw [placeN_none h]
  exact List.getElem?_eq_none (Nat.le_refl _)
theorem getA_of {L : List PA} {nm : List UInt8} {i : Nat} {p : PA} (hp : L[i]? = some p) (hn : nmB p = nm) (hb : ∀ (j : Nat) (q : PA), j < i → L[j]? = some q → nmB q ≠ nm) : getA L nm = some p := by
  unfold getA
  rw [placeN_of hp hn hb]
  exact hp
theorem getA_append (L M : List PA) (nm : List UInt8) : getA (L ++ M) nm = (getA L nm).or (getA M nm) := by
  cases h : getA L nm with
  | some p =>
    have hl := (List.getElem?_eq_some_iff.1 h).1
    refine getA_of (i := placeN L nm) ?_ (getA_nm h) ?_
    · rw [List.getElem?_append_left hl]; exact h
    · intro j q hj hq
      rw [List.getElem?_append_left (by omega)] at hq
      exact placeN_lt hj hq
  | none =>
    have hn := getA_none h
    simp only [Option.none_or]
    cases h2 : getA M nm with
    | some p =>
      have hl := (List.getElem?_eq_some_iff.1 h2).1
      refine getA_of (i := L.length + placeN M nm) ?_ (getA_nm h2) ?_
      · rw [List.getElem?_append_right (by omega), Nat.add_sub_cancel_left]; exact h2
      · intro j q hj hq
        rcases Nat.lt_or_ge j L.length with h3 | h3
        · rw [List.getElem?_append_left h3] at hq; exact hn _ _ hq
        · rw [List.getElem?_append_right h3] at hq
          exact placeN_lt (by omega) hq
    | none =>
      have hm := getA_none h2
      refine getA_eq_none fun j q hq => ?_
      rcases Nat.lt_or_ge j L.length with h3 | h3
      · rw [List.getElem?_append_left h3] at hq; exact hn _ _ hq
      · rw [List.getElem?_append_right h3] at hq; exact hm _ _ hq
theorem getA_nil (nm : List UInt8) : getA [] nm = none := rfl
theorem getA_one (p : PA) (nm : List UInt8) : getA [p] nm = if nmB p = nm then some p else none := by
  by_cases h : nmB p = nm
  · rw [if_pos h]
    exact getA_of (i := 0) rfl h (fun j q hj => by omega)
  · rw [if_neg h]
    refine getA_eq_none fun j q hq => ?_
    cases j with
    | zero => injection hq with hq; rw [← hq]; exact h
    | succ j => cases hq

theorem isI_at {f : PA → Bool} {L : List PA} {i : Nat} {p : PA} (h : L[i]? = some p) : isI f L i = f p := by unfold isI; rw [h]
theorem selTo_next {p : Nat → Bool} {L : List PA} {k : Nat} {x : PA} (h : L[k]? = some x) : selTo p L (k + 1) = selTo p L k ++ (if p k then [x] else []) := by
  show selTo p L k ++ (if p k then (L[k]?).toList else []) = _
  rw [h]
  rfl
theorem selTo_len (p : Nat → Bool) (L : List PA) (k : Nat) : (selTo p L k).length ≤ k := by
  induction k with
  | zero => exact Nat.le_refl _
  | succ k ih =>
    unfold selTo
    rw [List.length_append]
    split
    · cases L[k]? <;> simp <;> omega
    · simp; omega
theorem sel_len (p : Nat → Bool) (L : List PA) : (sel p L).length ≤ L.length := selTo_len _ _ _
theorem selTo_mem {p : Nat → Bool} {L : List PA} {k : Nat} {x : PA} (h : x ∈ selTo p L k) : ∃ i, i < k ∧ p i = true ∧ L[i]? = some x := by
  induction k with
  | zero => cases h
  | succ k ih =>
    unfold selTo at h
    rcases List.mem_append.1 h with h | h
    · obtain ⟨i, h1, h2, h3⟩ := ih h
      exact ⟨i, by omega, h2, h3⟩
    · split at h
      · rename_i hp
        rw [Option.mem_toList] at h
        exact ⟨k, by omega, hp, h⟩
      · cases h
theorem mem_selTo {p : Nat → Bool} {L : List PA} {k i : Nat} {x : PA} (hi : i < k) (hp : p i = true) (hx : L[i]? = some x) : x ∈ selTo p L k := by
  induction k with
  | zero => omega
  | succ k ih =>
    unfold selTo
    rcases Nat.lt_or_ge i k with h | h
    · exact List.mem_append_left _ (ih h)
    · obtain rfl : i = k := by omega
      refine List.mem_append_right _ ?_
      rw [if_pos hp, hx]
      simp
theorem mem_sel {p : Nat → Bool} {L : List PA} {i : Nat} {x : PA} (hp : p i = true) (hx : L[i]? = some x) : x ∈ sel p L := mem_selTo (List.getElem?_eq_some_iff.1 hx).1 hp hx
theorem getA_selTo (p : Nat → Bool) (L : List PA) (k : Nat) (nm : List UInt8) : getA (selTo p L (k + 1)) nm = (getA (selTo p L k) nm).or (getA (if p k then (L[k]?).toList else []) nm) := getA_append _ _ _

theorem getA_once_to (L : List PA) (nm : List UInt8) (k : Nat) (hk : k ≤ L.length) : getA (selTo (onceP L) L k) nm = if placeN L nm < k then getA L nm else none := by
  induction k with
  | zero => rw [if_neg (by omega)]; rfl
  | succ k ih =>
    rw [getA_selTo, ih (by omega)]
    have hx : L[k]? = some (L[k]'(by omega)) := List.getElem?_eq_getElem _
    generalize L[k]'(by omega) = x at hx
    rw [hx]
    by_cases h : placeN L nm < k
    · rw [if_pos h, if_pos (show placeN L nm < k + 1 by omega)]
      unfold getA
      rw [List.getElem?_eq_getElem (show placeN L nm < L.length by omega)]
      rfl
    · rw [if_neg h, Option.none_or]
      have hp : onceP L k = (placeN L (nmB x) == k) := isI_at hx
      rw [hp]
      by_cases h2 : placeN L nm = k
      · rw [if_pos (show placeN L nm < k + 1 by omega)]
        obtain ⟨y, hy, hyn⟩ := placeN_hit (L := L) (nm := nm) (by omega)
        rw [h2, hx] at hy
        injection hy with hy
        subst hy
        have hk2 : placeN L (nmB x) = k := by rw [hyn]; exact h2
        rw [hk2, beq_self_eq_true, if_pos rfl, Option.toList_some, getA_one, if_pos hyn]
        unfold getA
        rw [h2, hx]
      · rw [if_neg (show ¬ placeN L nm < k + 1 by omega)]
        by_cases h3 : placeN L (nmB x) = k
        · rw [h3, beq_self_eq_true, if_pos rfl, Option.toList_some, getA_one, if_neg]
          intro e
          rw [e] at h3
          exact h2 h3
        · rw [beq_eq_false_iff_ne.2 h3, if_neg (by simp), getA_nil]
theorem getA_once (L : List PA) (nm : List UInt8) : getA (onceA L) nm = getA L nm := by
  unfold onceA sel
  rw [getA_once_to L nm _ (Nat.le_refl _)]
  split
  · rfl
  · rename_i h
    unfold getA
    rw [List.getElem?_eq_none (by omega)]
theorem getA_drop_to (L : List PA) (d nm : List UInt8) (k : Nat) (hk : k ≤ L.length) : getA (selTo (dropP L d) L k) nm = if nm = d then none else if placeN L nm < k then getA L nm else none := by
  induction k with
  | zero => rw [if_neg (by omega : ¬ placeN L nm < 0)]; split <;> rfl
  | succ k ih =>
    rw [getA_selTo, ih (by omega)]
    have hx : L[k]? = some (L[k]'(by omega)) := List.getElem?_eq_getElem _
    generalize L[k]'(by omega) = x at hx
    rw [hx]
    have hp : dropP L d k = !(nmB x == d) := isI_at hx
    rw [hp]
    by_cases hd : nm = d
    · rw [if_pos hd, if_pos hd, Option.none_or]
      cases hb : nmB x == d with
      | true => rfl
      | false =>
        have := beq_eq_false_iff_ne.1 hb
        rw [Bool.not_false, if_pos rfl, Option.toList_some, getA_one, if_neg (by rw [hd]; exact this)]
    · rw [if_neg hd, if_neg hd]
      by_cases h : placeN L nm < k
      · rw [if_pos h, if_pos (show placeN L nm < k + 1 by omega)]
        unfold getA
        rw [List.getElem?_eq_getElem (show placeN L nm < L.length by omega)]
        rfl
      · rw [if_neg h, Option.none_or]
        by_cases h2 : placeN L nm = k
        · rw [if_pos (show placeN L nm < k + 1 by omega)]
          obtain ⟨y, hy, hyn⟩ := placeN_hit (L := L) (nm := nm) (by omega)
          rw [h2, hx] at hy
          injection hy with hy
          subst hy
          have hne : (nmB x == d) = false := beq_eq_false_iff_ne.2 (by rw [hyn]; exact hd)
          rw [hne, Bool.not_false, if_pos rfl, Option.toList_some, getA_one, if_pos hyn]
          unfold getA
          rw [h2, hx]
        · rw [if_neg (show ¬ placeN L nm < k + 1 by omega)]
          have hxn : nmB x ≠ nm := by
            intro e
            have := placeN_some hx e
            omega
          cases (!(nmB x == d)) with
          | true => rw [if_pos rfl, Option.toList_some, getA_one, if_neg hxn]
          | false => rfl
theorem getA_drop (L : List PA) (d nm : List UInt8) : getA (dropA L d) nm = if nm = d then none else getA L nm := by
  unfold dropA sel
  rw [getA_drop_to L d nm _ (Nat.le_refl _)]
  split
  · rfl
  · split
    · rfl
    · rename_i h
      unfold getA
      rw [List.getElem?_eq_none (by omega)]
theorem getA_put (L : List PA) (a : PA) (nm : List UInt8) : getA (putA L a) nm = if nm = nmB a then some a else getA L nm := by
  unfold putA
  split
  · rename_i h
    obtain ⟨q, hq, hqn⟩ := placeN_hit h
    by_cases hn : nm = nmB a
    · subst hn
      rw [if_pos rfl]
      refine getA_of (i := placeN L (nmB a)) (by rw [List.getElem?_set_self h]) rfl ?_
      intro j x hj hx
      rw [List.getElem?_set_ne (by omega)] at hx
      exact placeN_lt hj hx
    · rw [if_neg hn]
      have key : ∀ (j : Nat) (x : PA), (L.set (placeN L (nmB a)) a)[j]? = some x → nmB x = nm → L[j]? = some x := by
        intro j x hx hxn
        by_cases hj : j = placeN L (nmB a)
        · subst hj
          rw [List.getElem?_set_self h] at hx
          injection hx with hx
          subst hx
          exact absurd hxn.symm hn
        · rw [List.getElem?_set_ne (Ne.symm hj)] at hx; exact hx
      cases h2 : getA L nm with
      | none => exact getA_eq_none fun j x hx hxn => getA_none h2 _ _ (key j x hx hxn) hxn
      | some p =>
        have hpn := getA_nm h2
        have hne : placeN L (nmB a) ≠ placeN L nm := by
          intro e
          unfold getA at h2
          rw [← e, hq] at h2
          injection h2 with h2
          rw [h2] at hqn
          exact hn (hpn ▸ hqn)
        refine getA_of (i := placeN L nm) (by rw [List.getElem?_set_ne hne]; exact h2) hpn ?_
        intro j x hj hx hxn
        exact placeN_lt hj (key j x hx hxn) hxn
  · rename_i h
    rw [getA_append, getA_one]
    by_cases hn : nm = nmB a
    · subst hn
      rw [if_pos rfl, if_pos rfl]
      have : getA L (nmB a) = none := by unfold getA; exact List.getElem?_eq_none (by omega)
      rw [this]; rfl
    · rw [if_neg hn, if_neg (Ne.symm hn), Option.or_none]
theorem mem_once {L : List PA} {x : PA} (h : x ∈ onceA L) : getA L (nmB x) = some x := by
  obtain ⟨i, _, hp, hx⟩ := selTo_mem h
  have hp' : (placeN L (nmB x) == i) = true := (isI_at (f := fun p => placeN L (nmB p) == i) hx).symm.trans hp
  unfold getA
  rw [beq_iff_eq.1 hp']
  exact hx
theorem once_mem {L : List PA} {nm : List UInt8} {x : PA} (h : getA L nm = some x) : x ∈ onceA L := by
  have hn := getA_nm h
  unfold getA at h
  refine mem_sel (i := placeN L nm) ?_ h
  unfold onceP
  rw [isI_at h, hn]
  simp

/-- what has to be put, and to be dropped, where both are once -/
def diffP (A B : List PA) : List PA := chgPut (onceA A) (onceA B)
def diffD (A B : List PA) : List PA := chgDrop (onceA A) (onceA B)
/-- Same -/
def sameA (A B : List PA) : Bool := (diffP A B).isEmpty && (diffD A B).isEmpty
theorem mem_sel_of {f : PA → Bool} {L : List PA} {x : PA} (h : x ∈ sel (isI f L) L) : x ∈ L ∧ f x = true := by
  obtain ⟨i, _, hp, hx⟩ := selTo_mem h
  rw [isI_at hx] at hp
  exact ⟨List.mem_of_getElem? hx, hp⟩
theorem sel_of_mem {f : PA → Bool} {L : List PA} {x : PA} (h : x ∈ L) (hf : f x = true) : x ∈ sel (isI f L) L := by
  obtain ⟨i, hi⟩ := List.mem_iff_getElem?.1 h
  exact mem_sel (by rw [isI_at hi]; exact hf) hi
theorem mem_diffP {A B : List PA} {x : PA} : x ∈ diffP A B ↔ getA B (nmB x) = some x ∧ getA A (nmB x) ≠ some x := by
  unfold diffP chgPut
  constructor
  · intro h
    obtain ⟨h1, h2⟩ := mem_sel_of h
    refine ⟨mem_once h1, ?_⟩
    unfold putP at h2
    rw [getA_once] at h2
    simpa using h2
  · rintro ⟨h1, h2⟩
    refine sel_of_mem (once_mem h1) ?_
    unfold putP
    rw [getA_once]
    simpa using h2
theorem mem_diffD {A B : List PA} {x : PA} : x ∈ diffD A B ↔ getA A (nmB x) = some x ∧ getA B (nmB x) = none := by
  unfold diffD chgDrop
  constructor
  · intro h
    obtain ⟨h1, h2⟩ := mem_sel_of h
    refine ⟨mem_once h1, ?_⟩
    rw [getA_once] at h2
    simpa using h2
  · rintro ⟨h1, h2⟩
    refine sel_of_mem (once_mem h1) ?_
    rw [getA_once, h2]
    rfl
theorem sameA_iff (A B : List PA) : sameA A B = true ↔ ∀ nm, getA A nm = getA B nm := by
  unfold sameA
  rw [Bool.and_eq_true, List.isEmpty_iff, List.isEmpty_iff]
  constructor
  · rintro ⟨h1, h2⟩ nm
    cases hb : getA B nm with
    | some x =>
      have hn := getA_nm hb
      apply Classical.byContradiction
      intro hne
      have : x ∈ diffP A B := mem_diffP.2 ⟨by rw [hn]; exact hb, by rw [hn]; exact hne⟩
      rw [h1] at this
      cases this
    | none =>
      cases ha : getA A nm with
      | none => rfl
      | some x =>
        have hn := getA_nm ha
        have : x ∈ diffD A B := mem_diffD.2 ⟨by rw [hn]; exact ha, by rw [hn]; exact hb⟩
        rw [h2] at this
        cases this
  · intro h
    refine ⟨List.eq_nil_iff_forall_not_mem.2 fun x hx => ?_, List.eq_nil_iff_forall_not_mem.2 fun x hx => ?_⟩
    · obtain ⟨h1, h2⟩ := mem_diffP.1 hx
      exact h2 (by rw [h]; exact h1)
    · obtain ⟨h1, h2⟩ := mem_diffD.1 hx
      rw [h, h2] at h1
      cases h1
theorem sameA_self (A : List PA) : sameA A A = true := (sameA_iff A A).2 fun _ => rfl
theorem sameA_comm (A B : List PA) : sameA A B = sameA B A := by
  rw [Bool.eq_iff_iff, sameA_iff, sameA_iff]
  exact ⟨fun h nm => (h nm).symm, fun h nm => (h nm).symm⟩

/-- all that has to be put, put -/
def putsA (L : List PA) (ps : List PA) : List PA := ps.foldl putA L
def dropsA (L : List PA) (ds : List (List UInt8)) : List PA := ds.foldl dropA L
theorem putsA_snoc (L ps : List PA) (x : PA) : putsA L (ps ++ [x]) = putA (putsA L ps) x := by unfold putsA; rw [List.foldl_append]; rfl
theorem dropsA_snoc (L : List PA) (ds : List (List UInt8)) (x : List UInt8) : dropsA L (ds ++ [x]) = dropA (dropsA L ds) x := by unfold dropsA; rw [List.foldl_append]; rfl
theorem getA_puts (L ps : List PA) (M : List PA) (h : ∀ x ∈ ps, getA M (nmB x) = some x) (nm : List UInt8) : getA (putsA L ps) nm = if nm ∈ ps.map nmB then getA M nm else getA L nm := by
  induction ps using snocInd with
  | nil => simp [putsA]
  | append_singleton ps x ih =>
    rw [putsA_snoc, getA_put, ih (fun y hy => h y (List.mem_append_left _ hy)), List.map_append]
    have hx := h x (by simp)
    by_cases hn : nm = nmB x
    · subst hn
      rw [if_pos rfl, if_pos (by simp), hx]
    · rw [if_neg hn]
      by_cases hm : nm ∈ ps.map nmB
      · rw [if_pos hm, if_pos (List.mem_append_left _ hm)]
      · rw [if_neg hm, if_neg]
        rw [List.mem_append]
        simp only [List.map_cons, List.map_nil, List.mem_singleton]
        rintro (h1 | h1)
        · exact hm h1
        · exact hn h1
theorem getA_drops (L : List PA) (ds : List (List UInt8)) (nm : List UInt8) : getA (dropsA L ds) nm = if nm ∈ ds then none else getA L nm := by
  induction ds using snocInd with
  | nil => simp [dropsA]
  | append_singleton ds x ih =>
    rw [dropsA_snoc, getA_drop, ih]
    by_cases hn : nm = x
    · subst hn
      rw [if_pos rfl, if_pos (by simp)]
    · rw [if_neg hn]
      by_cases hm : nm ∈ ds
      · rw [if_pos hm, if_pos (List.mem_append_left _ hm)]
      · rw [if_neg hm, if_neg]
        rw [List.mem_append]
        simp only [List.mem_singleton]
        rintro (h1 | h1)
        · exact hm h1
        · exact hn h1
/-- changes lead from the one to the other -/
theorem changed_same (A B : List PA) : sameA (dropsA (putsA (onceA A) (diffP A B)) ((diffD A B).map nmB)) B = true := by
  rw [sameA_iff]
  intro nm
  rw [getA_drops, getA_puts _ _ B (fun x hx => (mem_diffP.1 hx).1), getA_once]
  split
  · rename_i h
    obtain ⟨x, hx, rfl⟩ := List.mem_map.1 h
    rw [(mem_diffD.1 hx).2]
  · rename_i hd
    split
    · rfl
    · rename_i hp
      cases hb : getA B nm with
      | some x =>
        have hn := getA_nm hb
        apply Classical.byContradiction
        intro hne
        exact hp (List.mem_map.2 ⟨x, mem_diffP.2 ⟨by rw [hn]; exact hb, by rw [hn]; exact hne⟩, hn⟩)
      | none =>
        cases ha : getA A nm with
        | none => rfl
        | some x =>
          have hn := getA_nm ha
          exact absurd (List.mem_map.2 ⟨x, mem_diffD.2 ⟨by rw [hn]; exact ha, by rw [hn]; exact hb⟩, hn⟩) hd

end Go.Proofs.Ytddgabjhligeeaa.mk

namespace Go.Proofs.Ytddgabjhligeeaa.mk
open Go.RowKit

/-- a tree: an element, if its tag has bytes; else a text -/
structure PT where
  tag : Ch
  attrs : List PA
  kids : List PT
  text : Ch
def txT (c : Ch) : PT := ⟨[], [], [], c⟩

/-- one tree more, its kids merged, behind those that are merged -/
def addT (out : List PT) (t : PT) (ks : List PT) : List PT :=
  if t.tag ≠ [] then out ++ [⟨t.tag, onceA t.attrs, ks, []⟩]
  else if t.text = [] then out
  else match out.getLast? with
    | some x => if x.tag = [] then out.dropLast ++ [txT (x.text ++ t.text)] else out ++ [txT t.text]
    | none => out ++ [txT t.text]
mutual
def PT.mg : PT → List PT
  | ⟨_, _, kids, _⟩ => mgO [] kids
def mgO : List PT → List PT → List PT
  | out, [] => out
  | out, t :: ts => mgO (addT out t t.mg) ts
end
def mergeP (l : List PT) : List PT := mgO [] l

mutual
def PT.wt : PT → Nat
  | ⟨_, _, kids, _⟩ => 1 + wtL kids
def wtL : List PT → Nat
  | [] => 0
  | t :: ts => t.wt + wtL ts
end
mutual
def PT.deep : PT → Nat → Nat
  | ⟨tag, _, kids, _⟩, k => max (deepL kids (k + 1)) (if tag ≠ [] then k else 0)
def deepL : List PT → Nat → Nat
  | [], _ => 0
  | t :: ts, k => max (t.deep k) (deepL ts k)
end
mutual
def PT.words : PT → Ch
  | ⟨_, _, kids, text⟩ => text ++ wordsL kids
def wordsL : List PT → Ch
  | [] => []
  | t :: ts => t.words ++ wordsL ts
end
mutual
def PT.tags : PT → List (List UInt8)
  | ⟨tag, _, kids, _⟩ => (if tag ≠ [] then [tag.map (·.1)] else []) ++ tagsL kids
def tagsL : List PT → List (List UInt8)
  | [] => []
  | t :: ts => t.tags ++ tagsL ts
end
/-- names and values alike; with their origins, where they are not pale -/
def metA (pale : Bool) (p q : PA) : Bool := nmB p == nmB q && p.2.map (·.1) == q.2.map (·.1) && (pale || p == q)
mutual
def PT.same (pale : Bool) : PT → PT → Bool
  | ⟨tag, attrs, kids, text⟩, y =>
    tag.map (·.1) == y.tag.map (·.1) && text.map (·.1) == y.text.map (·.1) && attrs.length == y.attrs.length && sameL pale kids y.kids &&
      (pale || (tag == y.tag && text == y.text)) && attrs.all fun p => y.attrs.any fun q => metA pale p q
def sameL (pale : Bool) : List PT → List PT → Bool
  | [], [] => true
  | [], _ :: _ => false
  | _ :: _, [] => false
  | x :: xs, y :: ys => x.same pale y && sameL pale xs ys
end

theorem PT.eta (t : PT) : t = ⟨t.tag, t.attrs, t.kids, t.text⟩ := by cases t; rfl
theorem PT.mg_eq (t : PT) : t.mg = mergeP t.kids := by cases t; rw [PT.mg]; rfl
theorem PT.wt_eq (t : PT) : t.wt = 1 + wtL t.kids := by cases t; rw [PT.wt]
theorem PT.deep_eq (t : PT) (k : Nat) : t.deep k = max (deepL t.kids (k + 1)) (if t.tag ≠ [] then k else 0) := by cases t; rw [PT.deep]
theorem PT.words_eq (t : PT) : t.words = t.text ++ wordsL t.kids := by cases t; rw [PT.words]
theorem PT.tags_eq (t : PT) : t.tags = (if t.tag ≠ [] then [t.tag.map (·.1)] else []) ++ tagsL t.kids := by cases t; rw [PT.tags]
theorem PT.same_eq (pale : Bool) (x y : PT) : x.same pale y = (x.tag.map (·.1) == y.tag.map (·.1) && x.text.map (·.1) == y.text.map (·.1) && x.attrs.length == y.attrs.length && sameL pale x.kids y.kids &&
      (pale || (x.tag == y.tag && x.text == y.text)) && x.attrs.all fun p => y.attrs.any fun q => metA pale p q) := by cases x; rw [PT.same]

theorem mgO_append (ts us : List PT) : ∀ out, mgO out (ts ++ us) = mgO (mgO out ts) us := by
  induction ts with
  | nil => intro out; rw [List.nil_append, mgO]
  | cons t ts ih => intro out; rw [List.cons_append, mgO, mgO, ih]
theorem mgO_snoc (out ts : List PT) (t : PT) : mgO out (ts ++ [t]) = addT (mgO out ts) t t.mg := by rw [mgO_append, mgO, mgO]
theorem merge_snoc (ts : List PT) (t : PT) : mergeP (ts ++ [t]) = addT (mergeP ts) t (mergeP t.kids) := by rw [← PT.mg_eq]; exact mgO_snoc [] ts t
theorem merge_next {L : List PT} {k : Nat} {t : PT} (h : L[k]? = some t) : mergeP (L.take (k + 1)) = addT (mergeP (L.take k)) t (mergeP t.kids) := by rw [take_next h, merge_snoc]
theorem wtL_append (ts us : List PT) : wtL (ts ++ us) = wtL ts + wtL us := by
  induction ts with
  | nil => simp [wtL]
  | cons t ts ih => rw [List.cons_append, wtL, wtL, ih]; omega
theorem wordsL_append (ts us : List PT) : wordsL (ts ++ us) = wordsL ts ++ wordsL us := by
  induction ts with
  | nil => simp [wordsL]
  | cons t ts ih => rw [List.cons_append, wordsL, wordsL, ih, List.append_assoc]
theorem tagsL_append (ts us : List PT) : tagsL (ts ++ us) = tagsL ts ++ tagsL us := by
  induction ts with
  | nil => simp [tagsL]
  | cons t ts ih => rw [List.cons_append, tagsL, tagsL, ih, List.append_assoc]
theorem deepL_append (ts us : List PT) (k : Nat) : deepL (ts ++ us) k = max (deepL ts k) (deepL us k) := by
  induction ts with
  | nil => rw [List.nil_append, deepL]; omega
  | cons t ts ih => rw [List.cons_append, deepL, deepL, ih]; omega
theorem wtL_one (t : PT) : wtL [t] = t.wt := by rw [wtL, wtL]; omega
theorem wordsL_one (t : PT) : wordsL [t] = t.words := by rw [wordsL, wordsL, List.append_nil]
theorem tagsL_one (t : PT) : tagsL [t] = t.tags := by rw [tagsL, tagsL, List.append_nil]
theorem deepL_one (t : PT) (k : Nat) : deepL [t] k = t.deep k := by rw [deepL, deepL]; omega
theorem wtL_kids {L : List PT} {t : PT} (h : t ∈ L) : wtL t.kids < wtL L := by
  induction L with
  | nil => cases h
  | cons x L ih =>
    rw [wtL]
    rcases List.mem_cons.1 h with rfl | h
    · have := t.wt_eq; omega
    · have := ih h; omega
theorem wtL_len (L : List PT) : L.length ≤ wtL L := by
  induction L with
  | nil => exact Nat.zero_le _
  | cons x L ih => rw [wtL, List.length_cons]; have := x.wt_eq; omega
/-- by how much is below -/
theorem PT.ind {p : List PT → Prop} (h : ∀ L, (∀ t ∈ L, p t.kids) → p L) : ∀ L, p L := by
  have key : ∀ n L, wtL L < n → p L := by
    intro n
    induction n with
    | zero => intro L h0; omega
    | succ n ih => intro L hl; exact h L fun t ht => ih _ (by have := wtL_kids ht; omega)
  exact fun L => key _ L (Nat.lt_succ_self _)

/-- put behind those that are merged: what is merged by itself, the two texts that meet put together -/
def glueT (out m : List PT) : List PT :=
  match out.getLast?, m with
  | some x, y :: ys => if x.tag = [] ∧ y.tag = [] then out.dropLast ++ txT (x.text ++ y.text) :: ys else out ++ y :: ys
  | _, _ => out ++ m

theorem addT_el {t : PT} (h : t.tag ≠ []) (out ks : List PT) : addT out t ks = out ++ [⟨t.tag, onceA t.attrs, ks, []⟩] := if_pos h
theorem addT_no {t : PT} (h : t.tag = []) (h2 : t.text = []) (out ks : List PT) : addT out t ks = out := by unfold addT; rw [if_neg (by simp [h]), if_pos h2]
theorem addT_nil {t : PT} (h : t.tag = []) (h2 : t.text ≠ []) (ks : List PT) : addT [] t ks = [txT t.text] := by unfold addT; rw [if_neg (by simp [h]), if_neg h2]; rfl
theorem addT_tx {t : PT} (h : t.tag = []) (h2 : t.text ≠ []) (out : List PT) (x : PT) (hx : x.tag = []) (ks : List PT) : addT (out ++ [x]) t ks = out ++ [txT (x.text ++ t.text)] := by
  unfold addT; rw [if_neg (by simp [h]), if_neg h2, List.getLast?_concat]; simp only [hx, if_true, List.dropLast_concat]
theorem addT_far {t : PT} (h : t.tag = []) (h2 : t.text ≠ []) (out : List PT) (x : PT) (hx : x.tag ≠ []) (ks : List PT) : addT (out ++ [x]) t ks = out ++ [x] ++ [txT t.text] := by
  unfold addT; rw [if_neg (by simp [h]), if_neg h2, List.getLast?_concat]; simp only [if_neg hx]
/-- a list is empty, or has a last one -/
theorem last_cases {α : Type} (l : List α) : l = [] ∨ ∃ xs x, l = xs ++ [x] := by
  rcases l.eq_nil_or_concat with h | ⟨xs, x, h⟩
  · exact .inl h
  · exact .inr ⟨xs, x, by rw [h, List.concat_eq_append]⟩

end Go.Proofs.Ytddgabjhligeeaa.mk

namespace Go.Proofs.Ytddgabjhligeeaa.mk
open Go.RowKit

/-- once is as once more -/
theorem once_dist_to (L : List PA) (k : Nat) : ((selTo (onceP L) L k).map nmB).Nodup := by
  induction k with
  | zero => exact List.nodup_nil
  | succ k ih =>
    unfold selTo
    cases hp : onceP L k with
    | false => simpa using ih
    | true =>
      cases hx : L[k]? with
      | none => simpa using ih
      | some x =>
        have hk : placeN L (nmB x) = k := by
          unfold onceP at hp
          rw [isI_at hx] at hp
          exact beq_iff_eq.1 hp
        simp only [if_true, Option.toList_some, List.map_append, List.map_cons, List.map_nil]
        rw [List.nodup_append]
        refine ⟨ih, by simp, ?_⟩
        intro a ha b hb hab
        simp only [List.mem_singleton] at hb
        obtain ⟨y, hy, rfl⟩ := List.mem_map.1 ha
        obtain ⟨i, hi, hpi, hyi⟩ := selTo_mem hy
        unfold onceP at hpi
        rw [isI_at hyi] at hpi
        have := beq_iff_eq.1 hpi
        rw [hab, hb, hk] at this
        omega
theorem once_dist (L : List PA) : ((onceA L).map nmB).Nodup := once_dist_to L _
theorem dist_place {M : List PA} (h : (M.map nmB).Nodup) {i : Nat} {x : PA} (hx : M[i]? = some x) : placeN M (nmB x) = i := by
  refine placeN_of hx rfl fun j q hj hq e => ?_
  have h1 : (M.map nmB)[j]? = some (nmB q) := by rw [List.getElem?_map, hq]; rfl
  have h2 : (M.map nmB)[i]? = some (nmB x) := by rw [List.getElem?_map, hx]; rfl
  have h3 : j = i := (List.getElem?_inj (List.getElem?_eq_some_iff.1 h1).1 h).1 (by rw [h1, h2, e])
  omega
theorem once_of_dist {M : List PA} (h : (M.map nmB).Nodup) : onceA M = M := by
  have key : ∀ k, k ≤ M.length → selTo (onceP M) M k = M.take k := by
    intro k
    induction k with
    | zero => intro _; simp [selTo]
    | succ k ih =>
      intro hk
      have hx : M[k]? = some (M[k]'(by omega)) := List.getElem?_eq_getElem _
      generalize M[k]'(by omega) = x at hx
      rw [selTo_next hx, ih (by omega), take_next hx]
      have : onceP M k = true := by
        unfold onceP
        rw [isI_at hx, dist_place h hx]
        simp
      rw [if_pos this]
  unfold onceA sel
  rw [key _ (Nat.le_refl _), List.take_length]
theorem once_once (L : List PA) : onceA (onceA L) = onceA L := once_of_dist (once_dist L)

/-- what stands in a merged list: a text has bytes, and nothing beside its text; an element has no text -/
def okT (x : PT) : Prop := (x.tag = [] → x = txT x.text ∧ x.text ≠ []) ∧ (x.tag ≠ [] → x.text = [])
theorem okT_tx {c : Ch} (h : c ≠ []) : okT (txT c) := ⟨fun _ => ⟨rfl, h⟩, fun h => absurd rfl h⟩
theorem ok_addT {out : List PT} (h : ∀ x ∈ out, okT x) (t : PT) (ks : List PT) : ∀ x ∈ addT out t ks, okT x := by
  by_cases ht : t.tag = []
  · by_cases hx : t.text = []
    · rw [addT_no ht hx]; exact h
    · rcases last_cases out with rfl | ⟨xs, y, rfl⟩
      · rw [addT_nil ht hx]
        intro x hm
        simp at hm; subst hm
        exact okT_tx hx
      · by_cases hy : y.tag = []
        · rw [addT_tx ht hx xs y hy]
          intro x hm
          rcases List.mem_append.1 hm with hm | hm
          · exact h x (List.mem_append_left _ hm)
          · simp at hm; subst hm
            exact okT_tx (by simp [hx])
        · rw [addT_far ht hx xs y hy]
          intro x hm
          rcases List.mem_append.1 hm with hm | hm
          · exact h x hm
          · simp at hm; subst hm
            exact okT_tx hx
  · rw [addT_el ht]
    intro x hm
    rcases List.mem_append.1 hm with hm | hm
    · exact h x hm
    · simp at hm; subst hm
      exact ⟨fun e => absurd e ht, fun _ => rfl⟩
theorem merge_ok (L : List PT) : ∀ x ∈ mergeP L, okT x := by
  induction L using snocInd with
  | nil => intro x hx; cases hx
  | append_singleton ts t ih => rw [merge_snoc]; exact ok_addT ih t _

theorem glue_nil (out : List PT) : glueT out [] = out := by unfold glueT; cases out.getLast? <;> simp
theorem glue_none (m : List PT) : glueT [] m = m := rfl
theorem glue_at (xs : List PT) (x y : PT) (ys : List PT) : glueT (xs ++ [x]) (y :: ys) = if x.tag = [] ∧ y.tag = [] then xs ++ txT (x.text ++ y.text) :: ys else xs ++ [x] ++ y :: ys := by
  unfold glueT; rw [List.getLast?_concat, List.dropLast_concat]
theorem glue_snoc (out : List PT) {M : List PT} (h : M ≠ []) (z : PT) : glueT out (M ++ [z]) = glueT out M ++ [z] := by
  cases M with
  | nil => exact absurd rfl h
  | cons y ys =>
    rcases last_cases out with rfl | ⟨xs, x, rfl⟩
    · rfl
    · rw [List.cons_append, glue_at, glue_at]
      split <;> simp
theorem glue_add (out M : List PT) (t : PT) (ks : List PT) : addT (glueT out M) t ks = glueT out (addT M t ks) := by
  by_cases ht : t.tag = []
  · by_cases hx : t.text = []
    · rw [addT_no ht hx, addT_no ht hx]
    · rcases last_cases M with rfl | ⟨ms, m, rfl⟩
      · rw [glue_nil, addT_nil ht hx]
        rcases last_cases out with rfl | ⟨xs, y, rfl⟩
        · rw [addT_nil ht hx, glue_none]
        · rw [glue_at]
          by_cases hy : y.tag = []
          · rw [addT_tx ht hx xs y hy, if_pos ⟨hy, rfl⟩]; rfl
          · rw [addT_far ht hx xs y hy, if_neg (fun h => hy h.1)]
      · by_cases hm : m.tag = []
        · rw [addT_tx ht hx ms m hm]
          by_cases hms : ms = []
          · subst hms
            rw [List.nil_append, List.nil_append]
            rcases last_cases out with rfl | ⟨xs, y, rfl⟩
            · rw [glue_none, glue_none]; exact addT_tx ht hx [] m hm ks
            · rw [glue_at, glue_at]
              by_cases hy : y.tag = []
              · rw [if_pos ⟨hy, hm⟩, if_pos ⟨hy, rfl⟩]
                have h1 := addT_tx ht hx xs (txT (y.text ++ m.text)) rfl ks
                rw [h1]
                show xs ++ [txT (y.text ++ m.text ++ t.text)] = xs ++ [txT (y.text ++ (m.text ++ t.text))]
                rw [List.append_assoc]
              · rw [if_neg (fun h => hy h.1), if_neg (fun h => hy h.1)]
                exact addT_tx ht hx (xs ++ [y]) m hm ks
          · rw [glue_snoc out hms, glue_snoc out hms, addT_tx ht hx _ m hm]
        · rw [addT_far ht hx ms m hm, glue_snoc out (M := ms ++ [m]) (by simp) (txT t.text)]
          have : ∃ P, glueT out (ms ++ [m]) = P ++ [m] := by
            by_cases hms : ms = []
            · subst hms
              rw [List.nil_append]
              rcases last_cases out with rfl | ⟨xs, y, rfl⟩
              · exact ⟨[], rfl⟩
              · rw [glue_at, if_neg (fun h => hm h.2)]; exact ⟨xs ++ [y], rfl⟩
            · exact ⟨_, glue_snoc out hms m⟩
          obtain ⟨P, hP⟩ := this
          rw [hP, addT_far ht hx P m hm]
  · rw [addT_el ht, addT_el ht]
    by_cases hM : M = []
    · subst hM
      rw [glue_nil, List.nil_append]
      rcases last_cases out with rfl | ⟨xs, y, rfl⟩
      · rfl
      · rw [glue_at, if_neg (fun h => ht h.2)]
    · rw [glue_snoc out hM]
theorem mgO_glue (out b : List PT) : mgO out b = glueT out (mergeP b) := by
  induction b using snocInd with
  | nil => unfold mergeP; rw [mgO, mgO, glue_nil]
  | append_singleton ts t ih => rw [mgO_snoc, ih, merge_snoc, PT.mg_eq, glue_add]
theorem merge_append (a b : List PT) : mergeP (a ++ b) = glueT (mergeP a) (mergeP b) := by
  unfold mergeP
  rw [mgO_append, mgO_glue]
  rfl

theorem glue_words {a m : List PT} (ha : ∀ x ∈ a, okT x) (hm : ∀ x ∈ m, okT x) : wordsL (glueT a m) = wordsL a ++ wordsL m := by
  cases m with
  | nil => rw [glue_nil, wordsL, List.append_nil]
  | cons y ys =>
    rcases last_cases a with rfl | ⟨xs, x, rfl⟩
    · rw [glue_none, wordsL, List.nil_append]
    · rw [glue_at]
      split
      · rename_i h
        have hx := ((ha x (by simp)).1 h.1).1
        have hy := ((hm y (by simp)).1 h.2).1
        rw [wordsL_append, wordsL_append, wordsL_one, wordsL, wordsL, hx, hy]
        simp only [PT.words_eq, txT, wordsL, List.append_nil, List.append_assoc]
      · rw [wordsL_append]
theorem glue_tags {a m : List PT} (ha : ∀ x ∈ a, okT x) (hm : ∀ x ∈ m, okT x) : tagsL (glueT a m) = tagsL a ++ tagsL m := by
  cases m with
  | nil => rw [glue_nil, tagsL, List.append_nil]
  | cons y ys =>
    rcases last_cases a with rfl | ⟨xs, x, rfl⟩
    · rw [glue_none, tagsL, List.nil_append]
    · rw [glue_at]
      split
      · rename_i h
        have hx := ((ha x (by simp)).1 h.1).1
        have hy := ((hm y (by simp)).1 h.2).1
        rw [tagsL_append, tagsL_append, tagsL_one, tagsL, tagsL, hx, hy]
        simp [PT.tags_eq, txT, tagsL]
      · rw [tagsL_append]
theorem glue_deep {a m : List PT} (ha : ∀ x ∈ a, okT x) (hm : ∀ x ∈ m, okT x) (k : Nat) : deepL (glueT a m) k = max (deepL a k) (deepL m k) := by
  cases m with
  | nil => rw [glue_nil, deepL]; omega
  | cons y ys =>
    rcases last_cases a with rfl | ⟨xs, x, rfl⟩
    · rw [glue_none, deepL, deepL]; omega
    · rw [glue_at]
      split
      · rename_i h
        have hx := ((ha x (by simp)).1 h.1).1
        have hy := ((hm y (by simp)).1 h.2).1
        rw [deepL_append, deepL_append, deepL_one, deepL, deepL, hx, hy]
        simp [PT.deep_eq, txT, deepL]
      · rw [deepL_append]
theorem glue_wt {a m : List PT} (ha : ∀ x ∈ a, okT x) (hm : ∀ x ∈ m, okT x) : wtL (glueT a m) = wtL a + wtL m ∨ wtL (glueT a m) + 1 = wtL a + wtL m := by
  cases m with
  | nil => rw [glue_nil, wtL]; exact .inl rfl
  | cons y ys =>
    rcases last_cases a with rfl | ⟨xs, x, rfl⟩
    · rw [glue_none, wtL, wtL]; exact .inl (by omega)
    · rw [glue_at]
      split
      · rename_i h
        have hx := ((ha x (by simp)).1 h.1).1
        have hy := ((hm y (by simp)).1 h.2).1
        refine .inr ?_
        rw [wtL_append, wtL_append, wtL_one, wtL, wtL, hx, hy]
        simp only [PT.wt_eq, txT, wtL]
        omega
      · rw [wtL_append]; exact .inl rfl

/-- merged once more -/
theorem merge_merge : ∀ L : List PT, mergeP (mergeP L) = mergeP L := by
  apply PT.ind
  intro L hk
  induction L using snocInd with
  | nil => rfl
  | append_singleton ts t ih =>
    have ih := ih fun x hx => hk x (List.mem_append_left _ hx)
    have hkt := hk t (by simp)
    have hok := merge_ok ts
    rw [merge_snoc]
    generalize mergeP ts = M at *
    by_cases ht : t.tag = []
    · by_cases hx : t.text = []
      · rw [addT_no ht hx]; exact ih
      · have hone : ∀ c : Ch, c ≠ [] → ∀ N, (N = [] ∨ ∃ P p, N = P ++ [p] ∧ p.tag ≠ []) → addT N (txT c) [] = N ++ [txT c] := by
          intro c hc N hN
          rcases hN with rfl | ⟨P, p, rfl, hp⟩
          · exact addT_nil rfl hc []
          · exact addT_far rfl hc P p hp []
        have hmk : ∀ c : Ch, mergeP (txT c).kids = [] := fun _ => rfl
        rcases last_cases M with rfl | ⟨ms, m, rfl⟩
        · rw [addT_nil ht hx]
          have h1 := merge_snoc [] (txT t.text)
          rw [List.nil_append, hmk] at h1
          rw [h1]
          exact hone _ hx _ (.inl rfl)
        · by_cases hm : m.tag = []
          · rw [addT_tx ht hx ms m hm]
            obtain ⟨hm1, hm2⟩ := (hok m (by simp)).1 hm
            have h1 := ih
            rw [merge_snoc] at h1
            have hms := merge_ok ms
            have key : mergeP ms = ms ∧ (ms = [] ∨ ∃ P p, ms = P ++ [p] ∧ p.tag ≠ []) := by
              rcases last_cases (mergeP ms) with h2 | ⟨P, p, h2⟩
              · rw [h2, addT_nil hm hm2] at h1
                have h3 : ms = [] := by
                  have := congrArg List.length h1
                  rw [List.length_append] at this
                  simp only [List.length_cons, List.length_nil] at this
                  exact List.eq_nil_of_length_eq_zero (by omega)
                exact ⟨h2.trans h3.symm, .inl h3⟩
              · by_cases hp : p.tag = []
                · rw [h2, addT_tx hm hm2 P p hp] at h1
                  have h3 := (List.append_inj' h1 rfl).2
                  have h4 : (txT (p.text ++ m.text)).text = m.text := by injection h3 with h3; rw [h3]
                  have h5 : p.text ++ m.text = m.text := h4
                  have h6 : p.text = [] := by
                    have := congrArg List.length h5
                    rw [List.length_append] at this
                    exact List.eq_nil_of_length_eq_zero (by omega)
                  rw [h2] at hms
                  exact absurd h6 ((hms p (by simp)).1 hp).2
                · rw [h2, addT_far hm hm2 P p hp] at h1
                  have h3 := (List.append_inj' h1 rfl).1
                  exact ⟨h2.trans h3, .inr ⟨P, p, h3.symm, hp⟩⟩
            have h7 := merge_snoc ms (txT (m.text ++ t.text))
            rw [hmk, key.1] at h7
            rw [h7]
            exact hone _ (by simp [hx]) _ key.2
          · rw [addT_far ht hx ms m hm]
            have h7 := merge_snoc (ms ++ [m]) (txT t.text)
            rw [hmk, ih] at h7
            rw [h7]
            exact hone _ hx _ (.inr ⟨ms, m, rfl, hm⟩)
    · rw [addT_el ht, merge_snoc, ih, addT_el (t := ⟨t.tag, onceA t.attrs, mergeP t.kids, []⟩) ht]
      show M ++ [⟨t.tag, onceA (onceA t.attrs), mergeP (mergeP t.kids), []⟩] = _
      rw [once_once, hkt]

theorem metA_self (pale : Bool) (p : PA) : metA pale p p = true := by unfold metA; simp
theorem same_self (pale : Bool) : ∀ L : List PT, sameL pale L L = true := by
  apply PT.ind
  intro L hk
  induction L with
  | nil => rw [sameL]
  | cons x xs ih =>
    rw [sameL, ih fun t ht => hk t (List.mem_cons_of_mem _ ht), PT.same_eq, hk x (by simp)]
    simp only [beq_self_eq_true, Bool.and_self, Bool.or_true, Bool.and_true, Bool.true_and]
    rw [List.all_eq_true]
    intro p hp
    rw [List.any_eq_true]
    exact ⟨p, hp, metA_self pale p⟩

end Go.Proofs.Ytddgabjhligeeaa.mk

namespace Go.Proofs.Ytddgabjhligeeaa.mk
open Go.RowKit

mutual
def PT.bk : PT → Nat
  | ⟨tag, attrs, kids, text⟩ => tag.length + attrs.length + text.length + 1 + bkL kids
def bkL : List PT → Nat
  | [] => 0
  | t :: ts => t.bk + bkL ts
end
theorem PT.bk_eq (t : PT) : t.bk = t.tag.length + t.attrs.length + t.text.length + 1 + bkL t.kids := by cases t; rw [PT.bk]
theorem bkL_append (ts us : List PT) : bkL (ts ++ us) = bkL ts + bkL us := by
  induction ts with
  | nil => simp [bkL]
  | cons t ts ih => rw [List.cons_append, bkL, bkL, ih]; omega
theorem bkL_one (t : PT) : bkL [t] = t.bk := by rw [bkL, bkL]; omega
theorem bkL_mem {L : List PT} {t : PT} (h : t ∈ L) : t.bk ≤ bkL L := by
  induction L with
  | nil => cases h
  | cons x L ih =>
    rw [bkL]
    rcases List.mem_cons.1 h with rfl | h
    · omega
    · have := ih h; omega
theorem bkL_kids {L : List PT} {t : PT} (h : t ∈ L) : bkL t.kids < bkL L := by
  have := bkL_mem h
  have := t.bk_eq
  omega
theorem bkL_len (L : List PT) : L.length ≤ bkL L := by
  induction L with
  | nil => exact Nat.zero_le _
  | cons x L ih => rw [bkL, List.length_cons]; have := x.bk_eq; omega
theorem bk_text {L : List PT} {t : PT} (h : t ∈ L) : t.text.length < bkL L := by
  have := bkL_mem h
  have := t.bk_eq
  omega
theorem bk_tag {L : List PT} {t : PT} (h : t ∈ L) : t.tag.length < bkL L := by
  have := bkL_mem h
  have := t.bk_eq
  omega
theorem bk_attrs {L : List PT} {t : PT} (h : t ∈ L) : t.attrs.length < bkL L := by
  have := bkL_mem h
  have := t.bk_eq
  omega
theorem bk_take (L : List PT) (k : Nat) : bkL (L.take k) ≤ bkL L := by
  have := bkL_append (L.take k) (L.drop k)
  rw [List.take_append_drop] at this
  omega
theorem bk_wt : ∀ L : List PT, wtL L ≤ bkL L := by
  apply PT.ind
  intro L hk
  induction L with
  | nil => rw [wtL]; exact Nat.zero_le _
  | cons x L ih =>
    have h1 := ih fun t ht => hk t (List.mem_cons_of_mem _ ht)
    have h2 := hk x (by simp)
    rw [wtL, bkL, PT.wt_eq, PT.bk_eq]
    omega
theorem bk_words : ∀ L : List PT, (wordsL L).length ≤ bkL L := by
  apply PT.ind
  intro L hk
  induction L with
  | nil => rw [wordsL]; exact Nat.zero_le _
  | cons x L ih =>
    have h1 := ih fun t ht => hk t (List.mem_cons_of_mem _ ht)
    have h2 := hk x (by simp)
    rw [wordsL, bkL, PT.words_eq, PT.bk_eq, List.length_append, List.length_append]
    omega
theorem bk_tags : ∀ L : List PT, (tagsL L).length ≤ bkL L := by
  apply PT.ind
  intro L hk
  induction L with
  | nil => rw [tagsL]; exact Nat.zero_le _
  | cons x L ih =>
    have h1 := ih fun t ht => hk t (List.mem_cons_of_mem _ ht)
    have h2 := hk x (by simp)
    rw [tagsL, bkL, PT.tags_eq, PT.bk_eq, List.length_append, List.length_append]
    have h3 : (if x.tag ≠ [] then [x.tag.map (·.1)] else []).length ≤ 1 := by split <;> simp
    omega
theorem bk_deep : ∀ (L : List PT) (k : Nat), deepL L k ≤ k + bkL L := by
  apply PT.ind
  intro L hk
  induction L with
  | nil => intro k; rw [deepL]; exact Nat.zero_le _
  | cons x L ih =>
    intro k
    have h1 := ih (fun t ht => hk t (List.mem_cons_of_mem _ ht)) k
    have h2 := hk x (by simp) (k + 1)
    rw [deepL, bkL, PT.deep_eq, PT.bk_eq]
    have h3 : (if x.tag ≠ [] then k else 0) ≤ k := by split <;> omega
    omega
/-- merged they are no larger -/
theorem bk_add (out ks : List PT) (t : PT) (hk : bkL ks ≤ bkL t.kids) : bkL (addT out t ks) ≤ bkL out + t.bk := by
  have hbk := t.bk_eq
  by_cases ht : t.tag = []
  · by_cases hx : t.text = []
    · rw [addT_no ht hx]; omega
    · rcases last_cases out with rfl | ⟨xs, y, rfl⟩
      · rw [addT_nil ht hx, bkL_one, PT.bk_eq]
        simp only [txT, List.length_nil, bkL]
        omega
      · by_cases hy : y.tag = []
        · rw [addT_tx ht hx xs y hy, bkL_append, bkL_append, bkL_one, bkL_one, PT.bk_eq, y.bk_eq]
          simp only [txT, List.length_nil, bkL, List.length_append]
          omega
        · rw [addT_far ht hx xs y hy, bkL_append, bkL_one (txT _), PT.bk_eq]
          simp only [txT, List.length_nil, bkL]
          omega
  · rw [addT_el ht, bkL_append, bkL_one, PT.bk_eq]
    have := sel_len (onceP t.attrs) t.attrs
    have h2 : (onceA t.attrs).length ≤ t.attrs.length := this
    simp only [List.length_nil]
    omega
theorem bk_merge : ∀ L : List PT, bkL (mergeP L) ≤ bkL L := by
  apply PT.ind
  intro L hk
  induction L using snocInd with
  | nil => exact Nat.le_refl _
  | append_singleton ts t ih =>
    rw [merge_snoc, bkL_append, bkL_one]
    have h1 := ih fun x hx => hk x (List.mem_append_left _ hx)
    have h2 := bk_add (mergeP ts) (mergeP t.kids) t (hk t (by simp))
    omega

end Go.Proofs.Ytddgabjhligeeaa.mk

namespace Go.Proofs.Ytddgabjhligeeaa.mk
open Go.RowKit

/-- a token that comes in, of whatever kind -/
structure KP where
  kind : Int
  name : Ch
  attrs : List PA
  text : Ch
abbrev Nm := List UInt8
def KP.nm (t : KP) : Nm := t.name.map (·.1)
def voidB (s : Nm) : Bool := s == [98, 114] || (s == [104, 114] || s == [105, 109, 103])
theorem drop_one {α : Type} {L : List α} {k : Nat} {t : α} (h : L[k]? = some t) : L.drop k = t :: L.drop (k + 1) := by
  obtain ⟨hk, h2⟩ := List.getElem?_eq_some_iff.1 h
  rw [List.drop_eq_getElem_cons hk, h2]
theorem drop_off {α : Type} {L : List α} {k : Nat} (h : L[k]? = none) : L.drop k = [] := List.drop_of_length_le (List.getElem?_eq_none_iff.1 h)

/-- the last place of a name; -1: none -/
def lastTo (l : List Nm) (x : Nm) : Nat → Int
  | 0 => -1
  | k + 1 => if l[k]? = some x then (k : Int) else lastTo l x k
def lastI (l : List Nm) (x : Nm) : Int := lastTo l x l.length
theorem lastTo_append (l : List Nm) (y x : Nm) : ∀ k, k ≤ l.length → lastTo (l ++ [y]) x k = lastTo l x k := by
  intro k
  induction k with
  | zero => intro _; rfl
  | succ k ih =>
    intro h
    unfold lastTo
    rw [List.getElem?_append_left (by omega), ih (by omega)]
theorem lastI_snoc (l : List Nm) (y x : Nm) : lastI (l ++ [y]) x = if y = x then (l.length : Int) else lastI l x := by
  unfold lastI
  rw [List.length_append]
  show (if (l ++ [y])[l.length]? = some x then (l.length : Int) else lastTo (l ++ [y]) x l.length) = _
  rw [List.getElem?_concat_length, lastTo_append l y x _ (Nat.le_refl _)]
  by_cases h : y = x
  · rw [if_pos h, if_pos (by rw [h])]
  · rw [if_neg h, if_neg (fun e => h (by injection e))]
theorem lastI_nil (x : Nm) : lastI [] x = -1 := rfl
theorem lastI_cases (l : List Nm) (x : Nm) : (lastI l x = -1 ∧ x ∉ l) ∨ (0 ≤ lastI l x ∧ lastI l x < (l.length : Int) ∧ x ∈ l) := by
  induction l using snocInd with
  | nil => exact Or.inl ⟨rfl, by simp⟩
  | append_singleton l y ih =>
    rw [lastI_snoc, List.length_append]
    by_cases h : y = x
    · rw [if_pos h]
      refine Or.inr ⟨by omega, ?_, by rw [h]; simp⟩
      show (l.length : Int) < ((l.length + 1 : Nat) : Int)
      omega
    · rw [if_neg h]
      rcases ih with ih | ih
      · refine Or.inl ⟨ih.1, fun hm => ?_⟩
        rcases List.mem_append.1 hm with hm | hm
        · exact ih.2 hm
        · exact h (by simpa using hm : x = y).symm
      · refine Or.inr ⟨ih.1, ?_, List.mem_append_left _ ih.2.2⟩
        have := ih.2.1
        show lastI l x < ((l.length + 1 : Nat) : Int)
        omega
theorem lastI_mem {l : List Nm} {x : Nm} : 0 ≤ lastI l x ↔ x ∈ l := by
  rcases lastI_cases l x with h | h
  · exact ⟨fun h2 => by omega, fun h2 => absurd h2 h.2⟩
  · exact ⟨fun _ => h.2.2, fun _ => h.1⟩

/-! ### the program -/
def nmT (t : PT) : Nm := t.tag.map (·.1)
def settled (top : PT) (loose : List PT) : PT := ⟨top.tag, top.attrs, top.kids ++ mergeP loose, []⟩
def aroundT (a t : PT) : PT := ⟨a.tag, a.attrs, a.kids ++ [t], []⟩
/-- what is open (the innermost first, ahead of them its last one), and what is loose behind its kids -/
structure BS where
  top : PT
  loose : List PT
  anc : List PT
def BS.names (s : BS) : List Nm := (s.anc.reverse ++ [s.top]).tail.map nmT
def endB (top : PT) (loose : List PT) (a : PT) (anc : List PT) : BS := ⟨aroundT a (settled top loose), [], anc⟩
def closeTo (x : Nm) : PT → List PT → List PT → BS
  | top, loose, [] => ⟨top, loose, []⟩
  | top, loose, a :: anc => if nmT top = x then endB top loose a anc else closeTo x (aroundT a (settled top loose)) [] anc
def closeAll : PT → List PT → List PT → List PT
  | top, loose, [] => top.kids ++ mergeP loose
  | top, loose, a :: anc => closeAll (aroundT a (settled top loose)) [] anc
def stepB (s : BS) (t : KP) : BS :=
  if t.kind = 1 then
    (if t.name = [] then s
    else if voidB t.nm then ⟨s.top, s.loose ++ [⟨t.name, t.attrs, [], []⟩], s.anc⟩
    else ⟨⟨t.name, onceA t.attrs, [], []⟩, [], settled s.top s.loose :: s.anc⟩)
  else if t.kind = 2 then (if t.nm ∈ s.names then closeTo t.nm s.top s.loose s.anc else s)
  else if t.kind = 3 then ⟨s.top, s.loose ++ [txT t.text], s.anc⟩
  else s
def runB (s : BS) (l : List KP) : BS := l.foldl stepB s
def startB : BS := ⟨⟨[], [], [], []⟩, [], []⟩
def finB (s : BS) (l : List KP) : List PT := closeAll (runB s l).top (runB s l).loose (runB s l).anc
def treesB (l : List KP) : List PT := finB startB l
def openB (l : List KP) : List Nm := (runB startB l).names
theorem finB_cons (s : BS) (t : KP) (l : List KP) : finB s (t :: l) = finB (stepB s t) l := rfl
theorem names_push (top top1 : PT) (loose loose1 : List PT) (a : PT) (anc : List PT) (h : nmT a = nmT top) : (BS.mk top1 loose1 (a :: anc)).names = (BS.mk top loose anc).names ++ [nmT top1] := by
  unfold BS.names
  show ((a :: anc).reverse ++ [top1]).tail.map nmT = _
  rw [List.reverse_cons]
  cases hr : anc.reverse with
  | nil => rfl
  | cons b bs =>
    show ((b :: bs ++ [a] ++ [top1]).tail).map nmT = ((b :: bs ++ [top]).tail).map nmT ++ _
    simp [h]
theorem names_same {s s' : BS} (h1 : s'.anc = s.anc) (h2 : s'.top.tag = s.top.tag) : s'.names = s.names := by
  unfold BS.names
  rw [h1]
  have : nmT s'.top = nmT s.top := by unfold nmT; rw [h2]
  cases s.anc.reverse with
  | nil => rfl
  | cons b bs => simp [this]

/-! ### the law's reading -/
def endsAt (L : List KP) (a : Nat) (op : List Nm) (x : Nm) : Bool :=
  match L[a]? with
  | none => false
  | some u => decide (lastI op u.nm < 0) || u.nm == x
inductive KidsR (L : List KP) : Nat → List Nm → List PT → List PT → Nat → Prop where
  | stop {i : Nat} {op : List Nm} {acc : List PT} (h : L[i]? = none) : KidsR L i op acc acc i
  | void {i j : Nat} {op : List Nm} {acc out : List PT} {t : KP} (h : L[i]? = some t) (h1 : t.kind = 1) (h2 : t.name ≠ []) (h3 : voidB t.nm = true) (hr : KidsR L (i + 1) op (acc ++ [⟨t.name, t.attrs, [], []⟩]) out j) : KidsR L i op acc out j
  | elem {i j a : Nat} {op : List Nm} {acc ks out : List PT} {t : KP} (h : L[i]? = some t) (h1 : t.kind = 1) (h2 : t.name ≠ []) (h3 : voidB t.nm = false) (hk : KidsR L (i + 1) (op ++ [t.nm]) [] ks a)
      (hr : KidsR L (if endsAt L a op t.nm = true then a + 1 else a) op (acc ++ [⟨t.name, t.attrs, ks, []⟩]) out j) : KidsR L i op acc out j
  | ended {i : Nat} {op : List Nm} {acc : List PT} {t : KP} (h : L[i]? = some t) (h1 : t.kind = 2) (h2 : 0 ≤ lastI op t.nm) : KidsR L i op acc acc i
  | data {i j : Nat} {op : List Nm} {acc out : List PT} {t : KP} (h : L[i]? = some t) (h1 : t.kind = 3) (hr : KidsR L (i + 1) op (acc ++ [txT t.text]) out j) : KidsR L i op acc out j
  | other {i j : Nat} {op : List Nm} {acc out : List PT} {t : KP} (h : L[i]? = some t) (h1 : t.kind = 1 → t.name = []) (h2 : t.kind = 2 → lastI op t.nm < 0) (h3 : t.kind ≠ 3) (hr : KidsR L (i + 1) op acc out j) : KidsR L i op acc out j
theorem KidsR.last {L : List KP} {i j : Nat} {op : List Nm} {acc out : List PT} (h : KidsR L i op acc out j) : L[j]? = none ∨ ∃ u, L[j]? = some u ∧ u.kind = 2 ∧ 0 ≤ lastI op u.nm := by
  induction h with
  | stop h => exact Or.inl h
  | void _ _ _ _ _ ih => exact ih
  | elem _ _ _ _ _ _ _ ih => exact ih
  | ended h h1 h2 => exact Or.inr ⟨_, h, h1, h2⟩
  | data _ _ _ ih => exact ih
  | other _ _ _ _ _ ih => exact ih
theorem KidsR.le {L : List KP} {i j : Nat} {op : List Nm} {acc out : List PT} (h : KidsR L i op acc out j) : i ≤ j := by
  induction h with
  | stop h => exact Nat.le_refl _
  | void _ _ _ _ _ ih => omega
  | elem _ _ _ _ _ _ ih1 ih2 => split at ih2 <;> omega
  | ended h h1 h2 => exact Nat.le_refl _
  | data _ _ _ ih => omega
  | other _ _ _ _ _ ih => omega

/-! ### both are one -/
/-- what the law has put so far is what the program's last one has, merged, and what is loose behind it -/
def SimB (acc : List PT) (top : PT) (loose : List PT) : Prop := ∃ Kr, acc = Kr ++ loose ∧ mergeP Kr = top.kids ∧ (top.kids = [] ∨ ∃ P p, top.kids = P ++ [p] ∧ p.tag ≠ [])
theorem SimB.merge {acc : List PT} {top : PT} {loose : List PT} (h : SimB acc top loose) : mergeP acc = top.kids ++ mergeP loose := by
  obtain ⟨Kr, rfl, h1, h2⟩ := h
  rw [merge_append, h1]
  rcases h2 with h2 | ⟨P, p, h2, h3⟩
  · rw [h2, glue_none]; rfl
  · rw [h2]
    cases mergeP loose with
    | nil => rw [glue_nil, List.append_nil]
    | cons y ys => rw [glue_at, if_neg (fun h => h3 h.1)]
theorem SimB.more {acc : List PT} {top : PT} {loose : List PT} (h : SimB acc top loose) (x : PT) : SimB (acc ++ [x]) top (loose ++ [x]) := by
  obtain ⟨Kr, rfl, h1, h2⟩ := h
  exact ⟨Kr, by rw [List.append_assoc], h1, h2⟩
theorem SimB.elem {acc ks : List PT} {top top2 : PT} {loose loose2 : List PT} {t : KP} (h : SimB acc top loose) (h2 : SimB ks top2 loose2) (hn : t.name ≠ []) (ht : top2.tag = t.name) (ha : top2.attrs = onceA t.attrs) :
    SimB (acc ++ [⟨t.name, t.attrs, ks, []⟩]) (aroundT (settled top loose) (settled top2 loose2)) [] := by
  refine ⟨acc ++ [⟨t.name, t.attrs, ks, []⟩], by rw [List.append_nil], ?_, Or.inr ⟨top.kids ++ mergeP loose, settled top2 loose2, rfl, by show top2.tag ≠ []; rw [ht]; exact hn⟩⟩
  rw [merge_snoc, addT_el (t := ⟨t.name, t.attrs, ks, []⟩) hn, h.merge]
  show _ ++ [PT.mk t.name (onceA t.attrs) (mergeP ks) []] = (top.kids ++ mergeP loose) ++ [PT.mk top2.tag top2.attrs (top2.kids ++ mergeP loose2) []]
  rw [ht, ha, h2.merge]
theorem closeTo_end {x : Nm} {top : PT} {loose : List PT} {a : PT} {anc : List PT} (h : nmT top = x) : closeTo x top loose (a :: anc) = endB top loose a anc := if_pos h
theorem closeTo_go {x : Nm} {top : PT} {loose : List PT} {a : PT} {anc : List PT} (h : ¬ nmT top = x) : closeTo x top loose (a :: anc) = closeTo x (aroundT a (settled top loose)) [] anc := if_neg h
theorem stepB_two {s : BS} {t : KP} (h : t.kind = 2) : stepB s t = if t.nm ∈ s.names then closeTo t.nm s.top s.loose s.anc else s := by
  unfold stepB
  rw [if_neg (by rw [h]; decide), if_pos h]
theorem stepB_other {s : BS} {t : KP} (h1 : t.kind = 1 → t.name = []) (h2 : t.kind = 2 → t.nm ∉ s.names) (h3 : t.kind ≠ 3) : stepB s t = s := by
  unfold stepB
  by_cases k1 : t.kind = 1
  · rw [if_pos k1, if_pos (h1 k1)]
  · rw [if_neg k1]
    by_cases k2 : t.kind = 2
    · rw [if_pos k2, if_neg (h2 k2)]
    · rw [if_neg k2, if_neg h3]
theorem kids_sim {L : List KP} {i j : Nat} {op : List Nm} {acc out : List PT} (h : KidsR L i op acc out j) : ∀ s : BS, s.names = op → SimB acc s.top s.loose →
    ∃ s' : BS, s'.anc = s.anc ∧ s'.top.tag = s.top.tag ∧ s'.top.attrs = s.top.attrs ∧ SimB out s'.top s'.loose ∧ finB s (L.drop i) = finB s' (L.drop j) := by
  induction h with
  | stop h => intro s _ hs; exact ⟨s, rfl, rfl, rfl, hs, rfl⟩
  | ended h _ _ => intro s _ hs; exact ⟨s, rfl, rfl, rfl, hs, rfl⟩
  | @void i j op acc out t h h1 h2 h3 hr ih =>
    intro s hn hs
    have e : stepB s t = ⟨s.top, s.loose ++ [⟨t.name, t.attrs, [], []⟩], s.anc⟩ := by unfold stepB; rw [if_pos h1, if_neg h2, if_pos h3]
    obtain ⟨s', a1, a2, a3, a4, a5⟩ := ih (stepB s t) (by rw [e]; exact (names_same rfl rfl).trans hn) (by rw [e]; exact hs.more _)
    rw [e] at a1 a2 a3
    exact ⟨s', a1, a2, a3, a4, by rw [drop_one h, finB_cons]; exact a5⟩
  | @data i j op acc out t h h1 hr ih =>
    intro s hn hs
    have e : stepB s t = ⟨s.top, s.loose ++ [txT t.text], s.anc⟩ := by unfold stepB; rw [if_neg (by rw [h1]; decide), if_neg (by rw [h1]; decide), if_pos h1]
    obtain ⟨s', a1, a2, a3, a4, a5⟩ := ih (stepB s t) (by rw [e]; exact (names_same rfl rfl).trans hn) (by rw [e]; exact hs.more _)
    rw [e] at a1 a2 a3
    exact ⟨s', a1, a2, a3, a4, by rw [drop_one h, finB_cons]; exact a5⟩
  | @other i j op acc out t h h1 h2 h3 hr ih =>
    intro s hn hs
    have e : stepB s t = s := stepB_other h1 (fun k hm => by rw [hn] at hm; have := lastI_mem.2 hm; have := h2 k; omega) h3
    obtain ⟨s', a1, a2, a3, a4, a5⟩ := ih s hn hs
    exact ⟨s', a1, a2, a3, a4, by rw [drop_one h, finB_cons, e]; exact a5⟩
  | @elem i j a op acc ks out t h h1 h2 h3 hk hr ih1 ih2 =>
    intro s hn hs
    have e : stepB s t = ⟨⟨t.name, onceA t.attrs, [], []⟩, [], settled s.top s.loose :: s.anc⟩ := by unfold stepB; rw [if_pos h1, if_neg h2, if_neg (by rw [h3]; decide)]
    obtain ⟨s2, a1, a2, a3, a4, a5⟩ := ih1 (stepB s t) (by
      rw [e, names_push s.top ⟨t.name, onceA t.attrs, [], []⟩ s.loose [] (settled s.top s.loose) s.anc rfl, show (BS.mk s.top s.loose s.anc).names = s.names from rfl, hn]
      rfl) (by rw [e]; exact ⟨[], rfl, rfl, Or.inl rfl⟩)
    rw [e] at a1 a2 a3 a5
    simp only at a1 a2 a3
    have hsim := SimB.elem hs a4 h2 a2 a3
    have hn3 : (BS.mk (aroundT (settled s.top s.loose) (settled s2.top s2.loose)) [] s.anc).names = op := (names_same (s := s) (s' := ⟨aroundT (settled s.top s.loose) (settled s2.top s2.loose), [], s.anc⟩) rfl rfl).trans hn
    obtain ⟨s', b1, b2, b3, b4, b5⟩ := ih2 ⟨aroundT (settled s.top s.loose) (settled s2.top s2.loose), [], s.anc⟩ hn3 hsim
    refine ⟨s', b1, b2, b3, b4, ?_⟩
    rw [drop_one h, finB_cons, e, a5, ← b5]
    have hnm : nmT s2.top = t.nm := by unfold nmT KP.nm; rw [a2]
    have hnames2 : s2.names = op ++ [t.nm] := by
      have h5 := names_push s.top s2.top s.loose s2.loose (settled s.top s.loose) s.anc rfl
      rw [show (BS.mk s.top s.loose s.anc).names = s.names from rfl, hn, hnm] at h5
      rw [← h5, ← a1]
    rcases hk.last with h0 | ⟨u, hu, hu2, hul⟩
    · have hb : endsAt L a op t.nm = false := by unfold endsAt; rw [h0]
      rw [if_neg (by rw [hb]; decide), drop_off h0]
      show closeAll s2.top s2.loose s2.anc = closeAll _ [] s.anc
      rw [a1, closeAll]
      rfl
    · rw [lastI_snoc] at hul
      by_cases hx : t.nm = u.nm
      · have hb : endsAt L a op t.nm = true := by unfold endsAt; rw [hu]; show (_ || _) = true; rw [beq_iff_eq.2 hx.symm, Bool.or_true]
        rw [if_pos hb, drop_one hu, finB_cons, stepB_two hu2, if_pos (by rw [hnames2, ← hx]; simp), a1, closeTo_end (hnm.trans hx)]
        rfl
      · rw [if_neg hx] at hul
        have hb : endsAt L a op t.nm = false := by
          unfold endsAt
          rw [hu]
          show (_ || _) = false
          rw [decide_eq_false (by omega), beq_eq_false_iff_ne.2 (fun e => hx e.symm)]
          rfl
        have hm : u.nm ∈ op := lastI_mem.1 hul
        rw [if_neg (by rw [hb]; decide), drop_one hu, finB_cons, finB_cons, stepB_two hu2, stepB_two hu2, if_pos (by rw [hnames2]; exact List.mem_append_left _ hm), if_pos (by rw [hn3]; exact hm), a1, closeTo_go (fun e => hx (hnm.symm.trans e))]
/-- the law's own reading, merged, is what the program tells -/
theorem trees_kids {L : List KP} {out : List PT} {j : Nat} (h : KidsR L 0 [] [] out j) : treesB L = mergeP out := by
  obtain ⟨s', a1, _, _, a4, a5⟩ := kids_sim h startB rfl ⟨[], rfl, rfl, Or.inl rfl⟩
  have hj : L[j]? = none := by
    rcases h.last with h0 | ⟨u, _, _, h2⟩
    · exact h0
    · rw [lastI_nil] at h2; exact absurd h2 (by decide)
  rw [drop_off hj] at a5
  rw [a4.merge]
  show finB startB L = _
  rw [List.drop_zero] at a5
  rw [a5]
  show closeAll s'.top s'.loose s'.anc = _
  rw [a1]
  rfl

/-! ### what is open -/
def openP (op : List Nm) (t : KP) : List Nm :=
  if t.kind = 1 ∧ t.name ≠ [] ∧ voidB t.nm = false then op ++ [t.nm]
  else if t.kind = 2 ∧ 0 ≤ lastI op t.nm then op.take (lastI op t.nm).toNat else op
theorem close_names (x : Nm) : ∀ (anc : List PT) (top : PT) (loose : List PT), x ∈ (BS.mk top loose anc).names → (closeTo x top loose anc).names = (BS.mk top loose anc).names.take (lastI (BS.mk top loose anc).names x).toNat := by
  intro anc
  induction anc with
  | nil => intro top loose h; exact absurd h (by show ¬ x ∈ ([] : List Nm); simp)
  | cons a anc ih =>
    intro top loose h
    have hp := names_push (aroundT a (settled top loose)) top [] loose a anc rfl
    rw [hp] at h ⊢
    rw [lastI_snoc]
    by_cases hx : nmT top = x
    · rw [if_pos hx, closeTo_end hx, Int.toNat_natCast, List.take_left']
      · rfl
      · rfl
    · rw [if_neg hx, closeTo_go hx]
      have hm : x ∈ (BS.mk (aroundT a (settled top loose)) [] anc).names := by
        rcases List.mem_append.1 h with h | h
        · exact h
        · exact absurd (by simpa using h : x = nmT top).symm hx
      rw [ih _ _ hm, List.take_append_of_le_length]
      rcases lastI_cases (BS.mk (aroundT a (settled top loose)) [] anc).names x with h2 | h2 <;> omega
theorem step_names (s : BS) (t : KP) : (stepB s t).names = openP s.names t := by
  unfold openP
  by_cases k1 : t.kind = 1
  · have k2 : ¬ (t.kind = 2 ∧ 0 ≤ lastI s.names t.nm) := by rw [k1]; rintro ⟨h, _⟩; exact absurd h (by decide)
    by_cases hn : t.name = []
    · rw [if_neg (fun h => h.2.1 hn), if_neg k2, stepB_other (fun _ => hn) (fun h => by rw [k1] at h; exact absurd h (by decide)) (by rw [k1]; decide)]
    · cases hv : voidB t.nm with
      | true =>
        rw [if_neg (fun h => by have := h.2.2; cases this), if_neg k2]
        unfold stepB
        rw [if_pos k1, if_neg hn, if_pos hv]
        exact names_same rfl rfl
      | false =>
        rw [if_pos ⟨k1, hn, rfl⟩]
        unfold stepB
        rw [if_pos k1, if_neg hn, if_neg (by rw [hv]; decide)]
        exact names_push s.top ⟨t.name, onceA t.attrs, [], []⟩ s.loose [] (settled s.top s.loose) s.anc rfl
  · rw [if_neg (fun h => k1 h.1)]
    by_cases k2 : t.kind = 2
    · rw [stepB_two k2]
      by_cases hm : t.nm ∈ s.names
      · rw [if_pos hm, if_pos ⟨k2, lastI_mem.2 hm⟩]
        exact close_names _ _ _ _ hm
      · rw [if_neg hm, if_neg (fun h => hm (lastI_mem.1 h.2))]
    · rw [if_neg (fun h => k2 h.1)]
      by_cases k3 : t.kind = 3
      · unfold stepB
        rw [if_neg k1, if_neg k2, if_pos k3]
        exact names_same rfl rfl
      · rw [stepB_other (fun h => absurd h k1) (fun h => absurd h k2) k3]
theorem openB_next {L : List KP} {k : Nat} {t : KP} (h : L[k]? = some t) : openB (L.take (k + 1)) = openP (openB (L.take k)) t := by
  unfold openB runB
  rw [take_next h, List.foldl_append]
  exact step_names _ _

/-! ### how much there is -/
def KP.bk (t : KP) : Nat := t.name.length + t.attrs.length + t.text.length + 1
def kbL (l : List KP) : Nat := (l.map KP.bk).sum
theorem kbL_drop {L : List KP} {i : Nat} {t : KP} (h : L[i]? = some t) : kbL (L.drop i) = t.bk + kbL (L.drop (i + 1)) := by
  unfold kbL
  rw [drop_one h, List.map_cons, List.sum_cons]
theorem KidsR.bulk {L : List KP} {i j : Nat} {op : List Nm} {acc out : List PT} (h : KidsR L i op acc out j) : bkL out + kbL (L.drop j) ≤ bkL acc + kbL (L.drop i) := by
  induction h with
  | stop h => exact Nat.le_refl _
  | ended h _ _ => exact Nat.le_refl _
  | @void i j op acc out t h h1 h2 h3 hr ih =>
    rw [bkL_append, bkL_one, PT.bk_eq] at ih
    have := kbL_drop h
    unfold KP.bk at this
    simp only [bkL, List.length_nil] at ih
    omega
  | @data i j op acc out t h h1 hr ih =>
    rw [bkL_append, bkL_one, PT.bk_eq] at ih
    have := kbL_drop h
    unfold KP.bk at this
    simp only [txT, bkL, List.length_nil] at ih
    omega
  | @other i j op acc out t h h1 h2 h3 hr ih =>
    have := kbL_drop h
    omega
  | @elem i j a op acc ks out t h h1 h2 h3 hk hr ih1 ih2 =>
    rw [bkL_append, bkL_one, PT.bk_eq] at ih2
    have h5 := kbL_drop h
    unfold KP.bk at h5
    have h6 : kbL (L.drop (if endsAt L a op t.nm = true then a + 1 else a)) ≤ kbL (L.drop a) := by
      split
      · cases hu : L[a]? with
        | none => rw [drop_off hu, List.drop_of_length_le (by have := List.getElem?_eq_none_iff.1 hu; omega)]; exact Nat.le_refl _
        | some u => have := kbL_drop hu; omega
      · exact Nat.le_refl _
    simp only [bkL, List.length_nil] at ih1 ih2
    omega

end Go.Proofs.Ytddgabjhligeeaa.mk

namespace Go.Proofs.Ytddgabjhligeeaa.mk

def simpleT (x : PT) : Prop := (∃ c, x = txT c) ∨ ∃ n a, n ≠ [] ∧ x = ⟨n, a, [], []⟩
theorem merge_nil0 : mergeP [] = [] := rfl
theorem words_tx (c : Ch) : wordsL [txT c] = c := by rw [wordsL_one, PT.words_eq]; show c ++ wordsL [] = c; rw [wordsL, List.append_nil]
theorem tags_tx (c : Ch) : tagsL [txT c] = [] := by rw [tagsL_one, PT.tags_eq]; show (if ([] : Ch) ≠ [] then _ else []) ++ tagsL [] = []; rw [if_neg (by simp), tagsL]; rfl
theorem words_el (n : Ch) (a : List PA) : wordsL [⟨n, a, [], []⟩] = [] := by rw [wordsL_one, PT.words_eq]; show [] ++ wordsL [] = []; rw [wordsL]; rfl
theorem tags_el {n : Ch} (a : List PA) (h : n ≠ []) : tagsL [⟨n, a, [], []⟩] = [n.map (·.1)] := by rw [tagsL_one, PT.tags_eq]; show (if n ≠ [] then [n.map (·.1)] else []) ++ tagsL [] = _; rw [if_pos h, tagsL]; rfl
theorem simple_one {x : PT} (h : simpleT x) : wordsL (mergeP [x]) = wordsL [x] ∧ tagsL (mergeP [x]) = tagsL [x] := by
  have e : mergeP [x] = addT [] x (mergeP x.kids) := merge_snoc [] x
  rw [e]
  rcases h with ⟨c, rfl⟩ | ⟨n, a, hn, rfl⟩
  · by_cases hc : c = []
    · subst hc
      rw [addT_no (t := txT []) rfl rfl, words_tx, tags_tx, wordsL, tagsL]
      exact ⟨rfl, rfl⟩
    · rw [addT_nil (t := txT c) rfl hc]
      exact ⟨rfl, rfl⟩
  · rw [addT_el (t := ⟨n, a, [], []⟩) hn, words_el, tags_el a hn]
    show wordsL [⟨n, onceA a, [], []⟩] = [] ∧ tagsL [⟨n, onceA a, [], []⟩] = _
    exact ⟨words_el _ _, tags_el _ hn⟩
theorem simple_all {L : List PT} (h : ∀ x ∈ L, simpleT x) : wordsL (mergeP L) = wordsL L ∧ tagsL (mergeP L) = tagsL L := by
  induction L using snocInd with
  | nil => exact ⟨rfl, rfl⟩
  | append_singleton L x ih =>
    obtain ⟨h1, h2⟩ := ih fun y hy => h y (by simp [hy])
    obtain ⟨h3, h4⟩ := simple_one (h x (by simp))
    rw [merge_append, glue_words (merge_ok _) (merge_ok _), glue_tags (merge_ok _) (merge_ok _), h1, h2, h3, h4, wordsL_append, tagsL_append]
    exact ⟨rfl, rfl⟩

def ownC (c : Ch) : List Nm := if c ≠ [] then [c.map (·.1)] else []
def wAnc : List PT → Ch
  | [] => []
  | a :: anc => wAnc anc ++ wordsL a.kids
def tAnc : List PT → List Nm
  | [] => []
  | a :: anc => tAnc anc ++ (ownC a.tag ++ tagsL a.kids)
def rootT : PT → List PT → Ch
  | top, [] => top.tag
  | _, a :: anc => rootT a anc
def wSt (top : PT) (loose anc : List PT) : Ch := wAnc anc ++ (wordsL top.kids ++ wordsL loose)
def tSt (top : PT) (loose anc : List PT) : List Nm := tAnc anc ++ (ownC top.tag ++ (tagsL top.kids ++ tagsL loose))
theorem root_tag {a b : PT} (h : a.tag = b.tag) (anc : List PT) : rootT a anc = rootT b anc := by cases anc <;> first | exact h | rfl
theorem end_words (top a : PT) (anc : List PT) {loose : List PT} (h : ∀ x ∈ loose, simpleT x) : wSt (aroundT a (settled top loose)) [] anc = wSt top loose (a :: anc) := by
  obtain ⟨h1, _⟩ := simple_all h
  show wAnc anc ++ (wordsL (a.kids ++ [settled top loose]) ++ wordsL []) = wAnc anc ++ wordsL a.kids ++ (wordsL top.kids ++ wordsL loose)
  rw [wordsL_append, wordsL_one, PT.words_eq]
  show wAnc anc ++ (wordsL a.kids ++ ([] ++ wordsL (top.kids ++ mergeP loose)) ++ wordsL []) = _
  rw [wordsL_append, h1, wordsL]
  simp
theorem end_tags (top a : PT) (anc : List PT) {loose : List PT} (h : ∀ x ∈ loose, simpleT x) : tSt (aroundT a (settled top loose)) [] anc = tSt top loose (a :: anc) := by
  obtain ⟨_, h1⟩ := simple_all h
  show tAnc anc ++ (ownC a.tag ++ (tagsL (a.kids ++ [settled top loose]) ++ tagsL [])) = tAnc anc ++ (ownC a.tag ++ tagsL a.kids) ++ (ownC top.tag ++ (tagsL top.kids ++ tagsL loose))
  rw [tagsL_append, tagsL_one, PT.tags_eq]
  show tAnc anc ++ (ownC a.tag ++ (tagsL a.kids ++ (ownC top.tag ++ tagsL (top.kids ++ mergeP loose)) ++ tagsL [])) = _
  rw [tagsL_append, h1, tagsL]
  simp
theorem nosimple : ∀ x ∈ ([] : List PT), simpleT x := fun x hx => by cases hx
theorem closeTo_all (x : Nm) : ∀ (anc : List PT) (top : PT) (loose : List PT), (∀ x ∈ loose, simpleT x) →
    (∀ y ∈ (closeTo x top loose anc).loose, simpleT y) ∧ wSt (closeTo x top loose anc).top (closeTo x top loose anc).loose (closeTo x top loose anc).anc = wSt top loose anc ∧
      tSt (closeTo x top loose anc).top (closeTo x top loose anc).loose (closeTo x top loose anc).anc = tSt top loose anc ∧ rootT (closeTo x top loose anc).top (closeTo x top loose anc).anc = rootT top anc := by
  intro anc
  induction anc with
  | nil => intro top loose h; exact ⟨h, rfl, rfl, rfl⟩
  | cons a anc ih =>
    intro top loose h
    by_cases hx : nmT top = x
    · rw [closeTo_end hx]
      exact ⟨nosimple, end_words top a anc h, end_tags top a anc h, root_tag (a := aroundT a (settled top loose)) (b := a) rfl anc⟩
    · rw [closeTo_go hx]
      obtain ⟨h1, h2, h3, h4⟩ := ih (aroundT a (settled top loose)) [] nosimple
      exact ⟨h1, h2.trans (end_words top a anc h), h3.trans (end_tags top a anc h), h4.trans (root_tag (a := aroundT a (settled top loose)) (b := a) rfl anc)⟩
theorem closeAll_all : ∀ (anc : List PT) (top : PT) (loose : List PT), (∀ x ∈ loose, simpleT x) → rootT top anc = [] → wordsL (closeAll top loose anc) = wSt top loose anc ∧ tagsL (closeAll top loose anc) = tSt top loose anc := by
  intro anc
  induction anc with
  | nil =>
    intro top loose h hr
    obtain ⟨h1, h2⟩ := simple_all h
    show wordsL (top.kids ++ mergeP loose) = [] ++ (wordsL top.kids ++ wordsL loose) ∧ tagsL (top.kids ++ mergeP loose) = [] ++ (ownC top.tag ++ (tagsL top.kids ++ tagsL loose))
    have hr : top.tag = [] := hr
    rw [wordsL_append, tagsL_append, h1, h2, hr]
    exact ⟨rfl, rfl⟩
  | cons a anc ih =>
    intro top loose h hr
    obtain ⟨h1, h2⟩ := ih (aroundT a (settled top loose)) [] nosimple ((root_tag (a := aroundT a (settled top loose)) (b := a) rfl anc).trans hr)
    exact ⟨h1.trans (end_words top a anc h), h2.trans (end_tags top a anc h)⟩

/-- what a token tells: its text, its name -/
def KP.word (t : KP) : Ch := if t.kind = 3 then t.text else []
def KP.opens (t : KP) : List Nm := if t.kind = 1 ∧ t.name ≠ [] then [t.nm] else []
theorem step_all (s : BS) (t : KP) (h : ∀ x ∈ s.loose, simpleT x) (hr : rootT s.top s.anc = []) :
    (∀ x ∈ (stepB s t).loose, simpleT x) ∧ rootT (stepB s t).top (stepB s t).anc = [] ∧ wSt (stepB s t).top (stepB s t).loose (stepB s t).anc = wSt s.top s.loose s.anc ++ t.word ∧ tSt (stepB s t).top (stepB s t).loose (stepB s t).anc = tSt s.top s.loose s.anc ++ t.opens := by
  unfold stepB KP.word KP.opens
  by_cases k1 : t.kind = 1
  · have k3 : ¬ t.kind = 3 := by omega
    rw [if_pos k1, if_neg k3]
    by_cases hn : t.name = []
    · rw [if_pos hn, if_neg (show ¬ (t.kind = 1 ∧ t.name ≠ []) from fun h => h.2 hn), List.append_nil, List.append_nil]
      exact ⟨h, hr, rfl, rfl⟩
    · rw [if_neg hn, if_pos (show t.kind = 1 ∧ t.name ≠ [] from ⟨k1, hn⟩), List.append_nil]
      by_cases hv : voidB t.nm
      · rw [if_pos hv]
        refine ⟨?_, hr, ?_, ?_⟩
        · intro x hx
          rcases List.mem_append.1 hx with hx | hx
          · exact h x hx
          · exact .inr ⟨_, _, hn, by simpa using hx⟩
        · show wAnc s.anc ++ (wordsL s.top.kids ++ wordsL (s.loose ++ [_])) = wAnc s.anc ++ (wordsL s.top.kids ++ wordsL s.loose)
          rw [wordsL_append, words_el, List.append_nil]
        · show tAnc s.anc ++ (ownC s.top.tag ++ (tagsL s.top.kids ++ tagsL (s.loose ++ [_]))) = tAnc s.anc ++ (ownC s.top.tag ++ (tagsL s.top.kids ++ tagsL s.loose)) ++ [t.nm]
          rw [tagsL_append, tags_el _ hn]
          simp [KP.nm]
      · rw [if_neg hv]
        obtain ⟨h1, h2⟩ := simple_all h
        refine ⟨nosimple, (root_tag (a := settled s.top s.loose) (b := s.top) rfl s.anc).trans hr, ?_, ?_⟩
        · show wAnc s.anc ++ wordsL (s.top.kids ++ mergeP s.loose) ++ (wordsL [] ++ wordsL []) = wAnc s.anc ++ (wordsL s.top.kids ++ wordsL s.loose)
          rw [wordsL_append, h1, wordsL]
          simp
        · show tAnc s.anc ++ (ownC s.top.tag ++ tagsL (s.top.kids ++ mergeP s.loose)) ++ (ownC t.name ++ (tagsL [] ++ tagsL [])) = tAnc s.anc ++ (ownC s.top.tag ++ (tagsL s.top.kids ++ tagsL s.loose)) ++ [t.nm]
          rw [tagsL_append, h2, tagsL, show ownC t.name = [t.nm] from if_pos hn]
          simp
  · rw [if_neg k1, if_neg (show ¬ (t.kind = 1 ∧ t.name ≠ []) from fun h => k1 h.1), List.append_nil]
    by_cases k2 : t.kind = 2
    · have k3 : ¬ t.kind = 3 := by omega
      rw [if_pos k2, if_neg k3, List.append_nil]
      by_cases hx : t.nm ∈ s.names
      · rw [if_pos hx]
        obtain ⟨h1, h2, h3, h4⟩ := closeTo_all t.nm s.anc s.top s.loose h
        exact ⟨h1, h4.trans hr, h2, h3⟩
      · rw [if_neg hx]
        exact ⟨h, hr, rfl, rfl⟩
    · rw [if_neg k2]
      by_cases k3 : t.kind = 3
      · rw [if_pos k3, if_pos k3]
        refine ⟨?_, hr, ?_, ?_⟩
        · intro x hx
          rcases List.mem_append.1 hx with hx | hx
          · exact h x hx
          · exact .inl ⟨_, by simpa using hx⟩
        · show wAnc s.anc ++ (wordsL s.top.kids ++ wordsL (s.loose ++ [_])) = wAnc s.anc ++ (wordsL s.top.kids ++ wordsL s.loose) ++ t.text
          rw [wordsL_append, words_tx]
          simp
        · show tAnc s.anc ++ (ownC s.top.tag ++ (tagsL s.top.kids ++ tagsL (s.loose ++ [_]))) = tAnc s.anc ++ (ownC s.top.tag ++ (tagsL s.top.kids ++ tagsL s.loose))
          rw [tagsL_append, tags_tx, List.append_nil]
      · rw [if_neg k3, if_neg k3, List.append_nil]
        exact ⟨h, hr, rfl, rfl⟩
theorem run_all (L : List KP) : ∀ s : BS, (∀ x ∈ s.loose, simpleT x) → rootT s.top s.anc = [] →
    (∀ x ∈ (runB s L).loose, simpleT x) ∧ rootT (runB s L).top (runB s L).anc = [] ∧ wSt (runB s L).top (runB s L).loose (runB s L).anc = wSt s.top s.loose s.anc ++ L.flatMap KP.word ∧ tSt (runB s L).top (runB s L).loose (runB s L).anc = tSt s.top s.loose s.anc ++ L.flatMap KP.opens := by
  induction L with
  | nil => intro s h hr; exact ⟨h, hr, by simp [runB], by simp [runB]⟩
  | cons t L ih =>
    intro s h hr
    obtain ⟨h1, h2, h3, h4⟩ := step_all s t h hr
    obtain ⟨g1, g2, g3, g4⟩ := ih (stepB s t) h1 h2
    refine ⟨g1, g2, ?_, ?_⟩
    · show wSt (runB (stepB s t) L).top (runB (stepB s t) L).loose (runB (stepB s t) L).anc = _
      rw [g3, h3, List.flatMap_cons, List.append_assoc]
    · show tSt (runB (stepB s t) L).top (runB (stepB s t) L).loose (runB (stepB s t) L).anc = _
      rw [g4, h4, List.flatMap_cons, List.append_assoc]
/-- ALL WORDS AND ALL TAGS -/
theorem trees_all (L : List KP) : wordsL (treesB L) = L.flatMap KP.word ∧ tagsL (treesB L) = L.flatMap KP.opens := by
  obtain ⟨g1, g2, g3, g4⟩ := run_all L startB nosimple rfl
  obtain ⟨h1, h2⟩ := closeAll_all (runB startB L).anc (runB startB L).top (runB startB L).loose g1 g2
  exact ⟨h1.trans (g3.trans rfl), h2.trans (g4.trans rfl)⟩
/-- THE LAW'S READING ENDS -/
theorem kids_some (L : List KP) : ∀ (m i : Nat) (op : List Nm) (acc : List PT), L.length - i ≤ m → ∃ out j, KidsR L i op acc out j := by
  intro m
  induction m with
  | zero =>
    intro i op acc h
    exact ⟨acc, i, .stop (List.getElem?_eq_none (by omega))⟩
  | succ m ih =>
    intro i op acc h
    cases ht : L[i]? with
    | none => exact ⟨acc, i, .stop ht⟩
    | some t =>
      have hi := (List.getElem?_eq_some_iff.1 ht).1
      by_cases k1 : t.kind = 1 ∧ t.name ≠ []
      · cases hv : voidB t.nm with
        | true =>
          obtain ⟨out, j, hr⟩ := ih (i + 1) op (acc ++ [⟨t.name, t.attrs, [], []⟩]) (by omega)
          exact ⟨out, j, .void ht k1.1 k1.2 hv hr⟩
        | false =>
          obtain ⟨ks, a, hk⟩ := ih (i + 1) (op ++ [t.nm]) [] (by omega)
          have hle := hk.le
          obtain ⟨out, j, hr⟩ := ih (if endsAt L a op t.nm = true then a + 1 else a) op (acc ++ [⟨t.name, t.attrs, ks, []⟩]) (by split <;> omega)
          exact ⟨out, j, .elem ht k1.1 k1.2 hv hk hr⟩
      · by_cases k2 : t.kind = 2 ∧ 0 ≤ lastI op t.nm
        · exact ⟨acc, i, .ended ht k2.1 k2.2⟩
        · by_cases k3 : t.kind = 3
          · obtain ⟨out, j, hr⟩ := ih (i + 1) op (acc ++ [txT t.text]) (by omega)
            exact ⟨out, j, .data ht k3 hr⟩
          · obtain ⟨out, j, hr⟩ := ih (i + 1) op acc (by omega)
            refine ⟨out, j, .other ht (fun h => ?_) (fun h => ?_) k3 hr⟩
            · by_cases hn : t.name = []
              · exact hn
              · exact absurd ⟨h, hn⟩ k1
            · by_cases hl : 0 ≤ lastI op t.nm
              · exact absurd ⟨h, hl⟩ k2
              · omega
/-- what is built is merged -/
theorem trees_merged (L : List KP) : mergeP (treesB L) = treesB L := by
  obtain ⟨out, j, h⟩ := kids_some L L.length 0 [] [] (Nat.sub_le _ _)
  rw [trees_kids h, merge_merge]

end Go.Proofs.Ytddgabjhligeeaa.mk

namespace Go.Proofs.Ytddgabjhligeeaa.mk
open Go.RowKit

/-- an attribute as it lies in memory -/
structure AT where
  nm : LT
  vl : LT
def AT.v (a : AT) : Value := .agg #[.string a.nm.s, .slice a.nm.A a.nm.n a.nm.c, .string a.vl.s, .slice a.vl.A a.vl.n a.vl.c]
def AT.ok (w : World) (B : Nat) (a : AT) : Prop := a.nm.ok w B ∧ a.vl.ok w B
def AT.ch (a : AT) : PA := (a.nm.ch, a.vl.ch)
def atRow (a : AT) : List Value := [.string a.nm.s, .slice a.nm.A a.nm.n a.nm.c, .string a.vl.s, .slice a.vl.A a.vl.n a.vl.c]
def atCells (l : List AT) : List Value := l.flatMap atRow
theorem AT.nmB (a : AT) : nmB a.ch = a.nm.bs := LT.ch_fst _
theorem LT.ok.keep {w0 w : World} {B : Nat} {t : LT} (h : t.ok w0 B) (hk : ∀ p : Addr, p.block < B → w.cell? p = w0.cell? p) : t.ok w B := ⟨h.1.keep hk, h.2⟩
theorem LT.ok.mono {w : World} {B B' : Nat} {t : LT} (h : t.ok w B) (hb : B ≤ B') : t.ok w B' := ⟨h.1.mono hb, h.2⟩
theorem AT.ok.keep {w0 w : World} {B : Nat} {t : AT} (h : t.ok w0 B) (hk : ∀ p : Addr, p.block < B → w.cell? p = w0.cell? p) : t.ok w B := ⟨h.1.keep hk, h.2.keep hk⟩
theorem AT.ok.mono {w : World} {B B' : Nat} {t : AT} (h : t.ok w B) (hb : B ≤ B') : t.ok w B' := ⟨h.1.mono hb, h.2.mono hb⟩
theorem AT.ok.next {w0 w : World} {B : Nat} {t : AT} (h : t.ok w0 B) (hb : Below B w0 w) (hz : B ≤ w0.heap.size) : t.ok w w.heap.size := ⟨h.1.next hb hz, h.2.next hb hz⟩
theorem AT.ok.below {w0 w : World} {B : Nat} {t : AT} (h : t.ok w0 B) (hb : Below B w0 w) : t.ok w B := h.keep fun _ hp => hb.cell hp
theorem atCells_length (ts : List AT) : (atCells ts).length = ts.length * 4 := by
  induction ts with
  | nil => rfl
  | cons r l ih => simp only [atCells, atRow, List.flatMap_cons, List.length_append, List.length_cons, List.length_nil] at ih ⊢; omega
theorem atCells_snoc (ts : List AT) (t : AT) : atCells (ts ++ [t]) = atCells ts ++ atRow t := by simp [atCells]
theorem atCells_append (ts us : List AT) : atCells (ts ++ us) = atCells ts ++ atCells us := by simp [atCells]
theorem atCells_at (ts : List AT) (k : Nat) (t : AT) (h : ts[k]? = some t) (j : Nat) (hj : j < 4) : (atCells ts)[k * 4 + j]? = (atRow t)[j]? := by
  induction ts generalizing k with
  | nil => simp at h
  | cons x ts ih =>
    have e : atCells (x :: ts) = atRow x ++ atCells ts := rfl
    rw [e]
    have hl : (atRow x).length = 4 := rfl
    cases k with
    | zero =>
      simp at h
      subst h
      rw [Nat.zero_mul, Nat.zero_add, List.getElem?_append_left (by omega)]
    | succ k =>
      rw [List.getElem?_append_right (by omega), hl]
      have : (k + 1) * 4 + j - 4 = k * 4 + j := by omega
      rw [this]
      exact ih k (by simpa using h)
theorem addr_nexts (ad : Addr) (k : Nat) : ad.add (k + 1) = ⟨(ad.add k).block, (ad.add k).off + 1, none⟩ ∧ ad.add (k + 2) = ⟨(ad.add k).block, (ad.add k).off + 2, none⟩ ∧ ad.add (k + 3) = ⟨(ad.add k).block, (ad.add k).off + 3, none⟩ := by
  refine ⟨addr_next ad k, ?_, ?_⟩
  · rw [addr_next ad (k + 1), addr_next ad k]
  · rw [addr_next ad (k + 2), addr_next ad (k + 1), addr_next ad k]
/-- attribute k of a row: its four cells, as the walk spells them -/
theorem Lies.att {w : World} {B : Nat} {A : Option Addr} {ts : List AT} (h : Lies w B A (atCells ts)) {k : Nat} (hk : k < ts.length) :
    ∃ ad t, A = some ad ∧ ad.block < B ∧ w.cell? (ad.add (k * 4)) = some (.string t.nm.s) ∧ w.cell? ⟨(ad.add (k * 4)).block, (ad.add (k * 4)).off + 1, none⟩ = some (.slice t.nm.A t.nm.n t.nm.c) ∧
      w.cell? ⟨(ad.add (k * 4)).block, (ad.add (k * 4)).off + 2, none⟩ = some (.string t.vl.s) ∧ w.cell? ⟨(ad.add (k * 4)).block, (ad.add (k * 4)).off + 3, none⟩ = some (.slice t.vl.A t.vl.n t.vl.c) ∧ Hid (ts[k]? = some t) := by
  have ht : ts[k]? = some ts[k] := List.getElem?_eq_getElem hk
  generalize ts[k] = t at ht
  have key : ∀ j u, j < 4 → (atRow t)[j]? = some u → ∃ ad, A = some ad ∧ ad.block < B ∧ w.cell? (ad.add (k * 4 + j)) = some u := fun j u hj hu => h _ _ ((atCells_at ts k t ht j hj).trans hu)
  obtain ⟨ad, e, hb, h0⟩ := key 0 _ (by omega) rfl
  subst e
  have key' : ∀ j u, j < 4 → (atRow t)[j]? = some u → w.cell? (ad.add (k * 4 + j)) = some u := by
    intro j u hj hu
    obtain ⟨ad', e, _, hc⟩ := key j u hj hu
    injection e with e
    subst e
    exact hc
  obtain ⟨e1, e2, e3⟩ := addr_nexts ad (k * 4)
  exact ⟨ad, t, rfl, hb, h0, by rw [← e1]; exact key' 1 _ (by omega) rfl, by rw [← e2]; exact key' 2 _ (by omega) rfl, by rw [← e3]; exact key' 3 _ (by omega) rfl, ht⟩

/-- the runs are those that the origins of its bytes make -/
def LT.told (t : LT) : Prop := t.rs = comp (t.ch.map (·.2))
/-- the runs of a labelled text, and of an attribute, are rows of the call's own, and as the origins of its bytes make them -/
def OwnL (w : World) (base : Nat) (t : LT) : Prop := t.rs.length = t.n ∧ (t.n ≤ 4294967296 ∧ t.told) ∧ t.s.size ≤ 4294967296 ∧ w.ownsRow base 72 2 (.slice t.A t.n t.c) t.n (runCells t.rs)
def OwnA (w : World) (base : Nat) (a : AT) : Prop := OwnL w base a.nm ∧ OwnL w base a.vl
theorem OwnL.ok {w : World} {base : Nat} {t : LT} (h : OwnL w base t) : t.ok w w.heap.size := ⟨Lies.own h.2.2.2, h.1, h.2.1.1, h.2.2.1⟩
theorem OwnL.told {w : World} {base : Nat} {t : LT} (h : OwnL w base t) : t.rs = comp (t.ch.map (·.2)) := h.2.1.2
theorem OwnA.ok {w : World} {base : Nat} {t : AT} (h : OwnA w base t) : t.ok w w.heap.size := ⟨h.1.ok, h.2.ok⟩
theorem OwnL.mono {w : World} {base base' : Nat} {t : LT} (h : OwnL w base t) (hb : base' ≤ base) : OwnL w base' t := ⟨h.1, h.2.1, h.2.2.1, own_mono h.2.2.2 hb⟩
theorem OwnA.mono {w : World} {base base' : Nat} {t : AT} (h : OwnA w base t) (hb : base' ≤ base) : OwnA w base' t := ⟨h.1.mono hb, h.2.mono hb⟩
theorem OwnL.keep {w w' : World} {base : Nat} {t : LT} (h : OwnL w base t) (hk : ∀ g c, base ≤ g → w.heap[g]? = some (.cells c 72 (0, 0)) → w'.heap[g]? = w.heap[g]?) : OwnL w' base t := by
  refine ⟨h.1, h.2.1, h.2.2.1, own_same h.2.2.2 fun g hg => ?_⟩
  obtain ⟨cur, hc⟩ := own_kind h.2.2.2 hg
  exact hk g cur (h.2.2.2.lt g hg).1 hc
theorem OwnL.below {w w' : World} {base : Nat} {t : LT} (h : OwnL w base t) (hb : Below w.heap.size w w') : OwnL w' base t := h.keep fun _ _ _ hc => hb.block _ (Array.getElem?_eq_some_iff.1 hc).1
theorem OwnA.keep {w w' : World} {base : Nat} {t : AT} (h : OwnA w base t) (hk : ∀ g c, base ≤ g → w.heap[g]? = some (.cells c 72 (0, 0)) → w'.heap[g]? = w.heap[g]?) : OwnA w' base t := ⟨h.1.keep hk, h.2.keep hk⟩
theorem OwnA.below {w w' : World} {base : Nat} {t : AT} (h : OwnA w base t) (hb : Below w.heap.size w w') : OwnA w' base t := h.keep fun _ _ _ hc => hb.block _ (Array.getElem?_eq_some_iff.1 hc).1
/-- a row of attributes of the call's own is written, or grows: runs stay -/
theorem kind_apart {w : World} {base n g : Nat} {v : Value} {xs : List Value} {c : Array Value} {size : Nat} {e : TypeId} (ho : w.ownsRow base e size v n xs) (he : e ≠ 72) (hc : w.heap[g]? = some (.cells c 72 (0, 0))) : some g ≠ v.ownBlock := by
  intro h
  obtain ⟨cur, hc'⟩ := own_kind ho h.symm
  rw [hc] at hc'
  injection hc' with hc'
  injection hc' with _ h _
  exact he h.symm
theorem OwnA.grown {w w' : World} {base base' n : Nat} {v : Value} {xs : List Value} {t : AT} {size : Nat} {e : TypeId} (h : OwnA w base t) (ho : w.ownsRow base' e size v n xs) (he : e ≠ 72) (hg : w.grownBy w' v.ownBlock) : OwnA w' base t :=
  h.keep fun g _ _ hc => hg.block g (Array.getElem?_eq_some_iff.1 hc).1 (kind_apart ho he hc)

/-- what is read of a list of attributes: it lies there, below a block -/
def AllOk (w : World) (B : Nat) (ts : List AT) : Prop := ∀ t ∈ ts, t.ok w B
def AllOwn (w : World) (base : Nat) (ts : List AT) : Prop := ∀ t ∈ ts, OwnA w base t
theorem AllOwn.ok {w : World} {base : Nat} {ts : List AT} (h : AllOwn w base ts) : AllOk w w.heap.size ts := fun t ht => (h t ht).ok
theorem AllOwn.mono {w : World} {base base' : Nat} {ts : List AT} (h : AllOwn w base ts) (hb : base' ≤ base) : AllOwn w base' ts := fun t ht => (h t ht).mono hb
theorem AllOwn.below {w w' : World} {base : Nat} {ts : List AT} (h : AllOwn w base ts) (hb : Below w.heap.size w w') : AllOwn w' base ts := fun t ht => (h t ht).below hb
theorem AllOwn.snoc {w : World} {base : Nat} {ts : List AT} {t : AT} (h : AllOwn w base ts) (ht : OwnA w base t) : AllOwn w base (ts ++ [t]) := by
  intro x hx
  rcases List.mem_append.1 hx with hx | hx
  · exact h x hx
  · simp at hx; subst hx; exact ht
theorem AllOk.next {w0 w : World} {B : Nat} {ts : List AT} (h : AllOk w0 B ts) (hb : Below B w0 w) (hz : B ≤ w0.heap.size) : AllOk w w.heap.size ts := fun t ht => (h t ht).next hb hz
theorem AllOk.keep {w0 w : World} {B : Nat} {ts : List AT} (h : AllOk w0 B ts) (hk : ∀ p : Addr, p.block < B → w.cell? p = w0.cell? p) : AllOk w B ts := fun t ht => (h t ht).keep hk
theorem AllOk.mono {w : World} {B B' : Nat} {ts : List AT} (h : AllOk w B ts) (hb : B ≤ B') : AllOk w B' ts := fun t ht => (h t ht).mono hb
theorem AllOk.get {w : World} {B : Nat} {ts : List AT} (h : AllOk w B ts) {k : Nat} {t : AT} (ht : ts[k]? = some t) : t.ok w B := h t (List.mem_of_getElem? ht)
theorem chs_at {ts : List AT} {k : Nat} {t : AT} (h : ts[k]? = some t) : (ts.map AT.ch)[k]? = some t.ch := by rw [List.getElem?_map, h]; rfl

/-- a list of attributes that is told: in memory of its own -/
def TellsA (qs : List PA) (w : World) (e : Ending) (w' : World) : Prop :=
  ∃ A c ts, e = .returned (.slice A ts.length c) ∧ w'.ownsRow w.heap.size 60 4 (.slice A ts.length c) ts.length (atCells ts) ∧ AllOwn w' w.heap.size ts ∧ ts.map AT.ch = qs ∧ Below w.heap.size w w'
theorem att_info : (Try.prog.info? 60).map (fun i => (i.zero, i.size, i.bytes)) = some (some (.agg #[.string ⟨#[]⟩, .slice none 0 0, .string ⟨#[]⟩, .slice none 0 0]), 4, 80) := by kernel_rfl
/-- what is told of bytes and origins gives them back -/
theorem chars_taken (s : ByteArray) (rs : List (Int × Int)) : chars s.data.toList (taken s.size rs) = chars s.data.toList rs := by
  have h := chars_told (InR.chars s.data.toList rs)
  rw [chars_fst, chars_snd] at h
  have hl : s.data.toList.length = s.size := by rw [Array.length_toList]; rfl
  rw [hl] at h
  exact h
theorem own_told {s : ByteArray} {rs : List (Int × Int)} {v : Value} {base : Nat} {w : World} (hs : s.size ≤ 4294967296) (h : w.ownsRow base 72 2 v (taken s.size rs).length (runCells (taken s.size rs))) :
    ∃ t : LT, v = .slice t.A t.n t.c ∧ t.s = s ∧ t.ch = chars s.data.toList rs ∧ OwnL w base t := by
  obtain ⟨A, c, rfl, _, _, _⟩ := own_form h
  refine ⟨⟨s, A, _, c, taken s.size rs⟩, rfl, rfl, chars_taken s rs, rfl, ⟨?_, ?_⟩, hs, h⟩
  rotate_left
  · show taken s.size rs = comp ((chars s.data.toList (taken s.size rs)).map (·.2))
    rw [chars_taken, chars_snd, show s.data.toList.length = s.size by rw [Array.length_toList]; rfl]
    rfl
  show (taken s.size rs).length ≤ _
  have := comp_length_le (origins s.size rs)
  rw [origins_length] at this
  unfold taken
  omega

end Go.Proofs.Ytddgabjhligeeaa.mk

namespace Go.Proofs.Ytddgabjhligeeaa.mk
open Go.RowKit

/-- a text, if it has bytes -/
def txs (p : Ch) : List PT := if p = [] then [] else [txT p]
/-- those beside each other, what is pending ahead of them -/
def sibF : List PT → Ch → List PT
  | [], p => txs p
  | t :: ts, p => if t.tag = [] then sibF ts (p ++ t.text) else txs p ++ ⟨t.tag, t.attrs, t.kids, []⟩ :: sibF ts []
def sibs (L : List PT) : List PT := sibF L []
/-- merged below -/
def mgT (t : PT) : PT := ⟨t.tag, onceA t.attrs, mergeP t.kids, t.text⟩

theorem txs_nil : txs [] = [] := rfl
theorem txs_some {p : Ch} (h : p ≠ []) : txs p = [txT p] := if_neg h
theorem mgT_tx (p : Ch) : mgT (txT p) = txT p := rfl
theorem txs_mg (p : Ch) : (txs p).map mgT = txs p := by
  unfold txs
  split
  · rfl
  · rw [List.map_singleton, mgT_tx]
theorem mgO_sib (L : List PT) : ∀ (out : List PT) (p : Ch), (out = [] ∨ ∃ xs x, out = xs ++ [x] ∧ x.tag ≠ []) → mgO (out ++ txs p) L = out ++ (sibF L p).map mgT := by
  induction L with
  | nil => intro out p _; rw [mgO, sibF, txs_mg]
  | cons t ts ih =>
    intro out p hout
    rw [mgO, sibF]
    by_cases ht : t.tag = []
    · rw [if_pos ht]
      have e : addT (out ++ txs p) t t.mg = out ++ txs (p ++ t.text) := by
        by_cases hx : t.text = []
        · rw [addT_no ht hx, hx, List.append_nil]
        · by_cases hp : p = []
          · subst hp
            rw [txs_nil, List.append_nil, List.nil_append, txs_some hx]
            rcases hout with rfl | ⟨xs, x, rfl, hxt⟩
            · exact addT_nil ht hx _
            · exact addT_far ht hx xs x hxt _
          · rw [txs_some hp, txs_some (by simp [hp])]
            exact addT_tx ht hx out (txT p) rfl _
      rw [e, ih _ _ hout]
    · rw [if_neg ht, addT_el ht, PT.mg_eq]
      have h1 := ih (out ++ txs p ++ [⟨t.tag, onceA t.attrs, mergeP t.kids, []⟩]) [] (.inr ⟨_, _, rfl, ht⟩)
      rw [txs_nil, List.append_nil] at h1
      rw [h1, List.map_append, txs_mg, List.map_cons]
      simp [mgT]
theorem merge_sibs (L : List PT) : mergeP L = (sibs L).map mgT := by
  have h := mgO_sib L [] [] (.inl rfl)
  exact h
theorem sib_drop {L : List PT} {k : Nat} {t : PT} (h : L[k]? = some t) (p : Ch) : sibF (L.drop k) p = if t.tag = [] then sibF (L.drop (k + 1)) (p ++ t.text) else txs p ++ ⟨t.tag, t.attrs, t.kids, []⟩ :: sibF (L.drop (k + 1)) [] := by
  obtain ⟨hk, e⟩ := List.getElem?_eq_some_iff.1 h
  rw [List.drop_eq_getElem_cons hk, e, sibF]
theorem sib_end {L : List PT} {k : Nat} (h : L.length ≤ k) (p : Ch) : sibF (L.drop k) p = txs p := by
  rw [List.drop_of_length_le h, sibF]
/-- what stands among them -/
def okS (x : PT) : Prop := (x.tag = [] → x = txT x.text ∧ x.text ≠ []) ∧ (x.tag ≠ [] → x.text = [])
theorem txs_ok {p : Ch} {x : PT} (h : x ∈ txs p) : okS x ∧ x.kids = [] := by
  unfold txs at h
  split at h
  · cases h
  · rename_i hp
    obtain rfl := List.mem_singleton.1 h
    exact ⟨⟨fun _ => ⟨rfl, hp⟩, fun h => absurd rfl h⟩, rfl⟩
theorem sibF_ok (L : List PT) : ∀ (p : Ch) (x : PT), x ∈ sibF L p → okS x ∧ (x.kids = [] ∨ ∃ t ∈ L, x.kids = t.kids) := by
  induction L with
  | nil => intro p x h; rw [sibF] at h; exact ⟨(txs_ok h).1, .inl (txs_ok h).2⟩
  | cons t ts ih =>
    intro p x h
    rw [sibF] at h
    split at h
    · obtain ⟨h1, h2⟩ := ih _ _ h
      exact ⟨h1, h2.imp id fun ⟨y, hy, e⟩ => ⟨y, List.mem_cons_of_mem _ hy, e⟩⟩
    · rename_i ht
      rcases List.mem_append.1 h with h | h
      · exact ⟨(txs_ok h).1, .inl (txs_ok h).2⟩
      · rcases List.mem_cons.1 h with rfl | h
        · exact ⟨⟨fun e => absurd e ht, fun _ => rfl⟩, .inr ⟨t, by simp, rfl⟩⟩
        · obtain ⟨h1, h2⟩ := ih _ _ h
          exact ⟨h1, h2.imp id fun ⟨y, hy, e⟩ => ⟨y, List.mem_cons_of_mem _ hy, e⟩⟩
theorem sibs_ok {L : List PT} {x : PT} (h : x ∈ sibs L) : okS x ∧ (x.kids = [] ∨ ∃ t ∈ L, x.kids = t.kids) := sibF_ok L [] x h

/-- what is found: tag, text, and within how many elements -/
abbrev Found := Ch × Ch × Nat
mutual
def PT.flat : PT → Nat → List Found
  | ⟨tag, _, kids, text⟩, k => (tag, text, k) :: flatL kids (k + 1)
def flatL : List PT → Nat → List Found
  | [], _ => []
  | t :: ts, k => t.flat k ++ flatL ts k
end
theorem PT.flat_eq (t : PT) (k : Nat) : t.flat k = (t.tag, t.text, k) :: flatL t.kids (k + 1) := by cases t; rw [PT.flat]
theorem flatL_append (ts us : List PT) (k : Nat) : flatL (ts ++ us) k = flatL ts k ++ flatL us k := by
  induction ts with
  | nil => rw [flatL]; rfl
  | cons t ts ih => rw [List.cons_append, flatL, flatL, ih, List.append_assoc]
theorem flatL_one (t : PT) (k : Nat) : flatL [t] k = t.flat k := by rw [flatL, flatL, List.append_nil]
theorem flat_mg (t : PT) (k : Nat) : (mgT t).flat k = (t.tag, t.text, k) :: flatL (mergeP t.kids) (k + 1) := by rw [PT.flat_eq]; rfl
def isEl (x : Found) : Bool := !x.1.isEmpty
def isTx (x : Found) : Bool := x.1.isEmpty

theorem flat_wt : ∀ (M : List PT) (k : Nat), (flatL M k).length = wtL M := by
  apply PT.ind
  intro M IH
  induction M with
  | nil => intro k; rw [flatL, wtL]; rfl
  | cons t ts ih =>
    intro k
    rw [flatL, wtL, List.length_append, ih (fun x hx => IH x (List.mem_cons_of_mem _ hx)) k, PT.flat_eq, List.length_cons, IH t (by simp), PT.wt_eq]
    omega
def depOf (l : List Found) : Nat := l.foldl (fun d x => max d (x.2.2 + 1)) 0
theorem dep_fold (l : List Found) : ∀ d, l.foldl (fun d x => max d (x.2.2 + 1)) d = max d (depOf l) := by
  unfold depOf
  induction l with
  | nil => intro d; simp
  | cons x l ih => intro d; rw [List.foldl_cons, List.foldl_cons, ih, ih (max 0 (x.2.2 + 1))]; omega
theorem depOf_append (a b : List Found) : depOf (a ++ b) = max (depOf a) (depOf b) := by
  unfold depOf
  rw [List.foldl_append, dep_fold]
  rfl
theorem depOf_one (x : Found) : depOf [x] = x.2.2 + 1 := by
  show max 0 (x.2.2 + 1) = _
  omega
theorem depOf_snoc (a : List Found) (x : Found) : depOf (a ++ [x]) = max (depOf a) (x.2.2 + 1) := by rw [depOf_append, depOf_one]
theorem flat_deep : ∀ (M : List PT) (k : Nat), depOf ((flatL M k).filter isEl) = deepL M (k + 1) := by
  apply PT.ind
  intro M IH
  induction M with
  | nil => intro k; rw [flatL, deepL]; rfl
  | cons t ts ih =>
    intro k
    rw [flatL, deepL, List.filter_append, depOf_append, ih (fun x hx => IH x (List.mem_cons_of_mem _ hx)) k, PT.flat_eq, PT.deep_eq]
    congr 1
    have h := IH t (by simp) (k + 1)
    by_cases ht : t.tag = []
    · rw [List.filter_cons_of_neg (by simp [isEl, ht]), h, if_neg (by simp [ht])]
      omega
    · rw [List.filter_cons_of_pos (by simp [isEl, ht])]
      have e := depOf_append [(t.tag, t.text, k)] ((flatL t.kids (k + 1)).filter isEl)
      rw [List.singleton_append] at e
      rw [e, h, depOf_one, if_pos ht]
      show max (k + 1) _ = _
      omega
theorem flat_tags : ∀ (M : List PT) (k : Nat), ((flatL M k).filter isEl).map (fun x => x.1.map (·.1)) = tagsL M := by
  apply PT.ind
  intro M IH
  induction M with
  | nil => intro k; rw [flatL, tagsL]; rfl
  | cons t ts ih =>
    intro k
    rw [flatL, tagsL, List.filter_append, List.map_append, ih (fun x hx => IH x (List.mem_cons_of_mem _ hx)) k, PT.flat_eq, PT.tags_eq]
    congr 1
    have h := IH t (by simp) (k + 1)
    by_cases ht : t.tag = []
    · rw [List.filter_cons_of_neg (by simp [isEl, ht]), h, if_neg (by simp [ht])]
      rfl
    · rw [List.filter_cons_of_pos (by simp [isEl, ht]), List.map_cons, h, if_pos ht]
      rfl
theorem flat_words : ∀ (M : List PT) (k : Nat), (flatL M k).flatMap (fun x => x.2.1) = wordsL M := by
  apply PT.ind
  intro M IH
  induction M with
  | nil => intro k; rw [flatL, wordsL]; rfl
  | cons t ts ih =>
    intro k
    rw [flatL, wordsL, List.flatMap_append, ih (fun x hx => IH x (List.mem_cons_of_mem _ hx)) k, PT.flat_eq, PT.words_eq, List.flatMap_cons, IH t (by simp) (k + 1)]
theorem flat_sibs (L : List PT) (k : Nat) : flatL (mergeP L) k = (sibs L).flatMap fun t => (t.tag, t.text, k) :: flatL (mergeP t.kids) (k + 1) := by
  rw [merge_sibs]
  induction sibs L with
  | nil => rw [List.map_nil, flatL]; rfl
  | cons t ts ih => rw [List.map_cons, flatL, ih, flat_mg, List.flatMap_cons]
theorem flat_ok : ∀ (L : List PT) (k : Nat) (x : Found), x ∈ flatL (mergeP L) k → x.1 ≠ [] → x.2.1 = [] := by
  apply PT.ind (p := fun L => ∀ (k : Nat) (x : Found), x ∈ flatL (mergeP L) k → x.1 ≠ [] → x.2.1 = [])
  intro L IH k x hx hne
  rw [flat_sibs, List.mem_flatMap] at hx
  obtain ⟨t, ht, hx⟩ := hx
  obtain ⟨h1, h2⟩ := sibs_ok ht
  rcases List.mem_cons.1 hx with rfl | hx
  · exact h1.2 hne
  · rcases h2 with h2 | ⟨t0, h0, h2⟩
    · rw [h2] at hx
      have e : mergeP [] = [] := rfl
      rw [e, flatL] at hx
      cases hx
    · rw [h2] at hx
      exact IH t0 h0 _ x hx hne
theorem filter_words : ∀ (l : List Found), (∀ x ∈ l, x.1 ≠ [] → x.2.1 = []) → (l.filter isTx).flatMap (fun x => x.2.1) = l.flatMap (fun x => x.2.1) := by
  intro l
  induction l with
  | nil => intro _; rfl
  | cons x l ih =>
    intro h
    have h1 := ih fun y hy => h y (List.mem_cons_of_mem _ hy)
    by_cases hx : x.1 = []
    · rw [List.filter_cons_of_pos (by simp [isTx, hx]), List.flatMap_cons, List.flatMap_cons, h1]
    · rw [List.filter_cons_of_neg (by simp [isTx, hx]), h1, List.flatMap_cons, h x (by simp) hx, List.nil_append]
theorem found_words (L : List PT) : ((flatL (mergeP L) 0).filter isTx).flatMap (fun x => x.2.1) = wordsL (mergeP L) := by
  rw [filter_words _ (flat_ok L 0), flat_words]

end Go.Proofs.Ytddgabjhligeeaa.mk

namespace Go.Proofs.Ytddgabjhligeeaa.mk
open Go.RowKit

/-- the cells xs lie one behind the other from A on, in blocks of S -/
def LiesS (S : Nat → Prop) (w : World) (A : Option Addr) (xs : List Value) : Prop :=
  ∀ j u, xs[j]? = some u → ∃ ad, A = some ad ∧ S ad.block ∧ ad.block < w.heap.size ∧ w.cell? (ad.add j) = some u
/-- the blocks of S stay -/
def Stays (S : Nat → Prop) (w w' : World) : Prop := w.heap.size ≤ w'.heap.size ∧ ∀ b, S b → b < w.heap.size → w'.heap[b]? = w.heap[b]?
theorem Stays.of {S : Nat → Prop} {w w' : World} (h : Below w.heap.size w w') : Stays S w w' := ⟨h.size, fun b _ hb => h.block b hb⟩
theorem Stays.refl (S : Nat → Prop) (w : World) : Stays S w w := ⟨Nat.le_refl _, fun _ _ _ => rfl⟩
theorem Stays.trans {S : Nat → Prop} {a b c : World} (h : Stays S a b) (k : Stays S b c) : Stays S a c := ⟨Nat.le_trans h.1 k.1, fun x hx hl => (k.2 x hx (Nat.lt_of_lt_of_le hl h.1)).trans (h.2 x hx hl)⟩
theorem LiesS.keep {S : Nat → Prop} {w w' : World} {A : Option Addr} {xs : List Value} (h : LiesS S w A xs) (hk : Stays S w w') : LiesS S w' A xs := by
  intro j u hu
  obtain ⟨ad, e, hs, hb, hc⟩ := h j u hu
  exact ⟨ad, e, hs, Nat.lt_of_lt_of_le hb hk.1, (World.cell?_of_block (w := w) (hk.2 _ (by rw [addr_block]; exact hs) (by rw [addr_block]; exact hb))).trans hc⟩
theorem LiesS.mono {S S' : Nat → Prop} {w : World} {A : Option Addr} {xs : List Value} (h : LiesS S w A xs) (hS : ∀ b, S b → b < w.heap.size → S' b) : LiesS S' w A xs := by
  intro j u hu
  obtain ⟨ad, e, hs, hb, hc⟩ := h j u hu
  exact ⟨ad, e, hS _ hs hb, hb, hc⟩
theorem LiesS.lies {S : Nat → Prop} {w : World} {A : Option Addr} {xs : List Value} (h : LiesS S w A xs) : Lies w w.heap.size A xs := by
  intro j u hu
  obtain ⟨ad, e, _, hb, hc⟩ := h j u hu
  exact ⟨ad, e, hb, hc⟩
theorem Lies.inS {w : World} {B : Nat} {A : Option Addr} {xs : List Value} (h : Lies w B A xs) (hB : B ≤ w.heap.size) : LiesS (fun b => b < B) w A xs := by
  intro j u hu
  obtain ⟨ad, e, hb, hc⟩ := h j u hu
  exact ⟨ad, e, hb, Nat.lt_of_lt_of_le hb hB, hc⟩
theorem own_inS {w : World} {base : Nat} {e : TypeId} {size n : Nat} {A : Option Addr} {c : Nat} {xs : List Value} (h : w.ownsRow base e size (.slice A n c) n xs) : LiesS (fun b => base ≤ b) w A xs := by
  intro j u hu
  obtain ⟨ad, hA, hb, hc⟩ := Lies.own h j u hu
  refine ⟨ad, hA, ?_, hb, hc⟩
  rcases h.2 with ⟨hv, h0⟩ | ⟨g, cap, cur, hv, hg, _⟩
  · injection hv with hv
    rw [hv] at hA; cases hA
  · injection hv with hv
    rw [hv] at hA
    injection hA with hA
    rw [← hA]
    exact (h.lt g (by rw [hv]; rfl)).1
theorem LiesS.nil (S : Nat → Prop) (w : World) (A : Option Addr) : LiesS S w A [] := fun j u h => by simp at h

def LT.inS (S : Nat → Prop) (w : World) (t : LT) : Prop := LiesS S w t.A (runCells t.rs) ∧ t.rs.length = t.n ∧ t.n ≤ 4294967296 ∧ t.s.size ≤ 4294967296
theorem LT.inS.ok {S : Nat → Prop} {w : World} {t : LT} (h : t.inS S w) : t.ok w w.heap.size := ⟨h.1.lies, h.2⟩
theorem LT.inS.keep {S : Nat → Prop} {w w' : World} {t : LT} (h : t.inS S w) (hk : Stays S w w') : t.inS S w' := ⟨h.1.keep hk, h.2⟩
theorem LT.inS.mono {S S' : Nat → Prop} {w : World} {t : LT} (h : t.inS S w) (hS : ∀ b, S b → b < w.heap.size → S' b) : t.inS S' w := ⟨h.1.mono hS, h.2⟩
theorem LT.ok.inS {w : World} {B : Nat} {t : LT} (h : t.ok w B) (hB : B ≤ w.heap.size) : t.inS (fun b => b < B) w := ⟨h.1.inS hB, h.2⟩
theorem OwnL.inS {w : World} {base : Nat} {t : LT} (h : OwnL w base t) : t.inS (fun b => base ≤ b) w := ⟨own_inS h.2.2.2, h.1, h.2.1.1, h.2.2.1⟩
def AT.inS (S : Nat → Prop) (w : World) (a : AT) : Prop := a.nm.inS S w ∧ a.vl.inS S w
theorem AT.inS.ok {S : Nat → Prop} {w : World} {t : AT} (h : t.inS S w) : t.ok w w.heap.size := ⟨h.1.ok, h.2.ok⟩
theorem AT.inS.keep {S : Nat → Prop} {w w' : World} {t : AT} (h : t.inS S w) (hk : Stays S w w') : t.inS S w' := ⟨h.1.keep hk, h.2.keep hk⟩
theorem AT.inS.mono {S S' : Nat → Prop} {w : World} {t : AT} (h : t.inS S w) (hS : ∀ b, S b → b < w.heap.size → S' b) : t.inS S' w := ⟨h.1.mono hS, h.2.mono hS⟩
theorem AT.ok.inS {w : World} {B : Nat} {t : AT} (h : t.ok w B) (hB : B ≤ w.heap.size) : t.inS (fun b => b < B) w := ⟨LT.ok.inS h.1 hB, LT.ok.inS h.2 hB⟩
theorem OwnA.inS {w : World} {base : Nat} {t : AT} (h : OwnA w base t) : t.inS (fun b => base ≤ b) w := ⟨h.1.inS, h.2.inS⟩

/-- a tree as it lies in memory -/
structure TT where
  tag : LT
  A : Option Addr
  n : Nat
  c : Nat
  atts : List AT
  K : Option Addr
  kn : Nat
  kc : Nat
  kids : List TT
  text : LT
def treeRow (t : TT) : List Value := [.string t.tag.s, .slice t.tag.A t.tag.n t.tag.c, .slice t.A t.n t.c, .slice t.K t.kn t.kc, .string t.text.s, .slice t.text.A t.text.n t.text.c]
def TT.v (t : TT) : Value := .agg #[.string t.tag.s, .slice t.tag.A t.tag.n t.tag.c, .slice t.A t.n t.c, .slice t.K t.kn t.kc, .string t.text.s, .slice t.text.A t.text.n t.text.c]
def treeCells (l : List TT) : List Value := l.flatMap treeRow
mutual
def TT.ch : TT → PT
  | ⟨tag, _, _, _, atts, _, _, _, kids, text⟩ => ⟨tag.ch, atts.map AT.ch, chL kids, text.ch⟩
def chL : List TT → List PT
  | [] => []
  | t :: ts => t.ch :: chL ts
end
mutual
def TT.nodes : TT → List TT
  | ⟨tag, A, n, c, atts, K, kn, kc, kids, text⟩ => ⟨tag, A, n, c, atts, K, kn, kc, kids, text⟩ :: nodesL kids
def nodesL : List TT → List TT
  | [] => []
  | t :: ts => t.nodes ++ nodesL ts
end
theorem TT.ch_eq (t : TT) : t.ch = ⟨t.tag.ch, t.atts.map AT.ch, chL t.kids, t.text.ch⟩ := by cases t; rw [TT.ch]
theorem TT.nodes_eq (t : TT) : t.nodes = t :: nodesL t.kids := by cases t; rw [TT.nodes]
theorem TT.ch_tag (t : TT) : t.ch.tag = t.tag.ch := by rw [TT.ch_eq]
theorem TT.ch_attrs (t : TT) : t.ch.attrs = t.atts.map AT.ch := by rw [TT.ch_eq]
theorem TT.ch_kids (t : TT) : t.ch.kids = chL t.kids := by rw [TT.ch_eq]
theorem TT.ch_text (t : TT) : t.ch.text = t.text.ch := by rw [TT.ch_eq]
theorem chL_map (ts : List TT) : chL ts = ts.map TT.ch := by
  induction ts with
  | nil => rw [chL]; rfl
  | cons t ts ih => rw [chL, ih]; rfl
theorem chL_length (ts : List TT) : (chL ts).length = ts.length := by rw [chL_map, List.length_map]
theorem chL_at {ts : List TT} {k : Nat} {t : TT} (h : ts[k]? = some t) : (chL ts)[k]? = some t.ch := by rw [chL_map, List.getElem?_map, h]; rfl
theorem chL_append (ts us : List TT) : chL (ts ++ us) = chL ts ++ chL us := by simp [chL_map]
theorem nodesL_append (ts us : List TT) : nodesL (ts ++ us) = nodesL ts ++ nodesL us := by
  induction ts with
  | nil => rw [nodesL]; rfl
  | cons t ts ih => rw [List.cons_append, nodesL, nodesL, ih, List.append_assoc]
theorem nodesL_one (t : TT) : nodesL [t] = t.nodes := by rw [nodesL, nodesL, List.append_nil]
theorem mem_nodes {ts : List TT} {t x : TT} (h : t ∈ ts) (hx : x ∈ t.nodes) : x ∈ nodesL ts := by
  induction ts with
  | nil => cases h
  | cons y ts ih =>
    rw [nodesL]
    rcases List.mem_cons.1 h with rfl | h
    · exact List.mem_append_left _ hx
    · exact List.mem_append_right _ (ih h)
theorem mem_self {ts : List TT} {t : TT} (h : t ∈ ts) : t ∈ nodesL ts := mem_nodes h (by rw [TT.nodes_eq]; exact List.mem_cons_self)
theorem mem_kids {ts : List TT} {t x : TT} (h : t ∈ ts) (hx : x ∈ nodesL t.kids) : x ∈ nodesL ts := mem_nodes h (by rw [TT.nodes_eq]; exact List.mem_cons_of_mem _ hx)
theorem nodes_mem {ts : List TT} {x : TT} (h : x ∈ nodesL ts) : ∃ t ∈ ts, x ∈ t.nodes := by
  induction ts with
  | nil => rw [nodesL] at h; cases h
  | cons y ts ih =>
    rw [nodesL] at h
    rcases List.mem_append.1 h with h | h
    · exact ⟨y, by simp, h⟩
    · obtain ⟨t, ht, hx⟩ := ih h
      exact ⟨t, List.mem_cons_of_mem _ ht, hx⟩

/-- what one tree itself names lies in blocks of S -/
structure TT.inS (S : Nat → Prop) (w : World) (t : TT) : Prop where
  tag : t.tag.inS S w
  text : t.text.inS S w
  att : LiesS S w t.A (atCells t.atts)
  an : t.atts.length = t.n
  ac : t.A = none → t.c = 0
  am : t.n ≤ 1048576
  atts : ∀ a ∈ t.atts, a.inS S w
  kid : LiesS S w t.K (treeCells t.kids)
  kn : t.kids.length = t.kn
  kc : t.K = none → t.kc = 0
  km : t.kn ≤ 1048576
theorem TT.inS.keep {S : Nat → Prop} {w w' : World} {t : TT} (h : t.inS S w) (hk : Stays S w w') : t.inS S w' :=
  ⟨h.tag.keep hk, h.text.keep hk, h.att.keep hk, h.an, h.ac, h.am, fun a ha => (h.atts a ha).keep hk, h.kid.keep hk, h.kn, h.kc, h.km⟩
theorem TT.inS.mono {S S' : Nat → Prop} {w : World} {t : TT} (h : t.inS S w) (hS : ∀ b, S b → b < w.heap.size → S' b) : t.inS S' w :=
  ⟨h.tag.mono hS, h.text.mono hS, h.att.mono hS, h.an, h.ac, h.am, fun a ha => (h.atts a ha).mono hS, h.kid.mono hS, h.kn, h.kc, h.km⟩
/-- all that the trees reach lies in blocks of S -/
def AllS (S : Nat → Prop) (w : World) (ts : List TT) : Prop := ∀ x ∈ nodesL ts, x.inS S w
theorem AllS.keep {S : Nat → Prop} {w w' : World} {ts : List TT} (h : AllS S w ts) (hk : Stays S w w') : AllS S w' ts := fun x hx => (h x hx).keep hk
theorem AllS.mono {S S' : Nat → Prop} {w : World} {ts : List TT} (h : AllS S w ts) (hS : ∀ b, S b → b < w.heap.size → S' b) : AllS S' w ts := fun x hx => (h x hx).mono hS
theorem AllS.nil (S : Nat → Prop) (w : World) : AllS S w [] := fun x hx => by rw [nodesL] at hx; cases hx
theorem AllS.get {S : Nat → Prop} {w : World} {ts : List TT} (h : AllS S w ts) {t : TT} (ht : t ∈ ts) : t.inS S w := h t (mem_self ht)
theorem AllS.kids {S : Nat → Prop} {w : World} {ts : List TT} (h : AllS S w ts) {t : TT} (ht : t ∈ ts) : AllS S w t.kids := fun x hx => h x (mem_kids ht hx)
theorem AllS.append {S : Nat → Prop} {w : World} {ts us : List TT} (h : AllS S w ts) (h2 : AllS S w us) : AllS S w (ts ++ us) := by
  intro x hx
  rw [nodesL_append] at hx
  rcases List.mem_append.1 hx with hx | hx
  · exact h x hx
  · exact h2 x hx
theorem AllS.one {S : Nat → Prop} {w : World} {t : TT} (h : t.inS S w) (hk : AllS S w t.kids) : AllS S w [t] := by
  intro x hx
  rw [nodesL_one, TT.nodes_eq] at hx
  rcases List.mem_cons.1 hx with rfl | hx
  · exact h
  · exact hk x hx
theorem AllS.sub {S : Nat → Prop} {w : World} {ts us : List TT} (h : AllS S w ts) (hs : ∀ t ∈ us, t ∈ ts) : AllS S w us := by
  intro x hx
  obtain ⟨t, ht, hx⟩ := nodes_mem hx
  exact h x (mem_nodes (hs t ht) hx)

theorem treeCells_length (ts : List TT) : (treeCells ts).length = ts.length * 6 := by
  induction ts with
  | nil => rfl
  | cons r l ih => simp only [treeCells, treeRow, List.flatMap_cons, List.length_append, List.length_cons, List.length_nil] at ih ⊢; omega
theorem treeCells_snoc (ts : List TT) (t : TT) : treeCells (ts ++ [t]) = treeCells ts ++ treeRow t := by simp [treeCells]
theorem treeCells_append (ts us : List TT) : treeCells (ts ++ us) = treeCells ts ++ treeCells us := by simp [treeCells]
theorem treeRow_one (t : TT) : ∀ u ∈ treeRow t, u.oneCell' = true := by simp [Value.oneCell', treeRow]
theorem treeCells_one (ts : List TT) : ∀ u ∈ treeCells ts, u.oneCell' = true := by
  intro u hu
  unfold treeCells at hu
  rw [List.mem_flatMap] at hu
  obtain ⟨t, _, h⟩ := hu
  exact treeRow_one t u h
theorem treeCells_at (ts : List TT) (k : Nat) (t : TT) (h : ts[k]? = some t) (j : Nat) (hj : j < 6) : (treeCells ts)[k * 6 + j]? = (treeRow t)[j]? := by
  induction ts generalizing k with
  | nil => simp at h
  | cons x ts ih =>
    have e : treeCells (x :: ts) = treeRow x ++ treeCells ts := rfl
    rw [e]
    have hl : (treeRow x).length = 6 := rfl
    cases k with
    | zero =>
      simp at h
      subst h
      rw [Nat.zero_mul, Nat.zero_add, List.getElem?_append_left (by omega)]
    | succ k =>
      rw [List.getElem?_append_right (by omega), hl]
      have : (k + 1) * 6 + j - 6 = k * 6 + j := by omega
      rw [this]
      exact ih k (by simpa using h)
theorem treeCells_set (ts : List TT) (k : Nat) (t : TT) (h : k < ts.length) :
    ((((((treeCells ts).set (k * 6) (.string t.tag.s)).set (k * 6 + 1) (.slice t.tag.A t.tag.n t.tag.c)).set (k * 6 + 2) (.slice t.A t.n t.c)).set (k * 6 + 3) (.slice t.K t.kn t.kc)).set (k * 6 + 4) (.string t.text.s)).set (k * 6 + 5) (.slice t.text.A t.text.n t.text.c) = treeCells (ts.set k t) := by
  induction ts generalizing k with
  | nil => simp at h
  | cons x ts ih =>
    have e : treeCells (x :: ts) = treeRow x ++ treeCells ts := rfl
    cases k with
    | zero => rw [List.set_cons_zero]; rfl
    | succ k =>
      rw [List.set_cons_succ]
      have e2 : treeCells (x :: ts.set k t) = treeRow x ++ treeCells (ts.set k t) := rfl
      rw [e, e2, ← ih k (by simpa using h)]
      have hl : (treeRow x).length = 6 := rfl
      have e3 : ∀ (l : List Value) (j : Nat) (u : Value), (treeRow x ++ l).set ((k + 1) * 6 + j) u = treeRow x ++ l.set (k * 6 + j) u := by
        intro l j u
        rw [List.set_append, if_neg (by omega), hl]
        congr 2
        omega
      have e4 : ∀ (l : List Value) (u : Value), (treeRow x ++ l).set ((k + 1) * 6) u = treeRow x ++ l.set (k * 6) u := fun l u => e3 l 0 u
      rw [e4, e3, e3, e3, e3, e3]
theorem addr_nexts5 (ad : Addr) (k : Nat) : ad.add (k + 4) = ⟨(ad.add k).block, (ad.add k).off + 4, none⟩ ∧ ad.add (k + 5) = ⟨(ad.add k).block, (ad.add k).off + 5, none⟩ := by
  obtain ⟨e1, e2, e3⟩ := addr_nexts ad k
  have e4 : ad.add (k + 4) = ⟨(ad.add k).block, (ad.add k).off + 4, none⟩ := by rw [addr_next ad (k + 3), e3]
  exact ⟨e4, by rw [addr_next ad (k + 4), e4]⟩
/-- tree k of a row: its six cells, as the walk spells them -/
theorem Lies.tree {w : World} {B : Nat} {A : Option Addr} {ts : List TT} (h : Lies w B A (treeCells ts)) {k : Nat} (hk : k < ts.length) :
    ∃ ad t, A = some ad ∧ ad.block < B ∧ w.cell? (ad.add (k * 6)) = some (.string t.tag.s) ∧ w.cell? ⟨(ad.add (k * 6)).block, (ad.add (k * 6)).off + 1, none⟩ = some (.slice t.tag.A t.tag.n t.tag.c) ∧
      w.cell? ⟨(ad.add (k * 6)).block, (ad.add (k * 6)).off + 2, none⟩ = some (.slice t.A t.n t.c) ∧ w.cell? ⟨(ad.add (k * 6)).block, (ad.add (k * 6)).off + 3, none⟩ = some (.slice t.K t.kn t.kc) ∧
      w.cell? ⟨(ad.add (k * 6)).block, (ad.add (k * 6)).off + 4, none⟩ = some (.string t.text.s) ∧ w.cell? ⟨(ad.add (k * 6)).block, (ad.add (k * 6)).off + 5, none⟩ = some (.slice t.text.A t.text.n t.text.c) ∧ Hid (ts[k]? = some t) := by
  have ht : ts[k]? = some ts[k] := List.getElem?_eq_getElem hk
  generalize ts[k] = t at ht
  have key : ∀ j u, j < 6 → (treeRow t)[j]? = some u → ∃ ad, A = some ad ∧ ad.block < B ∧ w.cell? (ad.add (k * 6 + j)) = some u := fun j u hj hu => h _ _ ((treeCells_at ts k t ht j hj).trans hu)
  obtain ⟨ad, e, hb, h0⟩ := key 0 _ (by omega) rfl
  subst e
  have key' : ∀ j u, j < 6 → (treeRow t)[j]? = some u → w.cell? (ad.add (k * 6 + j)) = some u := by
    intro j u hj hu
    obtain ⟨ad', e, _, hc⟩ := key j u hj hu
    injection e with e
    subst e
    exact hc
  obtain ⟨e1, e2, e3⟩ := addr_nexts ad (k * 6)
  obtain ⟨e4, e5⟩ := addr_nexts5 ad (k * 6)
  exact ⟨ad, t, rfl, hb, h0, by rw [← e1]; exact key' 1 _ (by omega) rfl, by rw [← e2]; exact key' 2 _ (by omega) rfl, by rw [← e3]; exact key' 3 _ (by omega) rfl, by rw [← e4]; exact key' 4 _ (by omega) rfl, by rw [← e5]; exact key' 5 _ (by omega) rfl, ht⟩

/-- a tree without kids has no row of kids -/
def Kz (t : TT) : Prop := t.kids = [] → t.K = none ∧ t.kc = 0
/-- a list of trees that is told: its row in memory of its own, all else in blocks of S -/
def TellsT (S : Nat → Prop) (qs : List PT) (w : World) (e : Ending) (w' : World) : Prop :=
  ∃ A c ts, e = .returned (.slice A ts.length c) ∧ w'.ownsRow w.heap.size 44 6 (.slice A ts.length c) ts.length (treeCells ts) ∧ AllS S w' ts ∧ (chL ts = qs ∧ (∀ x ∈ ts, Kz x) ∧ (ts = [] → A = none ∧ c = 0)) ∧ Below w.heap.size w w'
theorem tree_info : (Try.prog.info? 44).map (fun i => (i.zero, i.size, i.bytes)) = some (some (.agg #[.string ⟨#[]⟩, .slice none 0 0, .slice none 0 0, .slice none 0 0, .string ⟨#[]⟩, .slice none 0 0]), 6, 128) := by kernel_rfl

end Go.Proofs.Ytddgabjhligeeaa.mk

namespace Go.Proofs.Ytddgabjhligeeaa.mk
open Go.RowKit

def elB (t : TT) : Bool := !t.tag.ch.isEmpty
theorem elB_eq (t : TT) : elB t = !t.tag.s.data.toList.isEmpty := by
  unfold elB
  have h1 := t.tag.ch_length
  have h2 : t.tag.s.data.toList.length = t.tag.s.size := by rw [Array.length_toList]; rfl
  cases hc : t.tag.ch with
  | nil =>
    rw [hc, List.length_nil] at h1
    have : t.tag.s.data.toList = [] := List.eq_nil_of_length_eq_zero (by omega)
    rw [this]
    rfl
  | cons x l =>
    rw [hc, List.length_cons] at h1
    cases hd : t.tag.s.data.toList with
    | nil => rw [hd, List.length_nil] at h2; omega
    | cons y m => rfl
theorem elB_iff (t : TT) : elB t = true ↔ t.tag.ch ≠ [] := by unfold elB; cases t.tag.ch <;> simp

set_option maxHeartbeats 400000 in
set_option maxRecDepth 100000 in
theorem element_any (t : TT) (w : World) :
    Calls Try.prog 29 #[.agg #[.string t.tag.s, .slice t.tag.A t.tag.n t.tag.c, .slice t.A t.n t.c, .slice t.K t.kn t.kc, .string t.text.s, .slice t.text.A t.text.n t.text.c]] w fun e w' => e = .returned (.bool (elB t)) ∧ Below w.heap.size w w' := by
  have hb : Below w.heap.size w (w.alloc (.cells #[.string t.tag.s, .slice t.tag.A t.tag.n t.tag.c, .slice t.A t.n t.c, .slice t.K t.kn t.kc, .string t.text.s, .slice t.text.A t.text.n t.text.c] 44)) := (Below.refl _ _).alloc (Nat.le_refl _) _
  go_enter Try.func29, Try.ntmps29
  go_wp2_with fail
  go_ret
  refine ⟨ret_bool ?_, hb⟩
  rw [elB_eq, ByteArray.toList_eq]

/-- a function value that tells which trees are wanted -/
structure Wants (F : Nat) (p : TT → Bool) : Prop where
  enters : ∀ args w', Sem.run Try.prog (callFunc F args) w' = .ok (.enter F args) w'
  tells : ∀ (t : TT) w', Calls Try.prog F #[.agg #[.string t.tag.s, .slice t.tag.A t.tag.n t.tag.c, .slice t.A t.n t.c, .slice t.K t.kn t.kc, .string t.text.s, .slice t.text.A t.text.n t.text.c]] w' fun e w'' => e = .returned (.bool (p t)) ∧ Below w'.heap.size w' w''
set_option maxRecDepth 100000 in
theorem wants_element : Wants 29 elB := ⟨fun _ _ => rfl, element_any⟩
end Go.Proofs.Ytddgabjhligeeaa.mk

namespace Go.Proofs.Ytddgabjhligeeaa.mk
open Go.RowKit

def catCh (ts : List LT) : List (UInt8 × Int) := ts.flatMap LT.ch
theorem catCh_fst (ts : List LT) : (catCh ts).map (·.1) = catBs ts := by
  induction ts with
  | nil => rfl
  | cons t ts ih => simp only [catCh, catBs, List.flatMap_cons, List.map_append, LT.ch_fst] at ih ⊢; rw [ih]
theorem catCh_snd (ts : List LT) : (catCh ts).map (·.2) = catOs ts := by
  induction ts with
  | nil => rfl
  | cons t ts ih => simp only [catCh, catOs, List.flatMap_cons, List.map_append, LT.ch_snd] at ih ⊢; rw [ih]
theorem catCh_length (ts : List LT) : (catCh ts).length = (catOs ts).length := by rw [← catCh_snd, List.length_map]
theorem catCh_next {ts : List LT} {k : Nat} {t : LT} (h : ts[k]? = some t) : catCh (ts.take (k + 1)) = catCh (ts.take k) ++ t.ch := by rw [take_next h]; simp [catCh]
/-- labelled texts, put together -/
theorem catl_any (ts : List LT) (L : Option Addr) (m c : Nat) (W : World) (hl : Lies W W.heap.size L (ltCells ts)) (hm : ts.length = m) (hm2 : m ≤ 4294967296) (hok : ∀ t ∈ ts, t.ok W W.heap.size) (hz : (catCh ts).length ≤ 4294967296) :
    Calls Try.prog 40 #[.slice L m c] W (Tells (txtOf (catCh ts)) (comp ((catCh ts).map (·.2))) W) := by
  have h := cat_any L m c ts W hl hm hm2 hok (by rw [← catCh_length]; exact hz)
  unfold txtOf
  rw [catCh_fst, catCh_snd]
  exact h

end Go.Proofs.Ytddgabjhligeeaa.mk

namespace Go.Proofs.Ytddgabjhligeeaa.mk
open Go.RowKit

/-- what comes in: it lies below, and is not too large -/
structure TreesIn0 (w : World) (A : Option Addr) (n : Nat) (ts : List TT) : Prop where
  lies : LiesS (fun b => b < w.heap.size) w A (treeCells ts)
  all : AllS (fun b => b < w.heap.size) w ts
  len : ts.length = n
  bulk : bkL (chL ts) ≤ 1048576
theorem TreesIn0.next {w w' : World} {A : Option Addr} {n : Nat} {ts : List TT} (h : TreesIn0 w A n ts) (hb : Below w.heap.size w w') : TreesIn0 w' A n ts :=
  ⟨(h.lies.keep (Stays.of hb)).mono fun _ hb2 _ => Nat.lt_of_lt_of_le hb2 hb.size, (h.all.keep (Stays.of hb)).mono fun _ hb2 _ => Nat.lt_of_lt_of_le hb2 hb.size, h.len, h.bulk⟩
theorem TreesIn0.small {w : World} {A : Option Addr} {n : Nat} {ts : List TT} (h : TreesIn0 w A n ts) : n ≤ 1048576 := by
  have h1 := bkL_len (chL ts)
  rw [chL_length, h.len] at h1
  exact Nat.le_trans h1 h.bulk

theorem TreesIn0.kid {w : World} {A : Option Addr} {n : Nat} {ts : List TT} (h : TreesIn0 w A n ts) {x : TT} (hx : x ∈ ts) : TreesIn0 w x.K x.kn x.kids := by
  have h1 := h.all.get hx
  refine ⟨h1.kid, h.all.kids hx, h1.kn, ?_⟩
  have h2 : x.ch ∈ chL ts := by rw [chL_map]; exact List.mem_map.2 ⟨x, hx, rfl⟩
  have h3 := bkL_kids h2
  rw [TT.ch_kids] at h3
  have := h.bulk
  omega

/-- a text as a tree -/
def noT : LT := ⟨⟨#[]⟩, none, 0, 0, []⟩
def txT1 (t : LT) : TT := ⟨noT, none, 0, 0, [], none, 0, 0, [], t⟩
theorem noT_ch : noT.ch = [] := by rfl
theorem txT1_ch (t : LT) : (txT1 t).ch = txT t.ch := by rw [TT.ch_eq]; show (⟨noT.ch, [], chL [], t.ch⟩ : PT) = _; rw [noT_ch, chL]; rfl
theorem noT_in (S : Nat → Prop) (w : World) : noT.inS S w := ⟨LiesS.nil _ _ _, rfl, Nat.zero_le _, Nat.zero_le _⟩
theorem txT1_in {S : Nat → Prop} {w : World} {t : LT} (h : t.inS S w) : (txT1 t).inS S w :=
  ⟨noT_in S w, h, LiesS.nil _ _ _, rfl, fun _ => rfl, Nat.zero_le _, (fun a ha => by cases ha), LiesS.nil _ _ _, rfl, fun _ => rfl, Nat.zero_le _⟩
theorem ch_bytes {t : LT} {l : List UInt8} (h : t.s.data.toList = l) : t.ch.map (·.1) = l := by rw [LT.ch_fst]; exact h


end Go.Proofs.Ytddgabjhligeeaa.mk
