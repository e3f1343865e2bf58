/-
  Labelled texts put together, in the words of bytes with their origins.
-/
import Derived.Test.YtdiifkmcbnhliaaGreatJoinX
import Derived.Test.YtdiifkmcbnhliaaGreatJoinS
import Derived.Test.YtdiifkmcbnhliaaGreatJoinV
import Derived.Test.YtdiifkmcbnhliaaGreatJoinR
import Derived.Test.YtdiifkmcbnhliaaGreatJoinH
namespace Go.Proofs.YtdiifkmcbnhliaaGreat.mk
open Go.RowKit

def txtOf (l : List (UInt8 × Int)) : ByteArray := ⟨(l.map (·.1)).toArray⟩
def runN (l : List (UInt8 × Int)) : Nat := (comp (l.map (·.2))).length
def TellsL (l : List (UInt8 × Int)) (W : World) (e : Ending) (w' : World) : Prop :=
  ∃ D k, e = .returned (.agg #[.string (txtOf l), .slice D (runN l) k]) ∧ Lies w' w'.heap.size D (runCells (comp (l.map (·.2)))) ∧ Below W.heap.size W w'
def RowL (l : List (UInt8 × Int)) (n : Nat) (W : World) (e : Ending) (w' : World) : Prop :=
  ∃ D k, e = .returned (.slice D n k) ∧ Lies w' w'.heap.size D (chCells l) ∧ Below W.heap.size W w'
def SaysB (V : Value) (W : World) (e : Ending) (w' : World) : Prop := e = .returned V ∧ Below W.heap.size W w'
theorem tellsL_of {l : List (UInt8 × Int)} {W : World} {e : Ending} {w' : World} (h : Tells ⟨(l.map (·.1)).toArray⟩ (comp (l.map (·.2))) W e w') : TellsL l W e w' := by
  obtain ⟨v, rfl, ho, hb⟩ := h
  obtain ⟨D, k, rfl, _, _, _⟩ := own_form ho
  exact ⟨D, k, rfl, Lies.own ho, hb⟩
theorem rowL_of {l : List (UInt8 × Int)} {W : World} {e : Ending} {w' : World} (h : ∃ v, e = .returned v ∧ w'.ownsRow W.heap.size 65 2 v l.length (chCells l) ∧ Below W.heap.size W w') : RowL l l.length W e w' := by
  obtain ⟨v, rfl, ho, hb⟩ := h
  obtain ⟨D, k, rfl, _, _, _⟩ := own_form ho
  exact ⟨D, k, rfl, Lies.own ho, hb⟩

theorem isL_true (l : List (UInt8 × Int)) (hr : runN l ≤ 4294967296) (hn : l.length ≤ 1099511627776) (W : World) (D : Option Addr) (k : Nat) (E : Option Addr) (d : Nat) (h1 : Lies W W.heap.size D (runCells (comp (l.map (·.2))))) (h2 : Lies W W.heap.size E (chCells l)) :
    Calls Tryz.prog 12 #[.agg #[.string (txtOf l), .slice D (runN l) k], .slice E l.length d] W (SaysB (.bool true) W) := by
  refine (refIs_any (txtOf l) D (runN l) k (comp (l.map (·.2))) E l.length d l W h1 rfl hr h2 rfl hn).mono ?_
  rintro e w' ⟨rfl, hb⟩
  refine ⟨ret_bool ?_, hb⟩
  unfold isB
  rw [decide_eq_true_iff]
  exact ⟨rfl, rfl⟩
theorem runN_le (l : List (UInt8 × Int)) : runN l ≤ l.length := by
  have := comp_length_le (l.map (·.2))
  rw [List.length_map] at this
  exact this
end Go.Proofs.YtdiifkmcbnhliaaGreat.mk

namespace Go.Proofs.YtdiifkmcbnhliaaGreat.mk
open Go.RowKit

def LT.ch (t : LT) : List (UInt8 × Int) := chars t.bs t.rs
theorem LT.ch_length (t : LT) : t.ch.length = t.s.size := by unfold LT.ch; rw [chars_length, LT.bs_length]
theorem LT.ch_fst (t : LT) : t.ch.map (·.1) = t.bs := chars_fst _ _
theorem LT.ch_snd (t : LT) : t.ch.map (·.2) = t.os := by unfold LT.ch; rw [chars_snd, LT.bs_length]; rfl
theorem txtOf_size (l : List (UInt8 × Int)) : (txtOf l).size = l.length := by show (l.map (·.1)).toArray.size = _; simp
theorem txtOf_chars {l : List (UInt8 × Int)} (h : InR l) : chars (txtOf l).data.toList (comp (l.map (·.2))) = l := chars_told h

/-- a labelled text that was told -/
def toldT (l : List (UInt8 × Int)) (D : Option Addr) (k : Nat) : LT := ⟨txtOf l, D, runN l, k, comp (l.map (·.2))⟩
theorem toldT_ch {l : List (UInt8 × Int)} (h : InR l) (D : Option Addr) (k : Nat) : (toldT l D k).ch = l := txtOf_chars h
theorem toldT_ok {l : List (UInt8 × Int)} {D : Option Addr} {W : World} (k : Nat) (h : Lies W W.heap.size D (runCells (comp (l.map (·.2))))) (hn : l.length ≤ 4294967296) : (toldT l D k).ok W W.heap.size :=
  ⟨h, rfl, Nat.le_trans (runN_le l) hn, by show (txtOf l).size ≤ _; rw [txtOf_size]; exact hn⟩
theorem LT.ch_in (t : LT) : InR t.ch := InR.chars _ _
end Go.Proofs.YtdiifkmcbnhliaaGreat.mk

namespace Go.Proofs.YtdiifkmcbnhliaaGreat.mk
open Go.RowKit

/-- bytes with their origins: of a name, and of a value -/
abbrev Ch := List (UInt8 × Int)
abbrev PA := Ch × Ch
def nmB (p : PA) : List UInt8 := p.1.map (·.1)
/-- the first place of a name; the length if there is none -/
def placeN (L : List PA) (nm : List UInt8) : Nat := L.findIdx (fun p => nmB p == nm)
/-- the first of a name -/
def getA (L : List PA) (nm : List UInt8) : Option PA := L[placeN L nm]?
def isI (f : PA → Bool) (L : List PA) (i : Nat) : Bool := match L[i]? with | some p => f p | none => false
/-- those at the places that are wanted, of the first so many -/
def selTo (p : Nat → Bool) (L : List PA) : Nat → List PA
  | 0 => []
  | k + 1 => selTo p L k ++ (if p k then (L[k]?).toList else [])
def sel (p : Nat → Bool) (L : List PA) : List PA := selTo p L L.length
def putA (L : List PA) (a : PA) : List PA := if placeN L (nmB a) < L.length then L.set (placeN L (nmB a)) a else L ++ [a]
def dropP (L : List PA) (nm : List UInt8) : Nat → Bool := isI (fun p => !(nmB p == nm)) L
def onceP (L : List PA) (i : Nat) : Bool := isI (fun p => placeN L (nmB p) == i) L i
def dropA (L : List PA) (nm : List UInt8) : List PA := sel (dropP L nm) L
def onceA (L : List PA) : List PA := sel (onceP L) L
/-- has x to be put, where a holds A? -/
def putP (A : List PA) : PA → Bool := fun x => !(getA A (nmB x) == some x)
def chgPut (A B : List PA) : List PA := sel (isI (putP A) B) B
def chgDrop (A B : List PA) : List PA := sel (isI (fun x => (getA B (nmB x)).isNone) A) A

theorem placeN_le (L : List PA) (nm : List UInt8) : placeN L nm ≤ L.length := List.findIdx_le_length
theorem placeN_hit {L : List PA} {nm : List UInt8} (h : placeN L nm < L.length) : ∃ p, L[placeN L nm]? = some p ∧ nmB p = nm := by
  refine ⟨_, List.getElem?_eq_getElem h, ?_⟩
  have := List.findIdx_getElem (w := h) (p := fun p => nmB p == nm)
  exact beq_iff_eq.1 this
theorem placeN_lt {L : List PA} {nm : List UInt8} {i : Nat} {p : PA} (h : i < placeN L nm) (hp : L[i]? = some p) : nmB p ≠ nm := by
  have := List.not_of_lt_findIdx h
  obtain ⟨hi, e⟩ := List.getElem?_eq_some_iff.1 hp
  rw [e] at this
  exact beq_eq_false_iff_ne.1 this
theorem placeN_of {L : List PA} {nm : List UInt8} {i : Nat} {p : PA} (hp : L[i]? = some p) (hn : nmB p = nm) (hb : ∀ (j : Nat) (q : PA), j < i → L[j]? = some q → nmB q ≠ nm) : placeN L nm = i := by
  obtain ⟨hi, e⟩ := List.getElem?_eq_some_iff.1 hp
  rcases Nat.lt_trichotomy (placeN L nm) i with h | h | h
  · obtain ⟨q, hq, hqn⟩ := placeN_hit (Nat.lt_trans h hi)
    exact absurd hqn (hb _ _ h hq)
  · exact h
  · exact absurd hn (placeN_lt h hp)
theorem placeN_none {L : List PA} {nm : List UInt8} (hb : ∀ (j : Nat) (q : PA), L[j]? = some q → nmB q ≠ nm) : placeN L nm = L.length := by
  rcases Nat.lt_or_ge (placeN L nm) L.length with h | h
  · obtain ⟨q, hq, hqn⟩ := placeN_hit h
    exact absurd hqn (hb _ _ hq)
  · exact Nat.le_antisymm (placeN_le _ _) h
theorem placeN_some {L : List PA} {nm : List UInt8} {i : Nat} {p : PA} (hp : L[i]? = some p) (hn : nmB p = nm) : placeN L nm ≤ i := by
  rcases Nat.lt_or_ge i (placeN L nm) with h | h
  · exact absurd hn (placeN_lt h hp)
  · exact h

theorem getA_nm {L : List PA} {nm : List UInt8} {p : PA} (h : getA L nm = some p) : nmB p = nm := by
  have hl := (List.getElem?_eq_some_iff.1 h).1
  obtain ⟨q, hq, hn⟩ := placeN_hit hl
  unfold getA at h
  rw [hq] at h
  injection h with h
  rw [← h]; exact hn
theorem getA_none {L : List PA} {nm : List UInt8} (h : getA L nm = none) : ∀ (j : Nat) (q : PA), L[j]? = some q → nmB q ≠ nm := by
  intro j q hq hn
  have h1 := placeN_some hq hn
  have h2 := (List.getElem?_eq_some_iff.1 hq).1
  unfold getA at h
  rw [List.getElem?_eq_none_iff] at h
  omega
theorem getA_eq_none {L : List PA} {nm : List UInt8} (h : ∀ (j : Nat) (q : PA), L[j]? = some q → nmB q ≠ nm) : getA L nm = none := by
  unfold getA
  rw [placeN_none h]
  exact List.getElem?_eq_none (Nat.le_refl _)
theorem getA_of {L : List PA} {nm : List UInt8} {i : Nat} {p : PA} (hp : L[i]? = some p) (hn : nmB p = nm) (hb : ∀ (j : Nat) (q : PA), j < i → L[j]? = some q → nmB q ≠ nm) : getA L nm = some p := by
  unfold getA
  rw [placeN_of hp hn hb]
  exact hp
theorem getA_append (L M : List PA) (nm : List UInt8) : getA (L ++ M) nm = (getA L nm).or (getA M nm) := by
  cases h : getA L nm with
  | some p =>
    have hl := (List.getElem?_eq_some_iff.1 h).1
    refine getA_of (i := placeN L nm) ?_ (getA_nm h) ?_
    · rw [List.getElem?_append_left hl]; exact h
    · intro j q hj hq
      rw [List.getElem?_append_left (by omega)] at hq
      exact placeN_lt hj hq
  | none =>
    have hn := getA_none h
    simp only [Option.none_or]
    cases h2 : getA M nm with
    | some p =>
      have hl := (List.getElem?_eq_some_iff.1 h2).1
      refine getA_of (i := L.length + placeN M nm) ?_ (getA_nm h2) ?_
      · rw [List.getElem?_append_right (by omega), Nat.add_sub_cancel_left]; exact h2
      · intro j q hj hq
        rcases Nat.lt_or_ge j L.length with h3 | h3
        · rw [List.getElem?_append_left h3] at hq; exact hn _ _ hq
        · rw [List.getElem?_append_right h3] at hq
          exact placeN_lt (by omega) hq
    | none =>
      have hm := getA_none h2
      refine getA_eq_none fun j q hq => ?_
      rcases Nat.lt_or_ge j L.length with h3 | h3
      · rw [List.getElem?_append_left h3] at hq; exact hn _ _ hq
      · rw [List.getElem?_append_right h3] at hq; exact hm _ _ hq
theorem getA_nil (nm : List UInt8) : getA [] nm = none := rfl
theorem getA_one (p : PA) (nm : List UInt8) : getA [p] nm = if nmB p = nm then some p else none := by
  by_cases h : nmB p = nm
  · rw [if_pos h]
    exact getA_of (i := 0) rfl h (fun j q hj => by omega)
  · rw [if_neg h]
    refine getA_eq_none fun j q hq => ?_
    cases j with
    | zero => injection hq with hq; rw [← hq]; exact h
    | succ j => cases hq

theorem isI_at {f : PA → Bool} {L : List PA} {i : Nat} {p : PA} (h : L[i]? = some p) : isI f L i = f p := by unfold isI; rw [h]
theorem selTo_next {p : Nat → Bool} {L : List PA} {k : Nat} {x : PA} (h : L[k]? = some x) : selTo p L (k + 1) = selTo p L k ++ (if p k then [x] else []) := by
  show selTo p L k ++ (if p k then (L[k]?).toList else []) = _
  rw [h]
  rfl
theorem selTo_len (p : Nat → Bool) (L : List PA) (k : Nat) : (selTo p L k).length ≤ k := by
  induction k with
  | zero => exact Nat.le_refl _
  | succ k ih =>
    unfold selTo
    rw [List.length_append]
    split
    · cases L[k]? <;> simp <;> omega
    · simp; omega
theorem sel_len (p : Nat → Bool) (L : List PA) : (sel p L).length ≤ L.length := selTo_len _ _ _
theorem selTo_mem {p : Nat → Bool} {L : List PA} {k : Nat} {x : PA} (h : x ∈ selTo p L k) : ∃ i, i < k ∧ p i = true ∧ L[i]? = some x := by
  induction k with
  | zero => cases h
  | succ k ih =>
    unfold selTo at h
    rcases List.mem_append.1 h with h | h
    · obtain ⟨i, h1, h2, h3⟩ := ih h
      exact ⟨i, by omega, h2, h3⟩
    · split at h
      · rename_i hp
        rw [Option.mem_toList] at h
        exact ⟨k, by omega, hp, h⟩
      · cases h
theorem mem_selTo {p : Nat → Bool} {L : List PA} {k i : Nat} {x : PA} (hi : i < k) (hp : p i = true) (hx : L[i]? = some x) : x ∈ selTo p L k := by
  induction k with
  | zero => omega
  | succ k ih =>
    unfold selTo
    rcases Nat.lt_or_ge i k with h | h
    · exact List.mem_append_left _ (ih h)
    · obtain rfl : i = k := by omega
      refine List.mem_append_right _ ?_
      rw [if_pos hp, hx]
      simp
theorem mem_sel {p : Nat → Bool} {L : List PA} {i : Nat} {x : PA} (hp : p i = true) (hx : L[i]? = some x) : x ∈ sel p L := mem_selTo (List.getElem?_eq_some_iff.1 hx).1 hp hx
theorem getA_selTo (p : Nat → Bool) (L : List PA) (k : Nat) (nm : List UInt8) : getA (selTo p L (k + 1)) nm = (getA (selTo p L k) nm).or (getA (if p k then (L[k]?).toList else []) nm) := getA_append _ _ _

theorem getA_once_to (L : List PA) (nm : List UInt8) (k : Nat) (hk : k ≤ L.length) : getA (selTo (onceP L) L k) nm = if placeN L nm < k then getA L nm else none := by
  induction k with
  | zero => rw [if_neg (by omega)]; rfl
  | succ k ih =>
    rw [getA_selTo, ih (by omega)]
    have hx : L[k]? = some (L[k]'(by omega)) := List.getElem?_eq_getElem _
    generalize L[k]'(by omega) = x at hx
    rw [hx]
    by_cases h : placeN L nm < k
    · rw [if_pos h, if_pos (show placeN L nm < k + 1 by omega)]
      unfold getA
      rw [List.getElem?_eq_getElem (show placeN L nm < L.length by omega)]
      rfl
    · rw [if_neg h, Option.none_or]
      have hp : onceP L k = (placeN L (nmB x) == k) := isI_at hx
      rw [hp]
      by_cases h2 : placeN L nm = k
      · rw [if_pos (show placeN L nm < k + 1 by omega)]
        obtain ⟨y, hy, hyn⟩ := placeN_hit (L := L) (nm := nm) (by omega)
        rw [h2, hx] at hy
        injection hy with hy
        subst hy
        have hk2 : placeN L (nmB x) = k := by rw [hyn]; exact h2
        rw [hk2, beq_self_eq_true, if_pos rfl, Option.toList_some, getA_one, if_pos hyn]
        unfold getA
        rw [h2, hx]
      · rw [if_neg (show ¬ placeN L nm < k + 1 by omega)]
        by_cases h3 : placeN L (nmB x) = k
        · rw [h3, beq_self_eq_true, if_pos rfl, Option.toList_some, getA_one, if_neg]
          intro e
          rw [e] at h3
          exact h2 h3
        · rw [beq_eq_false_iff_ne.2 h3, if_neg (by simp), getA_nil]
theorem getA_once (L : List PA) (nm : List UInt8) : getA (onceA L) nm = getA L nm := by
  unfold onceA sel
  rw [getA_once_to L nm _ (Nat.le_refl _)]
  split
  · rfl
  · rename_i h
    unfold getA
    rw [List.getElem?_eq_none (by omega)]
theorem getA_drop_to (L : List PA) (d nm : List UInt8) (k : Nat) (hk : k ≤ L.length) : getA (selTo (dropP L d) L k) nm = if nm = d then none else if placeN L nm < k then getA L nm else none := by
  induction k with
  | zero => rw [if_neg (by omega : ¬ placeN L nm < 0)]; split <;> rfl
  | succ k ih =>
    rw [getA_selTo, ih (by omega)]
    have hx : L[k]? = some (L[k]'(by omega)) := List.getElem?_eq_getElem _
    generalize L[k]'(by omega) = x at hx
    rw [hx]
    have hp : dropP L d k = !(nmB x == d) := isI_at hx
    rw [hp]
    by_cases hd : nm = d
    · rw [if_pos hd, if_pos hd, Option.none_or]
      cases hb : nmB x == d with
      | true => rfl
      | false =>
        have := beq_eq_false_iff_ne.1 hb
        rw [Bool.not_false, if_pos rfl, Option.toList_some, getA_one, if_neg (by rw [hd]; exact this)]
    · rw [if_neg hd, if_neg hd]
      by_cases h : placeN L nm < k
      · rw [if_pos h, if_pos (show placeN L nm < k + 1 by omega)]
        unfold getA
        rw [List.getElem?_eq_getElem (show placeN L nm < L.length by omega)]
        rfl
      · rw [if_neg h, Option.none_or]
        by_cases h2 : placeN L nm = k
        · rw [if_pos (show placeN L nm < k + 1 by omega)]
          obtain ⟨y, hy, hyn⟩ := placeN_hit (L := L) (nm := nm) (by omega)
          rw [h2, hx] at hy
          injection hy with hy
          subst hy
          have hne : (nmB x == d) = false := beq_eq_false_iff_ne.2 (by rw [hyn]; exact hd)
          rw [hne, Bool.not_false, if_pos rfl, Option.toList_some, getA_one, if_pos hyn]
          unfold getA
          rw [h2, hx]
        · rw [if_neg (show ¬ placeN L nm < k + 1 by omega)]
          have hxn : nmB x ≠ nm := by
            intro e
            have := placeN_some hx e
            omega
          cases (!(nmB x == d)) with
          | true => rw [if_pos rfl, Option.toList_some, getA_one, if_neg hxn]
          | false => rfl
theorem getA_drop (L : List PA) (d nm : List UInt8) : getA (dropA L d) nm = if nm = d then none else getA L nm := by
  unfold dropA sel
  rw [getA_drop_to L d nm _ (Nat.le_refl _)]
  split
  · rfl
  · split
    · rfl
    · rename_i h
      unfold getA
      rw [List.getElem?_eq_none (by omega)]
theorem getA_put (L : List PA) (a : PA) (nm : List UInt8) : getA (putA L a) nm = if nm = nmB a then some a else getA L nm := by
  unfold putA
  split
  · rename_i h
    obtain ⟨q, hq, hqn⟩ := placeN_hit h
    by_cases hn : nm = nmB a
    · subst hn
      rw [if_pos rfl]
      refine getA_of (i := placeN L (nmB a)) (by rw [List.getElem?_set_self h]) rfl ?_
      intro j x hj hx
      rw [List.getElem?_set_ne (by omega)] at hx
      exact placeN_lt hj hx
    · rw [if_neg hn]
      have key : ∀ (j : Nat) (x : PA), (L.set (placeN L (nmB a)) a)[j]? = some x → nmB x = nm → L[j]? = some x := by
        intro j x hx hxn
        by_cases hj : j = placeN L (nmB a)
        · subst hj
          rw [List.getElem?_set_self h] at hx
          injection hx with hx
          subst hx
          exact absurd hxn.symm hn
        · rw [List.getElem?_set_ne (Ne.symm hj)] at hx; exact hx
      cases h2 : getA L nm with
      | none => exact getA_eq_none fun j x hx hxn => getA_none h2 _ _ (key j x hx hxn) hxn
      | some p =>
        have hpn := getA_nm h2
        have hne : placeN L (nmB a) ≠ placeN L nm := by
          intro e
          unfold getA at h2
          rw [← e, hq] at h2
          injection h2 with h2
          rw [h2] at hqn
          exact hn (hpn ▸ hqn)
        refine getA_of (i := placeN L nm) (by rw [List.getElem?_set_ne hne]; exact h2) hpn ?_
        intro j x hj hx hxn
        exact placeN_lt hj (key j x hx hxn) hxn
  · rename_i h
    rw [getA_append, getA_one]
    by_cases hn : nm = nmB a
    · subst hn
      rw [if_pos rfl, if_pos rfl]
      have : getA L (nmB a) = none := by unfold getA; exact List.getElem?_eq_none (by omega)
      rw [this]; rfl
    · rw [if_neg hn, if_neg (Ne.symm hn), Option.or_none]
theorem mem_once {L : List PA} {x : PA} (h : x ∈ onceA L) : getA L (nmB x) = some x := by
  obtain ⟨i, _, hp, hx⟩ := selTo_mem h
  have hp' : (placeN L (nmB x) == i) = true := (isI_at (f := fun p => placeN L (nmB p) == i) hx).symm.trans hp
  unfold getA
  rw [beq_iff_eq.1 hp']
  exact hx
theorem once_mem {L : List PA} {nm : List UInt8} {x : PA} (h : getA L nm = some x) : x ∈ onceA L := by
  have hn := getA_nm h
  unfold getA at h
  refine mem_sel (i := placeN L nm) ?_ h
  unfold onceP
  rw [isI_at h, hn]
  simp

/-- what has to be put, and to be dropped, where both are once -/
def diffP (A B : List PA) : List PA := chgPut (onceA A) (onceA B)
def diffD (A B : List PA) : List PA := chgDrop (onceA A) (onceA B)
/-- Same -/
def sameA (A B : List PA) : Bool := (diffP A B).isEmpty && (diffD A B).isEmpty
theorem mem_sel_of {f : PA → Bool} {L : List PA} {x : PA} (h : x ∈ sel (isI f L) L) : x ∈ L ∧ f x = true := by
  obtain ⟨i, _, hp, hx⟩ := selTo_mem h
  rw [isI_at hx] at hp
  exact ⟨List.mem_of_getElem? hx, hp⟩
theorem sel_of_mem {f : PA → Bool} {L : List PA} {x : PA} (h : x ∈ L) (hf : f x = true) : x ∈ sel (isI f L) L := by
  obtain ⟨i, hi⟩ := List.mem_iff_getElem?.1 h
  exact mem_sel (by rw [isI_at hi]; exact hf) hi
theorem mem_diffP {A B : List PA} {x : PA} : x ∈ diffP A B ↔ getA B (nmB x) = some x ∧ getA A (nmB x) ≠ some x := by
  unfold diffP chgPut
  constructor
  · intro h
    obtain ⟨h1, h2⟩ := mem_sel_of h
    refine ⟨mem_once h1, ?_⟩
    unfold putP at h2
    rw [getA_once] at h2
    simpa using h2
  · rintro ⟨h1, h2⟩
    refine sel_of_mem (once_mem h1) ?_
    unfold putP
    rw [getA_once]
    simpa using h2
theorem mem_diffD {A B : List PA} {x : PA} : x ∈ diffD A B ↔ getA A (nmB x) = some x ∧ getA B (nmB x) = none := by
  unfold diffD chgDrop
  constructor
  · intro h
    obtain ⟨h1, h2⟩ := mem_sel_of h
    refine ⟨mem_once h1, ?_⟩
    rw [getA_once] at h2
    simpa using h2
  · rintro ⟨h1, h2⟩
    refine sel_of_mem (once_mem h1) ?_
    rw [getA_once, h2]
    rfl
theorem sameA_iff (A B : List PA) : sameA A B = true ↔ ∀ nm, getA A nm = getA B nm := by
  unfold sameA
  rw [Bool.and_eq_true, List.isEmpty_iff, List.isEmpty_iff]
  constructor
  · rintro ⟨h1, h2⟩ nm
    cases hb : getA B nm with
    | some x =>
      have hn := getA_nm hb
      apply Classical.byContradiction
      intro hne
      have : x ∈ diffP A B := mem_diffP.2 ⟨by rw [hn]; exact hb, by rw [hn]; exact hne⟩
      rw [h1] at this
      cases this
    | none =>
      cases ha : getA A nm with
      | none => rfl
      | some x =>
        have hn := getA_nm ha
        have : x ∈ diffD A B := mem_diffD.2 ⟨by rw [hn]; exact ha, by rw [hn]; exact hb⟩
        rw [h2] at this
        cases this
  · intro h
    refine ⟨List.eq_nil_iff_forall_not_mem.2 fun x hx => ?_, List.eq_nil_iff_forall_not_mem.2 fun x hx => ?_⟩
    · obtain ⟨h1, h2⟩ := mem_diffP.1 hx
      exact h2 (by rw [h]; exact h1)
    · obtain ⟨h1, h2⟩ := mem_diffD.1 hx
      rw [h, h2] at h1
      cases h1
theorem sameA_self (A : List PA) : sameA A A = true := (sameA_iff A A).2 fun _ => rfl
theorem sameA_comm (A B : List PA) : sameA A B = sameA B A := by
  rw [Bool.eq_iff_iff, sameA_iff, sameA_iff]
  exact ⟨fun h nm => (h nm).symm, fun h nm => (h nm).symm⟩

/-- all that has to be put, put -/
def putsA (L : List PA) (ps : List PA) : List PA := ps.foldl putA L
def dropsA (L : List PA) (ds : List (List UInt8)) : List PA := ds.foldl dropA L
theorem putsA_snoc (L ps : List PA) (x : PA) : putsA L (ps ++ [x]) = putA (putsA L ps) x := by unfold putsA; rw [List.foldl_append]; rfl
theorem dropsA_snoc (L : List PA) (ds : List (List UInt8)) (x : List UInt8) : dropsA L (ds ++ [x]) = dropA (dropsA L ds) x := by unfold dropsA; rw [List.foldl_append]; rfl
theorem getA_puts (L ps : List PA) (M : List PA) (h : ∀ x ∈ ps, getA M (nmB x) = some x) (nm : List UInt8) : getA (putsA L ps) nm = if nm ∈ ps.map nmB then getA M nm else getA L nm := by
  induction ps using snocInd with
  | nil => simp [putsA]
  | append_singleton ps x ih =>
    rw [putsA_snoc, getA_put, ih (fun y hy => h y (List.mem_append_left _ hy)), List.map_append]
    have hx := h x (by simp)
    by_cases hn : nm = nmB x
    · subst hn
      rw [if_pos rfl, if_pos (by simp), hx]
    · rw [if_neg hn]
      by_cases hm : nm ∈ ps.map nmB
      · rw [if_pos hm, if_pos (List.mem_append_left _ hm)]
      · rw [if_neg hm, if_neg]
        rw [List.mem_append]
        simp only [List.map_cons, List.map_nil, List.mem_singleton]
        rintro (h1 | h1)
        · exact hm h1
        · exact hn h1
theorem getA_drops (L : List PA) (ds : List (List UInt8)) (nm : List UInt8) : getA (dropsA L ds) nm = if nm ∈ ds then none else getA L nm := by
  induction ds using snocInd with
  | nil => simp [dropsA]
  | append_singleton ds x ih =>
    rw [dropsA_snoc, getA_drop, ih]
    by_cases hn : nm = x
    · subst hn
      rw [if_pos rfl, if_pos (by simp)]
    · rw [if_neg hn]
      by_cases hm : nm ∈ ds
      · rw [if_pos hm, if_pos (List.mem_append_left _ hm)]
      · rw [if_neg hm, if_neg]
        rw [List.mem_append]
        simp only [List.mem_singleton]
        rintro (h1 | h1)
        · exact hm h1
        · exact hn h1
/-- changes lead from the one to the other -/
theorem changed_same (A B : List PA) : sameA (dropsA (putsA (onceA A) (diffP A B)) ((diffD A B).map nmB)) B = true := by
  rw [sameA_iff]
  intro nm
  rw [getA_drops, getA_puts _ _ B (fun x hx => (mem_diffP.1 hx).1), getA_once]
  split
  · rename_i h
    obtain ⟨x, hx, rfl⟩ := List.mem_map.1 h
    rw [(mem_diffD.1 hx).2]
  · rename_i hd
    split
    · rfl
    · rename_i hp
      cases hb : getA B nm with
      | some x =>
        have hn := getA_nm hb
        apply Classical.byContradiction
        intro hne
        exact hp (List.mem_map.2 ⟨x, mem_diffP.2 ⟨by rw [hn]; exact hb, by rw [hn]; exact hne⟩, hn⟩)
      | none =>
        cases ha : getA A nm with
        | none => rfl
        | some x =>
          have hn := getA_nm ha
          exact absurd (List.mem_map.2 ⟨x, mem_diffD.2 ⟨by rw [hn]; exact ha, by rw [hn]; exact hb⟩, hn⟩) hd

end Go.Proofs.YtdiifkmcbnhliaaGreat.mk

namespace Go.Proofs.YtdiifkmcbnhliaaGreat.mk
open Go.RowKit

def upperB (b : UInt8) : Bool := decide (65 ≤ b.toNat) && decide (b.toNat ≤ 90)
def lowB (b : UInt8) : UInt8 := if upperB b then b + 32 else b

set_option maxHeartbeats 400000 in
theorem upper_any (b : UInt8) (w : World) :
    Calls Tryz.prog 78 #[.int .u8 b.toNat] w fun e w' => e = .returned (.bool (upperB b)) ∧ w = w' := by
  go_enter Tryz.func78, Tryz.ntmps78
  go_wp2
  all_goals
    go_ret
    refine ⟨ret_bool ?_, rfl⟩
    unfold upperB
    rw [Bool.eq_iff_iff]
    simp
    try omega

theorem zero_given (w : World) : Sem.run Tryz.prog (zeroValue 127) w = Result.ok (.agg (Array.replicate 256 (.bool false))) w := by kernel_rfl

def AmongRel (l : List UInt8) (g : Nat) (w0 : World) (i : Value) (wr : World) : Prop :=
  ∃ k : Nat, k ≤ l.length ∧ i = .int .i64 (k : Int) ∧ (∃ cs, cs.size = 256 ∧ Whole wr g 127 cs ∧ ∀ b : UInt8, cs[b.toNat]? = some (.bool ((l.take k).contains b))) ∧ Below g w0 wr

end Go.Proofs.YtdiifkmcbnhliaaGreat.mk

namespace Go.Proofs.YtdiifkmcbnhliaaGreat.mk
open Go.RowKit

def trimL {α : Type} (p : α → Bool) (l : List α) : List α := ((l.dropWhile p).reverse.dropWhile p).reverse
theorem dropWhile_front {α : Type} {p : α → Bool} {a m : List α} (h : ∀ x ∈ a, p x = true) : (a ++ m).dropWhile p = m.dropWhile p := by
  induction a with
  | nil => rfl
  | cons x a ih => rw [List.cons_append, List.dropWhile_cons, if_pos (h x (by simp)), ih (fun y hy => h y (by simp [hy]))]
theorem dropWhile_stay {α : Type} {p : α → Bool} {x : α} {m : List α} (h : p x = false) : (x :: m).dropWhile p = x :: m := by
  rw [List.dropWhile_cons, if_neg (by simp [h])]
theorem dropWhile_all {α : Type} {p : α → Bool} {a : List α} (h : ∀ x ∈ a, p x = true) : a.dropWhile p = [] := by
  have := dropWhile_front (m := []) h
  simpa using this
theorem trimL_all {α : Type} {p : α → Bool} {a : List α} (h : ∀ x ∈ a, p x = true) : trimL p a = [] := by
  unfold trimL; rw [dropWhile_all h]; rfl
theorem trimL_mid {α : Type} {p : α → Bool} {a m b : List α} {x y : α} (ha : ∀ x ∈ a, p x = true) (hb : ∀ x ∈ b, p x = true) (hx : m.head? = some x) (hpx : p x = false) (hy : m.getLast? = some y) (hpy : p y = false) : trimL p (a ++ m ++ b) = m := by
  unfold trimL
  have h1 : (a ++ m ++ b).dropWhile p = m ++ b := by
    rw [List.append_assoc, dropWhile_front ha]
    cases m with
    | nil => simp at hx
    | cons z m => simp at hx; subst hx; rw [List.cons_append, dropWhile_stay hpx]
  rw [h1, List.reverse_append, dropWhile_front (fun z hz => hb z (by simpa using hz))]
  rcases snoc_cases m with rfl | ⟨r, z, rfl⟩
  · simp at hy
  · simp at hy; subst hy
    rw [List.reverse_append, List.reverse_singleton, List.singleton_append, dropWhile_stay hpy]
    simp

/-- what is known of the first k: where the first and the last are that stay -/
def Mid {α : Type} (p : α → Bool) (l : List α) (k a b : Nat) : Prop :=
  (a = l.length ∧ b = 0 ∧ ∀ (i : Nat) (x : α), i < k → l[i]? = some x → p x = true) ∨
  (a < b ∧ b ≤ k ∧ (∀ (i : Nat) (x : α), i < a → l[i]? = some x → p x = true) ∧ (∃ x, l[a]? = some x ∧ p x = false) ∧ (∃ x, l[b - 1]? = some x ∧ p x = false) ∧ ∀ (i : Nat) (x : α), b ≤ i → i < k → l[i]? = some x → p x = true)
theorem Mid.zero {α : Type} (p : α → Bool) (l : List α) : Mid p l 0 l.length 0 := .inl ⟨rfl, rfl, fun i x h => by omega⟩
theorem Mid.skip {α : Type} {p : α → Bool} {l : List α} {k a b : Nat} {x : α} (h : Mid p l k a b) (hx : l[k]? = some x) (hp : p x = true) : Mid p l (k + 1) a b := by
  rcases h with ⟨h1, h2, h3⟩ | ⟨h1, h2, h3, h4, h5, h6⟩
  · refine .inl ⟨h1, h2, fun i y hi hy => ?_⟩
    rcases Nat.lt_or_ge i k with h | h
    · exact h3 i y h hy
    · obtain rfl : i = k := by omega
      rw [hx] at hy; injection hy with hy; subst hy; exact hp
  · refine .inr ⟨h1, by omega, h3, h4, h5, fun i y hb hi hy => ?_⟩
    rcases Nat.lt_or_ge i k with h | h
    · exact h6 i y hb h hy
    · obtain rfl : i = k := by omega
      rw [hx] at hy; injection hy with hy; subst hy; exact hp
theorem Mid.here {α : Type} {p : α → Bool} {l : List α} {k a b : Nat} {x : α} (h : Mid p l k a b) (hx : l[k]? = some x) (hp : p x = false) : Mid p l (k + 1) (min a k) (k + 1) := by
  have hk : k < l.length := (List.getElem?_eq_some_iff.1 hx).1
  rcases h with ⟨h1, h2, h3⟩ | ⟨h1, h2, h3, h4, h5, h6⟩
  · rw [show min a k = k by omega]
    exact .inr ⟨by omega, by omega, h3, ⟨x, hx, hp⟩, ⟨x, by simpa using hx, hp⟩, fun i y hb hi => by omega⟩
  · rw [show min a k = a by omega]
    exact .inr ⟨by omega, by omega, h3, h4, ⟨x, by simpa using hx, hp⟩, fun i y hb hi => by omega⟩
theorem Mid.bd {α : Type} {p : α → Bool} {l : List α} {k a b : Nat} (h : Mid p l k a b) (hk : k ≤ l.length) : a ≤ l.length ∧ b ≤ l.length := by
  rcases h with ⟨h1, h2, _⟩ | ⟨h1, h2, _⟩ <;> omega
theorem Mid.end_ {α : Type} {p : α → Bool} {l : List α} {a b : Nat} (h : Mid p l l.length a b) : (l.take b).drop a = trimL p l := by
  rcases h with ⟨h1, h2, h3⟩ | ⟨h1, h2, h3, ⟨x, h4, h4'⟩, ⟨y, h5, h5'⟩, h6⟩
  · subst h2
    rw [trimL_all (fun x hx => ?_)]
    · simp
    · obtain ⟨i, hi⟩ := List.mem_iff_getElem?.1 hx
      exact h3 i x (List.getElem?_eq_some_iff.1 hi).1 hi
  · have hlen : ((l.take b).drop a).length = b - a := by rw [List.length_drop, List.length_take]; omega
    have e : l = l.take a ++ (l.take b).drop a ++ l.drop b := by
      have e1 : l.take a = (l.take b).take a := by rw [List.take_take]; congr 1; omega
      rw [e1, List.take_append_drop, List.take_append_drop]
    conv => rhs; rw [e]
    refine (trimL_mid (x := x) (y := y) (fun z hz => ?_) (fun z hz => ?_) ?_ h4' ?_ h5').symm
    · obtain ⟨i, hi⟩ := List.mem_iff_getElem?.1 hz
      rw [List.getElem?_take] at hi
      split at hi
      · rename_i hlt; exact h3 i z hlt hi
      · cases hi
    · obtain ⟨i, hi⟩ := List.mem_iff_getElem?.1 hz
      rw [List.getElem?_drop] at hi
      exact h6 (b + i) z (by omega) (List.getElem?_eq_some_iff.1 hi).1 hi
    · rw [List.head?_drop, List.getElem?_take, if_pos h1]; exact h4
    · rw [List.getLast?_eq_getElem?, hlen, List.getElem?_drop, List.getElem?_take, if_pos (by omega), show a + (b - a - 1) = b - 1 by omega]; exact h5

/-- whether a byte with its origin is sought -/
def onB (f : UInt8 → Bool) (x : UInt8 × Int) : Bool := f x.1
theorem Mid.map {f : UInt8 → Bool} {L : List (UInt8 × Int)} {l : List UInt8} {k a b : Nat} (h : Mid f l k a b) (hl : L.map (·.1) = l) : Mid (onB f) L k a b := by
  subst hl
  have hg : ∀ (i : Nat) (x : UInt8 × Int), L[i]? = some x → (L.map (·.1))[i]? = some x.1 := fun i x hx => by rw [List.getElem?_map, hx]; rfl
  have hg' : ∀ (i : Nat) (x : UInt8), (L.map (·.1))[i]? = some x → ∃ y, L[i]? = some y ∧ y.1 = x := fun i x hx => by
    rw [List.getElem?_map] at hx
    cases hL : L[i]? with
    | none => rw [hL] at hx; cases hx
    | some y => rw [hL] at hx; exact ⟨y, rfl, by injection hx⟩
  rcases h with ⟨h1, h2, h3⟩ | ⟨h1, h2, h3, ⟨x, h4, h4'⟩, ⟨y, h5, h5'⟩, h6⟩
  · exact .inl ⟨by simpa using h1, h2, fun i x hi hx => h3 i x.1 hi (hg i x hx)⟩
  · obtain ⟨x', hx, rfl⟩ := hg' _ _ h4
    obtain ⟨y', hy, rfl⟩ := hg' _ _ h5
    exact .inr ⟨h1, h2, fun i x hi hx => h3 i x.1 hi (hg i x hx), ⟨x', hx, h4'⟩, ⟨y', hy, h5'⟩, fun i x hb hi hx => h6 i x.1 hb hi (hg i x hx)⟩

def StripRel (f : UInt8 → Bool) (l : List UInt8) (a b i : Value) : Prop :=
  ∃ k x y : Nat, k ≤ l.length ∧ i = .int .i64 (k : Int) ∧ a = .int .i64 (x : Int) ∧ b = .int .i64 (y : Int) ∧ Mid f l k x y

end Go.Proofs.YtdiifkmcbnhliaaGreat.mk

namespace Go.Proofs.YtdiifkmcbnhliaaGreat.mk
open Go.RowKit

set_option maxHeartbeats 400000 in
theorem refLow_any (b : UInt8) (w : World) :
    Calls Tryz.prog 64 #[.int .u8 b.toNat] w fun e w' => e = .returned (.int .u8 (lowB b).toNat) ∧ w = w' := by
  have hb := b.toNat_lt
  cases hu : upperB b with
  | true =>
    have h2 := hu
    unfold upperB at h2
    simp at h2
    have h3 : (65 : Int) ≤ (b.toNat : Int) := by omega
    have h4 : (b.toNat : Int) ≤ 90 := by omega
    have HL : Hid ((lowB b).toNat = b.toNat + 32) := by
      show _ = _
      unfold lowB
      rw [if_pos hu, UInt8.toNat_add]
      show (b.toNat + 32) % 256 = _
      omega
    have hwr : IntKind.u8.wrap ((b.toNat : Int) + 32) = (b.toNat : Int) + 32 := IntWalk.u8_in _ (by omega)
    clear hu h2
    go_enter Tryz.func64, Tryz.ntmps64
    go_wp2
    all_goals
      go_ret
      exact ⟨ret_int (by rw [HL.out]; omega), rfl⟩
  | false =>
    have HL : Hid (lowB b = b) := by show _ = _; unfold lowB; rw [hu]; rfl
    have h2 : ¬ ((65 : Int) ≤ (b.toNat : Int) ∧ (b.toNat : Int) ≤ 90) := by
      intro h
      unfold upperB at hu
      simp at hu
      have := hu (by omega)
      omega
    clear hu
    by_cases h3 : (65 : Int) ≤ (b.toNat : Int)
    · have h4 : ¬ (b.toNat : Int) ≤ 90 := fun h => h2 ⟨h3, h⟩
      clear h2
      go_enter Tryz.func64, Tryz.ntmps64
      go_wp2
      all_goals
        go_ret
        exact ⟨ret_int (by rw [HL.out]), rfl⟩
    · clear h2
      go_enter Tryz.func64, Tryz.ntmps64
      go_wp2
      all_goals
        go_ret
        exact ⟨ret_int (by rw [HL.out]), rfl⟩

/-- A to Z as a to z, origins as they are -/
def lowCh (l : List (UInt8 × Int)) : List (UInt8 × Int) := l.map fun x => (lowB x.1, x.2)
def RefRowRel (f : Nat → List (UInt8 × Int)) (n : Nat) (w0 : World) (v i : Value) (wr : World) : Prop :=
  ∃ k : Nat, k ≤ n ∧ i = .int .i64 (k : Int) ∧ wr.ownsRow w0.heap.size 65 2 v (f k).length (chCells (f k)) ∧ Below w0.heap.size w0 wr

set_option maxHeartbeats 1000000 in
set_option maxRecDepth 100000 in
theorem refLower_any (A : Option Addr) (n c : Nat) (l : List (UInt8 × Int)) (w : World) (hl : Lies w w.heap.size A (chCells l)) (hn : l.length = n) (hn2 : n ≤ 4294967296) :
    Calls Tryz.prog 38 #[.slice A n c] w fun e w' => ∃ v, e = .returned v ∧ w'.ownsRow w.heap.size 65 2 v (lowCh l).length (chCells (lowCh l)) ∧ Below w.heap.size w w' := by
  obtain ⟨i0, hi, hz0, hz1, hz2⟩ := info_parts ch_info
  have HN := Lib.hid hn
  clear hn
  go_enter Tryz.func38, Tryz.ntmps38
  go_wp2_with fail
  go_loopw [3, 4] (RefRowRel (fun k => lowCh (l.take k)) n w) (fun _ i _ => n - (intOf i).toNat)
  case atStart => exact ⟨0, Nat.zero_le _, rfl, by simpa [chCells, lowCh] using World.ownsRow_nil _ _ _ _, Below.refl _ _⟩
  case round =>
    obtain ⟨k, hk, rfl, hown, hbl⟩ := hrel
    have hws := hbl.size
    have HLK : Hid ((lowCh (l.take k)).length = k) := by show _ = _; unfold lowCh; rw [List.length_map, List.length_take, HN.out]; omega
    simp only [HLK.out] at hown
    have HOWN := Lib.hid hown
    have HBL := Lib.hid hbl
    obtain ⟨A3, d3, rfl, _, _, _⟩ := own_form hown
    by_cases hlt : k < n
    · obtain ⟨ad, b, o, rfl, hb, hc1, hc2, HR⟩ := (hl.below hbl).ch (k := k) (by rw [HN.out]; exact hlt)
      have hk0 : (0 : Int) ≤ (k : Int) := Int.natCast_nonneg _
      have hk1 : (k : Int) < (n : Int) := by omega
      have HNX : Hid (lowCh (l.take (k + 1)) = lowCh (l.take k) ++ [(lowB b, o)]) := by
        show _ = _
        rw [take_next HR.out]
        simp [lowCh]
      have hbk1 : (ad.add (k * 2)).block < w.heap.size := by rw [addr_block]; exact hb
      have KS : ∀ w', Below w.heap.size w w' → w'.cell? (ad.add (k * 2)) = some (.int .u8 b.toNat) ∧ w'.cell? ⟨(ad.add (k * 2)).block, (ad.add (k * 2)).off + 1, none⟩ = some (.int .i64 o) ∧ Below w.heap.size w w' := fun w' h => by
        have x1 : w'.cell? (ad.add (k * 2)) = wr.cell? (ad.add (k * 2)) := (h.cell hbk1).trans (HBL.out.cell hbk1).symm
        have x2 : w'.cell? ⟨(ad.add (k * 2)).block, (ad.add (k * 2)).off + 1, none⟩ = wr.cell? ⟨(ad.add (k * 2)).block, (ad.add (k * 2)).off + 1, none⟩ := Eq.trans (h.cell (show (⟨(ad.add (k * 2)).block, (ad.add (k * 2)).off + 1, none⟩ : Addr).block < w.heap.size from hbk1)) (Eq.symm (HBL.out.cell (show (⟨(ad.add (k * 2)).block, (ad.add (k * 2)).off + 1, none⟩ : Addr).block < w.heap.size from hbk1)))
        exact ⟨x1.trans hc1, x2.trans hc2, h⟩
      have HKS := Lib.hid KS
      clear KS hbk1 hown hbl
      go_wp2_with fail
      go_region_held3 (fun w' => w'.cell? (ad.add (k * 2)) = some (.int .u8 b.toNat) ∧ w'.cell? ⟨(ad.add (k * 2)).block, (ad.add (k * 2)).off + 1, none⟩ = some (.int .i64 o) ∧ Below w.heap.size w w')
        (first
          | exact HKS.out _ HBL.out.drew
          | exact HKS.out _ ((HBL.out.alloc (by omega) _).drew)
          | (go_split_ands; exact HKS.out _ (by assumption))
          | (exact HKS.out _ (((HBL.out.alloc (by omega) _).drew).grown hgrow (by simp; omega) (fun x hx => (HOWN.out.lt x hx).1))))
        (first
          | (go_at_call 64; refine (refLow_any b _).mono ?_; rintro e w' ⟨rfl, rfl⟩)
          | (refine step_append_lies _ (by rfl) _ _ _ (by rfl) w.heap.size 65 i0 _ 2 16 Tryz.underlying31 hi hz0 hz1 hz2 rfl (by omega) (.slice A3 k d3) k _ (by rfl) ((HOWN.out.alloc _).drew)
              ⟨wr.heap.size, 0, none⟩ 1 1 [.int .u8 (lowB b).toNat, .int .i64 o] (by rfl) (by rfl) (World.news_of_block (cs := #[.int .u8 (lowB b).toNat, .int .i64 o]) (t := 65) (fr := (0, 0)) (heap_alloc_new wr _)) (by simp [Value.oneCell'])
              (by omega) (by simp only [maxLen]; omega) (by omega) (by simp; omega) (wr.heap.size + 1) (by simp) ?_; intro gg cap w1 hown1 hgrow hat hlt'))
      all_goals
        have hbl1 : Below w.heap.size w w1 := (((HBL.out.alloc (by omega) _).drew).grown hgrow (by simp; omega) (fun x hx => (HOWN.out.lt x hx).1))
        clear hgrow hat hlt'
        go_wp2_with fail
        go_roundw
        case rel => exact ⟨k + 1, by omega, by go_num, by show World.ownsRow _ _ _ _ _ (lowCh (l.take (k + 1))).length (chCells (lowCh (l.take (k + 1)))); rw [HNX.out, chCells_snoc, List.length_append, HLK.out]; exact hown1, hbl1⟩
        case measure => simp [intOf]; omega
    · obtain rfl : k = n := by omega
      have hful : l.take k = l := List.take_of_length_le (by rw [HN.out]; exact Nat.le_refl _)
      have HLL : Hid ((lowCh l).length = k) := by have := HLK.out; rw [hful] at this; exact this
      rw [hful] at hown
      clear hful
      go_wp2_with fail
      go_ret
      exact ⟨_, rfl, by rw [HLL.out]; exact hown, hbl⟩

theorem lies_tail2 {w : World} {B : Nat} {ad : Addr} {x : UInt8 × Int} {l : List (UInt8 × Int)} (h : Lies w B (some ad) (chCells (x :: l))) : Lies w B (some (ad.add 2)) (chCells l) := by
  intro j u hu
  obtain ⟨ad', e, hb, hc⟩ := h (2 + j) u (by rw [show 2 + j = j + 1 + 1 by omega]; exact hu)
  injection e with e
  subst e
  exact ⟨_, rfl, by rw [addr_block]; exact hb, by rw [addr_add]; exact hc⟩
theorem lies_front2 {w : World} {B : Nat} {A : Option Addr} {x : UInt8 × Int} {l : List (UInt8 × Int)} (h : Lies w B A (chCells (l ++ [x]))) : Lies w B A (chCells l) := by
  intro j u hu
  refine h j u ?_
  rw [chCells_append, List.getElem?_append_left (List.getElem?_eq_some_iff.1 hu).1]
  exact hu
def sliceN : Value → Nat
  | .slice _ n _ => n
  | _ => 0
def TrimPost (M : List (UInt8 × Int)) (w : World) (e : Ending) (w' : World) : Prop :=
  ∃ A' n' c', e = .returned (.slice A' n' c') ∧ Lies w w.heap.size A' (chCells M) ∧ M.length = n' ∧ w = w'
def Trim1 (p : UInt8 × Int → Bool) (L : List (UInt8 × Int)) (w : World) (v : Value) : Prop :=
  ∃ (M : List (UInt8 × Int)) (A : Option Addr) (n c : Nat), v = .slice A n c ∧ Lies w w.heap.size A (chCells M) ∧ M.length = n ∧ n ≤ c ∧ n ≤ 4294967296 ∧ L.dropWhile p = M.dropWhile p
def Trim2 (p : UInt8 × Int → Bool) (D : List (UInt8 × Int)) (w : World) (v : Value) : Prop :=
  ∃ (M : List (UInt8 × Int)) (A : Option Addr) (n c : Nat), v = .slice A n c ∧ Lies w w.heap.size A (chCells M) ∧ M.length = n ∧ n ≤ c ∧ n ≤ 4294967296 ∧ D.reverse.dropWhile p = M.reverse.dropWhile p

end Go.Proofs.YtdiifkmcbnhliaaGreat.mk

namespace Go.Proofs.YtdiifkmcbnhliaaGreat.mk
open Go.RowKit

/-- a labelled text, cut -/
theorem cut_t (a : LT) (f t : Int) (x y : Nat) (w : World) (ha : a.ok w w.heap.size) (hx : min (max f 0) (a.s.size : Int) = x) (hy : min (max t 0) (a.s.size : Int) = y) :
    Calls Tryz.prog 6 #[a.v, .int .i64 f, .int .i64 t] w (Tells (txtOf ((a.ch.take y).drop x)) (comp (((a.ch.take y).drop x).map (·.2))) w) := by
  have h := cut_any a.s a.A a.n a.c a.rs f t x y w ha.1 ha.2.1 ha.2.2.2 ha.2.2.1 hx hy
  have e1 : ((a.ch.take y).drop x).map (·.1) = (a.s.data.toList.take y).drop x := by
    rw [List.map_drop, List.map_take, LT.ch_fst]; rfl
  have e2 : ((a.ch.take y).drop x).map (·.2) = ((origins a.s.size a.rs).take y).drop x := by
    rw [List.map_drop, List.map_take, LT.ch_snd]; rfl
  unfold txtOf
  rw [e1, e2]
  exact h

end Go.Proofs.YtdiifkmcbnhliaaGreat.mk

namespace Go.Proofs.YtdiifkmcbnhliaaGreat.mk
open Go.RowKit

/-- an attribute as it lies in memory -/
structure AT where
  nm : LT
  vl : LT
def AT.v (a : AT) : Value := .agg #[.string a.nm.s, .slice a.nm.A a.nm.n a.nm.c, .string a.vl.s, .slice a.vl.A a.vl.n a.vl.c]
def AT.ok (w : World) (B : Nat) (a : AT) : Prop := a.nm.ok w B ∧ a.vl.ok w B
def AT.ch (a : AT) : PA := (a.nm.ch, a.vl.ch)
def atRow (a : AT) : List Value := [.string a.nm.s, .slice a.nm.A a.nm.n a.nm.c, .string a.vl.s, .slice a.vl.A a.vl.n a.vl.c]
def atCells (l : List AT) : List Value := l.flatMap atRow
theorem AT.nmB (a : AT) : nmB a.ch = a.nm.bs := LT.ch_fst _
theorem LT.ok.keep {w0 w : World} {B : Nat} {t : LT} (h : t.ok w0 B) (hk : ∀ p : Addr, p.block < B → w.cell? p = w0.cell? p) : t.ok w B := ⟨h.1.keep hk, h.2⟩
theorem LT.ok.mono {w : World} {B B' : Nat} {t : LT} (h : t.ok w B) (hb : B ≤ B') : t.ok w B' := ⟨h.1.mono hb, h.2⟩
theorem AT.ok.keep {w0 w : World} {B : Nat} {t : AT} (h : t.ok w0 B) (hk : ∀ p : Addr, p.block < B → w.cell? p = w0.cell? p) : t.ok w B := ⟨h.1.keep hk, h.2.keep hk⟩
theorem AT.ok.mono {w : World} {B B' : Nat} {t : AT} (h : t.ok w B) (hb : B ≤ B') : t.ok w B' := ⟨h.1.mono hb, h.2.mono hb⟩
theorem AT.ok.next {w0 w : World} {B : Nat} {t : AT} (h : t.ok w0 B) (hb : Below B w0 w) (hz : B ≤ w0.heap.size) : t.ok w w.heap.size := ⟨h.1.next hb hz, h.2.next hb hz⟩
theorem AT.ok.below {w0 w : World} {B : Nat} {t : AT} (h : t.ok w0 B) (hb : Below B w0 w) : t.ok w B := h.keep fun _ hp => hb.cell hp
theorem atCells_length (ts : List AT) : (atCells ts).length = ts.length * 4 := by
  induction ts with
  | nil => rfl
  | cons r l ih => simp only [atCells, atRow, List.flatMap_cons, List.length_append, List.length_cons, List.length_nil] at ih ⊢; omega
theorem atCells_snoc (ts : List AT) (t : AT) : atCells (ts ++ [t]) = atCells ts ++ atRow t := by simp [atCells]
theorem atCells_append (ts us : List AT) : atCells (ts ++ us) = atCells ts ++ atCells us := by simp [atCells]
theorem atCells_at (ts : List AT) (k : Nat) (t : AT) (h : ts[k]? = some t) (j : Nat) (hj : j < 4) : (atCells ts)[k * 4 + j]? = (atRow t)[j]? := by
  induction ts generalizing k with
  | nil => simp at h
  | cons x ts ih =>
    have e : atCells (x :: ts) = atRow x ++ atCells ts := rfl
    rw [e]
    have hl : (atRow x).length = 4 := rfl
    cases k with
    | zero =>
      simp at h
      subst h
      rw [Nat.zero_mul, Nat.zero_add, List.getElem?_append_left (by omega)]
    | succ k =>
      rw [List.getElem?_append_right (by omega), hl]
      have : (k + 1) * 4 + j - 4 = k * 4 + j := by omega
      rw [this]
      exact ih k (by simpa using h)
theorem addr_nexts (ad : Addr) (k : Nat) : ad.add (k + 1) = ⟨(ad.add k).block, (ad.add k).off + 1, none⟩ ∧ ad.add (k + 2) = ⟨(ad.add k).block, (ad.add k).off + 2, none⟩ ∧ ad.add (k + 3) = ⟨(ad.add k).block, (ad.add k).off + 3, none⟩ := by
  refine ⟨addr_next ad k, ?_, ?_⟩
  · rw [addr_next ad (k + 1), addr_next ad k]
  · rw [addr_next ad (k + 2), addr_next ad (k + 1), addr_next ad k]
/-- attribute k of a row: its four cells, as the walk spells them -/
theorem Lies.att {w : World} {B : Nat} {A : Option Addr} {ts : List AT} (h : Lies w B A (atCells ts)) {k : Nat} (hk : k < ts.length) :
    ∃ ad t, A = some ad ∧ ad.block < B ∧ w.cell? (ad.add (k * 4)) = some (.string t.nm.s) ∧ w.cell? ⟨(ad.add (k * 4)).block, (ad.add (k * 4)).off + 1, none⟩ = some (.slice t.nm.A t.nm.n t.nm.c) ∧
      w.cell? ⟨(ad.add (k * 4)).block, (ad.add (k * 4)).off + 2, none⟩ = some (.string t.vl.s) ∧ w.cell? ⟨(ad.add (k * 4)).block, (ad.add (k * 4)).off + 3, none⟩ = some (.slice t.vl.A t.vl.n t.vl.c) ∧ Hid (ts[k]? = some t) := by
  have ht : ts[k]? = some ts[k] := List.getElem?_eq_getElem hk
  generalize ts[k] = t at ht
  have key : ∀ j u, j < 4 → (atRow t)[j]? = some u → ∃ ad, A = some ad ∧ ad.block < B ∧ w.cell? (ad.add (k * 4 + j)) = some u := fun j u hj hu => h _ _ ((atCells_at ts k t ht j hj).trans hu)
  obtain ⟨ad, e, hb, h0⟩ := key 0 _ (by omega) rfl
  subst e
  have key' : ∀ j u, j < 4 → (atRow t)[j]? = some u → w.cell? (ad.add (k * 4 + j)) = some u := by
    intro j u hj hu
    obtain ⟨ad', e, _, hc⟩ := key j u hj hu
    injection e with e
    subst e
    exact hc
  obtain ⟨e1, e2, e3⟩ := addr_nexts ad (k * 4)
  exact ⟨ad, t, rfl, hb, h0, by rw [← e1]; exact key' 1 _ (by omega) rfl, by rw [← e2]; exact key' 2 _ (by omega) rfl, by rw [← e3]; exact key' 3 _ (by omega) rfl, ht⟩

/-- the runs are those that the origins of its bytes make -/
def LT.told (t : LT) : Prop := t.rs = comp (t.ch.map (·.2))
/-- the runs of a labelled text, and of an attribute, are rows of the call's own, and as the origins of its bytes make them -/
def OwnL (w : World) (base : Nat) (t : LT) : Prop := t.rs.length = t.n ∧ (t.n ≤ 4294967296 ∧ t.told) ∧ t.s.size ≤ 4294967296 ∧ w.ownsRow base 55 2 (.slice t.A t.n t.c) t.n (runCells t.rs)
def OwnA (w : World) (base : Nat) (a : AT) : Prop := OwnL w base a.nm ∧ OwnL w base a.vl
theorem OwnL.ok {w : World} {base : Nat} {t : LT} (h : OwnL w base t) : t.ok w w.heap.size := ⟨Lies.own h.2.2.2, h.1, h.2.1.1, h.2.2.1⟩
theorem OwnL.told {w : World} {base : Nat} {t : LT} (h : OwnL w base t) : t.rs = comp (t.ch.map (·.2)) := h.2.1.2
theorem OwnA.ok {w : World} {base : Nat} {t : AT} (h : OwnA w base t) : t.ok w w.heap.size := ⟨h.1.ok, h.2.ok⟩
theorem OwnL.mono {w : World} {base base' : Nat} {t : LT} (h : OwnL w base t) (hb : base' ≤ base) : OwnL w base' t := ⟨h.1, h.2.1, h.2.2.1, own_mono h.2.2.2 hb⟩
theorem OwnA.mono {w : World} {base base' : Nat} {t : AT} (h : OwnA w base t) (hb : base' ≤ base) : OwnA w base' t := ⟨h.1.mono hb, h.2.mono hb⟩
theorem OwnL.keep {w w' : World} {base : Nat} {t : LT} (h : OwnL w base t) (hk : ∀ g c, base ≤ g → w.heap[g]? = some (.cells c 55 (0, 0)) → w'.heap[g]? = w.heap[g]?) : OwnL w' base t := by
  refine ⟨h.1, h.2.1, h.2.2.1, own_same h.2.2.2 fun g hg => ?_⟩
  obtain ⟨cur, hc⟩ := own_kind h.2.2.2 hg
  exact hk g cur (h.2.2.2.lt g hg).1 hc
theorem OwnL.below {w w' : World} {base : Nat} {t : LT} (h : OwnL w base t) (hb : Below w.heap.size w w') : OwnL w' base t := h.keep fun _ _ _ hc => hb.block _ (Array.getElem?_eq_some_iff.1 hc).1
theorem OwnA.keep {w w' : World} {base : Nat} {t : AT} (h : OwnA w base t) (hk : ∀ g c, base ≤ g → w.heap[g]? = some (.cells c 55 (0, 0)) → w'.heap[g]? = w.heap[g]?) : OwnA w' base t := ⟨h.1.keep hk, h.2.keep hk⟩
theorem OwnA.below {w w' : World} {base : Nat} {t : AT} (h : OwnA w base t) (hb : Below w.heap.size w w') : OwnA w' base t := h.keep fun _ _ _ hc => hb.block _ (Array.getElem?_eq_some_iff.1 hc).1
/-- a row of attributes of the call's own is written, or grows: runs stay -/
theorem kind_apart {w : World} {base n g : Nat} {v : Value} {xs : List Value} {c : Array Value} {size : Nat} {e : TypeId} (ho : w.ownsRow base e size v n xs) (he : e ≠ 55) (hc : w.heap[g]? = some (.cells c 55 (0, 0))) : some g ≠ v.ownBlock := by
  intro h
  obtain ⟨cur, hc'⟩ := own_kind ho h.symm
  rw [hc] at hc'
  injection hc' with hc'
  injection hc' with _ h _
  exact he h.symm
theorem OwnA.grown {w w' : World} {base base' n : Nat} {v : Value} {xs : List Value} {t : AT} {size : Nat} {e : TypeId} (h : OwnA w base t) (ho : w.ownsRow base' e size v n xs) (he : e ≠ 55) (hg : w.grownBy w' v.ownBlock) : OwnA w' base t :=
  h.keep fun g _ _ hc => hg.block g (Array.getElem?_eq_some_iff.1 hc).1 (kind_apart ho he hc)

/-- what is read of a list of attributes: it lies there, below a block -/
def AllOk (w : World) (B : Nat) (ts : List AT) : Prop := ∀ t ∈ ts, t.ok w B
def AllOwn (w : World) (base : Nat) (ts : List AT) : Prop := ∀ t ∈ ts, OwnA w base t
theorem AllOwn.ok {w : World} {base : Nat} {ts : List AT} (h : AllOwn w base ts) : AllOk w w.heap.size ts := fun t ht => (h t ht).ok
theorem AllOwn.mono {w : World} {base base' : Nat} {ts : List AT} (h : AllOwn w base ts) (hb : base' ≤ base) : AllOwn w base' ts := fun t ht => (h t ht).mono hb
theorem AllOwn.below {w w' : World} {base : Nat} {ts : List AT} (h : AllOwn w base ts) (hb : Below w.heap.size w w') : AllOwn w' base ts := fun t ht => (h t ht).below hb
theorem AllOwn.snoc {w : World} {base : Nat} {ts : List AT} {t : AT} (h : AllOwn w base ts) (ht : OwnA w base t) : AllOwn w base (ts ++ [t]) := by
  intro x hx
  rcases List.mem_append.1 hx with hx | hx
  · exact h x hx
  · simp at hx; subst hx; exact ht
theorem AllOk.next {w0 w : World} {B : Nat} {ts : List AT} (h : AllOk w0 B ts) (hb : Below B w0 w) (hz : B ≤ w0.heap.size) : AllOk w w.heap.size ts := fun t ht => (h t ht).next hb hz
theorem AllOk.keep {w0 w : World} {B : Nat} {ts : List AT} (h : AllOk w0 B ts) (hk : ∀ p : Addr, p.block < B → w.cell? p = w0.cell? p) : AllOk w B ts := fun t ht => (h t ht).keep hk
theorem AllOk.mono {w : World} {B B' : Nat} {ts : List AT} (h : AllOk w B ts) (hb : B ≤ B') : AllOk w B' ts := fun t ht => (h t ht).mono hb
theorem AllOk.get {w : World} {B : Nat} {ts : List AT} (h : AllOk w B ts) {k : Nat} {t : AT} (ht : ts[k]? = some t) : t.ok w B := h t (List.mem_of_getElem? ht)
theorem chs_at {ts : List AT} {k : Nat} {t : AT} (h : ts[k]? = some t) : (ts.map AT.ch)[k]? = some t.ch := by rw [List.getElem?_map, h]; rfl

/-- a list of attributes that is told: in memory of its own -/
def TellsA (qs : List PA) (w : World) (e : Ending) (w' : World) : Prop :=
  ∃ A c ts, e = .returned (.slice A ts.length c) ∧ w'.ownsRow w.heap.size 51 4 (.slice A ts.length c) ts.length (atCells ts) ∧ AllOwn w' w.heap.size ts ∧ ts.map AT.ch = qs ∧ Below w.heap.size w w'
theorem att_info : (Tryz.prog.info? 51).map (fun i => (i.zero, i.size, i.bytes)) = some (some (.agg #[.string ⟨#[]⟩, .slice none 0 0, .string ⟨#[]⟩, .slice none 0 0]), 4, 80) := by kernel_rfl
/-- what is told of bytes and origins gives them back -/
theorem chars_taken (s : ByteArray) (rs : List (Int × Int)) : chars s.data.toList (taken s.size rs) = chars s.data.toList rs := by
  have h := chars_told (InR.chars s.data.toList rs)
  rw [chars_fst, chars_snd] at h
  have hl : s.data.toList.length = s.size := by rw [Array.length_toList]; rfl
  rw [hl] at h
  exact h
theorem own_told {s : ByteArray} {rs : List (Int × Int)} {v : Value} {base : Nat} {w : World} (hs : s.size ≤ 4294967296) (h : w.ownsRow base 55 2 v (taken s.size rs).length (runCells (taken s.size rs))) :
    ∃ t : LT, v = .slice t.A t.n t.c ∧ t.s = s ∧ t.ch = chars s.data.toList rs ∧ OwnL w base t := by
  obtain ⟨A, c, rfl, _, _, _⟩ := own_form h
  refine ⟨⟨s, A, _, c, taken s.size rs⟩, rfl, rfl, chars_taken s rs, rfl, ⟨?_, ?_⟩, hs, h⟩
  rotate_left
  · show taken s.size rs = comp ((chars s.data.toList (taken s.size rs)).map (·.2))
    rw [chars_taken, chars_snd, show s.data.toList.length = s.size by rw [Array.length_toList]; rfl]
    rfl
  show (taken s.size rs).length ≤ _
  have := comp_length_le (origins s.size rs)
  rw [origins_length] at this
  unfold taken
  omega

end Go.Proofs.YtdiifkmcbnhliaaGreat.mk

namespace Go.Proofs.YtdiifkmcbnhliaaGreat.mk
open Go.RowKit

def catCh (ts : List LT) : List (UInt8 × Int) := ts.flatMap LT.ch
theorem catCh_fst (ts : List LT) : (catCh ts).map (·.1) = catBs ts := by
  induction ts with
  | nil => rfl
  | cons t ts ih => simp only [catCh, catBs, List.flatMap_cons, List.map_append, LT.ch_fst] at ih ⊢; rw [ih]
theorem catCh_snd (ts : List LT) : (catCh ts).map (·.2) = catOs ts := by
  induction ts with
  | nil => rfl
  | cons t ts ih => simp only [catCh, catOs, List.flatMap_cons, List.map_append, LT.ch_snd] at ih ⊢; rw [ih]
theorem catCh_length (ts : List LT) : (catCh ts).length = (catOs ts).length := by rw [← catCh_snd, List.length_map]
theorem catCh_next {ts : List LT} {k : Nat} {t : LT} (h : ts[k]? = some t) : catCh (ts.take (k + 1)) = catCh (ts.take k) ++ t.ch := by rw [take_next h]; simp [catCh]
/-- labelled texts, put together -/
theorem catl_any (ts : List LT) (L : Option Addr) (m c : Nat) (W : World) (hl : Lies W W.heap.size L (ltCells ts)) (hm : ts.length = m) (hm2 : m ≤ 4294967296) (hok : ∀ t ∈ ts, t.ok W W.heap.size) (hz : (catCh ts).length ≤ 4294967296) :
    Calls Tryz.prog 34 #[.slice L m c] W (Tells (txtOf (catCh ts)) (comp ((catCh ts).map (·.2))) W) := by
  have h := cat_any L m c ts W hl hm hm2 hok (by rw [← catCh_length]; exact hz)
  unfold txtOf
  rw [catCh_fst, catCh_snd]
  exact h

end Go.Proofs.YtdiifkmcbnhliaaGreat.mk
