/-
  Plain mathematics of seek: the first place of a part, what bytes are sought, the parts between them. No program is named here.
-/
import Derived.Test.YtdiifkmcbnhliaaJoinA
import Derived.Lib.Index
namespace Go.Proofs.Ytdiifkmcbnhliaa.mk

/-- the place put to the nearest one -/
def atN (m : Nat) (f : Int) : Nat := (min (max f 0) (m : Int)).toNat
theorem atN_le (m : Nat) (f : Int) : atN m f ≤ m := by unfold atN; omega
theorem atN_eq (m : Nat) (f : Int) : min (max f 0) (m : Int) = (atN m f : Int) := by unfold atN; omega

/-- the first place from a place on -/
def findI (l p : List UInt8) (f : Int) : Int :=
  if Lib.index (l.drop (atN l.length f)) p < 0 then -1 else (atN l.length f : Int) + Lib.index (l.drop (atN l.length f)) p

theorem occ_drop (l p : List UInt8) (a j : Nat) : Lib.occAt (l.drop a) p j = Lib.occAt l p (a + j) := by
  unfold Lib.occAt; rw [List.drop_drop]
theorem index_le (l p : List UInt8) : Lib.index l p ≤ l.length := by
  induction l with
  | nil => unfold Lib.index; split <;> simp
  | cons b l ih =>
    unfold Lib.index
    split
    · simp; omega
    · split
      · simp; omega
      · simp; omega
/-- an instance at i and none from a to i -/
theorem findI_first {l p : List UInt8} {f : Int} {a i : Nat} (ha : a = atN l.length f) (hai : a ≤ i) (hi : i ≤ l.length) (h : Lib.occAt l p i = true) (hn : ∀ j, a ≤ j → j < i → Lib.occAt l p j = false) : findI l p f = i := by
  have hal := atN_le l.length f
  have e : Lib.index (l.drop (atN l.length f)) p = ((i - a : Nat) : Int) := by
    rw [← ha]
    refine Lib.index_first (by rw [List.length_drop]; omega) ?_ (fun j hj => ?_)
    · rw [occ_drop, show a + (i - a) = i by omega]; exact h
    · rw [occ_drop]; exact hn (a + j) (by omega) (by omega)
  unfold findI
  rw [e, if_neg (by omega), ← ha]
  omega
theorem occ_long {l p : List UInt8} {i : Nat} (hi : i ≤ l.length) (h : l.length < i + p.length) : Lib.occAt l p i = false := by
  cases ho : Lib.occAt l p i with
  | false => rfl
  | true =>
    rcases Lib.occAt_room ho with h1 | h1
    · omega
    · subst h1; simp at h; omega
theorem findI_none {l p : List UInt8} {f : Int} {a i : Nat} (ha : a = atN l.length f) (hi : l.length < i + p.length) (hn : ∀ j, a ≤ j → j < i → Lib.occAt l p j = false) : findI l p f = -1 := by
  have e : Lib.index (l.drop (atN l.length f)) p = -1 := by
    rw [← ha]
    refine Lib.index_none (fun j hj => ?_)
    rw [List.length_drop] at hj
    rw [occ_drop]
    have hal := atN_le l.length f
    by_cases h1 : a + j < i
    · exact hn (a + j) (by omega) h1
    · exact occ_long (by omega) (by omega)
  unfold findI
  rw [e, if_pos (by decide)]
theorem occ_nil {l : List UInt8} {i : Nat} : Lib.occAt l [] i = true := by unfold Lib.occAt; simp
/-- an instance, byte by byte, so far -/
def agree (l p : List UInt8) (i k : Nat) : Bool := (p.take k).isPrefixOf (l.drop i)
theorem agree_zero (l p : List UInt8) (i : Nat) : agree l p i 0 = true := by unfold agree; simp
theorem agree_all (l p : List UInt8) (i : Nat) : agree l p i p.length = Lib.occAt l p i := by unfold agree Lib.occAt; rw [List.take_length]
theorem prefix_snoc (q l : List UInt8) (b x : UInt8) (h : l[q.length]? = some x) : (q ++ [b]).isPrefixOf l = (q.isPrefixOf l && (b == x)) := by
  induction q generalizing l with
  | nil => cases l with
    | nil => simp at h
    | cons y l => simp at h; subst h; simp [List.isPrefixOf]
  | cons z q ih => cases l with
    | nil => simp at h
    | cons y l =>
      simp only [List.cons_append, List.isPrefixOf]
      rw [ih l (by simpa using h), Bool.and_assoc]
theorem agree_next {l p : List UInt8} {i k : Nat} {b x : UInt8} (hp : p[k]? = some b) (hx : l[i + k]? = some x) : agree l p i (k + 1) = (agree l p i k && (x == b)) := by
  unfold agree
  have hk : k < p.length := (List.getElem?_eq_some_iff.1 hp).1
  have e : p.take (k + 1) = p.take k ++ [b] := by rw [List.take_add_one, hp]; rfl
  rw [e, prefix_snoc (p.take k) (l.drop i) b x (by rw [List.length_take, Nat.min_eq_left (by omega), List.getElem?_drop]; exact hx)]
  congr 1
  exact Bool.eq_iff_iff.2 ⟨fun h => by simpa using (by simpa using h : b = x).symm, fun h => by simpa using (by simpa using h : x = b).symm⟩

/-- whether a text begins with a part, as f takes the bytes -/
def beginsB (f : UInt8 → UInt8) (l p : List UInt8) : Bool := decide (p.length ≤ l.length) && ((l.map f).take p.length == p.map f)

/-- how many bytes stand at the beginning that are of some -/
def spanN (l : List UInt8) (p : UInt8 → Bool) : Nat := (l.takeWhile p).length
theorem spanN_stop {l : List UInt8} {p : UInt8 → Bool} {k : Nat} {x : UInt8} (h : ∀ y ∈ l.take k, p y = true) (hx : l[k]? = some x) (hp : p x = false) : spanN l p = k := by
  unfold spanN
  have hk : k < l.length := (List.getElem?_eq_some_iff.1 hx).1
  have e : l = l.take k ++ x :: l.drop (k + 1) := by
    conv => lhs; rw [← List.take_append_drop k l]
    rw [List.drop_eq_getElem_cons hk]
    rw [List.getElem?_eq_getElem hk] at hx
    injection hx with hx
    rw [hx]
  rw [e, List.takeWhile_append_of_pos h, List.takeWhile_cons_of_neg (by simp [hp]), List.append_nil, List.length_take]
  omega
theorem spanN_all {l : List UInt8} {p : UInt8 → Bool} (h : ∀ y ∈ l, p y = true) : spanN l p = l.length := by
  unfold spanN
  have := List.takeWhile_append_of_pos (l₂ := []) h
  simp at this
  rw [this]

/-- what stands between the sought, the last part beside the others -/
def cutAll {α : Type} (p : α → Bool) (l : List α) : List (List α) × List α :=
  l.foldl (fun acc x => if p x then (acc.1 ++ [acc.2], []) else (acc.1, acc.2 ++ [x])) ([], [])
theorem cutAll_nil {α : Type} (p : α → Bool) : cutAll p [] = ([], []) := rfl
theorem cutAll_snoc {α : Type} (p : α → Bool) (l : List α) (x : α) : cutAll p (l ++ [x]) = if p x then ((cutAll p l).1 ++ [(cutAll p l).2], []) else ((cutAll p l).1, (cutAll p l).2 ++ [x]) := by
  simp [cutAll, List.foldl_append]
theorem cutAll_hit {α : Type} {p : α → Bool} {l : List α} {x : α} (h : p x = true) : cutAll p (l ++ [x]) = ((cutAll p l).1 ++ [(cutAll p l).2], []) := by rw [cutAll_snoc, if_pos h]
theorem cutAll_miss {α : Type} {p : α → Bool} {l : List α} {x : α} (h : p x = false) : cutAll p (l ++ [x]) = ((cutAll p l).1, (cutAll p l).2 ++ [x]) := by rw [cutAll_snoc, if_neg (by simp [h])]
/-- all parts -/
def parts {α : Type} (p : α → Bool) (l : List α) : List (List α) := (cutAll p l).1 ++ [(cutAll p l).2]
/-- where the last part begins -/
theorem cutAll_last {α : Type} (p : α → Bool) (l : List α) : (cutAll p l).2.length ≤ l.length ∧ (cutAll p l).2 = l.drop (l.length - (cutAll p l).2.length) := by
  induction l using snocInd with
  | nil => simp [cutAll]
  | append_singleton l x ih =>
    cases h : p x with
    | true => rw [cutAll_hit h]; simp
    | false =>
      rw [cutAll_miss h]
      simp only [List.length_append, List.length_singleton]
      refine ⟨by omega, ?_⟩
      rw [show l.length + 1 - ((cutAll p l).2.length + 1) = l.length - (cutAll p l).2.length by omega, List.drop_append_of_le_length (by omega), ← ih.2]
theorem parts_length {α : Type} (p : α → Bool) (l : List α) : (parts p l).length = l.countP p + 1 := by
  unfold parts
  rw [List.length_append, List.length_singleton]
  congr 1
  induction l using snocInd with
  | nil => simp [cutAll]
  | append_singleton l x ih =>
    rw [List.countP_append, List.countP_singleton]
    cases h : p x with
    | true => rw [cutAll_hit h]; simp [ih]
    | false => rw [cutAll_miss h]; simp [ih]
theorem cutAll_none {α : Type} (p : α → Bool) (l : List α) : (∀ q ∈ (cutAll p l).1, ∀ x ∈ q, p x = false) ∧ ∀ x ∈ (cutAll p l).2, p x = false := by
  induction l using snocInd with
  | nil => simp [cutAll]
  | append_singleton l x ih =>
    cases h : p x with
    | true =>
      rw [cutAll_hit h]
      refine ⟨fun q hq => ?_, by simp⟩
      rcases List.mem_append.1 hq with hq | hq
      · exact ih.1 q hq
      · simp at hq; subst hq; exact ih.2
    | false =>
      rw [cutAll_miss h]
      refine ⟨ih.1, fun y hy => ?_⟩
      rcases List.mem_append.1 hy with hy | hy
      · exact ih.2 y hy
      · simp at hy; subst hy; exact h
/-- none of the parts has what is sought -/
theorem parts_none {α : Type} (p : α → Bool) (l : List α) : ∀ q ∈ parts p l, ∀ x ∈ q, p x = false := by
  intro q hq
  unfold parts at hq
  rcases List.mem_append.1 hq with hq | hq
  · exact (cutAll_none p l).1 q hq
  · simp at hq; subst hq; exact (cutAll_none p l).2
/-- with one put behind each but the last, they are all of it -/
theorem parts_join {α : Type} (p : α → Bool) (l : List α) (y : α) (h : ∀ x ∈ l, p x = true → x = y) : ((cutAll p l).1.flatMap fun q => q ++ [y]) ++ (cutAll p l).2 = l := by
  induction l using snocInd with
  | nil => rfl
  | append_singleton l x ih =>
    have ih' := ih (fun z hz => h z (by simp [hz]))
    cases hx : p x with
    | true =>
      have := h x (by simp) hx
      subst this
      rw [cutAll_hit hx]
      simp only [List.flatMap_append, List.flatMap_cons, List.flatMap_nil, List.append_nil]
      rw [← List.append_assoc, ih']
    | false =>
      rw [cutAll_miss hx]
      simp only
      rw [← List.append_assoc, ih']
/-- the parts that are not empty -/
def fieldsL {α : Type} (p : α → Bool) (l : List α) : List (List α) := (parts p l).filter fun q => decide (1 ≤ q.length)

/-- the parts that are done behind k steps; the last step ends the last part -/
def doneTo {α : Type} (p : α → Bool) (l : List α) (k : Nat) : List (List α) := if k ≤ l.length then (cutAll p (l.take k)).1 else parts p l
/-- where the part in hand begins -/
def fromAt {α : Type} (p : α → Bool) (l : List α) (k : Nat) : Nat := if k ≤ l.length then k - (cutAll p (l.take k)).2.length else l.length + 1
/-- the part in hand -/
def lastAt {α : Type} (p : α → Bool) (l : List α) (k : Nat) : List α := (cutAll p (l.take k)).2
theorem lastAt_le {α : Type} (p : α → Bool) (l : List α) {k : Nat} (hk : k ≤ l.length) : (lastAt p l k).length ≤ k := by
  have := (cutAll_last p (l.take k)).1
  rw [List.length_take] at this
  unfold lastAt
  omega
theorem fromAt_le {α : Type} (p : α → Bool) (l : List α) {k : Nat} (hk : k ≤ l.length) : fromAt p l k ≤ k ∧ (lastAt p l k).length = k - fromAt p l k := by
  have h := lastAt_le p l hk
  unfold fromAt
  rw [if_pos hk]
  unfold lastAt at h ⊢
  omega
theorem lastAt_eq {α : Type} (p : α → Bool) (l : List α) {k : Nat} (hk : k ≤ l.length) : lastAt p l k = (l.take k).drop (fromAt p l k) := by
  have h := (cutAll_last p (l.take k)).2
  unfold lastAt fromAt
  rw [if_pos hk]
  rw [List.length_take, Nat.min_eq_left hk] at h
  exact h
theorem doneTo_zero {α : Type} (p : α → Bool) (l : List α) : doneTo p l 0 = [] := by unfold doneTo; rw [if_pos (Nat.zero_le _)]; simp [cutAll]
theorem fromAt_zero {α : Type} (p : α → Bool) (l : List α) : fromAt p l 0 = 0 := by unfold fromAt; rw [if_pos (Nat.zero_le _)]; simp
theorem doneTo_end {α : Type} (p : α → Bool) (l : List α) {k : Nat} (hk : l.length < k) : doneTo p l k = parts p l := by unfold doneTo; rw [if_neg (by omega)]
theorem step_miss {α : Type} {p : α → Bool} {l : List α} {k : Nat} {x : α} (h : l[k]? = some x) (hp : p x = false) : doneTo p l (k + 1) = doneTo p l k ∧ fromAt p l (k + 1) = fromAt p l k := by
  have hk : k < l.length := (List.getElem?_eq_some_iff.1 h).1
  have e : l.take (k + 1) = l.take k ++ [x] := by rw [List.take_add_one, h]; rfl
  have hl := lastAt_le p l (Nat.le_of_lt hk)
  unfold lastAt at hl
  unfold doneTo fromAt
  rw [if_pos (by omega), if_pos (by omega), if_pos (by omega), if_pos (by omega), e, cutAll_miss hp]
  simp only [List.length_append, List.length_singleton]
  exact ⟨trivial, by omega⟩
theorem step_hit {α : Type} {p : α → Bool} {l : List α} {k : Nat} {x : α} (h : l[k]? = some x) (hp : p x = true) : doneTo p l (k + 1) = doneTo p l k ++ [lastAt p l k] ∧ fromAt p l (k + 1) = k + 1 := by
  have hk : k < l.length := (List.getElem?_eq_some_iff.1 h).1
  have e : l.take (k + 1) = l.take k ++ [x] := by rw [List.take_add_one, h]; rfl
  unfold doneTo fromAt lastAt
  rw [if_pos (by omega), if_pos (by omega), if_pos (by omega), e, cutAll_hit hp]
  exact ⟨rfl, rfl⟩
theorem step_end {α : Type} (p : α → Bool) (l : List α) {k : Nat} (hk : k = l.length) : doneTo p l (k + 1) = doneTo p l k ++ [lastAt p l k] ∧ fromAt p l (k + 1) = k + 1 := by
  subst hk
  unfold doneTo fromAt lastAt
  rw [if_neg (by omega), if_pos (Nat.le_refl _), if_neg (by omega), List.take_length]
  exact ⟨rfl, rfl⟩
/-- the parts of at least so many -/
def least {α : Type} (m : Nat) (ps : List (List α)) : List (List α) := ps.filter fun q => decide (m ≤ q.length)
theorem least_keep {α : Type} {m : Nat} {ps : List (List α)} {q : List α} (h : m ≤ q.length) : least m (ps ++ [q]) = least m ps ++ [q] := by
  unfold least; rw [List.filter_append]; simp [h]
theorem least_drop {α : Type} {m : Nat} {ps : List (List α)} {q : List α} (h : q.length < m) : least m (ps ++ [q]) = least m ps := by
  unfold least; rw [List.filter_append]; simp; omega
theorem least_zero {α : Type} (ps : List (List α)) : least 0 ps = ps := by unfold least; simp
theorem least_length {α : Type} (m : Nat) (ps : List (List α)) : (least m ps).length ≤ ps.length := by unfold least; exact List.length_filter_le _ _
theorem doneTo_length {α : Type} (p : α → Bool) (l : List α) (k : Nat) (hk : k ≤ l.length + 1) : (doneTo p l k).length ≤ k := by
  have key : ∀ m : List α, (cutAll p m).1.length ≤ m.length := by
    intro m
    induction m using snocInd with
    | nil => simp [cutAll]
    | append_singleton m x ih =>
      rw [cutAll_snoc]
      split
      · simp; omega
      · simp; omega
  unfold doneTo
  split
  · have := key (l.take k); rw [List.length_take] at this; omega
  · unfold parts
    have := key l
    rw [List.length_append, List.length_singleton]
    omega

end Go.Proofs.Ytdiifkmcbnhliaa.mk
