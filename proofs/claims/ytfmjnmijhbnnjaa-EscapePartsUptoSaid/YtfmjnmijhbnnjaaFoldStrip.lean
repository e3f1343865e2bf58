/-
  Fold's strip: what is left between the sought bytes at both ends; its contract, whatever function tells which are sought.
-/
import Derived.Test.YtfmjnmijhbnnjaaFoldPred
import Derived.Test.YtfmjnmijhbnnjaaMarkCut
namespace Go.Proofs.Ytfmjnmijhbnnjaa.mk
open Go.RowKit

def trimL {α : Type} (p : α → Bool) (l : List α) : List α := ((l.dropWhile p).reverse.dropWhile p).reverse
theorem dropWhile_front {α : Type} {p : α → Bool} {a m : List α} (h : ∀ x ∈ a, p x = true) : (a ++ m).dropWhile p = m.dropWhile p := by
  induction a with
  | nil => rfl
  | cons x a ih => rw [List.cons_append, List.dropWhile_cons, if_pos (h x (by simp)), ih (fun y hy => h y (by simp [hy]))]
theorem dropWhile_stay {α : Type} {p : α → Bool} {x : α} {m : List α} (h : p x = false) : (x :: m).dropWhile p = x :: m := by
  rw [List.dropWhile_cons, if_neg (by simp [h])]
theorem dropWhile_all {α : Type} {p : α → Bool} {a : List α} (h : ∀ x ∈ a, p x = true) : a.dropWhile p = [] := by
  have := dropWhile_front (m := []) h
  simpa using this
theorem trimL_all {α : Type} {p : α → Bool} {a : List α} (h : ∀ x ∈ a, p x = true) : trimL p a = [] := by
  unfold trimL; rw [dropWhile_all h]; rfl
theorem trimL_mid {α : Type} {p : α → Bool} {a m b : List α} {x y : α} (ha : ∀ x ∈ a, p x = true) (hb : ∀ x ∈ b, p x = true) (hx : m.head? = some x) (hpx : p x = false) (hy : m.getLast? = some y) (hpy : p y = false) : trimL p (a ++ m ++ b) = m := by
  unfold trimL
  have h1 : (a ++ m ++ b).dropWhile p = m ++ b := by
    rw [List.append_assoc, dropWhile_front ha]
    cases m with
    | nil => simp at hx
    | cons z m => simp at hx; subst hx; rw [List.cons_append, dropWhile_stay hpx]
  rw [h1, List.reverse_append, dropWhile_front (fun z hz => hb z (by simpa using hz))]
  rcases snoc_cases m with rfl | ⟨r, z, rfl⟩
  · simp at hy
  · simp at hy; subst hy
    rw [List.reverse_append, List.reverse_singleton, List.singleton_append, dropWhile_stay hpy]
    simp

/-- what is known of the first k: where the first and the last are that stay -/
def Mid {α : Type} (p : α → Bool) (l : List α) (k a b : Nat) : Prop :=
  (a = l.length ∧ b = 0 ∧ ∀ (i : Nat) (x : α), i < k → l[i]? = some x → p x = true) ∨
  (a < b ∧ b ≤ k ∧ (∀ (i : Nat) (x : α), i < a → l[i]? = some x → p x = true) ∧ (∃ x, l[a]? = some x ∧ p x = false) ∧ (∃ x, l[b - 1]? = some x ∧ p x = false) ∧ ∀ (i : Nat) (x : α), b ≤ i → i < k → l[i]? = some x → p x = true)
theorem Mid.zero {α : Type} (p : α → Bool) (l : List α) : Mid p l 0 l.length 0 := .inl ⟨rfl, rfl, fun i x h => by omega⟩
theorem Mid.skip {α : Type} {p : α → Bool} {l : List α} {k a b : Nat} {x : α} (h : Mid p l k a b) (hx : l[k]? = some x) (hp : p x = true) : Mid p l (k + 1) a b := by
  rcases h with ⟨h1, h2, h3⟩ | ⟨h1, h2, h3, h4, h5, h6⟩
  · refine .inl ⟨h1, h2, fun i y hi hy => ?_⟩
    rcases Nat.lt_or_ge i k with h | h
    · exact h3 i y h hy
    · obtain rfl : i = k := by omega
      rw [hx] at hy; injection hy with hy; subst hy; exact hp
  · refine .inr ⟨h1, by omega, h3, h4, h5, fun i y hb hi hy => ?_⟩
    rcases Nat.lt_or_ge i k with h | h
    · exact h6 i y hb h hy
    · obtain rfl : i = k := by omega
      rw [hx] at hy; injection hy with hy; subst hy; exact hp
theorem Mid.here {α : Type} {p : α → Bool} {l : List α} {k a b : Nat} {x : α} (h : Mid p l k a b) (hx : l[k]? = some x) (hp : p x = false) : Mid p l (k + 1) (min a k) (k + 1) := by
  have hk : k < l.length := (List.getElem?_eq_some_iff.1 hx).1
  rcases h with ⟨h1, h2, h3⟩ | ⟨h1, h2, h3, h4, h5, h6⟩
  · rw [show min a k = k by omega]
    exact .inr ⟨by omega, by omega, h3, ⟨x, hx, hp⟩, ⟨x, by simpa using hx, hp⟩, fun i y hb hi => by omega⟩
  · rw [show min a k = a by omega]
    exact .inr ⟨by omega, by omega, h3, h4, ⟨x, by simpa using hx, hp⟩, fun i y hb hi => by omega⟩
theorem Mid.bd {α : Type} {p : α → Bool} {l : List α} {k a b : Nat} (h : Mid p l k a b) (hk : k ≤ l.length) : a ≤ l.length ∧ b ≤ l.length := by
  rcases h with ⟨h1, h2, _⟩ | ⟨h1, h2, _⟩ <;> omega
theorem Mid.end_ {α : Type} {p : α → Bool} {l : List α} {a b : Nat} (h : Mid p l l.length a b) : (l.take b).drop a = trimL p l := by
  rcases h with ⟨h1, h2, h3⟩ | ⟨h1, h2, h3, ⟨x, h4, h4'⟩, ⟨y, h5, h5'⟩, h6⟩
  · subst h2
    rw [trimL_all (fun x hx => ?_)]
    · simp
    · obtain ⟨i, hi⟩ := List.mem_iff_getElem?.1 hx
      exact h3 i x (List.getElem?_eq_some_iff.1 hi).1 hi
  · have hlen : ((l.take b).drop a).length = b - a := by rw [List.length_drop, List.length_take]; omega
    have e : l = l.take a ++ (l.take b).drop a ++ l.drop b := by
      have e1 : l.take a = (l.take b).take a := by rw [List.take_take]; congr 1; omega
      rw [e1, List.take_append_drop, List.take_append_drop]
    conv => rhs; rw [e]
    refine (trimL_mid (x := x) (y := y) (fun z hz => ?_) (fun z hz => ?_) ?_ h4' ?_ h5').symm
    · obtain ⟨i, hi⟩ := List.mem_iff_getElem?.1 hz
      rw [List.getElem?_take] at hi
      split at hi
      · rename_i hlt; exact h3 i z hlt hi
      · cases hi
    · obtain ⟨i, hi⟩ := List.mem_iff_getElem?.1 hz
      rw [List.getElem?_drop] at hi
      exact h6 (b + i) z (by omega) (List.getElem?_eq_some_iff.1 hi).1 hi
    · rw [List.head?_drop, List.getElem?_take, if_pos h1]; exact h4
    · rw [List.getLast?_eq_getElem?, hlen, List.getElem?_drop, List.getElem?_take, if_pos (by omega), show a + (b - a - 1) = b - 1 by omega]; exact h5

/-- whether a byte with its origin is sought -/
def onB (f : UInt8 → Bool) (x : UInt8 × Int) : Bool := f x.1
theorem Mid.map {f : UInt8 → Bool} {L : List (UInt8 × Int)} {l : List UInt8} {k a b : Nat} (h : Mid f l k a b) (hl : L.map (·.1) = l) : Mid (onB f) L k a b := by
  subst hl
  have hg : ∀ (i : Nat) (x : UInt8 × Int), L[i]? = some x → (L.map (·.1))[i]? = some x.1 := fun i x hx => by rw [List.getElem?_map, hx]; rfl
  have hg' : ∀ (i : Nat) (x : UInt8), (L.map (·.1))[i]? = some x → ∃ y, L[i]? = some y ∧ y.1 = x := fun i x hx => by
    rw [List.getElem?_map] at hx
    cases hL : L[i]? with
    | none => rw [hL] at hx; cases hx
    | some y => rw [hL] at hx; exact ⟨y, rfl, by injection hx⟩
  rcases h with ⟨h1, h2, h3⟩ | ⟨h1, h2, h3, ⟨x, h4, h4'⟩, ⟨y, h5, h5'⟩, h6⟩
  · exact .inl ⟨by simpa using h1, h2, fun i x hi hx => h3 i x.1 hi (hg i x hx)⟩
  · obtain ⟨x', hx, rfl⟩ := hg' _ _ h4
    obtain ⟨y', hy, rfl⟩ := hg' _ _ h5
    exact .inr ⟨h1, h2, fun i x hi hx => h3 i x.1 hi (hg i x hx), ⟨x', hx, h4'⟩, ⟨y', hy, h5'⟩, fun i x hb hi hx => h6 i x.1 hb hi (hg i x hx)⟩

def StripRel (f : UInt8 → Bool) (l : List UInt8) (a b i : Value) : Prop :=
  ∃ k x y : Nat, k ≤ l.length ∧ i = .int .i64 (k : Int) ∧ a = .int .i64 (x : Int) ∧ b = .int .i64 (y : Int) ∧ Mid f l k x y

end Go.Proofs.Ytfmjnmijhbnnjaa.mk
