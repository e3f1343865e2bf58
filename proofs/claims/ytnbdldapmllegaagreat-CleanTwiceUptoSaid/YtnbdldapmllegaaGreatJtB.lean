/-
  Plain mathematics of right UTF-8: the first sequence of a text, what is replaced, what is valid. No program is named here.
-/
import Derived.Test.YtnbdldapmllegaaGreatJtA
import GoSem.Core.Utf8
namespace Go.Proofs.YtnbdldapmllegaaGreat.mk

/-- how many bytes a right sequence that begins with a byte has (0: none), and between which the second one lies -/
def shp (n : Nat) : Nat × Nat × Nat :=
  if n < 128 then (1, 0, 0) else if n < 194 then (0, 0, 0) else if n < 224 then (2, 128, 191) else if n = 224 then (3, 160, 191) else if n = 237 then (3, 128, 159) else
  if n < 240 then (3, 128, 191) else if n = 240 then (4, 144, 191) else if n < 244 then (4, 128, 191) else if n = 244 then (4, 128, 143) else (0, 0, 0)
theorem shp_bd (n : Nat) : (shp n).1 ≤ 4 ∧ (shp n).2.1 ≤ 160 ∧ (shp n).2.2 ≤ 191 := by
  generalize hq : shp n = q
  unfold shp at hq
  iterate 9 (split at hq; · subst hq; decide)
  subst hq
  decide

/-- how many bytes fit, the first of them between lo and hi, the others from 128 to 191, m at most -/
def fit : Nat → Nat → Nat → List UInt8 → Nat
  | 0, _, _, _ => 0
  | _ + 1, _, _, [] => 0
  | m + 1, lo, hi, c :: t => if lo ≤ c.toNat ∧ c.toNat ≤ hi then fit m 128 191 t + 1 else 0
theorem fit_le (m lo hi : Nat) (t : List UInt8) : fit m lo hi t ≤ m ∧ fit m lo hi t ≤ t.length := by
  induction t generalizing m lo hi with
  | nil => cases m <;> simp [fit]
  | cons c t ih =>
    cases m with
    | zero => simp [fit]
    | succ m =>
      unfold fit
      split
      · have := ih m 128 191; simp; omega
      · simp
theorem fit_full (m lo hi : Nat) (t u : List UInt8) (h : fit m lo hi t = m) : fit m lo hi (t.take m ++ u) = m := by
  induction t generalizing m lo hi with
  | nil => cases m with
    | zero => simp [fit]
    | succ m => simp [fit] at h
  | cons c t ih =>
    cases m with
    | zero => simp [fit]
    | succ m =>
      unfold fit at h
      split at h
      · rename_i hc
        simp only [List.take_succ_cons, List.cons_append]
        unfold fit
        rw [if_pos hc, ih m 128 191 (by omega)]
      · omega
theorem fit_step {m lo hi : Nat} {t : List UInt8} {c : UInt8} (h : t.head? = some c) (hc : lo ≤ c.toNat ∧ c.toNat ≤ hi) : fit (m + 1) lo hi t = fit m 128 191 (t.drop 1) + 1 := by
  cases t with
  | nil => simp at h
  | cons x t => simp at h; subst h; simp only [List.drop_succ_cons, List.drop_zero]; rw [fit, if_pos hc]
theorem fit_stop {m lo hi : Nat} {t : List UInt8} {c : UInt8} (h : t.head? = some c) (hc : ¬ (lo ≤ c.toNat ∧ c.toNat ≤ hi)) : fit m lo hi t = 0 := by
  cases t with
  | nil => simp at h
  | cons x t => simp at h; subst h; cases m with
    | zero => rfl
    | succ m => rw [fit, if_neg hc]
theorem fit_nil (m lo hi : Nat) : fit m lo hi [] = 0 := by cases m <;> rfl

/-- how many bytes come first, and whether they are right -/
def nx : List UInt8 → Nat × Bool
  | [] => (0, false)
  | b :: t => (fit ((shp b.toNat).1 - 1) (shp b.toNat).2.1 (shp b.toNat).2.2 t + 1, decide (fit ((shp b.toNat).1 - 1) (shp b.toNat).2.1 (shp b.toNat).2.2 t + 1 = (shp b.toNat).1))
theorem nx_bd {l : List UInt8} (h : l ≠ []) : 1 ≤ (nx l).1 ∧ (nx l).1 ≤ l.length := by
  cases l with
  | nil => exact absurd rfl h
  | cons b t =>
    have := fit_le ((shp b.toNat).1 - 1) (shp b.toNat).2.1 (shp b.toNat).2.2 t
    simp only [nx, List.length_cons]
    omega
theorem nx_le4 (l : List UInt8) : (nx l).1 ≤ 4 := by
  cases l with
  | nil => simp [nx]
  | cons b t =>
    have := fit_le ((shp b.toNat).1 - 1) (shp b.toNat).2.1 (shp b.toNat).2.2 t
    have := shp_bd b.toNat
    simp only [nx]
    omega
theorem nx_right {l : List UInt8} (h : (nx l).2 = true) (u : List UInt8) : nx (l.take (nx l).1 ++ u) = nx l := by
  cases l with
  | nil => simp [nx] at h
  | cons b t =>
    simp only [nx, decide_eq_true_eq] at h
    have e : fit ((shp b.toNat).1 - 1) (shp b.toNat).2.1 (shp b.toNat).2.2 t = (shp b.toNat).1 - 1 := by omega
    have hf := fit_full _ _ _ t u e
    have hn : (nx (b :: t)).1 = (shp b.toNat).1 - 1 + 1 := by simp only [nx, e]
    rw [hn, List.take_succ_cons, List.cons_append]
    simp only [nx, hf, e]

theorem partInd {p : List UInt8 → Prop} (nil : p []) (next : ∀ l, l ≠ [] → p (l.drop (nx l).1) → p l) (l : List UInt8) : p l := by
  have h : ∀ n, ∀ l : List UInt8, l.length ≤ n → p l := by
    intro n
    induction n with
    | zero => intro l hl; have e : l = [] := List.eq_nil_of_length_eq_zero (by omega); subst e; exact nil
    | succ n ih =>
      intro l hl
      by_cases e : l = []
      · subst e; exact nil
      · exact next l e (ih _ (by have := nx_bd e; rw [List.length_drop]; omega))
  exact h l.length l (Nat.le_refl _)

/-- is what comes first replaced? -/
def soughtB (l : List UInt8) : Bool := !(nx l).2 || (l.head? == some 0)
/-- the first that is replaced: its place and its size -/
def fr (l : List UInt8) : Nat × Nat := if _h : l = [] then (0, 0) else if soughtB l then (0, (nx l).1) else ((nx l).1 + (fr (l.drop (nx l).1)).1, (fr (l.drop (nx l).1)).2)
termination_by l.length
decreasing_by all_goals (have := nx_bd _h; have : 0 < l.length := List.length_pos_iff.2 _h; rw [List.length_drop]; omega)
theorem fr_nil : fr [] = (0, 0) := by rw [fr]; rfl
theorem fr_here {l : List UInt8} (h : l ≠ []) (hs : soughtB l = true) : fr l = (0, (nx l).1) := by rw [fr, dif_neg h, if_pos hs]
theorem fr_next {l : List UInt8} (h : l ≠ []) (hs : soughtB l = false) : fr l = ((nx l).1 + (fr (l.drop (nx l).1)).1, (fr (l.drop (nx l).1)).2) := by
  conv => lhs; rw [fr, dif_neg h, if_neg (by rw [hs]; decide)]
theorem fr_bd (l : List UInt8) : (fr l).1 + (fr l).2 ≤ l.length ∧ ((fr l).2 = 0 → (fr l).1 = l.length) ∧ (fr l).2 ≤ 4 := by
  induction l using partInd with
  | nil => rw [fr_nil]; simp
  | next l h ih =>
    have hb := nx_bd h
    have h4 := nx_le4 l
    cases hs : soughtB l with
    | true => rw [fr_here h hs]; simp only; omega
    | false => rw [fr_next h hs]; rw [List.length_drop] at ih; simp only; omega
/-- is all right, and no byte 0? -/
def validB (l : List UInt8) : Bool := (fr l).2 == 0
theorem validB_nil : validB [] = true := by unfold validB; rw [fr_nil]; rfl
theorem validB_next {l : List UInt8} (h : l ≠ []) : validB l = (!soughtB l && validB (l.drop (nx l).1)) := by
  unfold validB
  have hb := nx_bd h
  cases hs : soughtB l with
  | true => rw [fr_here h hs]; simp; omega
  | false => rw [fr_next h hs]; simp

/-- the bytes that are put for what is wrong -/
def badB : List UInt8 := [239, 191, 189]
theorem nx_bad (u : List UInt8) : nx (badB ++ u) = (3, true) := rfl
theorem sought_bad (u : List UInt8) : soughtB (badB ++ u) = false := rfl

theorem take_of_right {l : List UInt8} (h : (nx l).2 = true) : l.take (nx l).1 = [0] ↔ l.head? = some 0 := by
  cases l with
  | nil => simp [nx] at h
  | cons b t =>
    have hb := nx_bd (l := b :: t) (by simp)
    constructor
    · intro e
      have := congrArg List.head? e
      rw [List.head?_take, if_neg (by omega)] at this
      simpa using this
    · intro e
      simp at e
      subst e
      rfl

end Go.Proofs.YtnbdldapmllegaaGreat.mk
