/-
  The contract of fold's Lines.
-/
import Derived.Test.YtpjbhjebjebbjaaFoldReplace
namespace Go.Proofs.Ytpjbhjebjebbjaa.mk
open Go.RowKit

/-- does a return stand at k, with a line feed behind it? -/
def crlf (l : List UInt8) (k : Nat) : Bool := (l.drop k).take 2 == [13, 10]
/-- a line feed for a return -/
def lfB (b : UInt8) : UInt8 := if b = 13 then 10 else b

theorem ba_tail3 (s : ByteArray) (i : Nat) : (s.extract i s.size).data.toList = s.data.toList.drop i := by
  rw [ByteArray.data_extract, Array.toList_extract, List.extract_eq_take_drop]
  refine List.take_of_length_le ?_
  rw [List.length_drop, Array.length_toList]
  exact Nat.le_refl _

def LinesPost (s : ByteArray) (k : Nat) (b : UInt8) (o a : Int) (bA : Nat) (w : World) (e : Ending) (w' : World) : Prop :=
  (crlf s.data.toList k = true ∧ e = .returned (.tuple #[.string ⟨#[]⟩, .int .i64 o]) ∧ Whole w' bA 3 #[.int .i64 o] ∧ Moved (fun g => g = bA) w w') ∨
  (crlf s.data.toList k = false ∧ (∃ part : ByteArray, part.data.toList = [lfB b] ∧ e = .returned (.tuple #[.string part, .int .i64 (max a o)])) ∧ Whole w' bA 3 #[.int .i64 0] ∧ Moved (fun g => g = bA) w w')

/-- each line's end as one byte, of the worst origin of what it was -/
def linesR : List (UInt8 × Int) → List (UInt8 × Int)
  | [] => []
  | [(b, o)] => [(lfB b, o)]
  | (b, o) :: (c, p) :: t => if b = 13 ∧ c = 10 then (10, max o p) :: linesR t else (lfB b, o) :: linesR ((c, p) :: t)

theorem crlf_iff (L : List (UInt8 × Int)) (k : Nat) : crlf (L.map (·.1)) k = true ↔ ∃ o p t, L.drop k = (13, o) :: (10, p) :: t := by
  unfold crlf
  rw [← List.map_drop, beq_iff_eq]
  generalize L.drop k = M
  constructor
  · intro h
    match M, h with
    | [], h => simp at h
    | [x], h => simp at h
    | (b, o) :: (c, p) :: t, h =>
      simp at h
      obtain ⟨rfl, rfl⟩ := h
      exact ⟨o, p, t, rfl⟩
  · rintro ⟨o, p, t, rfl⟩
    simp
theorem linesR_crlf (o p : Int) (t : List (UInt8 × Int)) : linesR ((13, o) :: (10, p) :: t) = (10, max o p) :: linesR t := by
  rw [linesR, if_pos ⟨rfl, rfl⟩]
theorem linesR_other {b : UInt8} {o : Int} {t : List (UInt8 × Int)} (h : ¬ ∃ p t', b = 13 ∧ t = (10, p) :: t') : linesR ((b, o) :: t) = (lfB b, o) :: linesR t := by
  match t, h with
  | [], _ => rw [linesR, linesR]
  | (c, p) :: t, h => rw [linesR, if_neg (fun e => h ⟨p, t, e.1, by rw [e.2]⟩)]

/-- the origin of a return that waits for its line feed -/
def pend (L : List (UInt8 × Int)) : Nat → Option Int
  | 0 => none
  | k + 1 => if crlf (L.map (·.1)) k then some (L.getD k (0, 0)).2 else none
/-- what is told of the first k bytes -/
def lo (L : List (UInt8 × Int)) : Nat → List (UInt8 × Int)
  | 0 => []
  | k + 1 => lo L k ++ if crlf (L.map (·.1)) k then [] else [(lfB (L.getD k (0, 0)).1, max ((pend L k).getD 0) (L.getD k (0, 0)).2)]
def restR (L : List (UInt8 × Int)) (k : Nat) : List (UInt8 × Int) :=
  match pend L k with
  | none => L.drop k
  | some a => (13, a) :: L.drop k
theorem pend_some {L : List (UInt8 × Int)} {k : Nat} {a : Int} (h : pend L k = some a) : ∃ p t, L.drop k = (10, p) :: t := by
  cases k with
  | zero => cases h
  | succ k =>
    rw [pend] at h
    split at h
    · rename_i hc
      obtain ⟨o, p, t, e⟩ := (crlf_iff L k).1 hc
      refine ⟨p, t, ?_⟩
      rw [← List.drop_drop, e]
      rfl
    · cases h
theorem lo_rest (L : List (UInt8 × Int)) (hin : ∀ o ∈ L.map (·.2), 0 ≤ o) (k : Nat) (hk : k ≤ L.length) : linesR L = lo L k ++ linesR (restR L k) := by
  induction k with
  | zero => rfl
  | succ k ih =>
    rw [ih (by omega)]
    have hk' : k < L.length := by omega
    have hd : L.drop k = L[k] :: L.drop (k + 1) := List.drop_eq_getElem_cons hk'
    have hg : L.getD k (0, 0) = L[k] := by simp [List.getD, List.getElem?_eq_getElem hk']
    have ho : 0 ≤ L[k].2 := hin _ (List.mem_map.2 ⟨L[k], List.getElem_mem hk', rfl⟩)
    cases hc : crlf (L.map (·.1)) k with
    | true =>
      obtain ⟨o, p, t, e⟩ := (crlf_iff L k).1 hc
      have e1 : L[k] = (13, o) := by rw [hd] at e; injection e
      have hp : pend L k = none := by
        cases hp : pend L k with
        | none => rfl
        | some a =>
          obtain ⟨p', t', e'⟩ := pend_some hp
          rw [hd, e1] at e'
          injection e' with e' _
          injection e' with e' _
          exact absurd e' (by decide)
      have hl : lo L (k + 1) = lo L k := by rw [lo, hc]; simp
      have hr : restR L (k + 1) = restR L k := by
        unfold restR
        rw [hp, pend, hc, if_pos rfl, hg]
        show (13, L[k].2) :: L.drop (k + 1) = L.drop k
        rw [hd, e1]
      rw [hl, hr]
    | false =>
      have hn : ¬ ∃ o p t, L.drop k = (13, o) :: (10, p) :: t := by rw [← crlf_iff, hc]; simp
      have hl : lo L (k + 1) = lo L k ++ [(lfB L[k].1, max ((pend L k).getD 0) L[k].2)] := by rw [lo, hc, hg]; simp
      have hr : restR L (k + 1) = L.drop (k + 1) := by unfold restR; rw [pend, hc]; simp
      rw [hl, hr, List.append_assoc]
      congr 1
      unfold restR
      cases hp : pend L k with
      | none =>
        show linesR (L.drop k) = [(lfB L[k].1, max 0 L[k].2)] ++ linesR (L.drop (k + 1))
        rw [hd, show max 0 L[k].2 = L[k].2 by omega]
        refine linesR_other ?_
        rintro ⟨p, t', e1, e2⟩
        exact hn ⟨L[k].2, p, t', by rw [hd, e2]; congr 1; exact Prod.ext e1 rfl⟩
      | some a =>
        obtain ⟨p, t', e'⟩ := pend_some hp
        rw [hd] at e'
        injection e' with e1 e2
        show linesR ((13, a) :: L.drop k) = [(lfB L[k].1, max a L[k].2)] ++ linesR (L.drop (k + 1))
        rw [hd, e1, linesR_crlf]
        rfl
theorem lo_all (L : List (UInt8 × Int)) (hin : ∀ o ∈ L.map (·.2), 0 ≤ o) : lo L L.length = linesR L := by
  rw [lo_rest L hin L.length (Nat.le_refl _)]
  have : restR L L.length = [] := by
    unfold restR
    cases hp : pend L L.length with
    | none => simp
    | some a =>
      obtain ⟨p, t', e'⟩ := pend_some hp
      rw [List.drop_of_length_le (Nat.le_refl _)] at e'
      cases e'
  rw [this, linesR, List.append_nil]
theorem lo_length (L : List (UInt8 × Int)) (k : Nat) : (lo L k).length ≤ k := by
  induction k with
  | zero => exact Nat.le_refl _
  | succ k ih =>
    rw [lo, List.length_append]
    have : (if crlf (L.map (·.1)) k then [] else [(lfB (L.getD k (0, 0)).1, max ((pend L k).getD 0) (L.getD k (0, 0)).2)]).length ≤ 1 := by split <;> simp
    omega

end Go.Proofs.Ytpjbhjebjebbjaa.mk
