/-
  The walk of the statement MarkMany.
-/
import Derived.Test.YtpjbhjebjebbjaaMarkAlive
import Derived.Test.YtpjbhjebjebbjaaMarkRefCat
import Derived.Test.YtpjbhjebjebbjaaMarkRefIs
namespace Go.Proofs.Ytpjbhjebjebbjaa.mk
open Go.RowKit

def LT.ch (t : LT) : List (UInt8 × Int) := chars t.bs t.rs
theorem LT.ch_length (t : LT) : t.ch.length = t.s.size := by unfold LT.ch; rw [chars_length, LT.bs_length]
theorem LT.ch_fst (t : LT) : t.ch.map (·.1) = t.bs := chars_fst _ _
theorem LT.ch_snd (t : LT) : t.ch.map (·.2) = t.os := by unfold LT.ch; rw [chars_snd, LT.bs_length]; rfl
def catCh (ts : List LT) : List (UInt8 × Int) := ts.flatMap LT.ch
theorem catCh_fst (ts : List LT) : (catCh ts).map (·.1) = catBs ts := by
  induction ts with
  | nil => rfl
  | cons t ts ih => simp only [catCh, catBs, List.flatMap_cons, List.map_append, LT.ch_fst] at ih ⊢; rw [ih]
theorem catCh_snd (ts : List LT) : (catCh ts).map (·.2) = catOs ts := by
  induction ts with
  | nil => rfl
  | cons t ts ih => simp only [catCh, catOs, List.flatMap_cons, List.map_append, LT.ch_snd] at ih ⊢; rw [ih]
theorem catCh_length (ts : List LT) : (catCh ts).length = (catOs ts).length := by rw [← catCh_snd, List.length_map]
theorem catCh_next {ts : List LT} {k : Nat} {t : LT} (h : ts[k]? = some t) : catCh (ts.take (k + 1)) = catCh (ts.take k) ++ t.ch := by rw [take_next h]; simp [catCh]
/-- what is told of bytes with origins is them -/
theorem isB_told (l : List (UInt8 × Int)) : isB (l.map (·.1)) (comp (l.map (·.2))) l = true := by unfold isB; simp

def ManyRel (ts : List LT) (m : Nat) (w0 : World) (all i : Value) (wr : World) : Prop :=
  ∃ k : Nat, k ≤ m ∧ i = .int .i64 k ∧ wr.ownsRow w0.heap.size 30 2 all (catCh (ts.take k)).length (chCells (catCh (ts.take k))) ∧ Below w0.heap.size w0 wr

theorem Lies.take {w : World} {B : Nat} {A : Option Addr} {xs : List Value} (h : Lies w B A xs) (n : Nat) : Lies w B A (xs.take n) := by
  intro j u hu
  rw [List.getElem?_take] at hu
  split at hu
  · exact h j u hu
  · cases hu
theorem ltCells_take (ts : List LT) (n : Nat) : ltCells (ts.take n) = (ltCells ts).take (n * 2) := by
  induction ts generalizing n with
  | nil => simp [ltCells]
  | cons t ts ih =>
    cases n with
    | zero => simp [ltCells]
    | succ n =>
      have e : ltCells (t :: ts) = .string t.s :: .slice t.A t.n t.c :: ltCells ts := rfl
      rw [List.take_succ_cons, e, show (n + 1) * 2 = n * 2 + 1 + 1 by omega, List.take_succ_cons, List.take_succ_cons, ← ih]
      rfl

end Go.Proofs.Ytpjbhjebjebbjaa.mk
