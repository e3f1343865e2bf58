/-
  Contracts of the reference's In, Low, Lower, Without and Trim.
-/
import Derived.Test.YtpbpnffbaelcaaaFoldStrip
import Derived.Test.YtpbpnffbaelcaaaMarkRefOf
import Derived.Test.YtpbpnffbaelcaaaRefIn
namespace Go.Proofs.Ytpbpnffbaelcaaa.mk
open Go.RowKit

/-- A to Z as a to z, origins as they are -/
def lowCh (l : List (UInt8 × Int)) : List (UInt8 × Int) := l.map fun x => (lowB x.1, x.2)
theorem lies_tail2 {w : World} {B : Nat} {ad : Addr} {x : UInt8 × Int} {l : List (UInt8 × Int)} (h : Lies w B (some ad) (chCells (x :: l))) : Lies w B (some (ad.add 2)) (chCells l) := by
  intro j u hu
  obtain ⟨ad', e, hb, hc⟩ := h (2 + j) u (by rw [show 2 + j = j + 1 + 1 by omega]; exact hu)
  injection e with e
  subst e
  exact ⟨_, rfl, by rw [addr_block]; exact hb, by rw [addr_add]; exact hc⟩
theorem lies_front2 {w : World} {B : Nat} {A : Option Addr} {x : UInt8 × Int} {l : List (UInt8 × Int)} (h : Lies w B A (chCells (l ++ [x]))) : Lies w B A (chCells l) := by
  intro j u hu
  refine h j u ?_
  rw [chCells_append, List.getElem?_append_left (List.getElem?_eq_some_iff.1 hu).1]
  exact hu
def sliceN : Value → Nat
  | .slice _ n _ => n
  | _ => 0
def TrimPost (M : List (UInt8 × Int)) (w : World) (e : Ending) (w' : World) : Prop :=
  ∃ A' n' c', e = .returned (.slice A' n' c') ∧ Lies w w.heap.size A' (chCells M) ∧ M.length = n' ∧ w = w'
def Trim1 (p : UInt8 × Int → Bool) (L : List (UInt8 × Int)) (w : World) (v : Value) : Prop :=
  ∃ (M : List (UInt8 × Int)) (A : Option Addr) (n c : Nat), v = .slice A n c ∧ Lies w w.heap.size A (chCells M) ∧ M.length = n ∧ n ≤ c ∧ n ≤ 4294967296 ∧ L.dropWhile p = M.dropWhile p
def Trim2 (p : UInt8 × Int → Bool) (D : List (UInt8 × Int)) (w : World) (v : Value) : Prop :=
  ∃ (M : List (UInt8 × Int)) (A : Option Addr) (n c : Nat), v = .slice A n c ∧ Lies w w.heap.size A (chCells M) ∧ M.length = n ∧ n ≤ c ∧ n ≤ 4294967296 ∧ D.reverse.dropWhile p = M.reverse.dropWhile p

end Go.Proofs.Ytpbpnffbaelcaaa.mk
