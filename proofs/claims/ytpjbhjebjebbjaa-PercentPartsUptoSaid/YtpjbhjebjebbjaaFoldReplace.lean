/-
  Contracts of fold's replace, Swap, Without, Ends and Trim.
-/
import Derived.Test.YtpjbhjebjebbjaaFoldRewrite
import Derived.Test.YtpjbhjebjebbjaaFoldStrip
namespace Go.Proofs.Ytpjbhjebjebbjaa.mk
open Go.RowKit

/-- by for each sought byte, of that byte's origin -/
def replL (f : UInt8 → Bool) (by_ : List UInt8) (l : List (UInt8 × Int)) : List (UInt8 × Int) := l.flatMap fun x => if f x.1 then by_.map (fun y => (y, x.2)) else [x]
theorem replL_next {f : UInt8 → Bool} {by_ : List UInt8} {l : List (UInt8 × Int)} {k : Nat} {b : UInt8} {o : Int} (h : l[k]? = some (b, o)) : replL f by_ (l.take (k + 1)) = replL f by_ (l.take k) ++ (if f b then by_ else [b]).map (fun y => (y, o)) := by
  rw [take_next h]
  unfold replL
  rw [List.flatMap_append]
  congr 1
  rw [List.flatMap_singleton]
  split <;> rfl
theorem replL_length (f : UInt8 → Bool) (by_ : List UInt8) (l : List (UInt8 × Int)) : (replL f by_ l).length ≤ l.length * (by_.length + 1) := by
  induction l with
  | nil => simp [replL]
  | cons x l ih =>
    have e : replL f by_ (x :: l) = (if f x.1 then by_.map (fun y => (y, x.2)) else [x]) ++ replL f by_ l := by simp [replL]
    rw [e, List.length_append, List.length_cons, Nat.add_mul]
    have : (if f x.1 then by_.map (fun y => (y, x.2)) else [x]).length ≤ by_.length + 1 := by split <;> simp
    omega

theorem one_byte (s : ByteArray) (k : Nat) (hk : k < s.size) : (s.extract k (k + 1)).data.toList = [s[k]'hk] := by
  have hsl : s.data.toList.length = s.size := by rw [Array.length_toList]; rfl
  rw [ByteArray.data_extract, Array.toList_extract]
  have hk' : k < s.data.toList.length := by rw [hsl]; exact hk
  rw [List.extract_eq_take_drop, List.drop_eq_getElem_cons hk', show k + 1 - k = 1 by omega]
  rfl

/-- tab, line feed, form feed, return, blank -/
def blanksB (b : UInt8) : Bool := [9, 10, 12, 13, 32].contains b
end Go.Proofs.Ytpjbhjebjebbjaa.mk
