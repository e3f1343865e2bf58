/-
  Contracts of the reference's In, Low, Lower, Without and Trim.
-/
import Derived.Test.YtpjbhjebjebbjaaFoldStrip
import Derived.Test.YtpjbhjebjebbjaaMarkRefOf
namespace Go.Proofs.Ytpjbhjebjebbjaa.mk
open Go.RowKit

def InRel (x : UInt8) (l : List UInt8) (i : Value) : Prop :=
  ∃ k : Nat, k ≤ l.length ∧ i = .int .i64 (k : Int) ∧ (l.take k).contains x = false
/-- is it one of them? -/
def isIn (l : List UInt8) (x : UInt8) : Bool := l.contains x

set_option maxHeartbeats 1000000 in
set_option maxRecDepth 100000 in
theorem refIn_any (x : UInt8) (s : ByteArray) (w : World) (hs : s.size ≤ 4294967296) :
    Calls Try.prog 22 #[.int .u8 x.toNat, .string s] w fun e w' => e = .returned (.bool (isIn s.data.toList x)) ∧ w = w' := by
  have hsl : s.data.toList.length = s.size := by rw [Array.length_toList]; rfl
  have HSL := Lib.hid hsl
  clear hsl
  go_enter Try.func22, Try.ntmps22
  go_wp2_with fail
  go_loop [5] (InRel x s.data.toList) (fun i => s.size - (intOf i).toNat)
  case atStart => exact ⟨0, Nat.zero_le _, rfl, by simp⟩
  case round =>
    obtain ⟨k, hk, rfl, hno⟩ := hrel
    rw [HSL.out] at hk
    have HNO := Lib.hid hno
    clear hno
    by_cases hlt : k < s.size
    · have hk0 : (0 : Int) ≤ (k : Int) := Int.natCast_nonneg _
      have hk1 : (k : Int) < (s.size : Int) := by omega
      have HSK : Hid (s.data.toList[k]? = some (s[k]'hlt)) := by
        show _ = _
        rw [List.getElem?_eq_getElem (by rw [HSL.out]; exact hlt)]
        rfl
      by_cases hx : s[k]'hlt = x
      · have hx1 : (((s[k]'hlt).toNat : Int) == (x.toNat : Int)) = true := by rw [hx]; simp
        have HX : Hid (isIn s.data.toList x = true) := by
          show _ = _
          unfold isIn
          rw [List.contains_iff_mem, ← hx]
          exact List.mem_of_getElem? HSK.out
        clear hx
        go_wp2_with fail
        go_ret
        exact ⟨ret_bool HX.out.symm, rfl⟩
      · have hx1 : (((s[k]'hlt).toNat : Int) == (x.toNat : Int)) = false := by
          rw [beq_eq_false_iff_ne]
          intro e
          exact hx (UInt8.toNat_inj.1 (by omega))
        have HX : Hid ((s.data.toList.take (k + 1)).contains x = false) := by
          show _ = _
          rw [take_next HSK.out]
          have h := HNO.out
          simp at h ⊢
          exact ⟨h, fun e => hx e.symm⟩
        clear hx
        go_wp2_with fail
        go_round
        case rel => exact ⟨k + 1, by rw [HSL.out]; omega, by go_num, HX.out⟩
        case measure => simp [intOf]; omega
    · have HX : Hid (isIn s.data.toList x = false) := by
        have h := HNO.out
        rw [List.take_of_length_le (by rw [HSL.out]; omega)] at h
        exact h
      go_wp2_with fail
      go_ret
      exact ⟨ret_bool HX.out.symm, rfl⟩

/-- A to Z as a to z, origins as they are -/
def lowCh (l : List (UInt8 × Int)) : List (UInt8 × Int) := l.map fun x => (lowB x.1, x.2)
def RefRowRel (f : Nat → List (UInt8 × Int)) (n : Nat) (w0 : World) (v i : Value) (wr : World) : Prop :=
  ∃ k : Nat, k ≤ n ∧ i = .int .i64 (k : Int) ∧ wr.ownsRow w0.heap.size 30 2 v (f k).length (chCells (f k)) ∧ Below w0.heap.size w0 wr

theorem lies_tail2 {w : World} {B : Nat} {ad : Addr} {x : UInt8 × Int} {l : List (UInt8 × Int)} (h : Lies w B (some ad) (chCells (x :: l))) : Lies w B (some (ad.add 2)) (chCells l) := by
  intro j u hu
  obtain ⟨ad', e, hb, hc⟩ := h (2 + j) u (by rw [show 2 + j = j + 1 + 1 by omega]; exact hu)
  injection e with e
  subst e
  exact ⟨_, rfl, by rw [addr_block]; exact hb, by rw [addr_add]; exact hc⟩
theorem lies_front2 {w : World} {B : Nat} {A : Option Addr} {x : UInt8 × Int} {l : List (UInt8 × Int)} (h : Lies w B A (chCells (l ++ [x]))) : Lies w B A (chCells l) := by
  intro j u hu
  refine h j u ?_
  rw [chCells_append, List.getElem?_append_left (List.getElem?_eq_some_iff.1 hu).1]
  exact hu
def sliceN : Value → Nat
  | .slice _ n _ => n
  | _ => 0
def TrimPost (M : List (UInt8 × Int)) (w : World) (e : Ending) (w' : World) : Prop :=
  ∃ A' n' c', e = .returned (.slice A' n' c') ∧ Lies w w.heap.size A' (chCells M) ∧ M.length = n' ∧ w = w'
def Trim1 (p : UInt8 × Int → Bool) (L : List (UInt8 × Int)) (w : World) (v : Value) : Prop :=
  ∃ (M : List (UInt8 × Int)) (A : Option Addr) (n c : Nat), v = .slice A n c ∧ Lies w w.heap.size A (chCells M) ∧ M.length = n ∧ n ≤ c ∧ n ≤ 4294967296 ∧ L.dropWhile p = M.dropWhile p
def Trim2 (p : UInt8 × Int → Bool) (D : List (UInt8 × Int)) (w : World) (v : Value) : Prop :=
  ∃ (M : List (UInt8 × Int)) (A : Option Addr) (n c : Nat), v = .slice A n c ∧ Lies w w.heap.size A (chCells M) ∧ M.length = n ∧ n ≤ c ∧ n ≤ 4294967296 ∧ D.reverse.dropWhile p = M.reverse.dropWhile p

end Go.Proofs.Ytpjbhjebjebbjaa.mk
