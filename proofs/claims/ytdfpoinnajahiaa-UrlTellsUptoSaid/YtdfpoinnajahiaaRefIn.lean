/-
  The contract of the reference's In.
-/
import Derived.Test.YtdfpoinnajahiaaMarkRefOf
import Derived.Test.YtdfpoinnajahiaaMarkRefIs
namespace Go.Proofs.Ytdfpoinnajahiaa.mk
open Go.RowKit

def InRel (x : UInt8) (l : List UInt8) (i : Value) : Prop :=
  ∃ k : Nat, k ≤ l.length ∧ i = .int .i64 (k : Int) ∧ (l.take k).contains x = false
/-- is it one of them? -/
def isIn (l : List UInt8) (x : UInt8) : Bool := l.contains x

set_option maxHeartbeats 1000000 in
set_option maxRecDepth 100000 in
theorem refIn_any (x : UInt8) (s : ByteArray) (w : World) (hs : s.size ≤ 4294967296) :
    Calls Try.prog 22 #[.int .u8 x.toNat, .string s] w fun e w' => e = .returned (.bool (isIn s.data.toList x)) ∧ w = w' := by
  have hsl : s.data.toList.length = s.size := by rw [Array.length_toList]; rfl
  have HSL := Lib.hid hsl
  clear hsl
  go_enter Try.func22, Try.ntmps22
  go_wp2_with fail
  go_loop [5] (InRel x s.data.toList) (fun i => s.size - (intOf i).toNat)
  case atStart => exact ⟨0, Nat.zero_le _, rfl, by simp⟩
  case round =>
    obtain ⟨k, hk, rfl, hno⟩ := hrel
    rw [HSL.out] at hk
    have HNO := Lib.hid hno
    clear hno
    by_cases hlt : k < s.size
    · have hk0 : (0 : Int) ≤ (k : Int) := Int.natCast_nonneg _
      have hk1 : (k : Int) < (s.size : Int) := by omega
      have HSK : Hid (s.data.toList[k]? = some (s[k]'hlt)) := by
        show _ = _
        rw [List.getElem?_eq_getElem (by rw [HSL.out]; exact hlt)]
        rfl
      by_cases hx : s[k]'hlt = x
      · have hx1 : (((s[k]'hlt).toNat : Int) == (x.toNat : Int)) = true := by rw [hx]; simp
        have HX : Hid (isIn s.data.toList x = true) := by
          show _ = _
          unfold isIn
          rw [List.contains_iff_mem, ← hx]
          exact List.mem_of_getElem? HSK.out
        clear hx
        go_wp2_with fail
        go_ret
        exact ⟨ret_bool HX.out.symm, rfl⟩
      · have hx1 : (((s[k]'hlt).toNat : Int) == (x.toNat : Int)) = false := by
          rw [beq_eq_false_iff_ne]
          intro e
          exact hx (UInt8.toNat_inj.1 (by omega))
        have HX : Hid ((s.data.toList.take (k + 1)).contains x = false) := by
          show _ = _
          rw [take_next HSK.out]
          have h := HNO.out
          simp at h ⊢
          exact ⟨h, fun e => hx e.symm⟩
        clear hx
        go_wp2_with fail
        go_round
        case rel => exact ⟨k + 1, by rw [HSL.out]; omega, by go_num, HX.out⟩
        case measure => simp [intOf]; omega
    · have HX : Hid (isIn s.data.toList x = false) := by
        have h := HNO.out
        rw [List.take_of_length_le (by rw [HSL.out]; omega)] at h
        exact h
      go_wp2_with fail
      go_ret
      exact ⟨ret_bool HX.out.symm, rfl⟩

end Go.Proofs.Ytdfpoinnajahiaa.mk
