/-
  Contracts of url's letter and later, and of the law's letter.
-/
import Derived.Test.YtpbpnffbaelcaaaUrlPure
import Derived.Test.YtpbpnffbaelcaaaSeekShelf
import Derived.Test.YtpbpnffbaelcaaaRefIn
namespace Go.Proofs.Ytpbpnffbaelcaaa.mk
open Go.RowKit

theorem byteEach {p : UInt8 → Bool} (h : ((List.range 256).all fun n => p (UInt8.ofNat n)) = true) (b : UInt8) : p b = true := by
  have h1 := List.all_eq_true.1 h b.toNat (List.mem_range.2 b.toNat_lt)
  simpa using h1
theorem index_sign (b : UInt8) : decide (0 ≤ Lib.indexByte signB b) = isIn signB b := by
  have h := byteEach (p := fun b => decide (0 ≤ Lib.indexByte signB b) == isIn signB b) (by decide +kernel) b
  simpa using h
theorem sign_index (b : UInt8) (w : World) :
    Calls Try.prog 40 #[.string ⟨#[43, 45, 46]⟩, .int .u8 b.toNat] w fun e w' => e = .returned (.int .i64 (Lib.indexByte signB b)) ∧ w' = w := by
  have h := Try.strings_IndexByte ⟨#[43, 45, 46]⟩ b.toNat w
  have e : ((b.toNat : Int)).toNat.toUInt8 = b := by simp
  rw [e] at h
  exact h

set_option maxHeartbeats 1000000 in
theorem letter_any (b : UInt8) (w : World) :
    Calls Try.prog 30 #[.int .u8 b.toNat] w fun e w' => e = .returned (.bool (letterB b)) ∧ w' = w := by
  go_enter Try.func30, Try.ntmps30
  go_wp2_with fail
  all_goals
    go_ret
    refine ⟨ret_bool ?_, rfl⟩
    unfold letterB
    rw [Bool.eq_iff_iff]
    simp
    try omega

set_option maxHeartbeats 1000000 in
theorem later_any (b : UInt8) (w : World) :
    Calls Try.prog 31 #[.int .u8 b.toNat] w fun e w' => e = .returned (.bool (laterB b)) ∧ w' = w := by
  have HM := Lib.hid (index_sign b)
  generalize hi : Lib.indexByte signB b = i at *
  have HI : Hid (∀ w' : World, Calls Try.prog 40 #[.string ⟨#[43, 45, 46]⟩, .int .u8 b.toNat] w' fun e w'' => e = .returned (.int .i64 i) ∧ w'' = w') := fun w' => by
    have h := sign_index b w'
    rw [hi] at h
    exact h
  clear hi
  go_enter Try.func31, Try.ntmps31
  go_wp2_with fail
  all_goals
    first
      | (refine (HI.out _).mono ?_
         rintro e w' ⟨rfl, rfl⟩
         go_wp2_with fail)
      | skip
  all_goals
    go_ret
    refine ⟨ret_bool ?_, rfl⟩
    unfold laterB digitC
    rw [← HM.out, Bool.eq_iff_iff]
    simp
    try omega

end Go.Proofs.Ytpbpnffbaelcaaa.mk
