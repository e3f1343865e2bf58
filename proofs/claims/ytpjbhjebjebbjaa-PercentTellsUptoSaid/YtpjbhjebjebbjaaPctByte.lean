/-
  Contracts of percent's Plain, Hex and first, and of the law's plain and hex.
-/
import Derived.Test.YtpjbhjebjebbjaaPctPure
import Derived.Test.YtpjbhjebjebbjaaSeekShelf
import Derived.Test.YtpjbhjebjebbjaaFoldRef
namespace Go.Proofs.Ytpjbhjebjebbjaa.mk
open Go.RowKit

theorem marks_index (b : UInt8) (w : World) :
    Calls Try.prog 31 #[.string ⟨#[45, 46, 95, 126, 33, 36, 38, 39, 40, 41, 42, 43, 44, 59, 61, 58, 64, 47, 63, 35, 91, 93]⟩, .int .u8 b.toNat] w fun e w' => e = .returned (.int .i64 (Lib.indexByte marksB b)) ∧ w' = w := by
  have h := Try.strings_IndexByte ⟨#[45, 46, 95, 126, 33, 36, 38, 39, 40, 41, 42, 43, 44, 59, 61, 58, 64, 47, 63, 35, 91, 93]⟩ b.toNat w
  have e : ((b.toNat : Int)).toNat.toUInt8 = b := by simp
  rw [e] at h
  exact h

set_option maxHeartbeats 1000000 in
theorem plain_any (b : UInt8) (w : World) :
    Calls Try.prog 15 #[.int .u8 b.toNat] w fun e w' => e = .returned (.bool (plainB b)) ∧ w' = w := by
  have HM := Lib.hid (index_marks b)
  generalize hi : Lib.indexByte marksB b = i at *
  have HI : Hid (∀ w' : World, Calls Try.prog 31 #[.string ⟨#[45, 46, 95, 126, 33, 36, 38, 39, 40, 41, 42, 43, 44, 59, 61, 58, 64, 47, 63, 35, 91, 93]⟩, .int .u8 b.toNat] w' fun e w'' => e = .returned (.int .i64 i) ∧ w'' = w') := fun w' => by
    have h := marks_index b w'
    rw [hi] at h
    exact h
  clear hi
  go_enter Try.func15, Try.ntmps15
  go_wp2_with fail
  all_goals
    first
      | (refine (HI.out _).mono ?_
         rintro e w' ⟨rfl, rfl⟩
         go_wp2_with fail)
      | skip
  all_goals
    go_ret
    refine ⟨ret_bool ?_, rfl⟩
    unfold plainB letB digB
    rw [← HM.out, Bool.eq_iff_iff]
    simp
    try omega

theorem lawIn_any (b : UInt8) (w : World) :
    Calls Try.prog 22 #[.int .u8 b.toNat, .string ⟨#[45, 46, 95, 126, 33, 36, 38, 39, 40, 41, 42, 43, 44, 59, 61, 58, 64, 47, 63, 35, 91, 93]⟩] w fun e w' => e = .returned (.bool (marksB.contains b)) ∧ w' = w := by
  have h := refIn_any b ⟨#[45, 46, 95, 126, 33, 36, 38, 39, 40, 41, 42, 43, 44, 59, 61, 58, 64, 47, 63, 35, 91, 93]⟩ w (by decide)
  exact h.mono fun e w' ⟨he, hw⟩ => ⟨he, hw.symm⟩

set_option maxHeartbeats 1000000 in
theorem lawPlain_any (b : UInt8) (w : World) :
    Calls Try.prog 8 #[.int .u8 b.toNat] w fun e w' => e = .returned (.bool (plainB b)) ∧ w' = w := by
  have HP : Hid (plainB b = (letB b || digB b || marksB.contains b)) := rfl
  generalize hi : marksB.contains b = i at *
  have HI : Hid (∀ w' : World, Calls Try.prog 22 #[.int .u8 b.toNat, .string ⟨#[45, 46, 95, 126, 33, 36, 38, 39, 40, 41, 42, 43, 44, 59, 61, 58, 64, 47, 63, 35, 91, 93]⟩] w' fun e w'' => e = .returned (.bool i) ∧ w'' = w') := fun w' => by
    have h := lawIn_any b w'
    rw [hi] at h
    exact h
  clear hi
  go_enter Try.func8, Try.ntmps8
  go_wp2_with fail
  all_goals
    first
      | (refine (HI.out _).mono ?_
         rintro e w' ⟨rfl, rfl⟩
         go_wp2_with fail)
      | skip
  all_goals
    go_ret
    refine ⟨ret_bool ?_, rfl⟩
    rw [HP.out]
    clear HI HP
    unfold letB digB
    rw [Bool.eq_iff_iff]
    cases i <;> simp <;> try omega

set_option maxHeartbeats 1000000 in
theorem hex_any (b : UInt8) (w : World) :
    Calls Try.prog 16 #[.int .u8 b.toNat] w fun e w' => e = .returned (.int .i64 (hexB b)) ∧ w' = w := by
  have hb := b.toNat_lt
  go_enter Try.func16, Try.ntmps16
  go_wp2
  all_goals
    go_ret
    refine ⟨ret_int ?_, rfl⟩
    unfold hexB
    have hw1 := IntWalk.u8_in ((b.toNat : Int) - 48)
    have hw2 := IntWalk.u8_in ((b.toNat : Int) - 65)
    have hw3 := IntWalk.u8_in ((b.toNat : Int) - 97)
    first
      | (rw [hw1 (by omega)]; (repeat' split) <;> omega)
      | (rw [hw2 (by omega)]; (repeat' split) <;> omega)
      | (rw [hw3 (by omega)]; (repeat' split) <;> omega)
      | ((repeat' split) <;> omega)

set_option maxHeartbeats 1000000 in
theorem lawHex_any (b : UInt8) (w : World) :
    Calls Try.prog 10 #[.int .u8 b.toNat] w fun e w' => e = .returned (.int .i64 (hexB b)) ∧ w' = w := by
  have hb := b.toNat_lt
  go_enter Try.func10, Try.ntmps10
  go_wp2
  all_goals
    go_ret
    refine ⟨ret_int ?_, rfl⟩
    unfold hexB
    (repeat' split) <;> omega

end Go.Proofs.Ytpjbhjebjebbjaa.mk
