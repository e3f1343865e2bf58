/-
  The contract of url's colonOf: where the scheme ends.
-/
import Derived.Test.YtpbpnffbaelcaaaUrlByte
namespace Go.Proofs.Ytpbpnffbaelcaaa.mk
open Go.RowKit

def ColRel (l : List UInt8) (i : Value) : Prop :=
  ∃ k : Nat, k ≤ l.length ∧ i = .int .i64 (k : Int) ∧ colonF l 0 = colonF (l.drop k) k

set_option maxHeartbeats 1000000 in
set_option maxRecDepth 100000 in
theorem colonOf_any (s : ByteArray) (w : World) (hs : s.size ≤ 4294967296) :
    Calls Try.prog 17 #[.string s] w fun e w' => e = .returned (.int .i64 (colonF s.data.toList 0)) ∧ w' = w := by
  have hsl : s.data.toList.length = s.size := by rw [Array.length_toList]; rfl
  have HSL := Lib.hid hsl
  clear hsl
  go_enter Try.func17, Try.ntmps17
  go_wp2_with fail
  go_loop [7] (ColRel s.data.toList) (fun i => s.size - (intOf i).toNat)
  case atStart => exact ⟨0, Nat.zero_le _, rfl, by simp⟩
  case round =>
    obtain ⟨k, hk, rfl, hcol⟩ := hrel
    rw [HSL.out] at hk
    have HC := Lib.hid hcol
    clear hcol
    by_cases hlt : k < s.size
    · have hk0 : (0 : Int) ≤ (k : Int) := Int.natCast_nonneg _
      have hk1 : (k : Int) < (s.size : Int) := by omega
      have HSK : Hid (s.data.toList[k]? = some (s[k]'hlt)) := by
        show _ = _
        rw [List.getElem?_eq_getElem (by rw [HSL.out]; exact hlt)]
        rfl
      generalize hx : s[k]'hlt = b at *
      have HNX : Hid (colonF s.data.toList 0 = if b = 58 ∧ 0 < k then (k : Int) else if letterB b || (decide (0 < k) && laterB b) then colonF (s.data.toList.drop (k + 1)) (k + 1) else -1) := by
        show _ = _
        rw [HC.out, colonF_next HSK.out]
      have HLE : Hid (∀ w' : World, Calls Try.prog 30 #[.int .u8 b.toNat] w' fun e w'' => e = .returned (.bool (letterB b)) ∧ w'' = w') := fun w' => letter_any b w'
      have HLA : Hid (∀ w' : World, Calls Try.prog 31 #[.int .u8 b.toNat] w' fun e w'' => e = .returned (.bool (laterB b)) ∧ w'' = w') := fun w' => later_any b w'
      by_cases h58 : b = 58 ∧ 0 < k
      · have HV : Hid (colonF s.data.toList 0 = (k : Int)) := by show _ = _; rw [HNX.out, if_pos h58]
        have hb : ((b.toNat : Int) == 58) = true := by rw [h58.1]; rfl
        have hkp : (0 : Int) < (k : Int) := by omega
        clear h58
        go_wp2_with fail
        go_ret
        exact ⟨ret_int HV.out.symm, rfl⟩
      · have HV : Hid (colonF s.data.toList 0 = if letterB b || (decide (0 < k) && laterB b) then colonF (s.data.toList.drop (k + 1)) (k + 1) else -1) := by show _ = _; rw [HNX.out, if_neg h58]
        clear HNX
        have hcase : ((b.toNat : Int) == 58) = false ∨ ((b.toNat : Int) == 58) = true ∧ k = 0 := by
          by_cases h : b = 58
          · right; exact ⟨by rw [h]; rfl, Nat.eq_zero_of_not_pos (fun hp => h58 ⟨h, hp⟩)⟩
          · left
            rw [beq_eq_false_iff_ne]
            intro e
            exact h (UInt8.toNat_inj.1 (by show b.toNat = 58; omega))
        generalize letterB b = lb at *
        generalize laterB b = tb at *
        clear h58 HSK
        rcases Nat.eq_zero_or_pos k with hk00 | hkp
        · subst hk00
          have HV2 : Hid (colonF s.data.toList 0 = if lb then colonF (s.data.toList.drop 1) 1 else -1) := by
            show _ = _
            rw [HV.out]; simp
          clear HV
          cases lb
          all_goals
            rcases hcase with hb | ⟨hb, -⟩
            all_goals
              go_wp2_with fail
              refine (HLE.out _).mono ?_
              rintro e w' ⟨rfl, rfl⟩
              go_wp2_with fail
              first
                | (go_ret
                   exact ⟨ret_int (by rw [HV2.out]; rfl), rfl⟩)
                | (go_round
                   case rel => exact ⟨1, by rw [HSL.out]; omega, rfl, HV2.out⟩
                   case measure => simp [intOf]; omega)
        · have hb : ((b.toNat : Int) == 58) = false := by
            rcases hcase with h | ⟨_, h⟩
            · exact h
            · omega
          have hkz : ((k : Int) == 0) = false := by rw [beq_eq_false_iff_ne]; omega
          have HV2 : Hid (colonF s.data.toList 0 = if lb || tb then colonF (s.data.toList.drop (k + 1)) (k + 1) else -1) := by
            show _ = _
            rw [HV.out, decide_eq_true hkp, Bool.true_and]
          clear hcase HV
          cases lb
          all_goals
            cases tb
            all_goals
              go_wp2_with fail
              refine (HLE.out _).mono ?_
              rintro e w' ⟨rfl, rfl⟩
              go_wp2_with fail
              try
                refine (HLA.out _).mono ?_
                rintro e w'' ⟨rfl, rfl⟩
                go_wp2_with fail
              first
                | (go_ret
                   exact ⟨ret_int (by rw [HV2.out]; rfl), rfl⟩)
                | (go_round
                   case rel => exact ⟨k + 1, by rw [HSL.out]; omega, by go_num, HV2.out⟩
                   case measure => simp [intOf]; omega)
    · obtain rfl : k = s.size := by omega
      have HV : Hid (colonF s.data.toList 0 = -1) := by show _ = _; rw [HC.out]; exact colonF_end (by rw [HSL.out]; exact Nat.le_refl _)
      go_wp2_with fail
      go_ret
      exact ⟨ret_int HV.out.symm, rfl⟩

end Go.Proofs.Ytpbpnffbaelcaaa.mk
