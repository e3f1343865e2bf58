/-
  Contracts of entity's number, and of the reference's value.
-/
import Derived.Test.YtagpdcgcjallhaaEntPure
import Derived.Test.YtagpdcgcjallhaaSeekPure
namespace Go.Proofs.Ytagpdcgcjallhaa.mk
open Go.RowKit

/-! digits -/
def NumRel (base : Int) (l : List UInt8) (v d : Value) : Prop :=
  ∃ k : Nat, k ≤ l.length ∧ v = .int .i64 (valC 1114112 base (l.take k)) ∧ d = .int .i64 (k : Int) ∧ ∀ y ∈ l.take k, digV base y = true
theorem valC_bd {base : Int} (hb : 1 ≤ base) {l : List UInt8} (h : ∀ b ∈ l, digV base b = true) : 0 ≤ valC 1114112 base l ∧ valC 1114112 base l ≤ 1114112 := by
  have := valC_eq (top := 1114112) (by omega) hb l h
  omega

set_option maxHeartbeats 1000000 in
set_option maxRecDepth 100000 in
theorem numDig_any (s : ByteArray) (base : Int) (hb : base = 10 ∨ base = 16) (hs : s.size ≤ 4294967296) (w : World) :
    Calls Try.prog 25 #[.string s, .int .i64 base] w fun e w' => e = .returned (.tuple #[.int .i64 (valC 1114112 base (s.data.toList.take (spanN s.data.toList (digV base)))), .int .i64 (spanN s.data.toList (digV base))]) ∧ w = w' := by
  have hsl : s.data.toList.length = s.size := by rw [Array.length_toList]; rfl
  have HSL := Lib.hid hsl
  clear hsl
  have hb1 : 1 ≤ base := by omega
  have hb2 : base ≤ 16 := by omega
  have HB1 := Lib.hid hb1
  have HB2 := Lib.hid hb2
  clear hb
  go_enter Try.func25, Try.ntmps25
  go_wp2_with fail
  go_loop [4, 5] (NumRel base s.data.toList) (fun _ i => s.size - (intOf i).toNat)
  case atStart => exact ⟨0, Nat.zero_le _, rfl, rfl, by simp⟩
  case round =>
    obtain ⟨k, hk, rfl, rfl, hall⟩ := hrel
    rw [HSL.out] at hk
    have hvb := valC_bd HB1.out hall
    have HALL := Lib.hid hall
    clear hall
    have hk0 : (0 : Int) ≤ (k : Int) := Int.natCast_nonneg _
    by_cases hlt : k < s.size
    · have hk1 : (k : Int) < (s.size : Int) := by omega
      have HSK : Hid (s.data.toList[k]? = some (s[k]'hlt)) := by
        show _ = _
        rw [List.getElem?_eq_getElem (by rw [HSL.out]; exact hlt)]
        rfl
      have HNX : Hid (s.data.toList.take (k + 1) = s.data.toList.take k ++ [s[k]'hlt]) := take_next HSK.out
      generalize hsk : s[k]'hlt = x at *
      have hxb := hexB_bd x
      cases hq : digV base x with
      | true =>
        have hv := digV_bd hq
        have HV : Hid (valC 1114112 base (s.data.toList.take (k + 1)) = min (valC 1114112 base (s.data.toList.take k) * base + hexB x) 1114112) := by show _ = _; rw [HNX.out, valC_snoc]
        have HA2 : Hid (∀ y ∈ s.data.toList.take (k + 1), digV base y = true) := by
          intro y hy
          rw [HNX.out] at hy
          rcases List.mem_append.1 hy with hy | hy
          · exact HALL.out y hy
          · simp at hy; subst hy; exact hq
        generalize valC 1114112 base (s.data.toList.take k) = n at *
        obtain ⟨hn0, hn1⟩ := hvb
        have hm0 : 0 ≤ n * base := Int.mul_nonneg hn0 (by omega)
        have hm1 : n * base ≤ 1114112 * base := Int.mul_le_mul_of_nonneg_right hn1 (by omega)
        have hm2 : n * base ≤ 17825792 := by omega
        clear hm1 hq
        obtain ⟨hv0, hv1⟩ := hv
        have hv2 : ¬ hexB x < 0 := by omega
        have hv3 : ¬ base ≤ hexB x := by omega
        go_wp2_with fail
        refine (hex_any x _).mono ?_
        rintro e w' ⟨rfl, rfl⟩
        generalize hexB x = v at *
        go_wp2_with fail
        go_round
        case rel => exact ⟨k + 1, by rw [HSL.out]; omega, by rw [HV.out], by go_num, HA2.out⟩
        case measure => simp [intOf]; omega
      | false =>
        have HR : Hid (spanN s.data.toList (digV base) = k) := spanN_stop HALL.out HSK.out hq
        have hv : hexB x < 0 ∨ base ≤ hexB x := by
          unfold digV at hq
          rcases Int.lt_or_le (hexB x) 0 with h | h
          · exact .inl h
          · right
            rw [decide_eq_true h, Bool.true_and, decide_eq_false_iff_not] at hq
            omega
        generalize hvc : valC 1114112 base (s.data.toList.take k) = n at *
        have HVC := Lib.hid hvc
        clear hvc hq
        go_wp2_with fail
        refine (hex_any x _).mono ?_
        rintro e w' ⟨rfl, rfl⟩
        generalize hexB x = v at *
        rcases hv with hv | hv
        · go_wp2_with fail
          go_ret2
          exact ⟨by rw [HR.out, HVC.out]; rfl, rfl⟩
        · by_cases hv0 : v < 0
          · omega
          · go_wp2_with fail
            go_ret2
            exact ⟨by rw [HR.out, HVC.out]; rfl, rfl⟩
    · obtain rfl : k = s.size := by omega
      have HR : Hid (spanN s.data.toList (digV base) = s.size) := by
        show _ = _
        rw [← HSL.out]
        refine spanN_all (fun y hy => HALL.out y ?_)
        rw [List.take_of_length_le (by rw [HSL.out]; exact Nat.le_refl _)]
        exact hy
      generalize hvc : valC 1114112 base (s.data.toList.take s.size) = n at *
      have HVC := Lib.hid hvc
      clear hvc
      go_wp2_with fail
      go_ret2
      exact ⟨by rw [HR.out, HVC.out]; rfl, rfl⟩

/-! the reference -/
def refV (b : UInt8) : Int := if hexB b < 0 then 99 else hexB b
theorem refV_bd (b : UInt8) : 0 ≤ refV b ∧ refV b ≤ 99 := by have := hexB_bd b; unfold refV; split <;> omega
theorem refV_dig {base : Int} (hb : base ≤ 99) (b : UInt8) : digV base b = decide (refV b < base) := by
  unfold digV refV
  rw [Bool.eq_iff_iff]
  simp
  split <;> omega

set_option maxHeartbeats 1000000 in
theorem refValue_any (b : UInt8) (w : World) :
    Calls Try.prog 50 #[.int .u8 b.toNat] w fun e w' => e = .returned (.int .i64 (refV b)) ∧ w' = w := by
  have hb := b.toNat_lt
  go_enter Try.func50, Try.ntmps50
  go_wp2
  all_goals
    go_ret
    refine ⟨ret_int ?_, rfl⟩
    unfold refV hexB
    (repeat' split) <;> omega

end Go.Proofs.Ytagpdcgcjallhaa.mk
