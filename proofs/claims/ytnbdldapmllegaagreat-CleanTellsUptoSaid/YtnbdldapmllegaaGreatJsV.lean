/-
  Contracts of utf's find (at replaced, and at Count's closure), Valid and Count.
-/
import Derived.Test.YtnbdldapmllegaaGreatJsQ
import Derived.Test.YtnbdldapmllegaaGreatJsU
namespace Go.Proofs.YtnbdldapmllegaaGreat.mk
open Go.RowKit

theorem ba_list (s : ByteArray) (i j : Nat) : (s.extract i j).data.toList = (s.data.toList.drop i).take (j - i) := by
  simp [ByteArray.data_extract, List.extract_eq_take_drop]
theorem ba_tail (s : ByteArray) (i : Nat) : (s.extract i s.size).data.toList = s.data.toList.drop i := by
  rw [ba_list]
  refine List.take_of_length_le ?_
  rw [List.length_drop, Array.length_toList]
  exact Nat.le_refl _

set_option maxHeartbeats 400000 in
theorem replaced_any (s : ByteArray) (b : Bool) (w : World) :
    Calls Tryz.prog 47 #[.string s, .bool b] w fun e w' => e = .returned (.bool (!b || s.data.toList == [0])) ∧ w = w' := by
  cases b
  · go_enter Tryz.func47, Tryz.ntmps47
    go_wp2_with fail
    go_ret
    exact ⟨rfl, rfl⟩
  · go_enter Tryz.func47, Tryz.ntmps47
    go_wp2_with fail
    go_ret
    exact ⟨by simp [ByteArray.toList_eq], rfl⟩

theorem sought_of (l : List UInt8) : (!(nx l).2 || l.take (nx l).1 == [0]) = soughtB l := by
  unfold soughtB
  cases h : (nx l).2 with
  | false => rfl
  | true =>
    have := take_of_right h
    rw [Bool.eq_iff_iff]
    simpa using this
theorem ret_fr {l : List UInt8} {a b : Nat} {x y : Int} (h : fr l = (a, b)) (hx : x = a) (hy : y = b) : Ending.returned (.tuple #[.int .i64 x, .int .i64 y]) = .returned (.tuple #[.int .i64 (fr l).1, .int .i64 (fr l).2]) := by
  rw [h, hx, hy]

def FindRel (l : List UInt8) (at' : Value) : Prop :=
  ∃ k : Nat, k ≤ l.length ∧ at' = .int .i64 (k : Int) ∧ fr l = (k + (fr (l.drop k)).1, (fr (l.drop k)).2)

set_option maxHeartbeats 1000000 in
set_option maxRecDepth 100000 in
theorem find_repl (s : ByteArray) (w : World) (hs : s.size ≤ 4294967296) :
    Calls Tryz.prog 46 #[.string s, .func (.func 47) #[] #[]] w fun e w' => e = .returned (.tuple #[.int .i64 (fr s.data.toList).1, .int .i64 (fr s.data.toList).2]) ∧ w = w' := by
  have hsl : s.data.toList.length = s.size := by rw [Array.length_toList]; rfl
  have HSL := Lib.hid hsl
  clear hsl
  go_enter Tryz.func46, Tryz.ntmps46
  go_wp2_with fail
  go_loop [4] (FindRel s.data.toList) (fun i => s.size - (intOf i).toNat)
  case atStart => exact ⟨0, Nat.zero_le _, rfl, by simp⟩
  case round =>
    obtain ⟨k, hk, rfl, hfr⟩ := hrel
    rw [HSL.out] at hk
    have HF := Lib.hid hfr
    clear hfr
    by_cases hlt : k < s.size
    · have hne : s.data.toList.drop k ≠ [] := by
        intro h
        have := congrArg List.length h
        rw [List.length_drop, HSL.out] at this
        simp at this
        omega
      have hb := nx_bd hne
      rw [List.length_drop, HSL.out] at hb
      go_wp2_with fail
      refine (next_any (s.extract k s.size) _ (by rw [ByteArray.size_extract]; omega)).mono ?_
      rintro e w' ⟨rfl, rfl⟩
      rw [ba_tail]
      have HSO := Lib.hid (sought_of (s.data.toList.drop k))
      have HN := Lib.hid hne
      generalize hq : nx (s.data.toList.drop k) = q at *
      obtain ⟨n, ok⟩ := q
      have HQ := Lib.hid hq
      simp only at hb
      have hkn : k + n ≤ s.size := by omega
      clear hq hne
      go_wp2_with fail
      refine (replaced_any _ _ _).mono ?_
      rintro e w' ⟨rfl, rfl⟩
      rw [ba_list, show k + n - k = n by omega, HSO.out]
      cases hso : soughtB (s.data.toList.drop k) with
      | true =>
        have HX : Hid (fr s.data.toList = (k, n)) := by
          show _ = _
          rw [HF.out, fr_here HN.out hso, HQ.out]
          rfl
        clear hso
        go_wp2_with fail
        go_ret2
        exact ⟨ret_fr HX.out rfl rfl, rfl⟩
      | false =>
        have HX : Hid (fr s.data.toList = (k + n + (fr (s.data.toList.drop (k + n))).1, (fr (s.data.toList.drop (k + n))).2)) := by
          show _ = _
          rw [HF.out, fr_next HN.out hso, HQ.out]
          simp only [List.drop_drop, Nat.add_assoc]
        clear hso
        go_wp2_with fail
        go_round
        case rel => exact ⟨k + n, by rw [HSL.out]; omega, by go_num, HX.out⟩
        case measure => simp [intOf]; omega
    · have HX : Hid (fr s.data.toList = (k, 0)) := by
        show _ = _
        rw [HF.out, List.drop_of_length_le (by rw [HSL.out]; omega), fr_nil]
        rfl
      go_wp2_with fail
      go_ret2
      exact ⟨ret_fr HX.out rfl rfl, rfl⟩

set_option maxHeartbeats 400000 in
theorem valid_any (s : ByteArray) (w : World) (hs : s.size ≤ 4294967296) :
    Calls Tryz.prog 35 #[.string s] w fun e w' => e = .returned (.bool (validB s.data.toList)) ∧ w = w' := by
  have HV : Hid (validB s.data.toList = ((fr s.data.toList).2 == 0)) := rfl
  have hb := fr_bd s.data.toList
  go_enter Tryz.func35, Tryz.ntmps35
  go_wp2_with fail
  refine (find_repl s _ hs).mono ?_
  rintro e w' ⟨rfl, rfl⟩
  generalize hq : fr s.data.toList = q at *
  obtain ⟨a, b⟩ := q
  clear hq hb
  go_wp2_with fail
  go_ret
  refine ⟨ret_bool ?_, rfl⟩
  rw [HV.out, Bool.eq_iff_iff]
  simp

end Go.Proofs.YtnbdldapmllegaaGreat.mk
