/-
  Contracts of utf's shape and Next.
-/
import Derived.Test.YtnbdldapmllegaaGreatJsB
import Derived.Test.YtnbdldapmllegaaGreatJsG
import Derived.WalkSpells
import Derived.Lib.Hide
import Derived.Outline
import Derived.WalkLawsBesides
namespace Go.Proofs.YtnbdldapmllegaaGreat.mk
open Go.RowKit

set_option maxHeartbeats 1000000 in
set_option maxRecDepth 100000 in
theorem shape_any (n : Nat) (w : World) (hn : n < 256) :
    Calls Tryz.prog 85 #[.int .u8 n] w fun e w' => e = .returned (.tuple #[.int .i64 (shp n).1, .int .u8 (shp n).2.1, .int .u8 (shp n).2.2]) ∧ w = w' := by
  generalize hq : shp n = q
  unfold shp at hq
  iterate 9 (split at hq; · subst hq; go_enter Tryz.func85, Tryz.ntmps85; go_wp2_with fail; go_ret3; exact ⟨rfl, rfl⟩)
  subst hq
  go_enter Tryz.func85, Tryz.ntmps85
  go_wp2_with fail
  go_ret3
  exact ⟨rfl, rfl⟩

def NextRel (l : List UInt8) (m lo0 hi0 : Nat) (at' lo hi : Value) : Prop :=
  ∃ k p q : Nat, k ≤ m ∧ k + 1 ≤ l.length ∧ at' = .int .i64 ((k + 1 : Nat) : Int) ∧ lo = .int .u8 p ∧ hi = .int .u8 q ∧ p ≤ 160 ∧ q ≤ 191 ∧ fit m lo0 hi0 (l.drop 1) = k + fit (m - k) p q (l.drop (k + 1))

theorem eqz (k z : Nat) : ((k : Int) + 1 == (z : Int)) = decide (k + 1 = z) := by rw [Bool.eq_iff_iff]; simp; omega
theorem ret_nx {l : List UInt8} {a : Nat} {b y : Bool} {x : Int} (h : nx l = (a, b)) (hx : x = a) (hy : y = b) : Ending.returned (.tuple #[.int .i64 x, .bool y]) = .returned (.tuple #[.int .i64 (nx l).1, .bool (nx l).2]) := by
  rw [h, hx, hy]

set_option maxHeartbeats 1000000 in
set_option maxRecDepth 100000 in
theorem next_any (s : ByteArray) (w : World) (hs : s.size ≤ 4294967296) :
    Calls Tryz.prog 71 #[.string s] w fun e w' => e = .returned (.tuple #[.int .i64 (nx s.data.toList).1, .bool (nx s.data.toList).2]) ∧ w = w' := by
  have hsl : s.data.toList.length = s.size := by rw [Array.length_toList]; rfl
  have HSL := Lib.hid hsl
  clear hsl
  by_cases h0 : s.size = 0
  · have he : s.toList = [] := by rw [ByteArray.toList_eq]; exact List.eq_nil_of_length_eq_zero (by rw [HSL.out]; exact h0)
    have HE : Hid (s.data.toList = []) := List.eq_nil_of_length_eq_zero (by rw [HSL.out]; exact h0)
    clear h0
    go_enter Tryz.func71, Tryz.ntmps71
    go_wp2_with fail
    go_ret2
    exact ⟨by rw [HE.out]; rfl, rfl⟩
  · have hp : 0 < s.size := by omega
    have hne : s.toList.isEmpty = false := by rw [ByteArray.toList_eq]; cases hx : s.data.toList with
      | nil => rw [hx] at HSL; have := HSL.out; simp at this; omega
      | cons _ _ => rfl
    have hne' : s.toList ≠ [] := by intro h; rw [h] at hne; simp at hne
    go_enter Tryz.func71, Tryz.ntmps71
    go_wp2_with fail
    refine (shape_any _ _ (UInt8.toNat_lt _)).mono ?_
    rintro e w' ⟨rfl, rfl⟩
    have hbd := shp_bd (s[0]'hp).toNat
    have HH : Hid (s.data.toList = s[0]'hp :: s.data.toList.drop 1) := by
      show _ = _
      conv => lhs; rw [← List.drop_zero (l := s.data.toList), List.drop_eq_getElem_cons (by rw [HSL.out]; exact hp)]
      rfl
    generalize hq : shp (s[0]'hp).toNat = q at *
    obtain ⟨z, lo0, hi0⟩ := q
    have HQ := Lib.hid hq
    clear hq
    obtain ⟨hz4, hlo, hhi⟩ := hbd
    simp only at hz4 hlo hhi
    go_wp2_with fail
    go_loop [7, 5, 6] (NextRel s.data.toList (z - 1) lo0 hi0) (fun i _ _ => 8 - (intOf i).toNat)
    case atStart => exact ⟨0, lo0, hi0, Nat.zero_le _, by rw [HSL.out]; omega, rfl, rfl, rfl, hlo, hhi, by simp⟩
    case round =>
      obtain ⟨k, p, q, hk, hkl, rfl, rfl, rfl, hp1, hq1, hfit⟩ := hrel
      rw [HSL.out] at hkl
      have HF := Lib.hid hfit
      clear hfit
      have fin : ∀ _ : Nat, fit (z - 1 - k) p q (s.data.toList.drop (k + 1)) = 0 → nx s.data.toList = (k + 1, decide (k + 1 = z)) := fun _ hx => by
        have h1 := HF.out
        rw [hx, Nat.add_zero] at h1
        rw [HH.out]
        simp only [nx, HQ.out, h1]
      have FIN := Lib.hid fin
      clear fin
      by_cases hkz : k + 1 < z
      · by_cases hks : k + 1 < s.size
        · have HHd : Hid ((s.data.toList.drop (k + 1)).head? = some (s[k + 1]'hks)) := by
            show _ = _
            rw [List.head?_drop, List.getElem?_eq_getElem (by rw [HSL.out]; exact hks)]
            rfl
          by_cases hc : p ≤ (s[k + 1]'hks).toNat ∧ (s[k + 1]'hks).toNat ≤ q
          · obtain ⟨hc1, hc2⟩ := hc
            have HST : Hid (fit (z - 1) lo0 hi0 (s.data.toList.drop 1) = (k + 1) + fit (z - 1 - (k + 1)) 128 191 (s.data.toList.drop (k + 1 + 1))) := by
              show _ = _
              rw [HF.out, show z - 1 - k = (z - 1 - (k + 1)) + 1 by omega, fit_step HHd.out ⟨hc1, hc2⟩, List.drop_drop]
              omega
            go_wp2_with fail
            go_round
            case rel => exact ⟨k + 1, 128, 191, by omega, by rw [HSL.out]; omega, by go_num, rfl, rfl, by omega, by omega, HST.out⟩
            case measure => simp [intOf]; omega
          · have HX := Lib.hid (FIN.out 0 (fit_stop HHd.out hc))
            have hne2 : k + 1 ≠ z := by omega
            by_cases hc1 : p ≤ (s[k + 1]'hks).toNat
            · have hc2 : ¬ (s[k + 1]'hks).toNat ≤ q := fun h => hc ⟨hc1, h⟩
              clear hc
              go_wp2_with fail
              go_ret2
              exact ⟨ret_nx HX.out (by simp) (eqz _ _), rfl⟩
            · clear hc
              go_wp2_with fail
              go_ret2
              exact ⟨ret_nx HX.out (by simp) (eqz _ _), rfl⟩
        · have HX := Lib.hid (FIN.out 0 (by rw [List.drop_of_length_le (by rw [HSL.out]; omega), fit_nil]))
          go_wp2_with fail
          go_ret2
          exact ⟨ret_nx HX.out (by simp) (eqz _ _), rfl⟩
      · have HX := Lib.hid (FIN.out 0 (by rw [show z - 1 - k = 0 by omega, fit]))
        go_wp2_with fail
        go_ret2
        exact ⟨ret_nx HX.out (by simp) (eqz _ _), rfl⟩

end Go.Proofs.YtnbdldapmllegaaGreat.mk
