/-
  Contracts of the reference's Repair and Valid.
-/
import Derived.Test.YtddgabjhligeeaaGreatJvD
import Derived.Test.YtddgabjhligeeaaGreatJvM
import Derived.Test.YtddgabjhligeeaaGreatJvT
import Derived.Test.YtddgabjhligeeaaGreatJvU
import Derived.Test.YtddgabjhligeeaaGreatJvS
import Derived.Outline
namespace Go.Proofs.YtddgabjhligeeaaGreat.mk
open Go.RowKit

def RValRel (L : List (UInt8 × Int)) (w : World) (v : Value) : Prop :=
  ∃ (j : Nat) (A : Option Addr) (k c : Nat), v = .slice A k c ∧ k + j = L.length ∧ (A = none → c = 0) ∧ k ≤ c ∧ Lies w w.heap.size A (chCells (L.drop j)) ∧ validB (L.map (·.1)) = validB ((L.drop j).map (·.1))

set_option maxHeartbeats 2000000 in
set_option maxRecDepth 100000 in
theorem refValid_any (s : ByteArray) (w : World) (hs : s.size ≤ 268435456) :
    Calls Tryz.prog 58 #[.string s] w fun e w' => e = .returned (.bool (validB s.data.toList)) ∧ Below w.heap.size w w' := by
  go_enter Tryz.func58, Tryz.ntmps58
  go_wp2_with fail
  refine (all_any s 0 _ (by omega)).mono ?_
  rintro e w1 ⟨v1, rfl, hown, hbl⟩
  obtain ⟨A, c, rfl, hA, _, hnc⟩ := own_form hown
  have HF : Hid ((allCh s.data.toList 0).map (·.1) = s.data.toList) := allCh_fst _ _
  have HN : Hid ((allCh s.data.toList 0).length = s.size) := by show _ = _; unfold allCh; rw [List.length_map, Array.length_toList]; rfl
  have hl := Lies.own hown
  generalize allCh s.data.toList 0 = L at *
  clear hown
  go_wp2_with fail
  go_loop [3] (RValRel L w1) (fun v => sliceLen v)
  case atStart => exact ⟨0, A, s.size, c, rfl, by rw [HN.out]; rfl, hA, hnc, hl, by simp⟩
  case round =>
    obtain ⟨j, A', k, c', rfl, hkj, hA', hkc, hl', hval⟩ := hrel
    rw [HN.out] at hkj
    have HV := Lib.hid hval
    have hkj1 : k + j ≤ s.size := by omega
    have hlen : (L.drop j).length = k := by rw [List.length_drop, HN.out]; omega
    have HLEN := Lib.hid hlen
    have HKJ := Lib.hid hkj
    clear hval hkj hlen
    by_cases hk : 0 < k
    · cases A' with
      | none => have := hA' rfl; omega
      | some ad =>
        have hne : (L.drop j).map (·.1) ≠ [] := by intro h; have h1 := congrArg List.length h; rw [List.length_map, HLEN.out] at h1; simp at h1; omega
        have hb := nx_bd hne
        rw [List.length_map, HLEN.out] at hb
        have hvn := validB_next hne
        go_wp2_with fail
        refine (refNext_any (some ad) k c' (L.drop j) _ hl' HLEN.out (by omega)).mono ?_
        rintro e w' ⟨rfl, rfl⟩
        obtain ⟨ad', b, o, e', hbk, hc1, hc2, HR⟩ := hl'.ch (k := 0) (by rw [HLEN.out]; exact hk)
        injection e' with e'
        subst e'
        simp only [Nat.zero_mul] at hc1
        rw [show ad.add 0 = ad by unfold Addr.add; rfl] at hc1
        have hhd : ((L.drop j).map (·.1)).head? = some b := by rw [List.head?_map, List.head?_eq_getElem?, HR.out]; rfl
        have hso : soughtB ((L.drop j).map (·.1)) = (!(nx ((L.drop j).map (·.1))).2 || (b == 0)) := by unfold soughtB; rw [hhd]; rfl
        rw [hso] at hvn
        generalize hq : nx ((L.drop j).map (·.1)) = q at *
        obtain ⟨m, ok⟩ := q
        simp only at hb hvn
        have HVN := Lib.hid hvn
        clear hq hso hc2 hhd hne hvn
        obtain ⟨hb1, hb2⟩ := hb
        have hm0 : (0 : Int) ≤ (m : Int) := Int.natCast_nonneg _
        have hmk : (m : Int) ≤ (k : Int) := by omega
        have hmc : (m : Int) ≤ (c' : Int) := by omega
        have hmc' : m ≤ c' := by omega
        cases ok with
        | false =>
          have HX : Hid (validB (L.map (·.1)) = false) := by show _ = _; rw [HV.out, HVN.out]; rfl
          go_wp2_with fail
          go_ret
          exact ⟨by rw [← HF.out, HX.out]; rfl, hbl⟩
        | true =>
          by_cases hb0 : b = 0
          · subst hb0
            have HX : Hid (validB (L.map (·.1)) = false) := by show _ = _; rw [HV.out, HVN.out]; rfl
            go_wp2_with fail
            go_ret
            exact ⟨by rw [← HF.out, HX.out]; rfl, hbl⟩
          · have hbp : 0 < b.toNat := by
              rcases Nat.eq_zero_or_pos b.toNat with h | h
              · exact absurd (UInt8.toNat_inj.1 (h.trans UInt8.toNat_zero.symm)) hb0
              · exact h
            have hbt : ((b.toNat : Int) == 0) = false := by rw [beq_eq_false_iff_ne]; omega
            have HX : Hid (validB (L.map (·.1)) = validB ((L.drop (j + m)).map (·.1))) := by
              show _ = _
              rw [HV.out, HVN.out, ← List.drop_drop, List.map_drop (l := L.drop j)]
              have : (b == 0) = false := by rw [beq_eq_false_iff_ne]; exact hb0
              rw [this]
              rfl
            clear hb0
            have HLD : Hid (c' ≠ m → Lies w1 w1.heap.size (some (ad.add (m * 2))) (chCells (L.drop (j + m)))) := fun _ => by rw [← List.drop_drop, chCells_drop]; exact hl'.drop _
            have HLE : Hid (c' = m → L.drop (j + m) = []) := fun h => List.drop_of_length_le (by rw [HN.out]; have := HKJ.out; omega)
            by_cases hcm : c' = m
            · subst hcm
              have hkm : k = c' := by omega
              subst hkm
              go_wp2_with fail
              go_round
              case rel => exact ⟨j + k, _, 0, 0, rfl, by have := HKJ.out; rw [HN.out]; omega, (fun h => by cases h), Nat.le_refl _, by rw [HLE.out (by first | rfl | exact trivial)]; exact Lies.empty _ _ _, HX.out⟩
              case measure => simp [sliceLen]; omega
            · have hcm2 : (c' == m) = false := by rw [beq_eq_false_iff_ne]; exact hcm
              go_wp2_with fail
              go_round
              case rel => exact ⟨j + m, _, k - m, c' - m, rfl, by have := HKJ.out; rw [HN.out]; omega, (fun h => by cases h), by omega, HLD.out hcm, HX.out⟩
              case measure => simp [sliceLen]; omega
    · have HX : Hid (validB (L.map (·.1)) = true) := by
        show _ = _
        rw [HV.out, List.eq_nil_of_length_eq_zero (l := L.drop j) (by rw [HLEN.out]; omega)]
        exact validB_nil
      have hk0 : k = 0 := by omega
      subst hk0
      go_wp2_with fail
      go_ret
      exact ⟨by rw [← HF.out, HX.out]; rfl, hbl⟩

end Go.Proofs.YtddgabjhligeeaaGreat.mk
