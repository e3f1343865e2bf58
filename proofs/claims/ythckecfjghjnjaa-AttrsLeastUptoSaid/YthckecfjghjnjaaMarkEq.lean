/-
  Contracts of slices.Equal at runs, of the reference's Same, and of mark's Same.
-/
import Derived.Test.YthckecfjghjnjaaMarkTaken
import Derived.Test.YthckecfjghjnjaaMarkFix
namespace Go.Proofs.Ythckecfjghjnjaa.mk
open Go.RowKit

theorem ret_bool' {a b : Bool} (h : a = b) : Ending.returned (.bool a) = .returned (.bool b) := by rw [h]

def EqRel {α : Type} (rs qs : List α) (n : Nat) (w3 : World) (i : Value) (wr : World) : Prop :=
  ∃ k : Nat, k ≤ n ∧ i = .int .i64 k ∧ rs.take k = qs.take k ∧ Below w3.heap.size w3 wr

set_option maxHeartbeats 1000000 in
set_option maxRecDepth 100000 in
theorem equal_any (A A' : Option Addr) (n z c c' : Nat) (rs qs : List (Int × Int)) (w : World) (hl : Lies w w.heap.size A (runCells rs)) (hl' : Lies w w.heap.size A' (runCells qs)) (hn : rs.length = n) (hz : qs.length = z) (hn2 : n ≤ 4294967296) :
    Calls Try.prog 40 #[.slice A n c, .slice A' z c'] w fun e w' => e = .returned (.bool (decide (rs = qs))) ∧ Below w.heap.size w w' := by
  have HN := Lib.hid hn
  have HZ := Lib.hid hz
  clear hn hz
  by_cases hnz : n = z
  · have h1 : ((n : Int) != (z : Int)) = false := by rw [bne_eq_false_iff_eq]; omega
    have HNZ := Lib.hid hnz
    clear hnz
    go_enter Try.func40, Try.ntmps40
    go_wp2_with fail
    go_loopw [13] (EqRel rs qs n w) (fun i _ => n - (intOf i).toNat)
    case atStart => exact ⟨0, Nat.zero_le _, rfl, by simp, Below.refl _ _⟩
    case round =>
      obtain ⟨k, hk, rfl, heq, hb3⟩ := hrel
      have HE := Lib.hid heq
      clear heq
      by_cases hlt : k < n
      · obtain ⟨ad, a1, o1, rfl, hb, hc1, hc2, HR⟩ := (hl.below hb3).run (k := k) (by rw [HN.out]; exact hlt)
        obtain ⟨ad', a2, o2, rfl, hb', hc1', hc2', HR'⟩ := (hl'.below hb3).run (k := k) (by rw [HZ.out, ← HNZ.out]; exact hlt)
        have hlt' : k < z := by rw [← HNZ.out]; exact hlt
        have hk0 : (0 : Int) ≤ (k : Int) := Int.natCast_nonneg _
        have hk1 : (k : Int) < (n : Int) := by omega
        have hk2 : (k : Int) < (z : Int) := by omega
        by_cases hae : a1 = a2 ∧ o1 = o2
        · obtain ⟨rfl, rfl⟩ := hae
          go_wp2_with fail
          go_quiet (fail)
          go_wp2_with fail
          go_roundw
          case rel => exact ⟨k + 1, by omega, by go_num, by rw [take_next HR.out, take_next HR'.out, HE.out], hb3.drewN _⟩
          case measure => simp [intOf]; omega
        · have HF : Hid (decide (rs = qs) = false) := by
            show decide (rs = qs) = false
            rw [decide_eq_false_iff_not]
            intro h
            subst h
            have h1 := HR.out
            rw [HR'.out] at h1
            injection h1 with h1
            injection h1 with h1 h2
            exact hae ⟨h1.symm, h2.symm⟩
          by_cases ha : a1 = a2
          · have ho : (o1 == o2) = false := by rw [beq_eq_false_iff_ne]; exact fun h => hae ⟨ha, h⟩
            subst ha
            clear hae
            go_wp2_with fail
            go_quiet (fail)
            go_wp2_with fail
            go_ret
            exact ⟨ret_bool' HF.out.symm, hb3.drewN nq⟩
          · have ho : (a1 == a2) = false := by rw [beq_eq_false_iff_ne]; exact ha
            clear hae
            go_wp2_with fail
            go_quiet (fail)
            go_wp2_with fail
            go_ret
            exact ⟨ret_bool' HF.out.symm, hb3.drewN nq⟩
      · have HT : Hid (decide (rs = qs) = true) := by
          show decide (rs = qs) = true
          rw [decide_eq_true_iff]
          have h1 := HE.out
          rw [List.take_of_length_le (by rw [HN.out]; omega), List.take_of_length_le (by rw [HZ.out, ← HNZ.out]; omega)] at h1
          exact h1
        go_wp2_with fail
        go_ret
        exact ⟨ret_bool' HT.out.symm, hb3⟩
  · have h1 : ((n : Int) != (z : Int)) = true := by rw [bne_iff_ne]; omega
    have HF : Hid (decide (rs = qs) = false) := by
      show decide (rs = qs) = false
      rw [decide_eq_false_iff_not]
      intro h
      subst h
      exact hnz (HN.out.symm.trans HZ.out)
    go_enter Try.func40, Try.ntmps40
    go_wp2_with fail
    go_ret
    exact ⟨ret_bool' HF.out.symm, Below.refl _ _⟩

set_option maxHeartbeats 1000000 in
set_option maxRecDepth 100000 in
theorem refSame_any (A A' : Option Addr) (n z c c' : Nat) (rs qs : List (UInt8 × Int)) (w : World) (hl : Lies w w.heap.size A (chCells rs)) (hl' : Lies w w.heap.size A' (chCells qs)) (hn : rs.length = n) (hz : qs.length = z) (hn2 : n ≤ 4294967296) :
    Calls Try.prog 25 #[.slice A n c, .slice A' z c'] w fun e w' => e = .returned (.bool (decide (rs = qs))) ∧ Below w.heap.size w w' := by
  have HN := Lib.hid hn
  have HZ := Lib.hid hz
  clear hn hz
  by_cases hnz : n = z
  · have h1 : ((n : Int) != (z : Int)) = false := by rw [bne_eq_false_iff_eq]; omega
    have HNZ := Lib.hid hnz
    clear hnz
    go_enter Try.func25, Try.ntmps25
    go_wp2_with fail
    go_loopw [5] (EqRel rs qs n w) (fun i _ => n - (intOf i).toNat)
    case atStart => exact ⟨0, Nat.zero_le _, rfl, by simp, Below.refl _ _⟩
    case round =>
      obtain ⟨k, hk, rfl, heq, hb3⟩ := hrel
      have HE := Lib.hid heq
      clear heq
      by_cases hlt : k < n
      · obtain ⟨ad, a1, o1, rfl, hb, hc1, hc2, HR⟩ := (hl.below hb3).ch (k := k) (by rw [HN.out]; exact hlt)
        obtain ⟨ad', a2, o2, rfl, hb', hc1', hc2', HR'⟩ := (hl'.below hb3).ch (k := k) (by rw [HZ.out, ← HNZ.out]; exact hlt)
        have hlt' : k < z := by rw [← HNZ.out]; exact hlt
        have hk0 : (0 : Int) ≤ (k : Int) := Int.natCast_nonneg _
        have hk1 : (k : Int) < (n : Int) := by omega
        have hk2 : (k : Int) < (z : Int) := by omega
        by_cases hae : a1 = a2 ∧ o1 = o2
        · obtain ⟨rfl, rfl⟩ := hae
          go_wp2_with fail
          go_quiet (fail)
          go_wp2_with fail
          go_roundw
          case rel => exact ⟨k + 1, by omega, by go_num, by rw [take_next HR.out, take_next HR'.out, HE.out], hb3.drewN _⟩
          case measure => simp [intOf]; omega
        · have HF : Hid (decide (rs = qs) = false) := by
            show decide (rs = qs) = false
            rw [decide_eq_false_iff_not]
            intro h
            subst h
            have h1 := HR.out
            rw [HR'.out] at h1
            injection h1 with h1
            injection h1 with h1 h2
            exact hae ⟨h1.symm, h2.symm⟩
          by_cases ha : a1 = a2
          · have ho : (o1 == o2) = false := by rw [beq_eq_false_iff_ne]; exact fun h => hae ⟨ha, h⟩
            subst ha
            clear hae
            go_wp2_with fail
            go_quiet (fail)
            go_wp2_with fail
            go_ret
            exact ⟨ret_bool' HF.out.symm, hb3.drewN nq⟩
          · have ho : ((a1.toNat : Int) == (a2.toNat : Int)) = false := by rw [beq_eq_false_iff_ne]; intro h; exact ha (UInt8.toNat_inj.1 (by omega))
            clear hae
            go_wp2_with fail
            go_quiet (fail)
            go_wp2_with fail
            go_ret
            exact ⟨ret_bool' HF.out.symm, hb3.drewN nq⟩
      · have HT : Hid (decide (rs = qs) = true) := by
          show decide (rs = qs) = true
          rw [decide_eq_true_iff]
          have h1 := HE.out
          rw [List.take_of_length_le (by rw [HN.out]; omega), List.take_of_length_le (by rw [HZ.out, ← HNZ.out]; omega)] at h1
          exact h1
        go_wp2_with fail
        go_ret
        exact ⟨ret_bool' HT.out.symm, hb3⟩
  · have h1 : ((n : Int) != (z : Int)) = true := by rw [bne_iff_ne]; omega
    have HF : Hid (decide (rs = qs) = false) := by
      show decide (rs = qs) = false
      rw [decide_eq_false_iff_not]
      intro h
      subst h
      exact hnz (HN.out.symm.trans HZ.out)
    go_enter Try.func25, Try.ntmps25
    go_wp2_with fail
    go_ret
    exact ⟨ret_bool' HF.out.symm, Below.refl _ _⟩

end Go.Proofs.Ythckecfjghjnjaa.mk
