/-
  The contract of the reference's Is: is a labelled text, as told, these bytes?
-/
import Derived.Test.YtfmjnmijhbnnjaaMarkRefStr
namespace Go.Proofs.Ytfmjnmijhbnnjaa.mk
open Go.RowKit

/-- is it, as told, these bytes? -/
def isB (s : List UInt8) (rs : List (Int × Int)) (l : List (UInt8 × Int)) : Bool := decide (s = l.map (·.1) ∧ rs = comp (l.map (·.2)))

def IsRel (rs qs : List (Int × Int)) (n : Nat) (w3 : World) (i : Value) (wr : World) : Prop :=
  ∃ k : Nat, k ≤ n ∧ i = .int .i64 k ∧ rs.take k = qs.take k ∧ Below w3.heap.size w3 wr

theorem ret_bool {a b : Bool} (h : a = b) : Ending.returned (.bool a) = .returned (.bool b) := by rw [h]
theorem toList_data (s : ByteArray) : s.toList = s.data.toList := ByteArray.toList_eq s

set_option maxHeartbeats 1000000 in
set_option maxRecDepth 100000 in
theorem refIs_any (s : ByteArray) (A : Option Addr) (n c : Nat) (rs : List (Int × Int)) (A2 : Option Addr) (m c2 : Nat) (l : List (UInt8 × Int)) (w : World) (hl : Lies w w.heap.size A (runCells rs)) (hn : rs.length = n) (hn2 : n ≤ 4294967296)
    (hl2 : Lies w w.heap.size A2 (chCells l)) (hm : l.length = m) (hm2 : m ≤ 1099511627776) :
    Calls Try.prog 12 #[.agg #[.string s, .slice A n c], .slice A2 m c2] w fun e w' => e = .returned (.bool (isB s.data.toList rs l)) ∧ Below w.heap.size w w' := by
  have HN := Lib.hid hn
  have HM := Lib.hid hm
  have HL := Lib.hid hl
  clear hn hm hl
  go_enter Try.func12, Try.ntmps12
  go_wp2_with fail
  refine (refStr_any A2 m c2 l _ ((hl2.alloc (Nat.le_refl _) _).mono (by simp)) HM.out hm2).mono ?_
  rintro e w1 ⟨v, rfl, hown, hbe⟩
  obtain ⟨A', c', rfl, _, _, _⟩ := own_form hown
  generalize hqs : comp (l.map (·.2)) = qs at *
  have HQ := Lib.hid hqs
  clear hqs
  have hq2 : qs.length ≤ m := by rw [← HQ.out, ← HM.out]; have := comp_length_le (l.map (·.2)); simpa using this
  have hz := hbe.size
  simp only [World.size_alloc] at hz hbe hown
  have hx0 : w1.cell? ⟨w.heap.size, 0, none⟩ = some (.string s) := (hbe.cell (Nat.lt_succ_self _)).trans ((Whole.made w _ _).at_ 0)
  have hx1 : w1.cell? ⟨w.heap.size, 1, none⟩ = some (.slice A n c) := (hbe.cell (Nat.lt_succ_self _)).trans ((Whole.made w _ _).at_ 1)
  have hz' : w.heap.size < w1.heap.size := by omega
  have hin := hown.1
  rw [runCells_length] at hin
  by_cases ht : s.data.toList = l.map (·.1)
  · have ht' : (s.toList == l.map (·.1)) = true := by rw [beq_iff_eq, toList_data]; exact ht
    by_cases hnq : n = qs.length
    · have hnq1 : ((n : Int) != (qs.length : Int)) = false := by rw [bne_eq_false_iff_eq]; omega
      have HNQ := Lib.hid hnq
      have HT := Lib.hid ht
      clear hnq ht
      generalize hk : qs.length = z at *
      have HZ := Lib.hid hk
      clear hk
      go_wp2_with fail
      generalize hw3 : w1.alloc (Obj.cells #[Value.string { data := (List.map (fun x => x.fst) l).toArray }, Value.slice A' z c'] 24) = w3
      have y0 : w3.cell? ⟨w.heap.size, 1, none⟩ = some (.slice A n c) := by rw [← hw3]; exact (World.cell?_alloc_past _ _ _ hz').trans hx1
      have y1 : w3.cell? ⟨w1.heap.size, 1, none⟩ = some (.slice A' z c') := by rw [← hw3]; exact (Whole.made w1 _ _).at_ 1
      have y2 : w3.heap.size = w1.heap.size + 1 := by rw [← hw3]; simp
      have y3 : Lies w3 w3.heap.size A (runCells rs) := by rw [← hw3]; exact ((((HL.out.alloc (Nat.le_refl _) _).mono (Nat.le_succ _)).below hbe).mono (by omega)).alloc (Nat.le_refl _) _ |>.mono (by simp)
      have y4 : Lies w3 w3.heap.size A' (runCells qs) := by rw [← hw3]; exact ((Lies.own hown).alloc (Nat.le_refl _) _).mono (by simp)
      have Y0 := Lib.hid y0
      have Y1 := Lib.hid y1
      have Y2 := Lib.hid y2
      have HW3 := Lib.hid hw3
      clear y0 y1 y2 hw3
      go_loopw [6] (IsRel rs qs n w3) (fun i _ => n - (intOf i).toNat)
      case atStart => exact ⟨0, Nat.zero_le _, rfl, by simp, Below.refl _ _⟩
      case round =>
        obtain ⟨k, hk, rfl, heq, hb3⟩ := hrel
        have z0 : wr.cell? ⟨w.heap.size, 1, none⟩ = some (.slice A n c) := (hb3.cell (by rw [Y2.out]; show w.heap.size < _; omega)).trans Y0.out
        have z1 : wr.cell? ⟨w1.heap.size, 1, none⟩ = some (.slice A' z c') := (hb3.cell (by rw [Y2.out]; exact Nat.lt_succ_self _)).trans Y1.out
        have HE := Lib.hid heq
        clear heq
        by_cases hlt : k < n
        · obtain ⟨ad, a1, o1, rfl, hb, hc1, hc2, HR⟩ := (y3.below hb3).run (k := k) (by rw [HN.out]; exact hlt)
          obtain ⟨ad', a2, o2, rfl, hb', hc1', hc2', HR'⟩ := (y4.below hb3).run (k := k) (by rw [HZ.out, ← HNQ.out]; exact hlt)
          have hlt' : k < z := by rw [← HNQ.out]; exact hlt
          have hk0 : (0 : Int) ≤ (k : Int) := Int.natCast_nonneg _
          have hk1 : (k : Int) < (n : Int) := by omega
          have hk2 : (k : Int) < (z : Int) := by omega
          by_cases hae : a1 = a2 ∧ o1 = o2
          · obtain ⟨rfl, rfl⟩ := hae
            go_wp2_with fail
            go_quiet (fail)
            go_wp2_with fail
            go_roundw
            case rel => exact ⟨k + 1, by omega, by go_num, by rw [take_next HR.out, take_next HR'.out, HE.out], hb3.drewN _⟩
            case measure => simp [intOf]; omega
          · have HF : Hid (isB s.data.toList rs l = false) := by
              show isB s.data.toList rs l = false
              unfold isB
              rw [decide_eq_false_iff_not]
              rintro ⟨_, h⟩
              rw [HQ.out] at h
              subst h
              have h1 := HR.out
              rw [HR'.out] at h1
              injection h1 with h1
              injection h1 with h1 h2
              exact hae ⟨h1.symm, h2.symm⟩
            by_cases ha : a1 = a2
            · have ho : (o1 == o2) = false := by rw [beq_eq_false_iff_ne]; exact fun h => hae ⟨ha, h⟩
              subst ha
              clear hae
              go_wp2_with fail
              go_quiet (fail)
              go_wp2_with fail
              go_ret
              refine ⟨ret_bool HF.out.symm, ?_⟩
              have h := hb3.drewN nq
              rw [← HW3.out] at h
              exact (((Below.refl _ _).alloc (Nat.le_refl _) _).trans ((hbe.mono (Nat.le_succ _)).alloc (by omega) _)).trans (h.mono (by simp; omega))
            · have ho : (a1 == a2) = false := by rw [beq_eq_false_iff_ne]; exact ha
              clear hae
              go_wp2_with fail
              go_quiet (fail)
              go_wp2_with fail
              go_ret
              refine ⟨ret_bool HF.out.symm, ?_⟩
              have h := hb3.drewN nq
              rw [← HW3.out] at h
              exact (((Below.refl _ _).alloc (Nat.le_refl _) _).trans ((hbe.mono (Nat.le_succ _)).alloc (by omega) _)).trans (h.mono (by simp; omega))
        · have hE : isB s.data.toList rs l = true := by
            unfold isB
            rw [decide_eq_true_iff]
            refine ⟨HT.out, ?_⟩
            rw [HQ.out]
            have h1 := HE.out
            rw [List.take_of_length_le (by rw [HN.out]; omega), List.take_of_length_le (by rw [HZ.out, ← HNQ.out]; omega)] at h1
            exact h1
          have HEE := Lib.hid hE
          clear hE
          have hkz : ¬ k < z := by rw [← HNQ.out]; exact hlt
          go_wp2_with fail
          go_ret
          refine ⟨ret_bool HEE.out.symm, ?_⟩
          have h := hb3
          rw [← HW3.out] at h
          exact (((Below.refl _ _).alloc (Nat.le_refl _) _).trans ((hbe.mono (Nat.le_succ _)).alloc (by omega) _)).trans (h.mono (by simp; omega))
    · have hnq1 : ((n : Int) != (qs.length : Int)) = true := by rw [bne_iff_ne]; omega
      go_wp2_with fail
      go_ret
      refine ⟨?_, ?_⟩
      · have : isB s.data.toList rs l = false := by unfold isB; rw [decide_eq_false_iff_not]; rintro ⟨_, h⟩; rw [HQ.out] at h; rw [h] at HN; exact hnq HN.out.symm
        exact ret_bool this.symm
      · exact ((Below.refl _ _).alloc (Nat.le_refl _) _).trans ((hbe.mono (Nat.le_succ _)).alloc (by omega) _)
  · have ht' : (s.toList == l.map (·.1)) = false := by rw [beq_eq_false_iff_ne, toList_data]; exact ht
    go_wp2_with fail
    go_ret
    refine ⟨?_, ?_⟩
    · have : isB s.data.toList rs l = false := by unfold isB; rw [decide_eq_false_iff_not]; rintro ⟨h, _⟩; exact ht h
      exact ret_bool this.symm
    · exact ((Below.refl _ _).alloc (Nat.le_refl _) _).trans ((hbe.mono (Nat.le_succ _)).alloc (by omega) _)

end Go.Proofs.Ytfmjnmijhbnnjaa.mk
