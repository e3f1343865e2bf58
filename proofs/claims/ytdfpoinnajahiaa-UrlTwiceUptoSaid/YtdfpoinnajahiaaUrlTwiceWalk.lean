/-
  The walk of the statement UrlTwice.
-/
import Derived.Test.YtdfpoinnajahiaaUrlAlive
import Derived.Test.YtdfpoinnajahiaaMarkSame
namespace Go.Proofs.Ytdfpoinnajahiaa.mk
open Go.RowKit

theorem same_told (l : List (UInt8 × Int)) (hn : l.length ≤ 1048576) (W : World) (D : Option Addr) (k : Nat) (E : Option Addr) (d : Nat) (h1 : Lies W W.heap.size D (runCells (comp (l.map (·.2))))) (h2 : Lies W W.heap.size E (runCells (comp (l.map (·.2))))) :
    Calls Try.prog 16 #[.agg #[.string (txtOf l), .slice D (runN l) k], .agg #[.string (txtOf l), .slice E (runN l) d]] W (SaysB (.bool true) W) := by
  refine (same_any (toldT l D k) (toldT l E d) W (toldT_ok k h1 (by omega)) (toldT_ok d h2 (by omega))).mono ?_
  rintro e w' ⟨rfl, hb⟩
  refine ⟨ret_bool ?_, hb⟩
  unfold sameB
  rw [decide_eq_true_iff]
  exact ⟨rfl, rfl⟩

set_option maxHeartbeats 2000000 in
set_option maxRecDepth 100000 in
theorem twice6_any (a : LT) (w : World) (ha : a.ok w w.heap.size) (hsz : a.s.size ≤ 1048576) :
    Calls Try.prog 5 #[a.v] w fun e w' => e = .returned (.bool true) ∧ Below w.heap.size w w' := by
  obtain ⟨R, hR⟩ : ∃ R, R = readyL a.ch := ⟨_, rfl⟩
  have hlenR : R.length ≤ a.s.size := by rw [hR]; exact Nat.le_trans (readyL_length _) (by rw [LT.ch_length]; exact Nat.le_refl _)
  have hinR : InR R := by rw [hR]; exact readyL_in a.ch_in
  have hRR : readyL R = R := by rw [hR]; exact readyL_twice _
  have HR : Hid (∀ W, Below w.heap.size w W → Calls Try.prog 13 #[.agg #[.string a.s, .slice a.A a.n a.c]] W (TellsL R W)) := fun W hb => by
    rw [hR]
    exact (ready_any a W (ha.next hb (Nat.le_refl _))).mono fun e w' h => tellsL_of h
  obtain ⟨S, hS⟩ : ∃ S, S = schemeL R := ⟨_, rfl⟩
  obtain ⟨bb, hbb⟩ : ∃ bb, bb = decide (0 ≤ colonI R) := ⟨_, rfl⟩
  have hlenS : S.length ≤ 1048576 := by rw [hS]; exact Nat.le_trans (schemeL_length _) (by omega)
  have HS : Hid (∀ W, Below w.heap.size w W → Calls Try.prog 11 #[.agg #[.string a.s, .slice a.A a.n a.c]] W (TellsB S bb W)) := fun W hb => by
    rw [hS, hbb, hR]
    exact scheme_any a W (ha.next hb (Nat.le_refl _))
  have HS2 : Hid (∀ W D k, Lies W W.heap.size D (runCells (comp (R.map (·.2)))) → Calls Try.prog 11 #[.agg #[.string (txtOf R), .slice D (runN R) k]] W (TellsB S bb W)) := fun W D k h => by
    have h2 := scheme_any (toldT R D k) W (toldT_ok k h (by omega))
    rw [toldT_ch hinR, hRR, ← hS, ← hbb] at h2
    exact h2
  have HSM : Hid (∀ W D k E d, Lies W W.heap.size D (runCells (comp (S.map (·.2)))) → Lies W W.heap.size E (runCells (comp (S.map (·.2)))) → Calls Try.prog 16 #[.agg #[.string (txtOf S), .slice D (runN S) k], .agg #[.string (txtOf S), .slice E (runN S) d]] W (SaysB (.bool true) W)) := fun W D k E d h1 h2 => same_told S hlenS W D k E d h1 h2
  have htl : ((txtOf R).size : Int) ≤ (a.s.size : Int) := by rw [txtOf_size]; omega
  clear hR hlenR hinR hRR hS hbb hlenS ha
  obtain ⟨s, A, m, c, rs⟩ := a
  simp only at HR HS hsz htl
  show Calls Try.prog 5 #[.agg #[.string s, .slice A m c]] w _
  go_enter Try.func5, Try.ntmps5
  go_wp2_with fail
  refine (alive6_any _).mono ?_
  rintro e w1 ⟨rfl, hb1⟩
  simp only [World.size_alloc] at hb1
  have hz1 := hb1.size
  simp only [World.size_alloc] at hz1
  have y0 : Whole w1 w.heap.size 24 #[.string s, .slice A m c] := (Whole.made w _ _).below hb1 (Nat.lt_succ_self _)
  have c0 : w1.cell? ⟨w.heap.size, 0, none⟩ = some (.string s) := y0.at_ 0
  have c1 : w1.cell? ⟨w.heap.size, 1, none⟩ = some (.slice A m c) := y0.at_ 1
  have hbw : Below w.heap.size w w1 := below_made hb1
  go_wp2_with fail
  refine (HR.out _ hbw).mono ?_
  rintro e w2 ⟨A2, c2, rfl, hl2, hb2⟩
  have hz2 := hb2.size
  generalize hw3 : w2.alloc (.cells #[.string (txtOf R), .slice A2 (runN R) c2] 24) = w3
  have b23 : Below w2.heap.size w2 w3 := by rw [← hw3]; exact (Below.refl _ _).alloc (Nat.le_refl _) _
  have Y3 : Whole w3 w2.heap.size 24 #[.string (txtOf R), .slice A2 (runN R) c2] := by rw [← hw3]; exact Whole.made _ _ _
  have b13 : Below w1.heap.size w1 w3 := below_next hb2 (Nat.le_refl _) b23
  have y03 := y0.below b13 y0.lt
  have d0 : w3.cell? ⟨w.heap.size, 0, none⟩ = some (.string s) := y03.at_ 0
  have d1 : w3.cell? ⟨w.heap.size, 1, none⟩ = some (.slice A m c) := y03.at_ 1
  have L3 : Lies w3 w3.heap.size A2 (runCells (comp (R.map (·.2)))) := hl2.next b23 (Nat.le_refl _)
  have hbw3 : Below w.heap.size w w3 := hbw.trans (b13.mono (by omega))
  have hz13 := b13.size
  clear c0 c1
  go_wp2_with fail
  refine (HS.out _ hbw3).mono ?_
  rintro e w4 ⟨A4, c4, rfl, hl4, hb4⟩
  have hz4 := hb4.size
  clear hw3
  generalize hw5 : w4.alloc (.cells #[.string (txtOf S), .slice A4 (runN S) c4] 24) = w5
  have b45 : Below w4.heap.size w4 w5 := by rw [← hw5]; exact (Below.refl _ _).alloc (Nat.le_refl _) _
  have Y5 : Whole w5 w4.heap.size 24 #[.string (txtOf S), .slice A4 (runN S) c4] := by rw [← hw5]; exact Whole.made _ _ _
  have b35 : Below w3.heap.size w3 w5 := below_next hb4 (Nat.le_refl _) b45
  have Y35 := Y3.below b35 Y3.lt
  have y05 := y03.below b35 y03.lt
  have e0 : w5.cell? ⟨w2.heap.size, 0, none⟩ = some (.string (txtOf R)) := Y35.at_ 0
  have e1 : w5.cell? ⟨w2.heap.size, 1, none⟩ = some (.slice A2 (runN R) c2) := Y35.at_ 1
  have L5 : Lies w5 w5.heap.size A2 (runCells (comp (R.map (·.2)))) := L3.next b35 (Nat.le_refl _)
  have L54 : Lies w5 w5.heap.size A4 (runCells (comp (S.map (·.2)))) := hl4.next b45 (Nat.le_refl _)
  have hbw5 : Below w.heap.size w w5 := hbw3.trans (b35.mono (by omega))
  have hz35 := b35.size
  clear d0 d1
  go_wp2_with fail
  refine (HS2.out _ A2 c2 L5).mono ?_
  rintro e w6 ⟨A6, c6, rfl, hl6, hb6⟩
  have hz6 := hb6.size
  clear hw5
  generalize hw7 : w6.alloc (.cells #[.string (txtOf S), .slice A6 (runN S) c6] 24) = w7
  have b67 : Below w6.heap.size w6 w7 := by rw [← hw7]; exact (Below.refl _ _).alloc (Nat.le_refl _) _
  have Y7 : Whole w7 w6.heap.size 24 #[.string (txtOf S), .slice A6 (runN S) c6] := by rw [← hw7]; exact Whole.made _ _ _
  have b57 : Below w5.heap.size w5 w7 := below_next hb6 (Nat.le_refl _) b67
  have Y57 := Y5.below b57 Y5.lt
  have Y37 := Y35.below b57 Y35.lt
  have y07 := y05.below b57 y05.lt
  have L74 : Lies w7 w7.heap.size A4 (runCells (comp (S.map (·.2)))) := L54.next b57 (Nat.le_refl _)
  have L76 : Lies w7 w7.heap.size A6 (runCells (comp (S.map (·.2)))) := hl6.next b67 (Nat.le_refl _)
  have hbw7 : Below w.heap.size w w7 := hbw5.trans (b57.mono (by omega))
  clear e0 e1
  have e0 : w7.cell? ⟨w2.heap.size, 0, none⟩ = some (.string (txtOf R)) := Y37.at_ 0
  have g0 : w7.cell? ⟨w4.heap.size, 0, none⟩ = some (.string (txtOf S)) := Y57.at_ 0
  have g1 : w7.cell? ⟨w4.heap.size, 1, none⟩ = some (.slice A4 (runN S) c4) := Y57.at_ 1
  have g2 : w7.cell? ⟨w6.heap.size, 0, none⟩ = some (.string (txtOf S)) := Y7.at_ 0
  have g3 : w7.cell? ⟨w6.heap.size, 1, none⟩ = some (.slice A6 (runN S) c6) := Y7.at_ 1
  have d0 : w7.cell? ⟨w.heap.size, 0, none⟩ = some (.string s) := y07.at_ 0
  have hz57 := b57.size
  cases bb with
  | true =>
    go_wp2_with fail
    refine (HSM.out _ A4 c4 A6 c6 L74 L76).mono ?_
    rintro e w8 ⟨rfl, hb8⟩
    have e08 : w8.cell? ⟨w2.heap.size, 0, none⟩ = some (.string (txtOf R)) := (hb8.cell Y37.lt).trans e0
    have d08 : w8.cell? ⟨w.heap.size, 0, none⟩ = some (.string s) := (hb8.cell y07.lt).trans d0
    go_wp2_with fail
    go_ret
    exact ⟨by first | rfl | exact ret_bool (by simp; omega), below_next hbw7 (by omega) hb8⟩
  | false =>
    go_wp2_with fail
    go_ret
    exact ⟨by first | rfl | exact ret_bool (by simp; omega), hbw7⟩

end Go.Proofs.Ytdfpoinnajahiaa.mk
