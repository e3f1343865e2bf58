/-
  The walk of the statement SchemeBack.
-/
import Derived.Test.YtpbpnffbaelcaaaSchAlive
namespace Go.Proofs.Ytpbpnffbaelcaaa.mk
open Go.RowKit

set_option maxHeartbeats 2000000 in
set_option maxRecDepth 100000 in
theorem back7_any (m : Int) (a : LT) (w : World) (hm : w.cell? ⟨0, 0, none⟩ = some (.int .i64 m)) (ha : a.ok w w.heap.size) (hsz : a.s.size ≤ 1048576) :
    Calls Try.prog 4 #[a.v] w fun e w' => e = .returned (.bool true) ∧ Below w.heap.size w w' := by
  obtain ⟨R, hR⟩ : ∃ R, R = readyL a.ch := ⟨_, rfl⟩
  have hlenR : R.length ≤ 1048576 := by rw [hR]; exact Nat.le_trans (readyL_length _) (by rw [LT.ch_length]; exact hsz)
  have hinR : InR R := by rw [hR]; exact readyL_in a.ch_in
  have hRR : readyL R = R := by rw [hR]; exact readyL_twice _
  have HAL : Hid (∀ W, Below w.heap.size w W → Calls Try.prog 6 #[] W fun e w' => e = .returned (.bool true) ∧ Below W.heap.size W w') := fun W hb => alive7_any m W ((hb.cell (block_zero _ _ _ hm)).trans hm)
  have HFI : Hid (∀ W, Below w.heap.size w W → Calls Try.prog 11 #[.agg #[.string a.s, .slice a.A a.n a.c]] W (TellsB (filterL R) (safeB R) W)) := fun W hb => by
    rw [hR]
    exact filter_any a m W ((hb.cell (block_zero _ _ _ hm)).trans hm) (ha.next hb (Nat.le_refl _)) (by omega)
  have HSA : Hid (safeB R = true → ∀ W D k, Below w.heap.size w W → Lies W W.heap.size D (runCells (comp ((filterL R).map (·.2)))) → Calls Try.prog 12 #[.agg #[.string (txtOf (filterL R)), .slice D (runN (filterL R)) k]] W (SaysB (.bool true) W)) := fun hs W D k hb h => by
    rw [filterL_true hs] at h ⊢
    have h2 := safe_any (toldT R D k) m W ((hb.cell (block_zero _ _ _ hm)).trans hm) (toldT_ok k h (by omega)) (by show (txtOf R).size ≤ _; rw [txtOf_size]; omega)
    rw [toldT_ch hinR, hRR, hs] at h2
    exact h2
  have HF : Hid (safeB R = false → txtOf (filterL R) = ⟨#[]⟩) := fun h => by rw [show _ = _ from filterL_false h]; rfl
  clear hR hlenR hinR hRR ha hm
  generalize safeB R = sb at *
  generalize filterL R = F at *
  obtain ⟨s, A, n, c, rs⟩ := a
  simp only at HFI hsz
  show Calls Try.prog 4 #[.agg #[.string s, .slice A n c]] w _
  go_enter Try.func4, Try.ntmps4
  go_wp2_with fail
  refine (HAL.out _ ((Below.refl _ _).alloc (Nat.le_refl _) _)).mono ?_
  rintro e w1 ⟨rfl, hb1⟩
  simp only [World.size_alloc] at hb1
  have y0 : Whole w1 w.heap.size 24 #[.string s, .slice A n c] := (Whole.made w _ _).below hb1 (Nat.lt_succ_self _)
  have c0 : w1.cell? ⟨w.heap.size, 0, none⟩ = some (.string s) := y0.at_ 0
  have c1 : w1.cell? ⟨w.heap.size, 1, none⟩ = some (.slice A n c) := y0.at_ 1
  have hbw : Below w.heap.size w w1 := below_made hb1
  go_wp2_with fail
  refine (HFI.out _ hbw).mono ?_
  rintro e w2 ⟨A2, c2, rfl, hl2, hb2⟩
  generalize hw3 : w2.alloc (.cells #[.string (txtOf F), .slice A2 (runN F) c2] 24) = w3
  have b23 : Below w2.heap.size w2 w3 := by rw [← hw3]; exact (Below.refl _ _).alloc (Nat.le_refl _) _
  have Y3 : Whole w3 w2.heap.size 24 #[.string (txtOf F), .slice A2 (runN F) c2] := by rw [← hw3]; exact Whole.made _ _ _
  have hbw3 : Below w.heap.size w w3 := below_next (below_next hbw (Nat.le_refl _) hb2) (Nat.le_refl _) b23
  have L3 : Lies w3 w3.heap.size A2 (runCells (comp (F.map (·.2)))) := hl2.next b23 (Nat.le_refl _)
  have d0 : w3.cell? ⟨w2.heap.size, 0, none⟩ = some (.string (txtOf F)) := Y3.at_ 0
  have d1 : w3.cell? ⟨w2.heap.size, 1, none⟩ = some (.slice A2 (runN F) c2) := Y3.at_ 1
  clear c0 c1
  cases sb with
  | false =>
    go_wp2_with fail
    go_ret
    exact ⟨ret_bool (by rw [HF.out (by first | rfl | trivial)]; first | rfl | decide +kernel), hbw3⟩
  | true =>
    have HSA2 := Lib.hid (HSA.out (by first | rfl | trivial))
    go_wp2_with fail
    refine (HSA2.out _ A2 c2 hbw3 L3).mono ?_
    rintro e w4 ⟨rfl, hb4⟩
    go_wp2_with fail
    go_ret
    exact ⟨rfl, below_next hbw3 (Nat.le_refl _) hb4⟩

end Go.Proofs.Ytpbpnffbaelcaaa.mk
