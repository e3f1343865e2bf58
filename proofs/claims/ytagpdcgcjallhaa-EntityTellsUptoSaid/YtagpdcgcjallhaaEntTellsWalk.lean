/-
  The walk of the statement EntityTells.
-/
import Derived.Test.YtagpdcgcjallhaaEntAlive
import Derived.Test.YtagpdcgcjallhaaEntRefD
import Derived.Test.YtagpdcgcjallhaaTold
import Derived.Test.YtagpdcgcjallhaaLtCh
import Derived.Test.YtagpdcgcjallhaaMarkArgs
namespace Go.Proofs.Ytagpdcgcjallhaa.mk
open Go.RowKit

set_option maxHeartbeats 2000000 in
set_option maxRecDepth 100000 in
theorem tells8_any (a : LT) (nm : ByteArray) (x : Int) (w : World) (ha : a.ok w w.heap.size) (hsz : a.s.size ≤ 1048576) (_ : nm.size ≤ 1048576) :
    Calls Try.prog 3 #[a.v, .string nm, .int .i64 x] w fun e w' => e = .returned (.bool true) ∧ Below w.heap.size w w' := by
  have hin := a.ch_in
  have hlen := a.ch_length
  have hfst := a.ch_fst
  have hbs : a.bs = a.s.data.toList := rfl
  have hdl := decE_len a.ch
  rw [hlen] at hdl
  have HTE : Hid (takeE (a.ch.map (·.1)) = takeE a.s.data.toList) := by show _ = _; rw [hfst, hbs]
  have HDEC : Hid (∀ W, Below w.heap.size w W → Calls Try.prog 11 #[.agg #[.string a.s, .slice a.A a.n a.c]] W (TellsL (decE a.ch) W)) := fun W hb =>
    (entDecode_any a.s a.A a.n a.c a.rs W (ha.next hb (Nat.le_refl _)).1 ha.2.1 (by omega) ha.2.2.1).mono fun e w' h => tellsL_of h
  have HROF : Hid (∀ W, Below w.heap.size w W → Calls Try.prog 7 #[.agg #[.string a.s, .slice a.A a.n a.c]] W (fun e w' => ∃ A c, e = .returned (.slice A a.s.size c) ∧ (A = none → c = 0) ∧ a.s.size ≤ c ∧ Lies w' w'.heap.size A (chCells a.ch) ∧ Below W.heap.size W w')) := fun W hb => by
    refine (refOf_any a.s a.A a.n a.c a.rs W (ha.next hb (Nat.le_refl _)).1 ha.2.1 (by omega) ha.2.2.1).mono ?_
    rintro e w' ⟨v, rfl, ho, hb'⟩
    obtain ⟨A, c, rfl, hA, _, hc⟩ := own_form ho
    exact ⟨A, c, rfl, hA, hc, Lies.own ho, hb'⟩
  have HRT : Hid (∀ W A c, Lies W W.heap.size A (chCells a.ch) → a.s.size ≤ c → Calls Try.prog 9 #[.slice A a.s.size c] W fun e w' => e = .returned (.tuple #[.string (takeE a.s.data.toList).1, .int .i64 ((takeE a.s.data.toList).2 : Nat)]) ∧ Below W.heap.size W w') := fun W A c h hc => by
    rw [← HTE.out]
    exact refEntTake_any A a.s.size c a.ch W h hlen hc (by omega)
  have HRD : Hid (∀ W A c, Lies W W.heap.size A (chCells a.ch) → (A = none → c = 0) → a.s.size ≤ c → Calls Try.prog 12 #[.slice A a.s.size c] W (RowL (decE a.ch) (decE a.ch).length W)) := fun W A c h hA hc =>
    (refDecode_any A a.s.size c a.ch W h hlen hA hc hin (by omega)).mono fun e w' h => rowL_of h
  have HTK : Hid (∀ W, Calls Try.prog 8 #[.string a.s] W fun e w' => e = .returned (.tuple #[.string (takeE a.s.data.toList).1, .int .i64 ((takeE a.s.data.toList).2 : Nat)]) ∧ Below W.heap.size W w') := fun W => entTake_any a.s (by omega) W
  have HIS : Hid (∀ W D k E d, Lies W W.heap.size D (runCells (comp ((decE a.ch).map (·.2)))) → Lies W W.heap.size E (chCells (decE a.ch)) → Calls Try.prog 10 #[.agg #[.string (txtOf (decE a.ch)), .slice D (runN (decE a.ch)) k], .slice E (decE a.ch).length d] W (SaysB (.bool true) W)) := fun W D k E d h1 h2 =>
    isL_true (decE a.ch) (Nat.le_trans (runN_le _) (by omega)) (by omega) W D k E d h1 h2
  have HNM : Hid (∀ W, Calls Try.prog 13 #[.string nm] W (SaysB (.string (namedB nm.data.toList)) W)) := fun W => named_any nm W
  have HRN : Hid (∀ W, Calls Try.prog 14 #[.string nm] W (SaysB (.string (namedB nm.data.toList)) W)) := fun W => refNamed_any nm W
  have HNU : Hid (∀ W, Calls Try.prog 15 #[.int .i64 x] W (SaysB (.string (numB x)) W)) := fun W => number_any x W
  have HRU : Hid (∀ W, Calls Try.prog 16 #[.int .i64 x] W (SaysB (.string (numB x)) W)) := fun W => refNumber_any x W
  have hdn : (decE a.ch).length ≤ 1048576 := by omega
  clear HTE hdl hbs hfst hlen hin ha
  generalize takeE a.s.data.toList = tk at *
  obtain ⟨tb, tn⟩ := tk
  simp only at HRT HTK
  generalize namedB nm.data.toList = nb at *
  generalize numB x = xb at *
  generalize a.ch = L at *
  generalize decE L = R at *
  obtain ⟨s, A, n, c, rs⟩ := a
  simp only at HDEC HROF HRT HRD HTK hsz
  show Calls Try.prog 3 #[.agg #[.string s, .slice A n c], .string nm, .int .i64 x] w _
  go_enter Try.func3, Try.ntmps3
  go_wp2_with fail
  refine (alive8_any _).mono ?_
  rintro e w1 ⟨rfl, hb1⟩
  simp only [World.size_alloc] at hb1
  have y0 : Whole w1 w.heap.size 24 #[.string s, .slice A n c] := (Whole.made w _ _).below hb1 (Nat.lt_succ_self _)
  have c0 : w1.cell? ⟨w.heap.size, 0, none⟩ = some (.string s) := y0.at_ 0
  have c1 : w1.cell? ⟨w.heap.size, 1, none⟩ = some (.slice A n c) := y0.at_ 1
  have hbw : Below w.heap.size w w1 := below_made hb1
  go_wp2_with fail
  refine (HROF.out _ hbw).mono ?_
  rintro e w2 ⟨A2, c2, rfl, hA2, hc2, hl2, hb2⟩
  have y2 := y0.below hb2 y0.lt
  have hbw2 : Below w.heap.size w w2 := below_next hbw (Nat.le_refl _) hb2
  clear c0 c1 hb1
  have c0 : w2.cell? ⟨w.heap.size, 0, none⟩ = some (.string s) := y2.at_ 0
  have c1 : w2.cell? ⟨w.heap.size, 1, none⟩ = some (.slice A n c) := y2.at_ 1
  go_wp2_with fail
  refine (HTK.out _).mono ?_
  rintro e w3 ⟨rfl, hb3⟩
  have y3 := y2.below hb3 y2.lt
  have hl3 := hl2.next hb3 (Nat.le_refl _)
  have hbw3 : Below w.heap.size w w3 := below_next hbw2 (Nat.le_refl _) hb3
  clear c0 c1
  go_wp2_with fail
  refine (HRT.out _ A2 c2 hl3 hc2).mono ?_
  rintro e w4 ⟨rfl, hb4⟩
  have y4 := y3.below hb4 y3.lt
  have hl4 := hl3.next hb4 (Nat.le_refl _)
  have hbw4 : Below w.heap.size w w4 := below_next hbw3 (Nat.le_refl _) hb4
  have c0 : w4.cell? ⟨w.heap.size, 0, none⟩ = some (.string s) := y4.at_ 0
  have c1 : w4.cell? ⟨w.heap.size, 1, none⟩ = some (.slice A n c) := y4.at_ 1
  go_wp2_with fail
  refine (HDEC.out _ hbw4).mono ?_
  rintro e w5 ⟨A5, c5, rfl, hl5, hb5⟩
  have hL5 := hl4.next hb5 (Nat.le_refl _)
  have hbw5 : Below w.heap.size w w5 := below_next hbw4 (Nat.le_refl _) hb5
  clear c0 c1
  go_wp2_with fail
  refine (HRD.out _ A2 c2 hL5 hA2 hc2).mono ?_
  rintro e w6 ⟨A6, c6, rfl, hl6, hb6⟩
  have hl56 := hl5.next hb6 (Nat.le_refl _)
  have hbw6 : Below w.heap.size w w6 := below_next hbw5 (Nat.le_refl _) hb6
  go_wp2_with fail
  refine (HIS.out _ A5 c5 A6 c6 hl56 hl6).mono ?_
  rintro e w7 ⟨rfl, hb7⟩
  have hbw7 : Below w.heap.size w w7 := below_next hbw6 (Nat.le_refl _) hb7
  go_wp2_with fail
  refine (HNM.out _).mono ?_
  rintro e w8 ⟨rfl, hb8⟩
  have hbw8 : Below w.heap.size w w8 := below_next hbw7 (Nat.le_refl _) hb8
  go_wp2_with fail
  refine (HRN.out _).mono ?_
  rintro e w9 ⟨rfl, hb9⟩
  have hbw9 : Below w.heap.size w w9 := below_next hbw8 (Nat.le_refl _) hb9
  have hnn : (nb.toList == nb.toList) = true := by simp
  go_wp2_with fail
  refine (HNU.out _).mono ?_
  rintro e w10 ⟨rfl, hb10⟩
  have hbw10 : Below w.heap.size w w10 := below_next hbw9 (Nat.le_refl _) hb10
  go_wp2_with fail
  refine (HRU.out _).mono ?_
  rintro e w11 ⟨rfl, hb11⟩
  have hbw11 : Below w.heap.size w w11 := below_next hbw10 (Nat.le_refl _) hb11
  have hxx : (xb.toList == xb.toList) = true := by simp
  have htt : (tb.toList == tb.toList) = true := by simp
  have hkk : ((tn : Int) == (tn : Int)) = true := by simp
  go_wp2_with fail
  go_ret
  exact ⟨rfl, hbw11⟩

end Go.Proofs.Ytagpdcgcjallhaa.mk
