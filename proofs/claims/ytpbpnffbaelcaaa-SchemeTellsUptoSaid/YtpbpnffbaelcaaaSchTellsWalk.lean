/-
  The walk of the statement SchemeTells.
-/
import Derived.Test.YtpbpnffbaelcaaaSchAlive
import Derived.Test.YtpbpnffbaelcaaaSameTold
import Derived.Deep.DeepCutAuto
namespace Go.Proofs.Ytpbpnffbaelcaaa.mk
open Go.RowKit

/-- the worst origin of what was told -/
theorem worst_t (l : List (UInt8 × Int)) (hin : InR l) (hn : l.length ≤ 4294967296) (D : Option Addr) (k : Nat) (w : World) (h : Lies w w.heap.size D (runCells (comp (l.map (·.2))))) :
    Calls Try.prog 9 #[.agg #[.string (txtOf l), .slice D (runN l) k]] w (SaysB (.int .i64 (worstO (l.map (·.2)))) w) := by
  refine (worst_any (txtOf l) D (runN l) k (comp (l.map (·.2))) w h rfl (by rw [txtOf_size]; exact hn) (Nat.le_trans (runN_le l) hn)).mono ?_
  rintro e w' ⟨rfl, hb⟩
  have e1 : origins (txtOf l).size (comp (l.map (·.2))) = l.map (·.2) := by
    have h2 := LT.ch_snd (toldT l D k)
    rw [toldT_ch hin] at h2
    exact h2.symm
  rw [e1]
  exact ⟨rfl, hb⟩

theorem http_list : httpT.toList = [104, 116, 116, 112] := by decide +kernel
theorem https_list : httpsT.toList = [104, 116, 116, 112, 115] := by decide +kernel
theorem mailto_list : mailtoT.toList = [109, 97, 105, 108, 116, 111] := by decide +kernel
/-- which of the three it is -/
theorem known_ways (t : ByteArray) :
    ((t.toList == [104, 116, 116, 112]) = true ∧ knownB t = true)
    ∨ ((t.toList == [104, 116, 116, 112]) = false ∧ (t.toList == [104, 116, 116, 112, 115]) = true ∧ knownB t = true)
    ∨ ((t.toList == [104, 116, 116, 112]) = false ∧ (t.toList == [104, 116, 116, 112, 115]) = false ∧ (t.toList == [109, 97, 105, 108, 116, 111]) = true ∧ knownB t = true)
    ∨ ((t.toList == [104, 116, 116, 112]) = false ∧ (t.toList == [104, 116, 116, 112, 115]) = false ∧ (t.toList == [109, 97, 105, 108, 116, 111]) = false ∧ knownB t = false) := by
  have hk : knownB t = ((t.toList == [104, 116, 116, 112]) || ((t.toList == [104, 116, 116, 112, 115]) || ((t.toList == [109, 97, 105, 108, 116, 111]) || false))) := by
    unfold knownB
    rw [List.any_cons, List.any_cons, List.any_cons, List.any_nil, http_list, https_list, mailto_list]
  rw [hk]
  generalize (t.toList == [104, 116, 116, 112]) = a
  generalize (t.toList == [104, 116, 116, 112, 115]) = b
  generalize (t.toList == [109, 97, 105, 108, 116, 111]) = c
  cases a <;> cases b <;> cases c <;> simp

set_option maxHeartbeats 2000000 in
set_option maxRecDepth 100000 in
theorem tells7_any (m : Int) (a : LT) (w : World) (hm : w.cell? ⟨0, 0, none⟩ = some (.int .i64 m)) (ha : a.ok w w.heap.size) (hsz : a.s.size ≤ 1048576) :
    Calls Try.prog 3 #[a.v] w fun e w' => e = .returned (.bool true) ∧ Below w.heap.size w w' := by
  obtain ⟨R, hR⟩ : ∃ R, R = readyL a.ch := ⟨_, rfl⟩
  have hlenR : R.length ≤ 1048576 := by rw [hR]; exact Nat.le_trans (readyL_length _) (by rw [LT.ch_length]; exact hsz)
  have hinR : InR R := by rw [hR]; exact readyL_in a.ch_in
  have HAL : Hid (∀ W, Below w.heap.size w W → Calls Try.prog 6 #[] W fun e w' => e = .returned (.bool true) ∧ Below W.heap.size W w') := fun W hb => alive7_any m W ((hb.cell (block_zero _ _ _ hm)).trans hm)
  have HR : Hid (∀ W, Below w.heap.size w W → Calls Try.prog 8 #[.agg #[.string a.s, .slice a.A a.n a.c]] W (TellsL R W)) := fun W hb => by
    rw [hR]
    exact (ready_any a W (ha.next hb (Nat.le_refl _))).mono fun e w' h => tellsL_of h
  obtain ⟨i, hi⟩ : ∃ i, i = colonI R := ⟨_, rfl⟩
  have hbd := colonI_bd R
  rw [← hi] at hbd
  obtain ⟨S, hS⟩ : ∃ S, S = schemeL R := ⟨_, rfl⟩
  obtain ⟨bb, hbb⟩ : ∃ bb, bb = decide (0 ≤ i) := ⟨_, rfl⟩
  have HS : Hid (∀ W, Below w.heap.size w W → Calls Try.prog 7 #[.agg #[.string a.s, .slice a.A a.n a.c]] W (TellsB S bb W)) := fun W hb => by
    rw [hS, hbb, hi, hR]
    exact scheme_any a W (ha.next hb (Nat.le_refl _))
  have HFI : Hid (∀ W, Below w.heap.size w W → Calls Try.prog 11 #[.agg #[.string a.s, .slice a.A a.n a.c]] W (TellsB (filterL R) (safeB R) W)) := fun W hb => by
    rw [hR]
    exact filter_any a m W ((hb.cell (block_zero _ _ _ hm)).trans hm) (ha.next hb (Nat.le_refl _)) (by omega)
  have HSA : Hid (∀ W, Below w.heap.size w W → Calls Try.prog 12 #[.agg #[.string a.s, .slice a.A a.n a.c]] W (SaysB (.bool (safeB R)) W)) := fun W hb => by
    rw [hR]
    exact safe_any a m W ((hb.cell (block_zero _ _ _ hm)).trans hm) (ha.next hb (Nat.le_refl _)) (by omega)
  have HKN : Hid (∀ W, Calls Try.prog 13 #[.string (txtOf S)] W (SaysB (.bool (knownB (txtOf S))) W)) := fun W => known_any _ W
  have hsize : bb = true → ((txtOf S).size : Int) = i := fun h => by
    rw [hS, hi]
    exact scheme_size (by rw [← hi]; exact of_decide_eq_true (by rw [← hbb]; exact h))
  have HCU : Hid (bb = true → ∀ W D k, Lies W W.heap.size D (runCells (comp (R.map (·.2)))) → Calls Try.prog 10 #[.agg #[.string (txtOf R), .slice D (runN R) k], .int .i64 0, .int .i64 (((txtOf S).size : Int) + 1)] W (TellsL (R.take (i + 1).toNat) W)) := fun h0 W D k h => by
    have hs := hsize h0
    have h2 := cut_t (toldT R D k) 0 (((txtOf S).size : Int) + 1) 0 (i + 1).toNat W (toldT_ok k h (by omega)) (by show min (max (0 : Int) 0) _ = _; omega) (by show min (max (((txtOf S).size : Int) + 1) 0) ((txtOf R).size : Int) = _; rw [txtOf_size (l := R)]; omega)
    rw [toldT_ch hinR, List.drop_zero] at h2
    exact h2.mono fun e w' h => tellsL_of h
  obtain ⟨x, hx⟩ : ∃ x, x = worstO ((R.take (i + 1).toNat).map (·.2)) := ⟨_, rfl⟩
  have HWO : Hid (∀ W D k, Lies W W.heap.size D (runCells (comp ((R.take (i + 1).toNat).map (·.2)))) → Calls Try.prog 9 #[.agg #[.string (txtOf (R.take (i + 1).toNat)), .slice D (runN (R.take (i + 1).toNat)) k]] W (SaysB (.int .i64 x) W)) := fun W D k h => by
    rw [hx]
    exact worst_t (R.take (i + 1).toNat) (hinR.take _) (by rw [List.length_take]; omega) D k W h
  have HKS : Hid (bb = false → knownB (txtOf S) = false) := fun h => by
    rw [hS, schemeL_none (by rw [← hi]; rw [hbb] at h; have := of_decide_eq_false h; omega)]
    exact known_none
  have HSB : Hid (safeB R = (!bb || (knownB (txtOf S) && (x == 0)))) := by
    show _ = _
    by_cases h0 : i < 0
    · rw [safeB_none (by rw [← hi]; exact h0), hbb, decide_eq_false (by omega)]; rfl
    · rw [safeB_some (by rw [← hi]; omega), hbb, decide_eq_true (by omega), hS, hx, hi]; rfl
  have HSM : Hid (safeB R = true → ∀ W D k E d, Lies W W.heap.size D (runCells (comp ((filterL R).map (·.2)))) → Lies W W.heap.size E (runCells (comp (R.map (·.2)))) → Calls Try.prog 14 #[.agg #[.string (txtOf (filterL R)), .slice D (runN (filterL R)) k], .agg #[.string (txtOf R), .slice E (runN R) d]] W (SaysB (.bool true) W)) := fun hs W D k E d h1 h2 => by
    rw [filterL_true hs] at h1 ⊢
    exact same_told R hlenR W D k E d h1 h2
  have HF : Hid (safeB R = false → txtOf (filterL R) = ⟨#[]⟩) := fun h => by rw [show _ = _ from filterL_false h]; rfl
  have HKW := Lib.hid (known_ways (txtOf S))
  have hSn : (txtOf S).size ≤ 1048576 := by rw [hS, txtOf_size]; exact Nat.le_trans (schemeL_length _) hlenR
  have hwrp : IntKind.i64.wrap (((txtOf S).size : Int) + 1) = ((txtOf S).size : Int) + 1 := IntWalk.i64_in _ (by omega)
  clear hsize hbb hbd hS hR hlenR hinR ha hm hx hi
  generalize safeB R = sb at *
  generalize filterL R = F at *
  generalize hQ : R.take (i + 1).toNat = Q at *
  clear hQ
  generalize knownB (txtOf S) = kb at *
  obtain ⟨s, A, n, c, rs⟩ := a
  simp only at HR HS HFI HSA hsz
  show Calls Try.prog 3 #[.agg #[.string s, .slice A n c]] w _
  go_enter Try.func3, Try.ntmps3
  go_wp2_with fail
  refine (HAL.out _ ((Below.refl _ _).alloc (Nat.le_refl _) _)).mono ?_
  rintro e w1 ⟨rfl, hb1⟩
  simp only [World.size_alloc] at hb1
  have y0 : Whole w1 w.heap.size 24 #[.string s, .slice A n c] := (Whole.made w _ _).below hb1 (Nat.lt_succ_self _)
  have c0 : w1.cell? ⟨w.heap.size, 0, none⟩ = some (.string s) := y0.at_ 0
  have c1 : w1.cell? ⟨w.heap.size, 1, none⟩ = some (.slice A n c) := y0.at_ 1
  have hbw : Below w.heap.size w w1 := below_made hb1
  go_wp2_with fail
  refine (HS.out _ hbw).mono ?_
  rintro e w2 ⟨A2, c2, rfl, hl2, hb2⟩
  generalize hw3 : w2.alloc (.cells #[.string (txtOf S), .slice A2 (runN S) c2] 24) = w3
  have b23 : Below w2.heap.size w2 w3 := by rw [← hw3]; exact (Below.refl _ _).alloc (Nat.le_refl _) _
  have Y3 : Whole w3 w2.heap.size 24 #[.string (txtOf S), .slice A2 (runN S) c2] := by rw [← hw3]; exact Whole.made _ _ _
  have b13 : Below w1.heap.size w1 w3 := below_next hb2 (Nat.le_refl _) b23
  have y03 := y0.below b13 y0.lt
  have hbw3 : Below w.heap.size w w3 := below_next hbw (Nat.le_refl _) b13
  clear c0 c1
  have c0 : w3.cell? ⟨w.heap.size, 0, none⟩ = some (.string s) := y03.at_ 0
  have c1 : w3.cell? ⟨w.heap.size, 1, none⟩ = some (.slice A n c) := y03.at_ 1
  go_wp2_with fail
  refine (HR.out _ hbw3).mono ?_
  rintro e w4 ⟨A4, c4, rfl, hl4, hb4⟩
  clear hw3
  generalize hw5 : w4.alloc (.cells #[.string (txtOf R), .slice A4 (runN R) c4] 24) = w5
  have b45 : Below w4.heap.size w4 w5 := by rw [← hw5]; exact (Below.refl _ _).alloc (Nat.le_refl _) _
  have Y5 : Whole w5 w4.heap.size 24 #[.string (txtOf R), .slice A4 (runN R) c4] := by rw [← hw5]; exact Whole.made _ _ _
  have b35 : Below w3.heap.size w3 w5 := below_next hb4 (Nat.le_refl _) b45
  have y05 := y03.below b35 y03.lt
  have Y35 := Y3.below b35 Y3.lt
  have L5 : Lies w5 w5.heap.size A4 (runCells (comp (R.map (·.2)))) := hl4.next b45 (Nat.le_refl _)
  have hbw5 : Below w.heap.size w w5 := below_next hbw3 (Nat.le_refl _) b35
  clear c0 c1 hb2 hl2 b23 hb4 b45 b35 b13 hbw3 hbw hb1 hl4
  have e0 : w5.cell? ⟨w2.heap.size, 0, none⟩ = some (.string (txtOf S)) := Y35.at_ 0
  have g0 : w5.cell? ⟨w4.heap.size, 0, none⟩ = some (.string (txtOf R)) := Y5.at_ 0
  have g1 : w5.cell? ⟨w4.heap.size, 1, none⟩ = some (.slice A4 (runN R) c4) := Y5.at_ 1
  go_upto_region 5 with (fail)
  go_cut [6] (fun s6 wx => s6 = .bool kb ∧ wx = w5)
  case first =>
    rcases HKW.out with ⟨h1, hk⟩ | ⟨h1, h2, hk⟩ | ⟨h1, h2, h3, hk⟩ | ⟨h1, h2, h3, hk⟩
    all_goals
      have HKB := Lib.hid hk
      clear hk
      go_wp2_with fail
      go_meet
      exact ⟨congrArg Value.bool HKB.out.symm, rfl⟩
  case rest =>
    obtain ⟨rfl, hwx⟩ := hcut
    subst hwx
    obtain ⟨w5, rfl⟩ : ∃ w5 : World, w5 = wc := ⟨_, rfl⟩
    clear HKW
    go_upto_region 6 with (fail)
    go_cut [7] (fun s7 wx => s7 = .bool sb ∧ Below w5.heap.size w5 wx)
    case first =>
      cases bb with
      | false =>
        go_wp2_with fail
        go_meet
        exact ⟨congrArg Value.bool HSB.out.symm, Below.refl _ _⟩
      | true =>
        have HCU2 := Lib.hid (HCU.out (by first | rfl | trivial))
        cases kb with
        | false =>
          go_wp2_with fail
          go_meet
          exact ⟨congrArg Value.bool HSB.out.symm, Below.refl _ _⟩
        | true =>
          go_wp2_with fail
          refine (HCU2.out _ A4 c4 L5).mono ?_
          rintro e w6 ⟨A6, c6, rfl, hl6, hb6⟩
          go_wp2_with fail
          refine (HWO.out _ A6 c6 hl6).mono ?_
          rintro e w7 ⟨rfl, hb7⟩
          go_wp2_with fail
          go_meet
          exact ⟨congrArg Value.bool HSB.out.symm, below_next hb6 (Nat.le_refl _) hb7⟩
    case rest =>
      obtain ⟨rfl, hb5⟩ := hcut
      obtain ⟨w6, rfl⟩ : ∃ w6 : World, w6 = wc := ⟨_, rfl⟩
      have y06 := y05.below hb5 y05.lt
      have Y36 := Y35.below hb5 Y35.lt
      have Y56 := Y5.below hb5 Y5.lt
      have L6 : Lies w6 w6.heap.size A4 (runCells (comp (R.map (·.2)))) := L5.next hb5 (Nat.le_refl _)
      have hbw6 : Below w.heap.size w w6 := below_next hbw5 (Nat.le_refl _) hb5
      clear e0 g0 g1 HCU HWO HS HR HAL hb5
      have c0 : w6.cell? ⟨w.heap.size, 0, none⟩ = some (.string s) := y06.at_ 0
      have c1 : w6.cell? ⟨w.heap.size, 1, none⟩ = some (.slice A n c) := y06.at_ 1
      go_wp2_with fail
      refine (HFI.out _ hbw6).mono ?_
      rintro e w7 ⟨A7, c7, rfl, hl7, hb7⟩
      generalize hw8 : w7.alloc (.cells #[.string (txtOf F), .slice A7 (runN F) c7] 24) = w8
      have b78 : Below w7.heap.size w7 w8 := by rw [← hw8]; exact (Below.refl _ _).alloc (Nat.le_refl _) _
      have Y8 : Whole w8 w7.heap.size 24 #[.string (txtOf F), .slice A7 (runN F) c7] := by rw [← hw8]; exact Whole.made _ _ _
      have b68 : Below w6.heap.size w6 w8 := below_next hb7 (Nat.le_refl _) b78
      have y08 := y06.below b68 y06.lt
      have Y38 := Y36.below b68 Y36.lt
      have Y58 := Y56.below b68 Y56.lt
      have L8 : Lies w8 w8.heap.size A4 (runCells (comp (R.map (·.2)))) := L6.next b68 (Nat.le_refl _)
      have L87 : Lies w8 w8.heap.size A7 (runCells (comp (F.map (·.2)))) := hl7.next b78 (Nat.le_refl _)
      have hbw8 : Below w.heap.size w w8 := below_next hbw6 (Nat.le_refl _) b68
      clear c0 c1
      have c0 : w8.cell? ⟨w.heap.size, 0, none⟩ = some (.string s) := y08.at_ 0
      have c1 : w8.cell? ⟨w.heap.size, 1, none⟩ = some (.slice A n c) := y08.at_ 1
      have hbeq : (sb != sb) = false := by cases sb <;> rfl
      have hkeq : (kb != kb) = false := by cases kb <;> rfl
      go_wp2_with fail
      refine (HSA.out _ hbw8).mono ?_
      rintro e w9 ⟨rfl, hb9⟩
      have Y39 := Y38.below hb9 Y38.lt
      have d0 : w9.cell? ⟨w2.heap.size, 0, none⟩ = some (.string (txtOf S)) := Y39.at_ 0
      have b810 : Below w8.heap.size w8 w9 := hb9
      clear c0 c1 hw8
      go_wp2_with fail
      refine (HKN.out _).mono ?_
      rintro e w10 ⟨rfl, hb10⟩
      have b8 : Below w8.heap.size w8 w10 := below_next hb9 (Nat.le_refl _) hb10
      have hbw10 : Below w.heap.size w w10 := below_next hbw8 (Nat.le_refl _) b8
      have Y810 := Y8.below b8 Y8.lt
      have Y510 := Y58.below b8 Y58.lt
      have L10 : Lies w10 w10.heap.size A4 (runCells (comp (R.map (·.2)))) := L8.next b8 (Nat.le_refl _)
      have L107 : Lies w10 w10.heap.size A7 (runCells (comp (F.map (·.2)))) := L87.next b8 (Nat.le_refl _)
      have e0 : w10.cell? ⟨w7.heap.size, 0, none⟩ = some (.string (txtOf F)) := Y810.at_ 0
      have e1 : w10.cell? ⟨w7.heap.size, 1, none⟩ = some (.slice A7 (runN F) c7) := Y810.at_ 1
      have g0 : w10.cell? ⟨w4.heap.size, 0, none⟩ = some (.string (txtOf R)) := Y510.at_ 0
      have g1 : w10.cell? ⟨w4.heap.size, 1, none⟩ = some (.slice A4 (runN R) c4) := Y510.at_ 1
      clear d0
      cases sb with
      | false =>
        go_wp2_with fail
        go_ret
        exact ⟨ret_bool (by rw [HF.out (by first | rfl | trivial)]; first | rfl | decide +kernel), hbw10⟩
      | true =>
        have HSM2 := Lib.hid (HSM.out (by first | rfl | trivial))
        go_wp2_with fail
        refine (HSM2.out _ A7 c7 A4 c4 L107 L10).mono ?_
        rintro e w11 ⟨rfl, hb11⟩
        go_wp2_with fail
        go_ret
        exact ⟨rfl, below_next hbw10 (Nat.le_refl _) hb11⟩

end Go.Proofs.Ytpbpnffbaelcaaa.mk
