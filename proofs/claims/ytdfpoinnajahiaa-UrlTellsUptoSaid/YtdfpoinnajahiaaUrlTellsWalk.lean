/-
  The walk of the statement UrlTells.
-/
import Derived.Test.YtdfpoinnajahiaaUrlAlive
import Derived.Test.YtdfpoinnajahiaaUrlRefReady
import Derived.Test.YtdfpoinnajahiaaMarkRefOf
namespace Go.Proofs.Ytdfpoinnajahiaa.mk
open Go.RowKit

theorem lies_take2 {w : World} {B : Nat} {A : Option Addr} {l : List (UInt8 × Int)} (h : Lies w B A (chCells l)) (n : Nat) : Lies w B A (chCells (l.take n)) := by
  intro j u hu
  refine h j u ?_
  rw [← List.take_append_drop n l, chCells_append, List.getElem?_append_left (List.getElem?_eq_some_iff.1 hu).1]
  exact hu
theorem lies_drop2 {w : World} {B : Nat} {ad : Addr} {l : List (UInt8 × Int)} (h : Lies w B (some ad) (chCells l)) (k : Nat) : Lies w B (some (ad.add (k * 2))) (chCells (l.drop k)) := by
  intro j u hu
  by_cases hk : k ≤ l.length
  · have h1 : (chCells (l.take k)).length = k * 2 := by rw [chCells_length, List.length_take]; omega
    have h2 : (chCells l)[k * 2 + j]? = some u := by
      rw [← List.take_append_drop k l, chCells_append, List.getElem?_append_right (by omega), h1, Nat.add_sub_cancel_left]
      exact hu
    obtain ⟨ad', ea, hb, hc⟩ := h _ _ h2
    injection ea with ea
    subst ea
    exact ⟨_, rfl, by rw [addr_block]; exact hb, by rw [addr_add]; exact hc⟩
  · rw [List.drop_of_length_le (by omega)] at hu
    simp [chCells] at hu

set_option maxHeartbeats 2000000 in
set_option maxRecDepth 100000 in
theorem tells6_any (a : LT) (w : World) (ha : a.ok w w.heap.size) (hsz : a.s.size ≤ 1048576) :
    Calls Try.prog 3 #[a.v] w fun e w' => e = .returned (.bool true) ∧ Below w.heap.size w w' := by
  obtain ⟨L, hL⟩ : ∃ L, L = a.ch := ⟨_, rfl⟩
  obtain ⟨R, hR⟩ : ∃ R, R = readyL a.ch := ⟨_, rfl⟩
  have hlenL : L.length = a.s.size := by rw [hL]; exact LT.ch_length _
  have hRL : readyL L = R := by rw [hR, hL]
  have hlenR : R.length ≤ 1048576 := by rw [← hRL]; exact Nat.le_trans (readyL_length _) (by omega)
  have HR : Hid (∀ W, Below w.heap.size w W → Calls Try.prog 13 #[.agg #[.string a.s, .slice a.A a.n a.c]] W (TellsL R W)) := fun W hb => by
    rw [hR]
    exact (ready_any a W (ha.next hb (Nat.le_refl _))).mono fun e w' h => tellsL_of h
  have HE : Hid (∀ W, Below w.heap.size w W → Calls Try.prog 14 #[.agg #[.string a.s, .slice a.A a.n a.c]] W (TellsL (restL R) W)) := fun W hb => by
    rw [hR]
    exact (rest_any a W (ha.next hb (Nat.le_refl _))).mono fun e w' h => tellsL_of h
  obtain ⟨i, hi⟩ : ∃ i, i = colonI R := ⟨_, rfl⟩
  obtain ⟨bb, hbb⟩ : ∃ bb, bb = decide (0 ≤ i) := ⟨_, rfl⟩
  have HS : Hid (∀ W, Below w.heap.size w W → Calls Try.prog 11 #[.agg #[.string a.s, .slice a.A a.n a.c]] W (TellsB (schemeL R) bb W)) := fun W hb => by
    rw [hbb, hi, hR]
    exact scheme_any a W (ha.next hb (Nat.le_refl _))
  have HO : Hid (∀ W, Below w.heap.size w W → Calls Try.prog 8 #[.agg #[.string a.s, .slice a.A a.n a.c]] W fun e w' => ∃ v, e = .returned v ∧ w'.ownsRow W.heap.size 36 2 v a.s.size (chCells L) ∧ Below W.heap.size W w') := fun W hb => by
    rw [hL]
    have hk := ha.next hb (Nat.le_refl _)
    exact refOf_any a.s a.A a.n a.c a.rs W hk.1 hk.2.1 hk.2.2.2 hk.2.2.1
  have hbd := colonI_bd R
  rw [← hi] at hbd
  have HI := Lib.hid hi.symm
  have HBB := Lib.hid hbb
  have HRL := Lib.hid hRL
  have HLL := Lib.hid hlenL
  clear hL hR hRL ha hlenL hi hbb
  obtain ⟨s, A, m, c, rs⟩ := a
  simp only at HR HS HE HO HLL hsz
  show Calls Try.prog 3 #[.agg #[.string s, .slice A m c]] w _
  go_enter Try.func3, Try.ntmps3
  go_wp2_with fail
  refine (alive6_any _).mono ?_
  rintro e w1 ⟨rfl, hb1⟩
  simp only [World.size_alloc] at hb1
  have hz1 := hb1.size
  simp only [World.size_alloc] at hz1
  have y0 : Whole w1 w.heap.size 24 #[.string s, .slice A m c] := (Whole.made w _ _).below hb1 (Nat.lt_succ_self _)
  have c0 : w1.cell? ⟨w.heap.size, 0, none⟩ = some (.string s) := y0.at_ 0
  have c1 : w1.cell? ⟨w.heap.size, 1, none⟩ = some (.slice A m c) := y0.at_ 1
  have hbw : Below w.heap.size w w1 := below_made hb1
  go_wp2_with fail
  refine (HO.out _ hbw).mono ?_
  rintro e w2 ⟨v2, rfl, ho2, hb2⟩
  obtain ⟨A2, c2, rfl, hA2, _, hc2⟩ := own_form ho2
  have hz2 := hb2.size
  go_wp2_with fail
  refine (lawReady_any A2 s.size c2 L _ (Lies.own ho2) HLL.out hc2 (by omega)).mono ?_
  rw [HRL.out]
  rintro e w3 ⟨v3, rfl, ho3, hb3⟩
  obtain ⟨A3, c3, rfl, hA3, _, hc3⟩ := own_form ho3
  have hz3 := hb3.size
  have L3 : Lies w3 w3.heap.size A3 (chCells R) := Lies.own ho3
  have b13 : Below w1.heap.size w1 w3 := below_next hb2 (Nat.le_refl _) hb3
  have y3 := y0.below b13 y0.lt
  have hbw3 : Below w.heap.size w w3 := hbw.trans (b13.mono (by omega))
  have hz13 := b13.size
  clear c0 c1 hb2 ho2 hb3 ho3 b13 y0 hbw hb1 hA2 hc2
  go_wp2_with fail
  refine (lawColon_any A3 R.length c3 R _ L3 rfl (by omega)).mono ?_
  rw [HI.out]
  rintro e w' ⟨rfl, rfl⟩
  have c0 : w'.cell? ⟨w.heap.size, 0, none⟩ = some (.string s) := y3.at_ 0
  have c1 : w'.cell? ⟨w.heap.size, 1, none⟩ = some (.slice A m c) := y3.at_ 1
  have hl3 : A3 = none → R = [] := fun h => by
    have h0 := hA3 h
    exact List.eq_nil_of_length_eq_zero (by omega)
  have hlenS : (schemeL R).length ≤ 1048576 := Nat.le_trans (schemeL_length R) hlenR
  have hlenE : (restL R).length ≤ 1048576 := Nat.le_trans (restL_length R) hlenR
  have hl3 : A3 = none → R = [] := fun h => by
    have h0 := hA3 h
    exact List.eq_nil_of_length_eq_zero (by omega)
  have hlenS : (schemeL R).length ≤ 1048576 := Nat.le_trans (schemeL_length R) hlenR
  have hlenE : (restL R).length ≤ 1048576 := Nat.le_trans (restL_length R) hlenR
  by_cases hneg : i < 0
  case' pos =>
    have hi1 : i = -1 := by omega
    have hnd : decide ((0 : Int) ≤ i) = false := by simp; omega
    obtain rfl : bb = false := by rw [HBB.out]; simp; omega
    obtain ⟨k, hk0, hwk⟩ : ∃ k : Nat, k = 0 ∧ IntKind.i64.wrap (i + 1) = (k : Int) := ⟨0, rfl, by subst hi1; rfl⟩
    have hRE : restL R = R.drop k := by unfold restL; rw [HI.out, hi1, hk0]; rfl
    have hkn : k ≤ R.length := by omega
    have hSE : schemeL R = [] := schemeL_none (by rw [HI.out, hi1])
    have hn5 : (schemeL R).length = 0 := by rw [hSE]; rfl
    have L5 : Lies w' w'.heap.size none (chCells (schemeL R)) := by rw [hSE]; exact Lies.empty _ _ _
    have hb5 : Below w'.heap.size w' w' := Below.refl _ _
    obtain ⟨w5, rfl⟩ : ∃ w5 : World, w5 = w' := ⟨_, rfl⟩
    have HK0 := Lib.hid hk0
    clear hi1 hSE hk0 HBB
    go_wp2_with fail
  case' neg =>
    obtain ⟨j, hj⟩ := Int.eq_ofNat_of_zero_le (show 0 ≤ i by omega)
    obtain rfl : bb = true := by rw [HBB.out]; simp; omega
    subst hj
    obtain ⟨k, hk0, hwk⟩ : ∃ k : Nat, k = j + 1 ∧ IntKind.i64.wrap ((j : Int) + 1) = (k : Int) := ⟨j + 1, rfl, by rw [IntWalk.i64_in _ (by omega)]; omega⟩
    have hRE : restL R = R.drop k := by unfold restL; rw [HI.out, hk0]; rfl
    have hkn : k ≤ R.length := by omega
    have hSE : schemeL R = lowCh (R.take j) := by unfold schemeL; rw [HI.out]; rfl
    have hj0 : (0 : Int) ≤ (j : Int) := Int.natCast_nonneg _
    have hjc : (j : Int) ≤ (c3 : Int) := by omega
    have hjl : (R.take j).length = j := by rw [List.length_take]; omega
    have LT3 := lies_take2 L3 j
    have HSE := Lib.hid hSE
    have HK0 := Lib.hid hk0
    clear hSE hk0 HBB
    go_wp2_with fail
    refine (refLower_any A3 j c3 (R.take j) _ LT3 hjl (by omega)).mono ?_
    rintro e w5 ⟨v5, rfl, ho5, hb5⟩
    rw [← HSE.out] at ho5
    obtain ⟨A5, c5, rfl, _, _, _⟩ := own_form ho5
    have L5 : Lies w5 w5.heap.size A5 (chCells (schemeL R)) := Lies.own ho5
    have hn5 : (schemeL R).length = (schemeL R).length := rfl
    clear ho5 LT3 hjl c0 c1
    have c0 : w5.cell? ⟨w.heap.size, 0, none⟩ = some (.string s) := (hb5.cell y3.lt).trans (y3.at_ 0)
    have c1 : w5.cell? ⟨w.heap.size, 1, none⟩ = some (.slice A m c) := (hb5.cell y3.lt).trans (y3.at_ 1)
    go_wp2_with fail
  all_goals
    have hbw5 : Below w.heap.size w w5 := below_next hbw3 (Nat.le_refl _) hb5
    have hz5 := hb5.size
    have y5 := y3.below hb5 y3.lt
    have L35 : Lies w5 w5.heap.size A3 (chCells R) := L3.next hb5 (Nat.le_refl _)
    refine (HS.out _ hbw5).mono ?_
    rintro e w8 ⟨D8, k8, rfl, hl8, hb8⟩
    have hz8 := hb8.size
    generalize hwK : w8.alloc (.cells #[.string (txtOf (schemeL R)), .slice D8 (runN (schemeL R)) k8] 24) = wk
    have b8k : Below w8.heap.size w8 wk := by rw [← hwK]; exact (Below.refl _ _).alloc (Nat.le_refl _) _
    have Y8 : Whole wk w8.heap.size 24 #[.string (txtOf (schemeL R)), .slice D8 (runN (schemeL R)) k8] := by rw [← hwK]; exact Whole.made _ _ _
    have b5k : Below w5.heap.size w5 wk := below_next hb8 (Nat.le_refl _) b8k
    have LR := Lib.hid (L35.next b5k (Nat.le_refl _))
    have LX := Lib.hid (hl8.next b8k (Nat.le_refl _))
    have LS := Lib.hid (L5.next b5k (Nat.le_refl _))
    have y8 := y5.below b5k y5.lt
    have HBF := Lib.hid (below_next hbw5 (Nat.le_refl _) b5k)
    have HRE := Lib.hid hRE
    have HN5 := Lib.hid hn5
    have KS : ∀ w', Below wk.heap.size wk w' → w'.cell? ⟨w.heap.size, 0, none⟩ = some (.string s) ∧ w'.cell? ⟨w.heap.size, 1, none⟩ = some (.slice A m c) ∧ w'.cell? ⟨w8.heap.size, 0, none⟩ = some (.string (txtOf (schemeL R))) ∧ w'.cell? ⟨w8.heap.size, 1, none⟩ = some (.slice D8 (runN (schemeL R)) k8) ∧ Below wk.heap.size wk w' := fun w' h =>
      ⟨(h.cell y8.lt).trans (y8.at_ 0), (h.cell y8.lt).trans (y8.at_ 1), (h.cell Y8.lt).trans (Y8.at_ 0), (h.cell Y8.lt).trans (Y8.at_ 1), h⟩
    have HKS := Lib.hid KS
    have F1 : Hid (∀ W, Below wk.heap.size wk W → Calls Try.prog 13 #[.agg #[.string s, .slice A m c]] W (TellsL R W)) := fun W hb => HR.out W (HBF.out.trans (hb.mono (by have := HBF.out.size; omega)))
    have F4 : Hid (∀ W, Below wk.heap.size wk W → Calls Try.prog 14 #[.agg #[.string s, .slice A m c]] W (TellsL (restL R) W)) := fun W hb => HE.out W (HBF.out.trans (hb.mono (by have := HBF.out.size; omega)))
    have F2 : Hid (∀ W D d E n e, Below wk.heap.size wk W → Lies W W.heap.size D (runCells (comp (R.map (·.2)))) → R.length = n → Lies wk wk.heap.size E (chCells R) → Calls Try.prog 12 #[.agg #[.string (txtOf R), .slice D (runN R) d], .slice E n e] W (SaysB (.bool true) W)) := fun W D d E n e hb h1 hn h => by
      subst hn
      exact isL_true R (Nat.le_trans (runN_le R) (by omega)) (by omega) W D d E e h1 (h.next hb (Nat.le_refl _))
    have F3 : Hid (∀ W E n e, Below wk.heap.size wk W → (schemeL R).length = n → Lies wk wk.heap.size E (chCells (schemeL R)) → Calls Try.prog 12 #[.agg #[.string (txtOf (schemeL R)), .slice D8 (runN (schemeL R)) k8], .slice E n e] W (SaysB (.bool true) W)) := fun W E n e hb hn h => by
      subst hn
      exact isL_true (schemeL R) (Nat.le_trans (runN_le _) (by omega)) (by omega) W D8 k8 E e (LX.out.next hb (Nat.le_refl _)) (h.next hb (Nat.le_refl _))
    have F5 : Hid (∀ W D d E n e, Below wk.heap.size wk W → Lies W W.heap.size D (runCells (comp ((restL R).map (·.2)))) → (restL R).length = n → Lies wk wk.heap.size E (chCells (restL R)) → Calls Try.prog 12 #[.agg #[.string (txtOf (restL R)), .slice D (runN (restL R)) d], .slice E n e] W (SaysB (.bool true) W)) := fun W D d E n e hb h1 hn h => by
      subst hn
      exact isL_true (restL R) (Nat.le_trans (runN_le _) (by omega)) (by omega) W D d E e h1 (h.next hb (Nat.le_refl _))
    clear hbw5 hz5 y5 L35 hl8 hb8 hz8 b8k b5k KS hRE hn5 L5 hb5 L3 HS HR HE HO c0 c1
    obtain ⟨c0, c1, x0, x1, _⟩ := HKS.out _ (Below.refl _ _)
    have hzR : k + (R.drop k).length = R.length := by rw [List.length_drop]; omega
    have hp0 : (0 : Int) ≤ (k : Int) := Int.natCast_nonneg _
    have hp1 : (k : Int) ≤ (R.length : Int) := by omega
    have hp2 : (R.length : Int) ≤ (c3 : Int) := by omega
    go_wp2_with fail
    clear hwK
    have HRZ : Hid (R.length = R.length) := rfl
    have HA : Hid (k ≠ c3 → ∃ ad, A3 = some ad) := fun h => by
      cases A3 with
      | none =>
        have := hA3 rfl
        omega
      | some ad => exact ⟨ad, rfl⟩
    clear hl3 hA3
    by_cases hkc : k = c3
    · subst hkc
      have LK : Hid (∀ E, Lies wk wk.heap.size E (chCells (restL R))) := by
        show ∀ E, Lies _ _ _ _
        intro E
        rw [HRE.out, List.drop_of_length_le (by omega)]
        exact Lies.empty _ _ _
      go_region_held3 (fun w' => w'.cell? ⟨w.heap.size, 0, none⟩ = some (.string s) ∧ w'.cell? ⟨w.heap.size, 1, none⟩ = some (.slice A m c) ∧ w'.cell? ⟨w8.heap.size, 0, none⟩ = some (.string (txtOf (schemeL R))) ∧ w'.cell? ⟨w8.heap.size, 1, none⟩ = some (.slice D8 (runN (schemeL R)) k8) ∧ Below wk.heap.size wk w')
        (first
          | exact HKS.out _ (Below.drew (Below.refl _ _))
          | exact HKS.out _ hK
          | (go_split_ands; exact HKS.out _ (by assumption)))
        (first
          | (go_at_call 13; refine (F1.out _ ?_).mono ?_; (go_split_ands; assumption); rintro e wa ⟨D1, k1, rfl, hd1, hba⟩; have HD1 := Lib.hid hd1; clear hd1; have hK : Below wk.heap.size wk wa := (by go_split_ands; exact below_next (by assumption) (Nat.le_refl _) hba))
          | (go_at_call_of 12 (D1); refine (F2.out _ D1 k1 _ _ _ ?_ HD1.out (by first | exact rfl | exact HRZ.out) LR.out).mono ?_; (go_split_ands; assumption); rintro e wb ⟨rfl, hbb⟩; have hK : Below wk.heap.size wk wb := (by go_split_ands; exact below_next (by assumption) (Nat.le_refl _) hbb))
          | (go_at_call_of 12 (D8); refine (F3.out _ _ _ _ ?_ (by first | exact HN5.out | exact rfl) LS.out).mono ?_; (go_split_ands; assumption); rintro e wc ⟨rfl, hbc⟩; have hK : Below wk.heap.size wk wc := (by go_split_ands; exact below_next (by assumption) (Nat.le_refl _) hbc))
          | (go_at_call 14; refine (F4.out _ ?_).mono ?_; (go_split_ands; assumption); rintro e wd ⟨D4, k4, rfl, hd4, hbd⟩; have HD4 := Lib.hid hd4; clear hd4; have hK : Below wk.heap.size wk wd := (by go_split_ands; exact below_next (by assumption) (Nat.le_refl _) hbd))
          | (go_at_call_of 12 (D4); refine (F5.out _ D4 k4 _ _ _ ?_ HD4.out ?_ ?_).mono ?_; (go_split_ands; assumption); (rw [HRE.out, List.length_drop] <;> omega); (first | exact LK.out | exact LK.out _); rintro e we ⟨rfl, hbe⟩; have hK : Below wk.heap.size wk we := (by go_split_ands; exact below_next (by assumption) (Nat.le_refl _) hbe)))
      all_goals
        go_wp2_with fail
        go_ret
        exact ⟨rfl, HBF.out.trans (hK.mono (by have := HBF.out.size; omega))⟩
    · obtain ⟨ad, rfl⟩ := HA.out hkc
      have LK : Hid (Lies wk wk.heap.size (some (ad.add (k * 2))) (chCells (restL R))) := by
        show Lies _ _ _ _
        rw [HRE.out]
        exact lies_drop2 LR.out k
      go_region_held3 (fun w' => w'.cell? ⟨w.heap.size, 0, none⟩ = some (.string s) ∧ w'.cell? ⟨w.heap.size, 1, none⟩ = some (.slice A m c) ∧ w'.cell? ⟨w8.heap.size, 0, none⟩ = some (.string (txtOf (schemeL R))) ∧ w'.cell? ⟨w8.heap.size, 1, none⟩ = some (.slice D8 (runN (schemeL R)) k8) ∧ Below wk.heap.size wk w')
        (first
          | exact HKS.out _ (Below.drew (Below.refl _ _))
          | exact HKS.out _ hK
          | (go_split_ands; exact HKS.out _ (by assumption)))
        (first
          | (go_at_call 13; refine (F1.out _ ?_).mono ?_; (go_split_ands; assumption); rintro e wa ⟨D1, k1, rfl, hd1, hba⟩; have HD1 := Lib.hid hd1; clear hd1; have hK : Below wk.heap.size wk wa := (by go_split_ands; exact below_next (by assumption) (Nat.le_refl _) hba))
          | (go_at_call_of 12 (D1); refine (F2.out _ D1 k1 _ _ _ ?_ HD1.out (by first | exact rfl | exact HRZ.out) LR.out).mono ?_; (go_split_ands; assumption); rintro e wb ⟨rfl, hbb⟩; have hK : Below wk.heap.size wk wb := (by go_split_ands; exact below_next (by assumption) (Nat.le_refl _) hbb))
          | (go_at_call_of 12 (D8); refine (F3.out _ _ _ _ ?_ (by first | exact HN5.out | exact rfl) LS.out).mono ?_; (go_split_ands; assumption); rintro e wc ⟨rfl, hbc⟩; have hK : Below wk.heap.size wk wc := (by go_split_ands; exact below_next (by assumption) (Nat.le_refl _) hbc))
          | (go_at_call 14; refine (F4.out _ ?_).mono ?_; (go_split_ands; assumption); rintro e wd ⟨D4, k4, rfl, hd4, hbd⟩; have HD4 := Lib.hid hd4; clear hd4; have hK : Below wk.heap.size wk wd := (by go_split_ands; exact below_next (by assumption) (Nat.le_refl _) hbd))
          | (go_at_call_of 12 (D4); refine (F5.out _ D4 k4 _ _ _ ?_ HD4.out ?_ ?_).mono ?_; (go_split_ands; assumption); (rw [HRE.out, List.length_drop] <;> omega); (first | exact LK.out | exact LK.out _); rintro e we ⟨rfl, hbe⟩; have hK : Below wk.heap.size wk we := (by go_split_ands; exact below_next (by assumption) (Nat.le_refl _) hbe)))
      all_goals
        go_wp2_with fail
        go_ret
        exact ⟨rfl, HBF.out.trans (hK.mono (by have := HBF.out.size; omega))⟩

end Go.Proofs.Ytdfpoinnajahiaa.mk
