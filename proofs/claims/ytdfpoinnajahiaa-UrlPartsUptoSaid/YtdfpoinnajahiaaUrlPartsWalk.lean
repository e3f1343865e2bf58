/-
  The walk of the statement UrlParts.
-/
import Derived.Test.YtdfpoinnajahiaaUrlParts
import Derived.Test.YtdfpoinnajahiaaUrlAlive
import Derived.Test.YtdfpoinnajahiaaUrlTellsWalk
import Derived.Deep.DeepCutAuto
import Derived.Deep.CutBlock
import Derived.Deep.RegionHeld3
namespace Go.Proofs.Ytdfpoinnajahiaa.mk
open Go.RowKit

def FirstRel (b : UInt8) (l : List (UInt8 × Int)) (v i : Value) : Prop :=
  ∃ k x : Nat, k ≤ l.length ∧ i = .int .i64 ((k : Int) - 1) ∧ v = .int .i64 (x : Int) ∧ x = k + firstN b (l.drop k)
theorem u8_same {b : UInt8} {n : Nat} (hn : n < 256) (h : b = UInt8.ofNat n) : ((b.toNat : Int) == (n : Int)) = true := by
  subst h; simp; omega
theorem u8_other {b : UInt8} {n : Nat} (hn : n < 256) (h : ¬ b = UInt8.ofNat n) : ((b.toNat : Int) == (n : Int)) = false := by
  rw [beq_eq_false_iff_ne]
  intro e
  apply h
  apply UInt8.toNat_inj.1
  simp
  omega
theorem parts_sizes (R : List (UInt8 × Int)) : (pathL R).length ≤ R.length ∧ (queryL R).length ≤ R.length ∧ (fragL R).length ≤ R.length := by
  unfold pathL queryL fragL
  simp only [List.length_take, List.length_drop]
  omega

set_option maxHeartbeats 2000000 in
set_option maxRecDepth 100000 in
theorem parts6_any (mx : Int) (a : LT) (w : World) (hmx : w.cell? ⟨0, 0, none⟩ = some (.int .i64 mx)) (ha : a.ok w w.heap.size) (hsz : a.s.size ≤ 1048576) :
    Calls Try.prog 4 #[a.v] w fun e w' => e = .returned (.bool true) ∧ Below w.heap.size w w' := by
  obtain ⟨R, hR⟩ : ∃ R, R = restL (readyL a.ch) := ⟨_, rfl⟩
  have hlenR : R.length ≤ 1048576 := by rw [hR]; exact Nat.le_trans (restL_length _) (Nat.le_trans (readyL_length _) (by rw [LT.ch_length]; exact hsz))
  have hinR : InR R := by rw [hR]; exact (readyL_in a.ch_in).drop _
  have HE : Hid (∀ W, Below w.heap.size w W → Calls Try.prog 14 #[.agg #[.string a.s, .slice a.A a.n a.c]] W (TellsL R W)) := fun W hb => by
    rw [hR]
    exact (rest_any a W (ha.next hb (Nat.le_refl _))).mono fun e w' h => tellsL_of h
  have HP : Hid (∀ W, Below w.heap.size w W → Calls Try.prog 15 #[.agg #[.string a.s, .slice a.A a.n a.c]] W (Tells3 (pathL R) (queryL R) (fragL R) W)) := fun W hb => by
    rw [hR]
    exact parts_any a mx W (ha.next hb (Nat.le_refl _)) (by omega) ((hb.cell (block_zero _ _ _ hmx)).trans hmx)
  have HO : Hid (∀ W D k, Lies W W.heap.size D (runCells (comp (R.map (·.2)))) → Calls Try.prog 8 #[.agg #[.string (txtOf R), .slice D (runN R) k]] W fun e w' => ∃ v, e = .returned v ∧ w'.ownsRow W.heap.size 36 2 v R.length (chCells R) ∧ Below W.heap.size W w') := fun W D k h => by
    have h2 := refOf_any (txtOf R) D (runN R) k (comp (R.map (·.2))) W h rfl (by rw [txtOf_size]; omega) (Nat.le_trans (runN_le R) (by omega))
    rw [txtOf_chars hinR, txtOf_size] at h2
    exact h2
  obtain ⟨hz1, hz2, hz3⟩ := parts_sizes R
  obtain ⟨P1, hP1⟩ : ∃ P, P = pathL R := ⟨_, rfl⟩
  obtain ⟨P2, hP2⟩ : ∃ P, P = queryL R := ⟨_, rfl⟩
  obtain ⟨P3, hP3⟩ : ∃ P, P = fragL R := ⟨_, rfl⟩
  rw [← hP1] at HP hz1
  rw [← hP2] at HP hz2
  rw [← hP3] at HP hz3
  have HP1 := Lib.hid hP1
  have HP2 := Lib.hid hP2
  have HP3 := Lib.hid hP3
  have HZ := Lib.hid (show P1.length ≤ 1048576 ∧ P2.length ≤ 1048576 ∧ P3.length ≤ 1048576 by omega)
  clear hR hinR ha hmx hP1 hP2 hP3 hz1 hz2 hz3
  obtain ⟨s, A, m, c, rs⟩ := a
  simp only at HE HP hsz
  show Calls Try.prog 4 #[.agg #[.string s, .slice A m c]] w _
  go_enter Try.func4, Try.ntmps4
  go_wp2_with fail
  refine (alive6_any _).mono ?_
  rintro e w1 ⟨rfl, hb1⟩
  simp only [World.size_alloc] at hb1
  have hz1 := hb1.size
  simp only [World.size_alloc] at hz1
  have y0 : Whole w1 w.heap.size 24 #[.string s, .slice A m c] := (Whole.made w _ _).below hb1 (Nat.lt_succ_self _)
  have c0 : w1.cell? ⟨w.heap.size, 0, none⟩ = some (.string s) := y0.at_ 0
  have c1 : w1.cell? ⟨w.heap.size, 1, none⟩ = some (.slice A m c) := y0.at_ 1
  have hbw : Below w.heap.size w w1 := below_made hb1
  go_wp2_with fail
  refine (HE.out _ hbw).mono ?_
  rintro e w2 ⟨A2, c2, rfl, hl2, hb2⟩
  have hz2 := hb2.size
  go_wp2_with fail
  refine (HO.out _ A2 c2 hl2).mono ?_
  rintro e w3 ⟨v3, rfl, ho3, hb3⟩
  obtain ⟨A3, c3, rfl, hA3, _, hc3⟩ := own_form ho3
  have hz3 := hb3.size
  have L3 := Lib.hid (Lies.own ho3)
  have b13 : Below w1.heap.size w1 w3 := below_next hb2 (Nat.le_refl _) hb3
  have y3 := y0.below b13 y0.lt
  have hbw3 : Below w.heap.size w w3 := hbw.trans (b13.mono (by omega))
  have HA3 : Hid (1 ≤ R.length → ∃ ad, A3 = some ad) := fun h => by
    cases A3 with
    | none => have := hA3 rfl; omega
    | some ad => exact ⟨ad, rfl⟩
  clear c0 c1 hb2 hb3 ho3 b13 y0 hbw hb1 hA3 hl2
  obtain ⟨n, hn⟩ : ∃ n, n = R.length := ⟨_, rfl⟩
  rw [← hn] at hlenR hc3 HA3 ⊢
  have HN := Lib.hid hn.symm
  clear hn
  have hw1 : IntKind.i64.wrap ((n : Int) - 1) = (n : Int) - 1 := IntWalk.i64_in _ (by omega)
  go_wp2_with fail
  go_loop [4, 6] (FirstRel 35 R) (fun _ i => (intOf i + 1).toNat)
  case atStart => exact ⟨n, n, by rw [HN.out]; exact Nat.le_refl _, rfl, rfl, by rw [List.drop_of_length_le (by rw [HN.out]; exact Nat.le_refl _)]; rfl⟩
  case round =>
    clear hw1
    obtain ⟨k, x, hk, e6, rfl, hx⟩ := hrel
    rw [HN.out] at hk
    have HX := Lib.hid hx
    clear hx
    rcases k with _ | k
    case succ =>
      have hkk : ((k + 1 : Nat) : Int) - 1 = (k : Int) := by omega
      rw [hkk] at e6
      subst e6
      clear hkk
      obtain ⟨ad, b, o, rfl, hb, hd1, hd2, HR⟩ := L3.out.ch (k := k) (by rw [HN.out]; omega)
      have hk0 : (0 : Int) ≤ (k : Int) := Int.natCast_nonneg _
      have hk1 : (k : Int) < (n : Int) := by omega
      have hwk : IntKind.i64.wrap ((k : Int) - 1) = (k : Int) - 1 := IntWalk.i64_in _ (by omega)
      by_cases hbx : b = 35
      · have hbb : ((b.toNat : Int) == 35) = true := u8_same (n := 35) (by decide) hbx
        have HX2 : Hid (k = k + firstN 35 (R.drop k)) := by
          show _ = _
          rw [firstN_step HR.out, if_pos hbx, Nat.add_zero]
        clear hbx
        go_wp2_with fail
        go_round
        case rel => exact ⟨k, k, by rw [HN.out]; omega, rfl, rfl, HX2.out⟩
        case measure => simp [intOf] <;> omega
      · have hbb : ((b.toNat : Int) == 35) = false := u8_other (n := 35) (by decide) hbx
        have HX2 : Hid (x = k + firstN 35 (R.drop k)) := by
          show _ = _
          rw [firstN_step HR.out, if_neg hbx, HX.out]
          omega
        clear hbx
        go_wp2_with fail
        go_round
        case rel => exact ⟨k, x, by rw [HN.out]; omega, rfl, rfl, HX2.out⟩
        case measure => simp [intOf] <;> omega
    case zero =>
      have hkk : ((0 : Nat) : Int) - 1 = -1 := rfl
      rw [hkk] at e6
      subst e6
      obtain ⟨h, rfl⟩ : ∃ h : Nat, h = x := ⟨_, rfl⟩
      have HH : Hid (h = firstN 35 R) := by show _ = _; have := HX.out; simpa using this
      have hhn : h ≤ n := by rw [HH.out, ← HN.out]; exact firstN_le _ _
      clear HX hkk hk
      have hw1 : IntKind.i64.wrap ((h : Int) - 1) = (h : Int) - 1 := IntWalk.i64_in _ (by omega)
      have HTL : Hid ((R.take h).length = h) := by show _ = _; rw [List.length_take, HN.out]; omega
      go_wp2_with fail
      go_loop [5, 7] (FirstRel 63 (R.take h)) (fun _ i => (intOf i + 1).toNat)
      case atStart => exact ⟨h, h, by rw [HTL.out]; exact Nat.le_refl _, rfl, rfl, by rw [List.drop_of_length_le (by rw [HTL.out]; exact Nat.le_refl _)]; rfl⟩
      case round =>
        clear hw1
        obtain ⟨k, x, hk, e6, rfl, hx⟩ := hrel
        rw [HTL.out] at hk
        have HX := Lib.hid hx
        clear hx
        rcases k with _ | k
        case succ =>
          have hkk : ((k + 1 : Nat) : Int) - 1 = (k : Int) := by omega
          rw [hkk] at e6
          subst e6
          clear hkk
          obtain ⟨ad, b, o, rfl, hb, hd1, hd2, HR⟩ := L3.out.ch (k := k) (by rw [HN.out]; omega)
          have HR2 : Hid ((R.take h)[k]? = some (b, o)) := by show _ = _; rw [List.getElem?_take, if_pos (by omega)]; exact HR.out
          have hk0 : (0 : Int) ≤ (k : Int) := Int.natCast_nonneg _
          have hk1 : (k : Int) < (n : Int) := by omega
          have hwk : IntKind.i64.wrap ((k : Int) - 1) = (k : Int) - 1 := IntWalk.i64_in _ (by omega)
          by_cases hbx : b = 63
          · have hbb : ((b.toNat : Int) == 63) = true := u8_same (n := 63) (by decide) hbx
            have HX2 : Hid (k = k + firstN 63 ((R.take h).drop k)) := by
              show _ = _
              rw [firstN_step HR2.out, if_pos hbx, Nat.add_zero]
            clear hbx
            go_wp2_with fail
            go_round
            case rel => exact ⟨k, k, by rw [HTL.out]; omega, rfl, rfl, HX2.out⟩
            case measure => simp [intOf] <;> omega
          · have hbb : ((b.toNat : Int) == 63) = false := u8_other (n := 63) (by decide) hbx
            have HX2 : Hid (x = k + firstN 63 ((R.take h).drop k)) := by
              show _ = _
              rw [firstN_step HR2.out, if_neg hbx, HX.out]
              omega
            clear hbx
            go_wp2_with fail
            go_round
            case rel => exact ⟨k, x, by rw [HTL.out]; omega, rfl, rfl, HX2.out⟩
            case measure => simp [intOf] <;> omega
        case zero =>
          have hkk : ((0 : Nat) : Int) - 1 = -1 := rfl
          rw [hkk] at e6
          subst e6
          obtain ⟨q, rfl⟩ : ∃ q : Nat, q = x := ⟨_, rfl⟩
          have HQ : Hid (q = firstN 63 (R.take h)) := by show _ = _; have := HX.out; simpa using this
          have hqh : q ≤ h := by rw [HQ.out]; exact Nat.le_trans (firstN_le _ _) (by rw [HTL.out]; exact Nat.le_refl _)
          have HPE1 : Hid (P1 = R.take q) := by
            show _ = _
            rw [HP1.out]
            unfold pathL
            rw [← HH.out, ← HQ.out, List.take_take, Nat.min_eq_left hqh]
          have HPE2 : Hid (P2 = (R.take h).drop (q + 1)) := by
            show _ = _
            rw [HP2.out]
            unfold queryL
            rw [← HH.out, ← HQ.out]
          have HPE3 : Hid (P3 = R.drop (h + 1)) := by
            show _ = _
            rw [HP3.out]
            unfold fragL
            rw [← HH.out]
          clear HX hkk hk
          obtain ⟨wd, rfl⟩ : ∃ wd : World, wd = w3 := ⟨_, rfl⟩
          go_upto_if 52 with (fail)
          go_cut [8] (fun s8 wx => (∃ E l e, s8 = .slice E l e ∧ P2.length = l ∧ Lies wd wd.heap.size E (chCells P2)) ∧ wx = wd)
          case first =>
            by_cases hlt : q < h
            · obtain ⟨ad, rfl⟩ := HA3.out (by omega)
              have hlt' : (q : Int) < (h : Int) := by omega
              obtain ⟨q1, hq1, hwq⟩ : ∃ q1 : Nat, q1 = q + 1 ∧ IntKind.i64.wrap ((q : Int) + 1) = (q1 : Int) := ⟨q + 1, rfl, by rw [IntWalk.i64_in _ (by omega)]; omega⟩
              have hp0 : (0 : Int) ≤ (q1 : Int) := Int.natCast_nonneg _
              have hp1 : (q1 : Int) ≤ (h : Int) := by omega
              have hp2 : (h : Int) ≤ (c3 : Int) := by omega
              have hp3 : (0 : Int) ≤ (h : Int) := Int.natCast_nonneg _
              have HL2 : Hid (P2 = (R.take h).drop q1) := by show _ = _; rw [HPE2.out, hq1]
              clear hq1
              by_cases hkc : q1 = c3
              · subst hkc
                have hz0 : Hid (P2.length = 0 ∧ h = q1) := by
                  show _ ∧ _
                  refine ⟨?_, by omega⟩
                  rw [HL2.out, List.length_drop, HTL.out]
                  omega
                go_wp2_with fail
                go_meet
                refine ⟨⟨_, _, _, rfl, ?_, ?_⟩, rfl⟩
                · rw [hz0.out.1] <;> (have := hz0.out.2; omega)
                · rw [List.eq_nil_of_length_eq_zero hz0.out.1]
                  exact Lies.empty _ _ _
              · go_wp2_with fail
                go_meet
                refine ⟨⟨_, _, _, rfl, ?_, ?_⟩, rfl⟩
                · rw [HL2.out, List.length_drop, HTL.out] <;> omega
                · rw [HL2.out]
                  exact lies_drop2 (lies_take2 L3.out h) q1
            · have hlt' : ¬ (q : Int) < (h : Int) := by omega
              have HE2 : Hid (P2 = []) := by show _ = _; rw [HPE2.out, List.drop_of_length_le (by rw [HTL.out]; omega)]
              go_wp2_with fail
              go_meet
              exact ⟨⟨none, 0, 0, rfl, by rw [HE2.out]; rfl, by rw [HE2.out]; exact Lies.empty _ _ _⟩, rfl⟩
          case rest =>
            obtain ⟨⟨E8, l8, e8, rfl, hl8, hE8⟩, hwx⟩ := hcut
            subst hwx
            obtain ⟨wv, rfl⟩ : ∃ wv : World, wv = wc := ⟨_, rfl⟩
            have HL8 := Lib.hid hl8
            have HE8 := Lib.hid hE8
            clear hl8 hE8
            go_upto_if 61 with (fail)
            go_cut [9] (fun s9 wx => (∃ E l e, s9 = .slice E l e ∧ P3.length = l ∧ Lies wv wv.heap.size E (chCells P3)) ∧ wx = wv)
            case first =>
              by_cases hlt : h < n
              · obtain ⟨ad, rfl⟩ := HA3.out (by omega)
                have hlt' : (h : Int) < (n : Int) := by omega
                obtain ⟨q1, hq1, hwq⟩ : ∃ q1 : Nat, q1 = h + 1 ∧ IntKind.i64.wrap ((h : Int) + 1) = (q1 : Int) := ⟨h + 1, rfl, by rw [IntWalk.i64_in _ (by omega)]; omega⟩
                have hp0 : (0 : Int) ≤ (q1 : Int) := Int.natCast_nonneg _
                have hp1 : (q1 : Int) ≤ (n : Int) := by omega
                have hp2 : (n : Int) ≤ (c3 : Int) := by omega
                have HL3 : Hid (P3 = R.drop q1) := by show _ = _; rw [HPE3.out, hq1]
                clear hq1
                by_cases hkc : q1 = c3
                · subst hkc
                  have hz0 : Hid (P3.length = 0 ∧ n = q1) := by
                    show _ ∧ _
                    refine ⟨?_, by omega⟩
                    rw [HL3.out, List.length_drop, HN.out]
                    omega
                  go_wp2_with fail
                  go_meet
                  refine ⟨⟨_, _, _, rfl, ?_, ?_⟩, rfl⟩
                  · rw [hz0.out.1] <;> (have := hz0.out.2; omega)
                  · rw [List.eq_nil_of_length_eq_zero hz0.out.1]
                    exact Lies.empty _ _ _
                · go_wp2_with fail
                  go_meet
                  refine ⟨⟨_, _, _, rfl, ?_, ?_⟩, rfl⟩
                  · rw [HL3.out, List.length_drop, HN.out] <;> omega
                  · rw [HL3.out]
                    exact lies_drop2 L3.out q1
              · have hlt' : ¬ (h : Int) < (n : Int) := by omega
                have HE3 : Hid (P3 = []) := by show _ = _; rw [HPE3.out, List.drop_of_length_le (by rw [HN.out]; omega)]
                go_wp2_with fail
                go_meet
                exact ⟨⟨none, 0, 0, rfl, by rw [HE3.out]; rfl, by rw [HE3.out]; exact Lies.empty _ _ _⟩, rfl⟩
            case rest =>
              obtain ⟨⟨E9, l9, e9, rfl, hl9, hE9⟩, hwx⟩ := hcut
              subst hwx
              obtain ⟨wu, rfl⟩ : ∃ wu : World, wu = wc := ⟨_, rfl⟩
              have HL9 := Lib.hid hl9
              have HE9 := Lib.hid hE9
              clear hl9 hE9
              have c0 : wu.cell? ⟨w.heap.size, 0, none⟩ = some (.string s) := y3.at_ 0
              have c1 : wu.cell? ⟨w.heap.size, 1, none⟩ = some (.slice A m c) := y3.at_ 1
              go_wp2_with fail
              refine (HP.out _ hbw3).mono ?_
              rintro e w4 ⟨D1, k1, D2, k2, D3, k3, rfl, hd1, hd2, hd3, hb4⟩
              clear c0 c1
              go_wp2_with fail
              generalize hw5 : ((w4.alloc (.cells #[.string (txtOf P1), .slice D1 (runN P1) k1] 24)).alloc (.cells #[.string (txtOf P2), .slice D2 (runN P2) k2] 24)).alloc (.cells #[.string (txtOf P3), .slice D3 (runN P3) k3] 24) = w5
              have Y1 : Whole w5 w4.heap.size 24 #[.string (txtOf P1), .slice D1 (runN P1) k1] := by rw [← hw5]; exact ((Whole.made _ _ _).alloc _).alloc _
              have Y2 : Whole w5 (w4.heap.size + 1) 24 #[.string (txtOf P2), .slice D2 (runN P2) k2] := by
                rw [← hw5]
                have hh := (Whole.made (w4.alloc (.cells #[.string (txtOf P1), .slice D1 (runN P1) k1] 24)) 24 #[.string (txtOf P2), .slice D2 (runN P2) k2]).alloc (.cells #[.string (txtOf P3), .slice D3 (runN P3) k3] 24)
                simp only [World.size_alloc] at hh
                exact hh
              have Y3 : Whole w5 (w4.heap.size + 1 + 1) 24 #[.string (txtOf P3), .slice D3 (runN P3) k3] := by
                rw [← hw5]
                have hh := Whole.made ((w4.alloc (.cells #[.string (txtOf P1), .slice D1 (runN P1) k1] 24)).alloc (.cells #[.string (txtOf P2), .slice D2 (runN P2) k2] 24)) 24 #[.string (txtOf P3), .slice D3 (runN P3) k3]
                simp only [World.size_alloc] at hh
                exact hh
              have hb45 : Below w4.heap.size w4 w5 := by rw [← hw5]; exact (((Below.refl _ _).alloc (Nat.le_refl _) _).alloc (by simp) _).alloc (by simp; omega) _
              clear hw5
              have K1 := Lib.hid (hd1.next hb45 (Nat.le_refl _))
              have K2 := Lib.hid (hd2.next hb45 (Nat.le_refl _))
              have K3 := Lib.hid (hd3.next hb45 (Nat.le_refl _))
              have hbu5 : Below wu.heap.size wu w5 := below_next hb4 (Nat.le_refl _) hb45
              have J1 : Hid (Lies w5 w5.heap.size A3 (chCells P1)) := by
                show Lies _ _ _ _
                rw [HPE1.out]
                exact (lies_take2 L3.out q).next hbu5 (Nat.le_refl _)
              have J2 := Lib.hid (HE8.out.next hbu5 (Nat.le_refl _))
              have J3 := Lib.hid (HE9.out.next hbu5 (Nat.le_refl _))
              have J4 : Hid (P1.length = q) := by
                show _ = _
                rw [HPE1.out, List.length_take, HN.out]
                omega
              have HBF := Lib.hid (below_next hbw3 (Nat.le_refl _) hbu5)
              have G1 : Hid (∀ W E l e, Below w5.heap.size w5 W → P1.length = l → Lies w5 w5.heap.size E (chCells P1) → Calls Try.prog 12 #[.agg #[.string (txtOf P1), .slice D1 (runN P1) k1], .slice E l e] W (SaysB (.bool true) W)) := fun W E l e hb hn h => by
                subst hn
                have hzz := HZ.out
                exact isL_true P1 (Nat.le_trans (runN_le _) (by omega)) (by omega) W D1 k1 E e (K1.out.next hb (Nat.le_refl _)) (h.next hb (Nat.le_refl _))
              have G2 : Hid (∀ W E l e, Below w5.heap.size w5 W → P2.length = l → Lies w5 w5.heap.size E (chCells P2) → Calls Try.prog 12 #[.agg #[.string (txtOf P2), .slice D2 (runN P2) k2], .slice E l e] W (SaysB (.bool true) W)) := fun W E l e hb hn h => by
                subst hn
                have hzz := HZ.out
                exact isL_true P2 (Nat.le_trans (runN_le _) (by omega)) (by omega) W D2 k2 E e (K2.out.next hb (Nat.le_refl _)) (h.next hb (Nat.le_refl _))
              have G3 : Hid (∀ W E l e, Below w5.heap.size w5 W → P3.length = l → Lies w5 w5.heap.size E (chCells P3) → Calls Try.prog 12 #[.agg #[.string (txtOf P3), .slice D3 (runN P3) k3], .slice E l e] W (SaysB (.bool true) W)) := fun W E l e hb hn h => by
                subst hn
                have hzz := HZ.out
                exact isL_true P3 (Nat.le_trans (runN_le _) (by omega)) (by omega) W D3 k3 E e (K3.out.next hb (Nat.le_refl _)) (h.next hb (Nat.le_refl _))
              clear hd1 hd2 hd3 hb4 hb45 hbu5
              generalize w4.heap.size = g at *
              have KS : ∀ w', Below w5.heap.size w5 w' → w'.cell? ⟨g, 0, none⟩ = some (.string (txtOf P1)) ∧ w'.cell? ⟨g, 1, none⟩ = some (.slice D1 (runN P1) k1) ∧ w'.cell? ⟨g + 1, 0, none⟩ = some (.string (txtOf P2)) ∧ w'.cell? ⟨g + 1, 1, none⟩ = some (.slice D2 (runN P2) k2) ∧ w'.cell? ⟨g + 1 + 1, 0, none⟩ = some (.string (txtOf P3)) ∧ w'.cell? ⟨g + 1 + 1, 1, none⟩ = some (.slice D3 (runN P3) k3) ∧ Below w5.heap.size w5 w' := fun w' hh =>
                ⟨(hh.cell Y1.lt).trans (Y1.at_ 0), (hh.cell Y1.lt).trans (Y1.at_ 1), (hh.cell Y2.lt).trans (Y2.at_ 0), (hh.cell Y2.lt).trans (Y2.at_ 1), (hh.cell Y3.lt).trans (Y3.at_ 0), (hh.cell Y3.lt).trans (Y3.at_ 1), hh⟩
              have HKS := Lib.hid KS
              have hq0 : (0 : Int) ≤ (q : Int) := Int.natCast_nonneg _
              have hq1 : (q : Int) ≤ (c3 : Int) := by omega
              obtain ⟨e10, e11, e20, e21, e30, e31, _⟩ := KS _ (Below.refl _ _)
              clear KS Y1 Y2 Y3
              go_region_held3 (fun w' => w'.cell? ⟨g, 0, none⟩ = some (.string (txtOf P1)) ∧ w'.cell? ⟨g, 1, none⟩ = some (.slice D1 (runN P1) k1) ∧ w'.cell? ⟨g + 1, 0, none⟩ = some (.string (txtOf P2)) ∧ w'.cell? ⟨g + 1, 1, none⟩ = some (.slice D2 (runN P2) k2) ∧ w'.cell? ⟨g + 1 + 1, 0, none⟩ = some (.string (txtOf P3)) ∧ w'.cell? ⟨g + 1 + 1, 1, none⟩ = some (.slice D3 (runN P3) k3) ∧ Below w5.heap.size w5 w')
                (first
                  | exact HKS.out _ (Below.drew (Below.refl _ _))
                  | exact HKS.out _ hK
                  | (go_split_ands; exact HKS.out _ (by assumption)))
                (first
                  | (go_at_call_of 12 (D1); refine (G1.out _ _ _ _ ?_ J4.out J1.out).mono ?_; (go_split_ands; assumption); rintro e wa ⟨rfl, hba⟩; have hK : Below w5.heap.size w5 wa := (by go_split_ands; exact below_next (by assumption) (Nat.le_refl _) hba))
                  | (go_at_call_of 12 (D2); refine (G2.out _ _ _ _ ?_ HL8.out J2.out).mono ?_; (go_split_ands; assumption); rintro e wb ⟨rfl, hbb⟩; have hK : Below w5.heap.size w5 wb := (by go_split_ands; exact below_next (by assumption) (Nat.le_refl _) hbb))
                  | (go_at_call_of 12 (D3); refine (G3.out _ _ _ _ ?_ HL9.out J3.out).mono ?_; (go_split_ands; assumption); rintro e wc ⟨rfl, hbc⟩; have hK : Below w5.heap.size w5 wc := (by go_split_ands; exact below_next (by assumption) (Nat.le_refl _) hbc)))
              all_goals
                go_wp2_with fail
                go_ret
                exact ⟨rfl, HBF.out.trans (hK.mono (by have := HBF.out.size; omega))⟩

end Go.Proofs.Ytdfpoinnajahiaa.mk
