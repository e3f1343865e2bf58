/-
  The walk of the statement EntityPlain.
-/
import Derived.Test.YtagpdcgcjallhaaEntAlive
import Derived.Test.YtagpdcgcjallhaaSameTold
import Derived.Test.YtagpdcgcjallhaaCutT
import Derived.Deep.RegionHeld3
import Derived.Deep.DeepCutAuto
import Derived.Deep.CutBlock
import Derived.Deep.RegionWith
namespace Go.Proofs.Ytagpdcgcjallhaa.mk
open Go.RowKit

/-- what stands ahead of the first & stays -/
theorem decE_plain {l : List (UInt8 × Int)} (hin : InR l) (k : Nat) (hk : k ≤ l.length) (h : ∀ j, j < k → (l.map (·.1))[j]? ≠ some 38) : decE l = l.take k ++ decE (l.drop k) := by
  induction k generalizing l with
  | zero => simp
  | succ k ih =>
    cases l with
    | nil => simp at hk
    | cons x r =>
      obtain ⟨b, o⟩ := x
      have hb : b ≠ 38 := fun e => h 0 (by omega) (by rw [e]; rfl)
      have ho : 0 ≤ o := (hin o (by simp)).1
      have hr : InR r := InR.drop hin 1
      rw [decE_one (l := (b, o) :: r) (b := b) (o := o) rfl ho (by rw [List.map_cons]; exact refer_not hb)]
      rw [List.drop_succ_cons, List.drop_zero, List.take_succ_cons, List.drop_succ_cons, List.cons_append]
      rw [ih hr (by simp at hk; omega) (fun j hj => ?_)]
      · rfl
      · exact h (j + 1) (by omega)

/-- the first place of an &, or the length -/
def AmpAt (l : List UInt8) (v : Value) : Prop :=
  ∃ k : Nat, k ≤ l.length ∧ v = .int .i64 (k : Int) ∧ ∀ j, j < k → l[j]? ≠ some 38
def AmpEnd (l : List UInt8) (v : Value) : Prop :=
  ∃ k : Nat, k ≤ l.length ∧ v = .int .i64 (k : Int) ∧ (∀ j, j < k → l[j]? ≠ some 38) ∧ (k < l.length → l[k]? = some 38)

set_option maxHeartbeats 2000000 in
set_option maxRecDepth 100000 in
theorem plain8_any (a : LT) (w : World) (ha : a.ok w w.heap.size) (hsz : a.s.size ≤ 1048576) :
    Calls Try.prog 4 #[a.v] w fun e w' => e = .returned (.bool true) ∧ Below w.heap.size w w' := by
  have hin := a.ch_in
  have hlen := a.ch_length
  have hfst := a.ch_fst
  have hbs : a.bs = a.s.data.toList := rfl
  have hdl := decE_len a.ch
  rw [hlen] at hdl
  have hsl : a.s.data.toList.length = a.s.size := by rw [Array.length_toList]; rfl
  have HDEC : Hid (∀ W, Below w.heap.size w W → Calls Try.prog 11 #[.agg #[.string a.s, .slice a.A a.n a.c]] W (TellsL (decE a.ch) W)) := fun W hb =>
    (entDecode_any a.s a.A a.n a.c a.rs W (ha.next hb (Nat.le_refl _)).1 ha.2.1 (by omega) ha.2.2.1).mono fun e w' h => tellsL_of h
  obtain ⟨R, hR⟩ : ∃ R, R = decE a.ch := ⟨_, rfl⟩
  rw [← hR] at HDEC
  have hRl : R.length ≤ 1048576 := by rw [hR]; omega
  have hRin : InR R := by rw [hR]; exact hin.decE
  have HPL : Hid (∀ k : Nat, k ≤ a.s.size → (∀ j, j < k → a.s.data.toList[j]? ≠ some 38) → R.take k = a.ch.take k ∧ (k = a.s.size → R = a.ch)) := fun k hk h => by
    have h2 := decE_plain hin k (by omega) (fun j hj => by rw [hfst, hbs]; exact h j hj)
    rw [← hR] at h2
    have hk2 : (a.ch.take k).length = k := by rw [List.length_take]; omega
    refine ⟨?_, fun e => ?_⟩
    · rw [h2, List.take_left' hk2]
    · rw [h2, List.drop_of_length_le (by omega), List.take_of_length_le (by omega), decE_nil, List.append_nil]
  have HC1 : Hid (∀ k : Nat, k ≤ a.s.size → R.take k = a.ch.take k → (k : Int) ≤ (R.length : Int) → ∀ W D c, Lies W W.heap.size D (runCells (comp (R.map (·.2)))) → Calls Try.prog 18 #[.agg #[.string (txtOf R), .slice D (runN R) c], .int .i64 0, .int .i64 (k : Int)] W (TellsL (a.ch.take k) W)) := fun k hk hT hkR W D c h => by
    have h2 := cut_t (toldT R D c) 0 (k : Int) 0 k W (toldT_ok c h (by omega)) (by show min (max (0 : Int) 0) _ = _; omega) (by show min (max (k : Int) 0) ((txtOf R).size : Int) = _; rw [txtOf_size (l := R)]; omega)
    rw [toldT_ch hRin, List.drop_zero, hT] at h2
    exact h2.mono fun e w' h => tellsL_of h
  have HC2 : Hid (∀ k : Nat, k ≤ a.s.size → ∀ W, Below w.heap.size w W → Calls Try.prog 18 #[.agg #[.string a.s, .slice a.A a.n a.c], .int .i64 0, .int .i64 (k : Int)] W (TellsL (a.ch.take k) W)) := fun k hk W hb => by
    have h2 := cut_t a 0 (k : Int) 0 k W (ha.next hb (Nat.le_refl _)) (by omega) (by omega)
    rw [List.drop_zero] at h2
    exact h2.mono fun e w' h => tellsL_of h
  have HS1 : Hid (∀ k : Nat, ∀ W D c E d, Lies W W.heap.size D (runCells (comp ((a.ch.take k).map (·.2)))) → Lies W W.heap.size E (runCells (comp ((a.ch.take k).map (·.2)))) → Calls Try.prog 17 #[.agg #[.string (txtOf (a.ch.take k)), .slice D (runN (a.ch.take k)) c], .agg #[.string (txtOf (a.ch.take k)), .slice E (runN (a.ch.take k)) d]] W (SaysB (.bool true) W)) := fun k W D c E d h1 h2 =>
    same_told _ (by rw [List.length_take]; omega) W D c E d h1 h2
  have HS2 : Hid (R = a.ch → ∀ W D c, Below w.heap.size w W → Lies W W.heap.size D (runCells (comp (R.map (·.2)))) → Calls Try.prog 17 #[.agg #[.string (txtOf R), .slice D (runN R) c], .agg #[.string a.s, .slice a.A a.n a.c]] W (SaysB (.bool true) W)) := fun e W D c hb h => by
    refine (same_any (toldT R D c) a W (toldT_ok c h (by omega)) (ha.next hb (Nat.le_refl _))).mono ?_
    rintro e' w' ⟨rfl, hb'⟩
    refine ⟨ret_bool ?_, hb'⟩
    have h1 : (toldT R D c).bs = a.bs := by rw [← LT.ch_fst, ← LT.ch_fst, toldT_ch hRin, e]
    have h2 : (toldT R D c).os = a.os := by rw [← LT.ch_snd, ← LT.ch_snd, toldT_ch hRin, e]
    unfold sameB
    rw [decide_eq_true_iff]
    exact ⟨h1, h2⟩
  have HKR : Hid (∀ k : Nat, k ≤ a.s.size → R.take k = a.ch.take k → (k : Int) ≤ (R.length : Int)) := fun k hk hT => by
    have h := congrArg List.length hT
    rw [List.length_take, List.length_take] at h
    omega
  have HSL := Lib.hid hsl
  clear hsl hdl hbs hfst hlen hin hR hRl hRin ha
  generalize a.ch = L at *
  obtain ⟨s, A, n, c, rs⟩ := a
  simp only at HDEC HPL HC1 HC2 HS2 HKR HSL hsz
  show Calls Try.prog 4 #[.agg #[.string s, .slice A n c]] w _
  go_enter Try.func4, Try.ntmps4
  go_wp2_with fail
  refine (alive8_any _).mono ?_
  rintro e w1 ⟨rfl, hb1⟩
  simp only [World.size_alloc] at hb1
  have y0 : Whole w1 w.heap.size 24 #[.string s, .slice A n c] := (Whole.made w _ _).below hb1 (Nat.lt_succ_self _)
  have c0 : w1.cell? ⟨w.heap.size, 0, none⟩ = some (.string s) := y0.at_ 0
  have c1 : w1.cell? ⟨w.heap.size, 1, none⟩ = some (.slice A n c) := y0.at_ 1
  have hbw : Below w.heap.size w w1 := below_made hb1
  clear hb1
  go_upto_block 0 with fail
  go_cut [3] (fun s3 wx => AmpEnd s.data.toList s3 ∧ wx = w1)
  case first =>
    go_wp2_with fail
    go_loop [3] (AmpAt s.data.toList) (fun i => s.size - (intOf i).toNat)
    case atStart => exact ⟨0, Nat.zero_le _, rfl, fun j hj => by omega⟩
    case round =>
      obtain ⟨k, hk, rfl, hno⟩ := hrel
      rw [HSL.out] at hk
      have HNO := Lib.hid hno
      clear hno
      have hk0 : (0 : Int) ≤ (k : Int) := Int.natCast_nonneg _
      by_cases hlt : k < s.size
      · have hk1 : (k : Int) < (s.size : Int) := by omega
        have HSK : Hid (s.data.toList[k]? = some (s[k]'hlt)) := by
          show _ = _
          rw [List.getElem?_eq_getElem (by rw [HSL.out]; exact hlt)]
          rfl
        generalize hsk : s[k]'hlt = x at *
        by_cases hx : x = 38
        · have HE : Hid (AmpEnd s.data.toList (.int .i64 (k : Int))) := ⟨k, by rw [HSL.out]; omega, rfl, HNO.out, fun _ => by rw [HSK.out, hx]⟩
          have hx2 : ((x.toNat : Int) != 38) = false := by rw [hx]; rfl
          clear hx
          go_wp2_with fail
          go_meet
          exact ⟨HE.out, rfl⟩
        · have HN2 : Hid (∀ j, j < k + 1 → s.data.toList[j]? ≠ some 38) := fun j hj => by
            rcases Nat.lt_or_ge j k with h | h
            · exact HNO.out j h
            · obtain rfl : j = k := by omega
              rw [HSK.out]
              intro e
              injection e with e
              exact hx e
          have hx2 : ((x.toNat : Int) != 38) = true := by
            rw [bne_iff_ne]
            intro e
            exact hx (UInt8.toNat_inj.1 (by have : (38 : UInt8).toNat = 38 := rfl; omega))
          clear hx
          go_wp2_with fail
          go_round
          case rel => exact ⟨k + 1, by rw [HSL.out]; omega, by go_num, HN2.out⟩
          case measure => simp [intOf]; omega
      · have HE : Hid (AmpEnd s.data.toList (.int .i64 (k : Int))) := ⟨k, by rw [HSL.out]; omega, rfl, HNO.out, fun h => by rw [HSL.out] at h; exact absurd h hlt⟩
        go_wp2_with fail
        go_meet
        exact ⟨HE.out, rfl⟩
  case rest =>
    obtain ⟨⟨k, hk, rfl, hno, _⟩, hwx⟩ := hcut
    subst hwx
    obtain ⟨w1, rfl⟩ : ∃ w1 : World, w1 = wc := ⟨_, rfl⟩
    rw [HSL.out] at hk
    obtain ⟨hT, hE⟩ := HPL.out k hk hno
    have hkR := HKR.out k hk hT
    have HCU1 := Lib.hid (HC1.out k hk hT hkR)
    have HCU2 := Lib.hid (HC2.out k hk)
    have HSA1 := Lib.hid (HS1.out k)
    have HEE := Lib.hid hE
    clear hno hT hE hkR HC1 HC2 HS1 HPL HKR
    generalize L.take k = Q at *
    go_wp2_with fail
    refine (HDEC.out _ hbw).mono ?_
    rintro e w2 ⟨A2, c2, rfl, hl2, hb2⟩
    generalize hw3 : w2.alloc (.cells #[.string (txtOf R), .slice A2 (runN R) c2] 24) = w3
    have b23 : Below w2.heap.size w2 w3 := by rw [← hw3]; exact (Below.refl _ _).alloc (Nat.le_refl _) _
    have Y3 : Whole w3 w2.heap.size 24 #[.string (txtOf R), .slice A2 (runN R) c2] := by rw [← hw3]; exact Whole.made _ _ _
    have b13 : Below w1.heap.size w1 w3 := below_next hb2 (Nat.le_refl _) b23
    have y03 := y0.below b13 y0.lt
    have L3 : Lies w3 w3.heap.size A2 (runCells (comp (R.map (·.2)))) := hl2.next b23 (Nat.le_refl _)
    have hbw3 : Below w.heap.size w w3 := below_next hbw (Nat.le_refl _) b13
    clear c0 c1 hb2 hl2 b23 b13
    have HKS : Hid (∀ w', Below w3.heap.size w3 w' → w'.cell? ⟨w.heap.size, 0, none⟩ = some (.string s) ∧ w'.cell? ⟨w.heap.size, 1, none⟩ = some (.slice A n c) ∧ w'.cell? ⟨w2.heap.size, 0, none⟩ = some (.string (txtOf R)) ∧ w'.cell? ⟨w2.heap.size, 1, none⟩ = some (.slice A2 (runN R) c2) ∧ Below w3.heap.size w3 w') := fun w' h =>
      ⟨(h.cell y03.lt).trans (y03.at_ 0), (h.cell y03.lt).trans (y03.at_ 1), (h.cell Y3.lt).trans (Y3.at_ 0), (h.cell Y3.lt).trans (Y3.at_ 1), h⟩
    have d0 := y03.at_ 0
    have d1 := y03.at_ 1
    have e0 := Y3.at_ 0
    have e1 := Y3.at_ 1
    clear Y3 y03
    by_cases hks : k < s.size
    · have hks1 : (k : Int) < (s.size : Int) := by omega
      clear HS2 HEE
      go_wp2_with fail
      go_region_with (first
        | (go_at_call_of 18 (R); refine (HCU1.out _ A2 c2 ?_).mono ?_; (exact L3.next (by first | exact Below.refl _ _ | exact Below.drew (Below.refl _ _) | exact Below.drewN (Below.refl _ _) _) (Nat.le_refl _)); rintro e w4 ⟨A4, c4, rfl, hl4, hb4⟩; have B4 : Below w3.heap.size w3 w4 := (by first | exact hb4 | exact below_next (Below.drew (Below.refl _ _)) (Nat.le_refl _) hb4 | exact below_next (Below.drewN (Below.refl _ _) _) (Nat.le_refl _) hb4); obtain ⟨d04, d14, e04, e14, _⟩ := HKS.out _ B4; clear hb4)
        | (go_at_call 18; refine (HCU2.out _ (below_next hbw3 (Nat.le_refl _) (by first | exact B4 | exact Below.drew B4 | exact Below.drewN B4 _))).mono ?_; rintro e w5 ⟨A5, c5, rfl, hl5, hb5⟩; have hl45 : Lies w5 w5.heap.size A4 (runCells (comp (Q.map (·.2)))) := (by first | exact hl4.next hb5 (Nat.le_refl _) | exact (hl4.next (Below.drew (Below.refl _ _)) (Nat.le_refl _)).next hb5 (Nat.le_refl _) | exact (hl4.next (Below.drewN (Below.refl _ _) _) (Nat.le_refl _)).next hb5 (Nat.le_refl _)); have B5 : Below w3.heap.size w3 w5 := (by first | exact below_next B4 (Nat.le_refl _) hb5 | exact below_next (Below.drew B4) (Nat.le_refl _) hb5 | exact below_next (Below.drewN B4 _) (Nat.le_refl _) hb5); obtain ⟨d05, d15, e05, e15, _⟩ := HKS.out _ B5; clear hb5)
        | (go_at_call 17; refine (HSA1.out _ A4 c4 A5 c5 ?_ ?_).mono ?_; (exact hl45.next (by first | exact Below.refl _ _ | exact Below.drew (Below.refl _ _) | exact Below.drewN (Below.refl _ _) _) (Nat.le_refl _)); (exact hl5.next (by first | exact Below.refl _ _ | exact Below.drew (Below.refl _ _) | exact Below.drewN (Below.refl _ _) _) (Nat.le_refl _)); rintro e w6 ⟨rfl, hb6⟩; have B6 : Below w3.heap.size w3 w6 := (by first | exact below_next B5 (Nat.le_refl _) hb6 | exact below_next (Below.drew B5) (Nat.le_refl _) hb6 | exact below_next (Below.drewN B5 _) (Nat.le_refl _) hb6); obtain ⟨d06, d16, e06, e16, _⟩ := HKS.out _ B6; clear hb6))
      all_goals
        go_wp2_with fail
        go_ret
        exact ⟨rfl, below_next hbw3 (Nat.le_refl _) (by first | exact B6 | exact Below.drew B6 | exact Below.drewN B6 _)⟩
    · have hks1 : ¬ (k : Int) < (s.size : Int) := by omega
      have HSA2 := Lib.hid (HS2.out (HEE.out (by omega)))
      go_wp2_with fail
      go_region_held3 (fun w' => w'.cell? ⟨w.heap.size, 0, none⟩ = some (.string s) ∧ w'.cell? ⟨w.heap.size, 1, none⟩ = some (.slice A n c) ∧ w'.cell? ⟨w2.heap.size, 0, none⟩ = some (.string (txtOf R)) ∧ w'.cell? ⟨w2.heap.size, 1, none⟩ = some (.slice A2 (runN R) c2) ∧ Below w3.heap.size w3 w')
        (first
          | exact HKS.out _ (Below.drew (Below.refl _ _))
          | (go_split_ands; exact HKS.out _ (by assumption))
          | (go_split_ands; exact HKS.out _ (below_next (by assumption) (Nat.le_refl _) hb4))
          | (go_split_ands; exact HKS.out _ (below_next (by assumption) (Nat.le_refl _) hb5))
          | (go_split_ands; exact HKS.out _ (below_next (by assumption) (Nat.le_refl _) hb6))
          | (go_split_ands; exact HKS.out _ (below_next (by assumption) (Nat.le_refl _) hb7)))
        (first
          | (go_at_call_of 18 (R); refine (HCU1.out _ A2 c2 ?_).mono ?_; (go_split_ands; exact L3.next (by assumption) (Nat.le_refl _)); rintro e w4 ⟨A4, c4, rfl, hl4, hb4⟩)
          | (go_at_call 18; refine (HCU2.out _ ?_).mono ?_; (go_split_ands; exact below_next hbw3 (Nat.le_refl _) (by assumption)); rintro e w5 ⟨A5, c5, rfl, hl5, hb5⟩; have hl45 := hl4.next hb5 (Nat.le_refl _))
          | (go_at_call_of 17 (R); refine (HSA2.out _ A2 c2 ?_ ?_).mono ?_; (go_split_ands; exact below_next hbw3 (Nat.le_refl _) (by assumption)); (go_split_ands; exact L3.next (by assumption) (Nat.le_refl _)); rintro e w7 ⟨rfl, hb7⟩)
          | (go_at_call 17; refine (HSA1.out _ A4 c4 A5 c5 hl45 hl5).mono ?_; rintro e w6 ⟨rfl, hb6⟩))
      all_goals
        go_wp2_with fail
        go_ret
        exact ⟨rfl, by go_split_ands; exact below_next hbw3 (Nat.le_refl _) (by assumption)⟩

end Go.Proofs.Ytagpdcgcjallhaa.mk
