/-
  UtfBack, where what comes in is of bulk at most 1048576: what is repaired is valid, and stays when it is repaired again; what is valid stays; runes are valid.
  Conditions: none beside the bound that the statement itself names.
-/
import Derived.Test.YtkapkoehmofpcaaUtfAlive
import Derived.Test.YtkapkoehmofpcaaMarkTold
import Derived.Test.YtkapkoehmofpcaaMarkEq
import Derived.Test.YtkapkoehmofpcaaMarkRefOf
import Derived.Test.YtkapkoehmofpcaaMarkArgs
namespace Go.Proofs.Ytkapkoehmofpcaa.mk
open Go.RowKit

theorem chars_told {l : List (UInt8 × Int)} (h : InR l) : chars (l.map (·.1)) (comp (l.map (·.2))) = l := by
  refine chars_ext ?_ ?_
  · rw [chars_fst]
  · rw [chars_snd, List.length_map]
    have := origins_told h
    rw [List.length_map] at this
    exact this
theorem InR.chars (s : List UInt8) (rs : List (Int × Int)) : InR (mk.chars s rs) := by
  intro o ho
  rw [chars_snd] at ho
  exact origins_in _ _ o ho

set_option maxHeartbeats 2000000 in
set_option maxRecDepth 100000 in
theorem back_any (a : LT) (n : Int) (w : World) (ha : a.ok w w.heap.size) (hsz : a.s.size ≤ 1048576) :
    Calls Try.prog 5 #[a.v, .int .i64 n] w fun e w' => e = .returned (.bool true) ∧ Below w.heap.size w w' := by
  obtain ⟨s, A, m, c, rs⟩ := a
  obtain ⟨hl, hm, hm2, hs2⟩ := ha
  simp only at hl hm hm2 hs2 hsz
  show Calls Try.prog 5 #[.agg #[.string s, .slice A m c], .int .i64 n] w _
  have HM := Lib.hid hm
  clear hm
  have hin := InR.chars s.data.toList rs
  have hlen : (chars s.data.toList rs).length = s.size := by rw [chars_length, Array.length_toList]; rfl
  have hfst := chars_fst s.data.toList rs
  generalize hL : chars s.data.toList rs = L at *
  have HL := Lib.hid hL
  have hrl := rep_length L
  rw [hlen] at hrl
  have hrin := hin.rep
  have hrv := rep_valid L
  have hrr : rep (rep L) = rep L := rep_all (by unfold validB at hrv; simpa using hrv)
  have hct := chars_told hrin
  have hkeep : validB s.data.toList = true → rep L = L := fun h => rep_all (by rw [hfst]; unfold validB at h; simpa using h)
  generalize hR : rep L = R at *
  have HR := Lib.hid hR
  have HLN := Lib.hid hlen
  have HRV := Lib.hid hrv
  have HRR := Lib.hid hrr
  have HCT := Lib.hid hct
  have HK := Lib.hid hkeep
  clear hL hR hlen hfst hin hrin hrv hrr hct hkeep
  go_enter Try.func5, Try.ntmps5
  go_wp2_with fail
  refine (alive2_any _).mono ?_
  rintro e w1 ⟨rfl, hb1⟩
  simp only [World.size_alloc] at hb1
  have hz1 := hb1.size
  simp only [World.size_alloc] at hz1
  have y0 : Whole w1 w.heap.size 24 #[.string s, .slice A m c] := (Whole.made w _ _).below hb1 (Nat.lt_succ_self _)
  have c0 : w1.cell? ⟨w.heap.size, 0, none⟩ = some (.string s) := y0.at_ 0
  have c1 : w1.cell? ⟨w.heap.size, 1, none⟩ = some (.slice A m c) := y0.at_ 1
  have hl1 : Lies w1 w1.heap.size A (runCells rs) := ((hl.alloc (Nat.le_refl _) _).mono (Nat.le_succ _)).next hb1 (by simp)
  have hbw : Below w.heap.size w w1 := below_made hb1
  go_wp2_with fail
  refine (repair_any s A m c rs _ hl1 HM.out (by omega) hm2).mono ?_
  rw [HL.out, HR.out]
  rintro e w2 ⟨v2, rfl, ho2, hb2⟩
  obtain ⟨A2, c2, rfl, _, _, _⟩ := own_form ho2
  have hb2' := hb2
  clear c0 c1
  have hq : (comp (R.map (·.2))).length ≤ R.length := by have := comp_length_le (R.map (·.2)); rw [List.length_map] at this; exact this
  generalize hqs : comp (R.map (·.2)) = qs at *
  have HQS := Lib.hid hqs
  clear hqs
  generalize hqn : qs.length = z at *
  have HQN := Lib.hid hqn
  clear hqn
  generalize hT : (ByteArray.mk (R.map (·.1)).toArray) = T at *
  have hTl : T.data.toList = R.map (·.1) := by rw [← hT]
  have hTs : T.size = R.length := by rw [← hT]; show (R.map (·.1)).toArray.size = _; simp
  have HT := Lib.hid hT
  have HTL := Lib.hid hTl
  have hTs2 : T.size ≤ 3145728 := by omega
  clear hT hTl hTs
  go_wp2_with fail
  refine (repair_any T A2 z c2 qs _ (Lies.own (ho2.alloc _)) HQN.out (by omega) (by omega)).mono ?_
  rw [HTL.out, HCT.out, HRR.out, HQS.out, HT.out]
  rintro e w3 ⟨v3, rfl, ho3, hb3⟩
  rw [HQN.out] at ho3
  obtain ⟨A3, c3, rfl, _, _, _⟩ := own_form ho3
  simp only [World.size_alloc] at hb3 ho3
  have hz2 := hb2.size
  have hz3 := hb3.size
  simp only [World.size_alloc] at hz3
  go_wp2_with fail
  generalize hw4 : w3.alloc (.cells #[.string T, .slice A3 z c3] 24) = w4
  have hb34 : Below w3.heap.size w3 w4 := by rw [← hw4]; exact (Below.refl _ _).alloc (Nat.le_refl _) _
  have hz4 : w4.heap.size = w3.heap.size + 1 := by rw [← hw4]; simp
  have Y6 : Whole w4 w3.heap.size 24 #[.string T, .slice A3 z c3] := by rw [← hw4]; exact Whole.made _ _ _
  have Y5 : Whole w4 w2.heap.size 24 #[.string T, .slice A2 z c2] := ((Whole.made w2 _ _).below hb3 (Nat.lt_succ_self _)).below hb34 (by omega)
  have b24 : Below w2.heap.size w2 w4 := ((Below.refl _ _).alloc (Nat.le_refl _) _).trans ((hb3.mono (Nat.le_succ _)).trans (hb34.mono (by omega)))
  have b14 : Below w1.heap.size w1 w4 := below_next hb2 (Nat.le_refl _) b24
  have Y0 := y0.below b14 y0.lt
  have L2 : Lies w4 w4.heap.size A2 (runCells qs) := (Lies.own ho2).next b24 (Nat.le_refl _)
  have L3 : Lies w4 w4.heap.size A3 (runCells qs) := (Lies.own ho3).next hb34 (Nat.le_refl _)
  have L0 : Lies w4 w4.heap.size A (runCells rs) := hl1.next b14 (Nat.le_refl _)
  have hbw4 : Below w.heap.size w w4 := hbw.trans (b14.mono (by omega))
  have HTC : Hid (chars T.data.toList qs = R) := by show _ = _; rw [HTL.out]; exact HCT.out
  have HV1 : Hid (∀ w', Calls Try.prog 18 #[.string T] w' fun e w'' => e = .returned (.bool true) ∧ w' = w'') := fun w' => by
    have h := valid_any T w' (by omega)
    rw [HTL.out, HRV.out] at h
    exact h
  have HV2 : Hid (∀ w', Calls Try.prog 18 #[.string (runeB n)] w' fun e w'' => e = .returned (.bool true) ∧ w' = w'') := fun w' => by
    have h := valid_any (runeB n) w' (by have := runeB_le4 n; omega)
    rw [runeB_valid] at h
    exact h
  have HOA : Hid (∀ w', Below w4.heap.size w4 w' → Calls Try.prog 11 #[.agg #[.string T, .slice A3 z c3]] w' fun e w'' => ∃ v, e = .returned v ∧ w''.ownsRow w'.heap.size 62 2 v T.size (chCells R) ∧ Below w'.heap.size w' w'') := fun w' hb => by
    have h := refOf_any T A3 z c3 qs w' (L3.next hb (Nat.le_refl _)) HQN.out (by omega) (by omega)
    rw [HTC.out] at h
    exact h
  have HOB : Hid (∀ w', Below w4.heap.size w4 w' → Calls Try.prog 11 #[.agg #[.string T, .slice A2 z c2]] w' fun e w'' => ∃ v, e = .returned v ∧ w''.ownsRow w'.heap.size 62 2 v T.size (chCells R) ∧ Below w'.heap.size w' w'') := fun w' hb => by
    have h := refOf_any T A2 z c2 qs w' (L2.next hb (Nat.le_refl _)) HQN.out (by omega) (by omega)
    rw [HTC.out] at h
    exact h
  have HOC : Hid (∀ w', Below w4.heap.size w4 w' → Calls Try.prog 11 #[.agg #[.string s, .slice A m c]] w' fun e w'' => ∃ v, e = .returned v ∧ w''.ownsRow w'.heap.size 62 2 v s.size (chCells L) ∧ Below w'.heap.size w' w'') := fun w' hb => by
    have h := refOf_any s A m c rs w' (L0.next hb (Nat.le_refl _)) HM.out (by omega) hm2
    rw [HL.out] at h
    exact h
  have hRT : R.length = T.size := by have := congrArg List.length HTL.out; rw [List.length_map, Array.length_toList] at this; exact this.symm
  have HRT := Lib.hid hRT
  have KS : ∀ w', Below w4.heap.size w4 w' → w'.cell? ⟨w2.heap.size, 0, none⟩ = some (.string T) ∧ w'.cell? ⟨w2.heap.size, 1, none⟩ = some (.slice A2 z c2) ∧ w'.cell? ⟨w3.heap.size, 0, none⟩ = some (.string T) ∧ w'.cell? ⟨w3.heap.size, 1, none⟩ = some (.slice A3 z c3) ∧ Below w4.heap.size w4 w' := fun w' h =>
    ⟨(h.cell Y5.lt).trans (Y5.at_ 0), (h.cell Y5.lt).trans (Y5.at_ 1), (h.cell Y6.lt).trans (Y6.at_ 0), (h.cell Y6.lt).trans (Y6.at_ 1), h⟩
  have HKS := Lib.hid KS
  have d0 : w4.cell? ⟨w2.heap.size, 0, none⟩ = some (.string T) := Y5.at_ 0
  have d1 : w4.cell? ⟨w2.heap.size, 1, none⟩ = some (.slice A2 z c2) := Y5.at_ 1
  have d2 : w4.cell? ⟨w3.heap.size, 0, none⟩ = some (.string T) := Y6.at_ 0
  have d3 : w4.cell? ⟨w3.heap.size, 1, none⟩ = some (.slice A3 z c3) := Y6.at_ 1
  have HB4 := Lib.hid hbw4
  clear hRT KS hw4 hz4 hb34 ho2 ho3 hb2 hb2' hb3 b24 b14 L2 L3 L0 hbw4 y0
  go_region_held3 (fun w' => w'.cell? ⟨w2.heap.size, 0, none⟩ = some (.string T) ∧ w'.cell? ⟨w2.heap.size, 1, none⟩ = some (.slice A2 z c2) ∧ w'.cell? ⟨w3.heap.size, 0, none⟩ = some (.string T) ∧ w'.cell? ⟨w3.heap.size, 1, none⟩ = some (.slice A3 z c3) ∧ Below w4.heap.size w4 w')
    (first
      | exact HKS.out _ (Below.drew (Below.refl _ _))
      | (go_split_ands; exact HKS.out _ (by assumption))
      | (go_split_ands; exact HKS.out _ (below_next (by assumption) (Nat.le_refl _) hbO1))
      | (go_split_ands; exact HKS.out _ (below_next (by assumption) (Nat.le_refl _) hbO2))
      | (go_split_ands; exact HKS.out _ (below_next (by assumption) (Nat.le_refl _) hbS)))
    (first
      | (go_at_call_of 18 (runeB n); refine (HV2.out _).mono ?_; rintro e w' ⟨rfl, rfl⟩)
      | (go_at_call 18; refine (HV1.out _).mono ?_; rintro e w' ⟨rfl, rfl⟩)
      | (go_at_call 21; refine (rune_any n _).mono ?_; rintro e w' ⟨rfl, rfl⟩)
      | (go_at_call_of 11 A3; refine (HOA.out _ ?_).mono ?_; (go_split_ands; assumption); rintro e wo1 ⟨vo1, rfl, hO1, hbO1⟩; obtain ⟨AO1, cO1, rfl, _, _, _⟩ := own_form hO1)
      | (go_at_call_of 11 A2; refine (HOB.out _ ?_).mono ?_; (go_split_ands; assumption); rintro e wo2 ⟨vo2, rfl, hO2, hbO2⟩; obtain ⟨AO2, cO2, rfl, _, _, _⟩ := own_form hO2)
      | (go_at_call 23; refine (refSame_any AO1 AO2 T.size T.size cO1 cO2 R R _ ((Lies.own hO1).next hbO2 (Nat.le_refl _)) (Lies.own hO2) HRT.out HRT.out (by omega)).mono ?_; rintro e wS ⟨rfl, hbS⟩; rw [show decide (R = R) = true from decide_eq_true rfl]))
  have hbE : Below w4.heap.size w4 wS := by go_split_ands; first | assumption | exact below_next (by assumption) (Nat.le_refl _) hbS
  have HBE := Lib.hid hbE
  have KS2 : ∀ w', Below wS.heap.size wS w' → w'.cell? ⟨w2.heap.size, 0, none⟩ = some (.string T) ∧ w'.cell? ⟨w2.heap.size, 1, none⟩ = some (.slice A2 z c2) ∧ w'.cell? ⟨w.heap.size, 0, none⟩ = some (.string s) ∧ w'.cell? ⟨w.heap.size, 1, none⟩ = some (.slice A m c) ∧ Below wS.heap.size wS w' := fun w' h =>
    have k5 := Y5.below hbE Y5.lt
    have k0 := Y0.below hbE Y0.lt
    ⟨(h.cell k5.lt).trans (k5.at_ 0), (h.cell k5.lt).trans (k5.at_ 1), (h.cell k0.lt).trans (k0.at_ 0), (h.cell k0.lt).trans (k0.at_ 1), h⟩
  have HKS2 := Lib.hid KS2
  have f0 : wS.cell? ⟨w2.heap.size, 0, none⟩ = some (.string T) := (KS2 _ (Below.refl _ _)).1
  have f1 : wS.cell? ⟨w2.heap.size, 1, none⟩ = some (.slice A2 z c2) := (KS2 _ (Below.refl _ _)).2.1
  have f2 : wS.cell? ⟨w.heap.size, 0, none⟩ = some (.string s) := (KS2 _ (Below.refl _ _)).2.2.1
  have f3 : wS.cell? ⟨w.heap.size, 1, none⟩ = some (.slice A m c) := (KS2 _ (Below.refl _ _)).2.2.2.1
  clear hbE KS2
  cases hv : validB s.data.toList with
  | false =>
    have HV3 : Hid (∀ w', Calls Try.prog 18 #[.string s] w' fun e w'' => e = .returned (.bool false) ∧ w' = w'') := fun w' => by
      have h := valid_any s w' (by omega)
      rw [hv] at h
      exact h
    clear hv
    go_wp2_with fail
    go_quiet ((go_at_call 18; exact Calls.quiet_of_same ((HV3.out _).mono fun _ _ ⟨he, hw⟩ => ⟨he, hw.symm⟩)))
    go_wp2_with fail
    go_ret
    exact ⟨rfl, (HB4.out.trans (HBE.out.mono (by have := HB4.out.size; omega))).drewN _⟩
  | true =>
    have HV3 : Hid (∀ w', Calls Try.prog 18 #[.string s] w' fun e w'' => e = .returned (.bool true) ∧ w' = w'') := fun w' => by
      have h := valid_any s w' (by omega)
      rw [hv] at h
      exact h
    have HKE := Lib.hid (HK.out hv)
    clear hv
    go_wp2_with fail
    go_region_held3 (fun w' => w'.cell? ⟨w2.heap.size, 0, none⟩ = some (.string T) ∧ w'.cell? ⟨w2.heap.size, 1, none⟩ = some (.slice A2 z c2) ∧ w'.cell? ⟨w.heap.size, 0, none⟩ = some (.string s) ∧ w'.cell? ⟨w.heap.size, 1, none⟩ = some (.slice A m c) ∧ Below wS.heap.size wS w')
      (first
        | exact HKS2.out _ (Below.drew (Below.refl _ _))
        | (go_split_ands; exact HKS2.out _ (by assumption))
        | (go_split_ands; exact HKS2.out _ (below_next (by assumption) (Nat.le_refl _) hbP1))
        | (go_split_ands; exact HKS2.out _ (below_next (by assumption) (Nat.le_refl _) hbP2))
        | (go_split_ands; exact HKS2.out _ (below_next (by assumption) (Nat.le_refl _) hbZ)))
      (first
        | (go_at_call 18; refine (HV3.out _).mono ?_; rintro e w' ⟨rfl, rfl⟩)
        | (go_at_call_of 11 T; refine (HOB.out _ ?_).mono ?_; (go_split_ands; exact below_next HBE.out (Nat.le_refl _) (by assumption)); rintro e wp1 ⟨vp1, rfl, hP1, hbP1⟩; obtain ⟨AP1, cP1, rfl, _, _, _⟩ := own_form hP1)
        | (go_at_call_of 11 s; refine (HOC.out _ ?_).mono ?_; (go_split_ands; exact below_next HBE.out (Nat.le_refl _) (by assumption)); rintro e wp2 ⟨vp2, rfl, hP2, hbP2⟩; obtain ⟨AP2, cP2, rfl, _, _, _⟩ := own_form hP2)
        | (go_at_call 23; refine (refSame_any AP1 AP2 T.size s.size cP1 cP2 R L _ ((Lies.own hP1).next hbP2 (Nat.le_refl _)) (Lies.own hP2) HRT.out HLN.out (by omega)).mono ?_; rintro e wZ ⟨rfl, hbZ⟩; rw [show decide (R = L) = true from decide_eq_true HKE.out]))
    have hbF : Below wS.heap.size wS wZ := by go_split_ands; first | assumption | exact below_next (by assumption) (Nat.le_refl _) hbZ
    go_wp2_with fail
    go_ret
    exact ⟨rfl, HB4.out.trans ((below_next HBE.out (Nat.le_refl _) hbF).mono (by have := HB4.out.size; omega))⟩

end Go.Proofs.Ytkapkoehmofpcaa.mk
namespace Go.Proofs.Ytkapkoehmofpcaa.utfBack
open Go.ChangeShapes Go.WideShapes Go.ChangeAt Go.RowKit Go.Proofs.Ytkapkoehmofpcaa.mk

theorem contract (H : Type) (enc : TypeId × Value → H) (W : World) (args : Array Value) (ds gs : List (DataW H)) (before : List MemPlace) (base : Nat)
    (hval : ∀ (j : Nat) t v, Try.f5.params[j]? = some t → args[j]? = some v → Value.okWide Try.prog W .any base t v)
    (hW : DataW.Whole enc Try.prog Try.f5.params.toList Rows.utfBackSpec.vars false W args.toList ds gs before) (hk : Rows.uptoSmall H (ds ++ gs) = true) :
    Calls Try.prog 5 args W fun e W' => ∃ v, e = .returned v ∧ Rows.utfBackSpec.post enc Try.prog Try.f5 false true false false W args v W' := by
  obtain ⟨p, q, hA0, hV, rfl, hfz, hnd⟩ := id hW
  have hA : DataW.TrodAll enc Try.prog W 0 (fun _ => true) true Try.f5.params.toList args.toList ds p := hA0
  rw [Try.params5] at hA hval
  obtain ⟨v0, vs0, d0, ds0, p0, q0, hargs, rfl, rfl, h0, r0⟩ := trodAll_cons hA
  obtain ⟨v1, vs1, d1, ds1, p1, q1, rfl, rfl, rfl, h1, r1⟩ := trodAll_cons r0
  obtain ⟨rfl, rfl, rfl⟩ := trodAll_nil r1
  obtain rfl : args = #[v0, v1] := by cases args; simp_all
  obtain ⟨rfl, rfl⟩ := trodVars_none hV
  have hbk := bulk_bound hk
  simp only [List.append_nil, Rows.uptoBulkAll] at hbk
  obtain ⟨n, rfl⟩ := okWide_int Try.underlying3 (hval 1 3 v1 rfl rfl)
  obtain ⟨a, rfl, hoka, _, _, hsa⟩ := open_str (hval 0 24 v0 rfl rfl) h0 (by omega)
  refine (back_any a n W hoka (by omega)).mono fun e W' ⟨he, hb⟩ => ?_
  subst he
  exact ⟨_, rfl, law_post (tb := 4) laidOut hW rfl ⟨rfl, rfl, rfl⟩ (by rw [Try.params5]; exact readable_all (by kernel_rfl)) rfl Try.underlying4 hb⟩

set_option maxRecDepth 100000 in
theorem lifted (os : Os) (started : os.Started) (H : Type) (enc : TypeId × Value → H) (F : Stop.Interp) :
    ReturnsInHanded {} Try.checked os 5 .any ((Rows.OpenSpec.upto Rows.utfBackSpec).pre6 enc Try.prog Try.f5 Rows.utfBackUptoRow.domain false) (((Rows.OpenSpec.upto Rows.utfBackSpec).at F).post enc Try.prog Try.f5 false true false false) := by
  refine returnsInHanded_of_cond (C := Try.checked) (s := Rows.OpenSpec.upto Rows.utfBackSpec) (k := Rows.uptoSmall) rfl own started (by kernel_rfl) Try.func5
    (OpenSpec.witness (enc := enc) (C := Try.checked) (s := Rows.OpenSpec.upto Rows.utfBackSpec) (k := Rows.uptoSmall) rfl false ⟨#[], #[.agg #[.string .empty, .slice none 0 0], .int .i64 0], []⟩ 8 (by kernel_rfl) (by kernel_rfl) (by kernel_rfl)
      (x := ([.agg [.lit (.string []), .nil], .lit (.int .i64 0)], [], [])) (by kernel_rfl) rfl (by kernel_rfl)) ?_
  intro W base args ds gs before hval hW _ hk _
  exact contract H enc W args ds gs before base hval hW hk

theorem proved : Rows.UtfBackUptoSaid :=
  OpenClaim.holds_of_cond 5 Try.f5 rfl rfl rfl rfl rfl rfl rfl ⟨rfl, rfl, rfl, rfl, rfl⟩ rfl rfl rfl rfl rfl (by kernel_rfl) Try.func5 (by kernel_rfl)
    (of_decide_eq_true (by kernel_rfl)) (by unfold Func.isWrapper; first | (rw [if_pos (by decide +kernel)]; kernel_rfl) | (rw [if_neg (by decide +kernel)]; exact ⟨rfl, rfl⟩))
    (fun os started H enc _ F => lifted os started H enc F)

end Go.Proofs.Ytkapkoehmofpcaa.utfBack
