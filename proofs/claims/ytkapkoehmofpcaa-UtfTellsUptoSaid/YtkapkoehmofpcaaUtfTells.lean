/-
  UtfTells, where what comes in is of bulk at most 1048576: what is repaired of any labelled text, byte by byte, with its origins, what is valid, and how many sequences there are, are as the page says.
  Conditions: none beside the bound that the statement itself names.
-/
import Derived.Test.YtkapkoehmofpcaaUtfBack
import Derived.Test.YtkapkoehmofpcaaUtfRef
import Derived.Test.YtkapkoehmofpcaaUtfRefRune
import Derived.Test.YtkapkoehmofpcaaMarkRefIs
namespace Go.Proofs.Ytkapkoehmofpcaa.mk
open Go.RowKit

def CntRel (bl : List UInt8) (i c : Value) : Prop :=
  ∃ k m : Nat, k ≤ bl.length ∧ i = .int .i64 (k : Int) ∧ c = .int .i64 (m : Int) ∧ cnt bl = m + cnt (bl.drop k)
theorem chCells_tail {w : World} {B : Nat} {ad : Addr} {l : List (UInt8 × Int)} (h : Lies w B (some ad) (chCells l)) (n : Nat) : Lies w B (some (ad.add (n * 2))) (chCells (l.drop n)) := by
  rw [chCells_drop]; exact h.drop _

set_option maxHeartbeats 2000000 in
set_option maxRecDepth 100000 in
theorem tells2_any (a : LT) (n : Int) (w : World) (ha : a.ok w w.heap.size) (hsz : a.s.size ≤ 1048576) :
    Calls Try.prog 4 #[a.v, .int .i64 n] w fun e w' => e = .returned (.bool true) ∧ Below w.heap.size w w' := by
  obtain ⟨s, A, m, c, rs⟩ := a
  obtain ⟨hl, hm, hm2, hs2⟩ := ha
  simp only at hl hm hm2 hs2 hsz
  show Calls Try.prog 4 #[.agg #[.string s, .slice A m c], .int .i64 n] w _
  have HM := Lib.hid hm
  clear hm
  have hin := InR.chars s.data.toList rs
  have hlen : (chars s.data.toList rs).length = s.size := by rw [chars_length, Array.length_toList]; rfl
  have hfst := chars_fst s.data.toList rs
  generalize hL : chars s.data.toList rs = L at *
  have HL := Lib.hid hL
  have hrl := rep_length L
  rw [hlen] at hrl
  have HIN := Lib.hid hin
  have HLN := Lib.hid hlen
  have HF := Lib.hid hfst
  have hsl : s.data.toList.length = s.size := by rw [Array.length_toList]; rfl
  have HSL := Lib.hid hsl
  clear hL hlen hfst hin hsl
  go_enter Try.func4, Try.ntmps4
  go_wp2_with fail
  refine (alive2_any _).mono ?_
  rintro e w1 ⟨rfl, hb1⟩
  simp only [World.size_alloc] at hb1
  have hz1 := hb1.size
  simp only [World.size_alloc] at hz1
  have y0 : Whole w1 w.heap.size 24 #[.string s, .slice A m c] := (Whole.made w _ _).below hb1 (Nat.lt_succ_self _)
  have c0 : w1.cell? ⟨w.heap.size, 0, none⟩ = some (.string s) := y0.at_ 0
  have c1 : w1.cell? ⟨w.heap.size, 1, none⟩ = some (.slice A m c) := y0.at_ 1
  have hl1 : Lies w1 w1.heap.size A (runCells rs) := ((hl.alloc (Nat.le_refl _) _).mono (Nat.le_succ _)).next hb1 (by simp)
  have hbw : Below w.heap.size w w1 := below_made hb1
  go_wp2_with fail
  refine (refOf_any s A m c rs _ hl1 HM.out (by omega) hm2).mono ?_
  rw [HL.out]
  rintro e w2 ⟨v2, rfl, ho2, hb2⟩
  obtain ⟨A2, c2, rfl, hA2, _, hc2⟩ := own_form ho2
  have y2 := y0.below hb2 y0.lt
  have d0 : w2.cell? ⟨w.heap.size, 0, none⟩ = some (.string s) := y2.at_ 0
  have d1 : w2.cell? ⟨w.heap.size, 1, none⟩ = some (.slice A m c) := y2.at_ 1
  have hbw2 : Below w.heap.size w w2 := hbw.trans (hb2.mono (by omega))
  have hl2 : Lies w2 w2.heap.size A (runCells rs) := hl1.next hb2 (Nat.le_refl _)
  have hL2 : Lies w2 w2.heap.size A2 (chCells L) := Lies.own ho2
  clear c0 c1 hl1 hb2 ho2 y0 hbw hb1
  go_wp2_with fail
  refine (next_any s _ (by omega)).mono ?_
  rintro e w' ⟨rfl, rfl⟩
  generalize hq : nx s.data.toList = q
  have HNX : Hid (nx (L.map (·.1)) = q) := by show _ = _; rw [HF.out]; exact hq
  clear hq
  go_wp2_with fail
  refine (refNext_any A2 s.size c2 L _ hL2 HLN.out (by omega)).mono ?_
  rw [HNX.out]
  rintro e w' ⟨rfl, rfl⟩
  obtain ⟨qa, qb⟩ := q
  go_wp2_with fail
  go_loop [11, 10] (CntRel s.data.toList) (fun i _ => s.size - (intOf i).toNat)
  case atStart => exact ⟨0, 0, Nat.zero_le _, rfl, rfl, by simp⟩
  case round =>
    obtain ⟨k, cc, hk, rfl, rfl, hcn⟩ := hrel
    rw [HSL.out] at hk
    have hcl := cnt_le s.data.toList
    rw [HSL.out] at hcl
    have hcc : cc ≤ s.size := by omega
    have HC := Lib.hid hcn
    clear hcn hcl
    by_cases hlt : k < s.size
    · cases A2 with
      | none => have := hA2 rfl; omega
      | some ad =>
        have hne : s.data.toList.drop k ≠ [] := by
          intro h
          have := congrArg List.length h
          rw [List.length_drop, HSL.out] at this
          simp at this
          omega
        have hb := nx_bd hne
        rw [List.length_drop, HSL.out] at hb
        have HMD : Hid ((L.drop k).map (·.1) = s.data.toList.drop k) := by show _ = _; rw [List.map_drop, HF.out]
        have HKL : Hid ((L.drop k).length = s.size - k) := by show _ = _; rw [List.length_drop, HLN.out]
        have HNE := Lib.hid hne
        clear hne
        have hkc : (k : Int) ≤ (c2 : Int) := by omega
        have hks : (k : Int) ≤ (s.size : Int) := by omega
        have hkc2 : ¬ c2 = k := by omega
        have hkc3 : (c2 == k) = false := by rw [beq_eq_false_iff_ne]; exact hkc2
        go_wp2_with fail
        refine (refNext_any (some (ad.add (k * 2))) (s.size - k) (c2 - k) (L.drop k) _ (chCells_tail hL2 k) HKL.out (by omega)).mono ?_
        rw [HMD.out]
        rintro e w' ⟨rfl, rfl⟩
        generalize hq : nx (s.data.toList.drop k) = q at *
        obtain ⟨x, ok⟩ := q
        simp only at hb
        have HX : Hid (cnt s.data.toList = cc + 1 + cnt (s.data.toList.drop (k + x))) := by
          show _ = _
          rw [HC.out, cnt_next HNE.out, hq]
          simp only [List.drop_drop]
          omega
        clear hq
        go_wp2_with fail
        go_round
        case rel => exact ⟨k + x, cc + 1, by rw [HSL.out]; omega, by go_num, by go_num, HX.out⟩
        case measure => simp [intOf]; omega
    · have HX : Hid (cc = cnt s.data.toList) := by
        show _ = _
        rw [HC.out, List.drop_of_length_le (by rw [HSL.out]; omega), cnt_nil]
        rfl
      go_wp2_with fail
      have HRP : Hid (∀ w', Below w2.heap.size w2 w' → Calls Try.prog 16 #[.agg #[.string s, .slice A m c]] w' (Tells ⟨((rep L).map (·.1)).toArray⟩ (comp ((rep L).map (·.2))) w')) := fun w' hb => by
        have h := repair_any s A m c rs w' (hl2.next hb (Nat.le_refl _)) HM.out (by omega) hm2
        rw [HL.out] at h
        exact h
      have HRR : Hid (∀ w', Below w2.heap.size w2 w' → Calls Try.prog 17 #[.slice A2 s.size c2] w' fun e w'' => ∃ v, e = .returned v ∧ w''.ownsRow w'.heap.size 62 2 v (rep L).length (chCells (rep L)) ∧ Below w'.heap.size w' w'') := fun w' hb => refRepair_any A2 s.size c2 L w' (hL2.next hb (Nat.le_refl _)) HLN.out hA2 hc2 HIN.out (by omega)
      have hq : (comp ((rep L).map (·.2))).length ≤ (rep L).length := by have := comp_length_le ((rep L).map (·.2)); rw [List.length_map] at this; exact this
      generalize rep L = R at *
      have HIS : Hid (isB (ByteArray.mk (R.map (·.1)).toArray).data.toList (comp (R.map (·.2))) R = true) := by
        show _ = _
        unfold isB
        rw [decide_eq_true_iff]
        exact ⟨rfl, rfl⟩
      have HVA : Hid (∀ w', Calls Try.prog 18 #[.string s] w' fun e w'' => e = .returned (.bool (validB s.data.toList)) ∧ w' = w'') := fun w' => valid_any s w' (by omega)
      have HVB : Hid (∀ w', Calls Try.prog 19 #[.string s] w' fun e w'' => e = .returned (.bool (validB s.data.toList)) ∧ Below w'.heap.size w' w'') := fun w' => refValid_any s w' (by omega)
      have HCA : Hid (∀ w', Calls Try.prog 20 #[.string s] w' fun e w'' => e = .returned (.int .i64 (cc : Int)) ∧ Below w'.heap.size w' w'') := fun w' => by
        have h := count_any s w' (by omega)
        rw [← HX.out] at h
        exact h
      generalize hT : (ByteArray.mk (R.map (·.1)).toArray) = T at *
      generalize hqs : comp (R.map (·.2)) = qs at *
      generalize hz : qs.length = z at *
      generalize hzr : R.length = zr at *
      generalize validB s.data.toList = vb at *
      have HQN := Lib.hid hz
      have HRN := Lib.hid hzr
      clear hT hqs hz hzr
      have KS : ∀ w', Below w2.heap.size w2 w' → w'.cell? ⟨w.heap.size, 0, none⟩ = some (.string s) ∧ w'.cell? ⟨w.heap.size, 1, none⟩ = some (.slice A m c) ∧ Below w2.heap.size w2 w' := fun w' h =>
        ⟨(h.cell y2.lt).trans (y2.at_ 0), (h.cell y2.lt).trans (y2.at_ 1), h⟩
      have HKS := Lib.hid KS
      have HB2 := Lib.hid hbw2
      have HC2 := Lib.hid hc2
      clear KS hl2 hL2 hbw2 hA2 hc2
      cases vb
      all_goals
        go_region_held3 (fun w' => w'.cell? ⟨w.heap.size, 0, none⟩ = some (.string s) ∧ w'.cell? ⟨w.heap.size, 1, none⟩ = some (.slice A m c) ∧ Below w2.heap.size w2 w')
          (first
            | exact HKS.out _ (Below.drew (Below.refl _ _))
            | (go_split_ands; exact HKS.out _ (by assumption))
            | (go_split_ands; exact HKS.out _ (below_next (by assumption) (Nat.le_refl _) hbP))
            | (go_split_ands; exact HKS.out _ (below_next (by assumption) (Nat.le_refl _) hbQ))
            | (go_split_ands; exact HKS.out _ (below_next (by assumption) (Nat.le_refl _) hbI))
            | (go_split_ands; exact HKS.out _ (below_next (by assumption) (Nat.le_refl _) hbV))
            | (go_split_ands; exact HKS.out _ (below_next (by assumption) (Nat.le_refl _) hbC))
            | (go_split_ands; exact HKS.out _ (below_next (by assumption) (Nat.le_refl _) hbR)))
          (first
            | (go_at_call 16; refine (HRP.out _ ?_).mono ?_; (go_split_ands; assumption); rintro e wP ⟨vP, rfl, hP, hbP⟩; rw [HQN.out] at hP; obtain ⟨AP, cP, rfl, _, _, _⟩ := own_form hP)
            | (go_at_call 17; refine (HRR.out _ ?_).mono ?_; (go_split_ands; first | assumption | exact below_next (by assumption) (Nat.le_refl _) hbP); rintro e wQ ⟨vQ, rfl, hQ, hbQ⟩; obtain ⟨AQ, cQ, rfl, _, _, _⟩ := own_form hQ)
            | (go_at_call 12; refine (refIs_any T AP z cP qs AQ zr cQ R _ ((Lies.own hP).next hbQ (Nat.le_refl _)) HQN.out (by omega) (Lies.own hQ) HRN.out (by omega)).mono ?_; rintro e wI ⟨rfl, hbI⟩; rw [HIS.out])
            | (go_at_call 18; refine (HVA.out _).mono ?_; rintro e w' ⟨rfl, rfl⟩)
            | (go_at_call 19; refine (HVB.out _).mono ?_; rintro e wV ⟨rfl, hbV⟩)
            | (go_at_call 20; refine (HCA.out _).mono ?_; rintro e wC ⟨rfl, hbC⟩)
            | (go_at_call 21; refine (rune_any n _).mono ?_; rintro e w' ⟨rfl, rfl⟩)
            | (go_at_call 22; refine (refRune_any n _).mono ?_; rintro e wR ⟨rfl, hbR⟩))
      all_goals
        have hbE : Below w2.heap.size w2 wR := by go_split_ands; first | assumption | exact below_next (by assumption) (Nat.le_refl _) hbR
        go_wp2_with fail
        go_ret
        refine ⟨?_, HB2.out.trans (hbE.mono (by have := HB2.out.size; omega))⟩
        first | rfl | exact ret_bool (by simp)

end Go.Proofs.Ytkapkoehmofpcaa.mk
namespace Go.Proofs.Ytkapkoehmofpcaa.utfTells
open Go.ChangeShapes Go.WideShapes Go.ChangeAt Go.RowKit Go.Proofs.Ytkapkoehmofpcaa.mk

theorem contract (H : Type) (enc : TypeId × Value → H) (W : World) (args : Array Value) (ds gs : List (DataW H)) (before : List MemPlace) (base : Nat)
    (hval : ∀ (j : Nat) t v, Try.f4.params[j]? = some t → args[j]? = some v → Value.okWide Try.prog W .any base t v)
    (hW : DataW.Whole enc Try.prog Try.f4.params.toList Rows.utfTellsSpec.vars false W args.toList ds gs before) (hk : Rows.uptoSmall H (ds ++ gs) = true) :
    Calls Try.prog 4 args W fun e W' => ∃ v, e = .returned v ∧ Rows.utfTellsSpec.post enc Try.prog Try.f4 false true false false W args v W' := by
  obtain ⟨p, q, hA0, hV, rfl, hfz, hnd⟩ := id hW
  have hA : DataW.TrodAll enc Try.prog W 0 (fun _ => true) true Try.f4.params.toList args.toList ds p := hA0
  rw [Try.params4] at hA hval
  obtain ⟨v0, vs0, d0, ds0, p0, q0, hargs, rfl, rfl, h0, r0⟩ := trodAll_cons hA
  obtain ⟨v1, vs1, d1, ds1, p1, q1, rfl, rfl, rfl, h1, r1⟩ := trodAll_cons r0
  obtain ⟨rfl, rfl, rfl⟩ := trodAll_nil r1
  obtain rfl : args = #[v0, v1] := by cases args; simp_all
  obtain ⟨rfl, rfl⟩ := trodVars_none hV
  have hbk := bulk_bound hk
  simp only [List.append_nil, Rows.uptoBulkAll] at hbk
  obtain ⟨n, rfl⟩ := okWide_int Try.underlying3 (hval 1 3 v1 rfl rfl)
  obtain ⟨a, rfl, hoka, _, _, hsa⟩ := open_str (hval 0 24 v0 rfl rfl) h0 (by omega)
  refine (tells2_any a n W hoka (by omega)).mono fun e W' ⟨he, hb⟩ => ?_
  subst he
  exact ⟨_, rfl, law_post (tb := 4) laidOut hW rfl ⟨rfl, rfl, rfl⟩ (by rw [Try.params4]; exact readable_all (by kernel_rfl)) rfl Try.underlying4 hb⟩

set_option maxRecDepth 100000 in
theorem lifted (os : Os) (started : os.Started) (H : Type) (enc : TypeId × Value → H) (F : Stop.Interp) :
    ReturnsInHanded {} Try.checked os 4 .any ((Rows.OpenSpec.upto Rows.utfTellsSpec).pre6 enc Try.prog Try.f4 Rows.utfTellsUptoRow.domain false) (((Rows.OpenSpec.upto Rows.utfTellsSpec).at F).post enc Try.prog Try.f4 false true false false) := by
  refine returnsInHanded_of_cond (C := Try.checked) (s := Rows.OpenSpec.upto Rows.utfTellsSpec) (k := Rows.uptoSmall) rfl own started (by kernel_rfl) Try.func4
    (OpenSpec.witness (enc := enc) (C := Try.checked) (s := Rows.OpenSpec.upto Rows.utfTellsSpec) (k := Rows.uptoSmall) rfl false ⟨#[], #[.agg #[.string .empty, .slice none 0 0], .int .i64 0], []⟩ 8 (by kernel_rfl) (by kernel_rfl) (by kernel_rfl)
      (x := ([.agg [.lit (.string []), .nil], .lit (.int .i64 0)], [], [])) (by kernel_rfl) rfl (by kernel_rfl)) ?_
  intro W base args ds gs before hval hW _ hk _
  exact contract H enc W args ds gs before base hval hW hk

theorem proved : Rows.UtfTellsUptoSaid :=
  OpenClaim.holds_of_cond 4 Try.f4 rfl rfl rfl rfl rfl rfl rfl ⟨rfl, rfl, rfl, rfl, rfl⟩ rfl rfl rfl rfl rfl (by kernel_rfl) Try.func4 (by kernel_rfl)
    (of_decide_eq_true (by kernel_rfl)) (by unfold Func.isWrapper; first | (rw [if_pos (by decide +kernel)]; kernel_rfl) | (rw [if_neg (by decide +kernel)]; exact ⟨rfl, rfl⟩))
    (fun os started H enc _ F => lifted os started H enc F)

end Go.Proofs.Ytkapkoehmofpcaa.utfTells
