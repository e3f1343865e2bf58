/-
  FoldLines, where what comes in is of bulk at most 1048576: each line's end is one byte, of the worst origin of what it was; no return is left.
  Conditions: none beside the bound that the statement itself names.
-/
import Derived.Test.YtcaehaikjgcamaaFoldAlive
import Derived.Test.YtcaehaikjgcamaaMarkRefOf
import Derived.Test.YtcaehaikjgcamaaMarkRefIs
import Derived.Test.YtcaehaikjgcamaaMarkArgs
namespace Go.Proofs.Ytcaehaikjgcamaa.mk
open Go.RowKit

def LinesRel (L : List (UInt8 × Int)) (n : Nat) (w0 : World) (v i : Value) (wr : World) : Prop :=
  ∃ (k : Nat) (pre : List (UInt8 × Int)), k ≤ n ∧ i = .int .i64 (k : Int) ∧ pre.length ≤ k ∧ linesR L = pre ++ linesR (L.drop k) ∧ wr.ownsRow w0.heap.size 30 2 v pre.length (chCells pre) ∧ Below w0.heap.size w0 wr
theorem drop_at {α : Type} {L : List α} {k : Nat} {x : α} (h : L[k]? = some x) : L.drop k = x :: L.drop (k + 1) := by
  obtain ⟨hk, hx⟩ := List.getElem?_eq_some_iff.1 h
  rw [List.drop_eq_getElem_cons hk, hx]
theorem u8_is {b : UInt8} {n : Nat} (hn : n < 256) (h : b = UInt8.ofNat n) : ((b.toNat : Int) == (n : Int)) = true := by
  subst h; simp; omega
theorem u8_no {b : UInt8} {n : Nat} (hn : n < 256) (h : ¬ b = UInt8.ofNat n) : ((b.toNat : Int) == (n : Int)) = false := by
  rw [beq_eq_false_iff_ne]
  intro e
  apply h
  apply UInt8.toNat_inj.1
  simp
  omega

set_option maxHeartbeats 2000000 in
set_option maxRecDepth 100000 in
theorem linesLaw_any (a : LT) (w : World) (ha : a.ok w w.heap.size) (hsz : a.s.size ≤ 1048576) :
    Calls Try.prog 4 #[a.v] w fun e w' => e = .returned (.bool true) ∧ Below w.heap.size w w' := by
  obtain ⟨s, A, m, c, rs⟩ := a
  obtain ⟨hl, hm, hm2, hs2⟩ := ha
  simp only at hl hm hm2 hs2 hsz
  show Calls Try.prog 4 #[.agg #[.string s, .slice A m c]] w _
  have HM := Lib.hid hm
  clear hm
  have hlen : (chars s.data.toList rs).length = s.size := by rw [chars_length, Array.length_toList]; rfl
  generalize hL : chars s.data.toList rs = L at *
  have HL := Lib.hid hL
  have HLN := Lib.hid hlen
  clear hL hlen
  go_enter Try.func4, Try.ntmps4
  go_wp2_with fail
  refine (alive3_any _).mono ?_
  rintro e w1 ⟨rfl, hb1⟩
  simp only [World.size_alloc] at hb1
  have hz1 := hb1.size
  simp only [World.size_alloc] at hz1
  have y0 : Whole w1 w.heap.size 24 #[.string s, .slice A m c] := (Whole.made w _ _).below hb1 (Nat.lt_succ_self _)
  have c0 : w1.cell? ⟨w.heap.size, 0, none⟩ = some (.string s) := y0.at_ 0
  have c1 : w1.cell? ⟨w.heap.size, 1, none⟩ = some (.slice A m c) := y0.at_ 1
  have hl1 : Lies w1 w1.heap.size A (runCells rs) := ((hl.alloc (Nat.le_refl _) _).mono (Nat.le_succ _)).next hb1 (by simp)
  have hbw : Below w.heap.size w w1 := below_made hb1
  go_wp2_with fail
  refine (refOf_any s A m c rs _ hl1 HM.out (by omega) hm2).mono ?_
  rw [HL.out]
  rintro e w2 ⟨v2, rfl, ho2, hb2⟩
  obtain ⟨A2, c2, rfl, hA2, _, hc2⟩ := own_form ho2
  have hl2 : Lies w2 w2.heap.size A (runCells rs) := hl1.next hb2 (Nat.le_refl _)
  have hL2 : Lies w2 w2.heap.size A2 (chCells L) := Lies.own ho2
  have y2 := y0.below hb2 y0.lt
  have hbw2 : Below w.heap.size w w2 := hbw.trans (hb2.mono (by omega))
  obtain ⟨i0, hi, hz0, hz1', hz2⟩ := info_parts ch_info
  clear c0 c1 hl1 hb2 ho2 y0 hbw hb1
  go_wp2_with fail
  go_loopw [4, 5] (LinesRel L s.size w2) (fun _ i _ => s.size - (intOf i).toNat)
  case atStart => exact ⟨0, [], Nat.zero_le _, rfl, Nat.le_refl _, by simp, World.ownsRow_nil _ _ _ _, Below.refl _ _⟩
  case round =>
    obtain ⟨k, pre, hk, rfl, hpk, hlr, hown, hbl⟩ := hrel
    have HLR := Lib.hid hlr
    have HOWN := Lib.hid hown
    have HBL := Lib.hid hbl
    have hws := hbl.size
    have hpl : pre.length ≤ 1048576 := by omega
    clear hlr
    obtain ⟨A4, c4, rfl, _, _, _⟩ := own_form hown
    by_cases hlt : k < s.size
    · obtain ⟨ad, b, o, rfl, hb, hc1, hc2, HR⟩ := (hL2.below hbl).ch (k := k) (by rw [HLN.out]; exact hlt)
      have hk0 : (0 : Int) ≤ (k : Int) := Int.natCast_nonneg _
      have hk1 : (k : Int) < (s.size : Int) := by omega
      have HDR := Lib.hid (drop_at HR.out)
      generalize hpz : pre.length = z at *
      have HPZ := Lib.hid hpz
      clear hpz hown hbl
      by_cases hb13 : b = 13
      · have e13 : ((b.toNat : Int) == 13) = true := u8_is (n := 13) (by decide) hb13
        by_cases hk2 : k + 1 < s.size
        · obtain ⟨ad', b2, o2, e, hb', hd1, hd2, HR2⟩ := (hL2.below HBL.out).ch (k := k + 1) (by rw [HLN.out]; exact hk2)
          injection e with e
          subst e
          have hk3 : (k : Int) + 1 < (s.size : Int) := by omega
          have HDR2 := Lib.hid (drop_at HR2.out)
          by_cases hb10 : b2 = 10
          · have e10 : ((b2.toNat : Int) == 10) = true := u8_is (n := 10) (by decide) hb10
            have HNX : Hid (linesR L = (pre ++ [(10, max o o2)]) ++ linesR (L.drop (k + 2))) := by
              show _ = _
              rw [HLR.out, HDR.out, HDR2.out, hb13, hb10, linesR_crlf, List.append_assoc]
              rfl
            clear hb13 hb10
            have hbd : (0 : Int) ≤ (k : Int) + 1 := by omega
            have hwk : IntKind.i64.wrap ((k : Int) + 1) = (k : Int) + 1 := IntWalk.i64_in _ (by omega)
            have hbk1 : (ad.add (k * 2)).block < w2.heap.size := by rw [addr_block]; exact hb
            have hbk2 : (ad.add ((k + 1) * 2)).block < w2.heap.size := by rw [addr_block]; exact hb
            have KS : ∀ w', Below w2.heap.size w2 w' → w'.cell? ⟨(ad.add (k * 2)).block, (ad.add (k * 2)).off + 1, none⟩ = some (.int .i64 o) ∧ w'.cell? ⟨(ad.add ((k + 1) * 2)).block, (ad.add ((k + 1) * 2)).off + 1, none⟩ = some (.int .i64 o2) ∧ Below w2.heap.size w2 w' := fun w' h => by
              have x1 : w'.cell? ⟨(ad.add (k * 2)).block, (ad.add (k * 2)).off + 1, none⟩ = wr.cell? ⟨(ad.add (k * 2)).block, (ad.add (k * 2)).off + 1, none⟩ := Eq.trans (h.cell (show (⟨(ad.add (k * 2)).block, (ad.add (k * 2)).off + 1, none⟩ : Addr).block < w2.heap.size from hbk1)) (Eq.symm (HBL.out.cell (show (⟨(ad.add (k * 2)).block, (ad.add (k * 2)).off + 1, none⟩ : Addr).block < w2.heap.size from hbk1)))
              have x2 : w'.cell? ⟨(ad.add ((k + 1) * 2)).block, (ad.add ((k + 1) * 2)).off + 1, none⟩ = wr.cell? ⟨(ad.add ((k + 1) * 2)).block, (ad.add ((k + 1) * 2)).off + 1, none⟩ := Eq.trans (h.cell (show (⟨(ad.add ((k + 1) * 2)).block, (ad.add ((k + 1) * 2)).off + 1, none⟩ : Addr).block < w2.heap.size from hbk2)) (Eq.symm (HBL.out.cell (show (⟨(ad.add ((k + 1) * 2)).block, (ad.add ((k + 1) * 2)).off + 1, none⟩ : Addr).block < w2.heap.size from hbk2)))
              exact ⟨x1.trans hc2, x2.trans hd2, h⟩
            have HKS := Lib.hid KS
            clear KS hbk1 hbk2
            go_wp2_with fail
            go_region_held3 (fun w' => w'.cell? ⟨(ad.add (k * 2)).block, (ad.add (k * 2)).off + 1, none⟩ = some (.int .i64 o) ∧ w'.cell? ⟨(ad.add ((k + 1) * 2)).block, (ad.add ((k + 1) * 2)).off + 1, none⟩ = some (.int .i64 o2) ∧ Below w2.heap.size w2 w')
              (first
                | exact HKS.out _ HBL.out.drew
                | exact HKS.out _ ((HBL.out.alloc (by omega) _).drew)
                | (go_split_ands; exact HKS.out _ (by assumption))
                | (go_split_ands; exact HKS.out _ (Below.alloc (by assumption) (by omega) _))
                | (exact HKS.out _ (((HBL.out.alloc (by omega) _).drew).grown hgrow (by simp; omega) (fun x hx => (HOWN.out.lt x hx).1))))
              (first
                | (refine step_append_lies _ (by rfl) _ _ _ (by rfl) w2.heap.size 30 i0 _ 2 16 Try.underlying26 hi hz0 hz1' hz2 rfl (by omega) (.slice A4 z c4) z _ (by rfl) ((HOWN.out.alloc _).drew)
                    ⟨wr.heap.size, 0, none⟩ 1 1 [.int .u8 10, .int .i64 (max o o2)] (by rfl) (by rfl) (World.news_of_block (cs := #[.int .u8 10, .int .i64 (max o o2)]) (t := 30) (fr := (0, 0)) (heap_alloc_new wr _)) (by simp [Value.oneCell'])
                    (by omega) (by simp only [maxLen]; omega) (by omega) (by simp; omega) (wr.heap.size + 1) (by simp) ?_; intro gg cap w1 hown1 hgrow hat hlt'))
            all_goals
              have hbl1 : Below w2.heap.size w2 w1 := (((HBL.out.alloc (by omega) _).drew).grown hgrow (by simp; omega) (fun x hx => (HOWN.out.lt x hx).1))
              clear hgrow hat hlt'
              go_wp2_with fail
              go_roundw
              case rel => exact ⟨k + 2, pre ++ [(10, max o o2)], by omega, by go_num, by rw [List.length_append, HPZ.out]; simp; omega, HNX.out, by rw [chCells_snoc, List.length_append, HPZ.out]; exact hown1, hbl1⟩
              case measure => simp [intOf]; omega
          · have e10 : ((b2.toNat : Int) == 10) = false := u8_no (n := 10) (by decide) hb10
            have HNX : Hid (linesR L = (pre ++ [(10, o)]) ++ linesR (L.drop (k + 1))) := by
              show _ = _
              rw [HLR.out, HDR.out, linesR_other, hb13, List.append_assoc]
              · rfl
              · rintro ⟨p, t', _, e2⟩
                rw [HDR2.out] at e2
                injection e2 with e2 _
                injection e2 with e2 _
                exact hb10 e2
            clear hb13 hb10
            go_wp2_with (at_builtin; refine wpList_append_own_at _ rfl _ _ 26 rfl w2.heap.size 30 i0 _ 2 16 Try.underlying26 hi hz0 hz1' hz2 rfl (by decide) (.slice A4 z c4) z _ rfl (HOWN.out.alloc _) ⟨wr.heap.size, 0, none⟩ 1 1 [.int .u8 10, .int .i64 o] rfl rfl (cells_new wr _ _) (by simp [Value.oneCell']) (by simp only [maxLen]; omega) (by omega) (by simp; omega) ?_)
            intro v' w1 hown1 hgrow _ _
            have hbl1 : Below w2.heap.size w2 w1 := (HBL.out.alloc (by omega) _).grown hgrow (by simp; omega) (fun x hx => (HOWN.out.lt x hx).1)
            clear hgrow
            go_wp2_with fail
            go_roundw
            case rel => exact ⟨k + 1, pre ++ [(10, o)], by omega, by go_num, by rw [List.length_append, HPZ.out]; simp; omega, HNX.out, by rw [chCells_snoc, List.length_append, HPZ.out]; exact hown1, hbl1⟩
            case measure => simp [intOf]; omega
        · have hk3 : ¬ (k : Int) + 1 < (s.size : Int) := by omega
          have HNX : Hid (linesR L = (pre ++ [(10, o)]) ++ linesR (L.drop (k + 1))) := by
            show _ = _
            rw [HLR.out, HDR.out, linesR_other, hb13, List.append_assoc]
            · rfl
            · rintro ⟨p, t', _, e2⟩
              rw [List.drop_of_length_le (by rw [HLN.out]; omega)] at e2
              cases e2
          clear hb13
          go_wp2_with (at_builtin; refine wpList_append_own_at _ rfl _ _ 26 rfl w2.heap.size 30 i0 _ 2 16 Try.underlying26 hi hz0 hz1' hz2 rfl (by decide) (.slice A4 z c4) z _ rfl (HOWN.out.alloc _) ⟨wr.heap.size, 0, none⟩ 1 1 [.int .u8 10, .int .i64 o] rfl rfl (cells_new wr _ _) (by simp [Value.oneCell']) (by simp only [maxLen]; omega) (by omega) (by simp; omega) ?_)
          intro v' w1 hown1 hgrow _ _
          have hbl1 : Below w2.heap.size w2 w1 := (HBL.out.alloc (by omega) _).grown hgrow (by simp; omega) (fun x hx => (HOWN.out.lt x hx).1)
          clear hgrow
          go_wp2_with fail
          go_roundw
          case rel => exact ⟨k + 1, pre ++ [(10, o)], by omega, by go_num, by rw [List.length_append, HPZ.out]; simp; omega, HNX.out, by rw [chCells_snoc, List.length_append, HPZ.out]; exact hown1, hbl1⟩
          case measure => simp [intOf]; omega
      · have e13 : ((b.toNat : Int) == 13) = false := u8_no (n := 13) (by decide) hb13
        have HNX : Hid (linesR L = (pre ++ [(b, o)]) ++ linesR (L.drop (k + 1))) := by
          show _ = _
          rw [HLR.out, HDR.out, linesR_other, List.append_assoc]
          · unfold lfB
            rw [if_neg hb13]
            rfl
          · rintro ⟨p, t', e1, _⟩
            exact hb13 e1
        clear hb13
        go_wp2_with (at_builtin; refine wpList_append_own_at _ rfl _ _ 26 rfl w2.heap.size 30 i0 _ 2 16 Try.underlying26 hi hz0 hz1' hz2 rfl (by decide) (.slice A4 z c4) z _ rfl (HOWN.out.alloc _) ⟨wr.heap.size, 0, none⟩ 1 1 [.int .u8 b.toNat, .int .i64 o] rfl rfl (cells_new wr _ _) (by simp [Value.oneCell']) (by simp only [maxLen]; omega) (by omega) (by simp; omega) ?_)
        intro v' w1 hown1 hgrow _ _
        have hbl1 : Below w2.heap.size w2 w1 := (HBL.out.alloc (by omega) _).grown hgrow (by simp; omega) (fun x hx => (HOWN.out.lt x hx).1)
        clear hgrow
        go_wp2_with fail
        go_roundw
        case rel => exact ⟨k + 1, pre ++ [(b, o)], by omega, by go_num, by rw [List.length_append, HPZ.out]; simp; omega, HNX.out, by rw [chCells_snoc, List.length_append, HPZ.out]; exact hown1, hbl1⟩
        case measure => simp [intOf]; omega
    · obtain rfl : k = s.size := by omega
      have HFIN : Hid (linesR L = pre) := by
        show _ = _
        rw [HLR.out, List.drop_of_length_le (by rw [HLN.out]; exact Nat.le_refl _), linesR, List.append_nil]
      have HYR : Hid (Whole wr w.heap.size 24 #[.string s, .slice A m c]) := y2.below hbl y2.lt
      have c0 : wr.cell? ⟨w.heap.size, 0, none⟩ = some (.string s) := HYR.out.at_ 0
      have c1 : wr.cell? ⟨w.heap.size, 1, none⟩ = some (.slice A m c) := HYR.out.at_ 1
      have HRL : Hid (∀ w', Below w2.heap.size w2 w' → Calls Try.prog 20 #[.agg #[.string s, .slice A m c]] w' (Tells ⟨((linesR L).map (·.1)).toArray⟩ (comp ((linesR L).map (·.2))) w')) := fun w' hb => by
        have h := lines_any s A m c rs w' (hl2.next hb (Nat.le_refl _)) HM.out (by omega) hm2
        rw [HL.out] at h
        exact h
      rw [HFIN.out] at HRL
      have HIS : Hid (isB (ByteArray.mk (pre.map (·.1)).toArray).data.toList (comp (pre.map (·.2))) pre = true) := by
        show _ = _
        unfold isB
        rw [decide_eq_true_iff]
        exact ⟨rfl, rfl⟩
      have hq : (comp (pre.map (·.2))).length ≤ pre.length := by have := comp_length_le (pre.map (·.2)); rw [List.length_map] at this; exact this
      generalize hT : (ByteArray.mk (pre.map (·.1)).toArray) = T at *
      generalize hqs : comp (pre.map (·.2)) = qs at *
      clear hT hqs
      go_wp2_with fail
      refine (HRL.out _ HBL.out).mono ?_
      rintro e w5 ⟨v5, rfl, ho5, hb5⟩
      obtain ⟨A5, c5, rfl, _, _, _⟩ := own_form ho5
      have hz5 := hb5.size
      go_wp2_with fail
      refine (refIs_any T A5 qs.length c5 qs A4 pre.length c4 pre _ (Lies.own ho5) rfl (by omega) ((Lies.own HOWN.out).next hb5 (Nat.le_refl _)) rfl (by omega)).mono ?_
      rw [HIS.out]
      rintro e w6 ⟨rfl, hb6⟩
      go_wp2_with fail
      go_ret
      exact ⟨rfl, hbw2.trans ((below_next (below_next HBL.out (Nat.le_refl _) hb5) (Nat.le_refl _) hb6).mono (by have := hbw2.size; omega))⟩

end Go.Proofs.Ytcaehaikjgcamaa.mk
namespace Go.Proofs.Ytcaehaikjgcamaa.foldLines
open Go.ChangeShapes Go.WideShapes Go.ChangeAt Go.RowKit Go.Proofs.Ytcaehaikjgcamaa.mk

theorem contract (H : Type) (enc : TypeId × Value → H) (W : World) (args : Array Value) (ds gs : List (DataW H)) (before : List MemPlace) (base : Nat)
    (hval : ∀ (j : Nat) t v, Try.f4.params[j]? = some t → args[j]? = some v → Value.okWide Try.prog W .any base t v)
    (hW : DataW.Whole enc Try.prog Try.f4.params.toList Rows.foldLinesSpec.vars false W args.toList ds gs before) (hk : Rows.uptoSmall H (ds ++ gs) = true) :
    Calls Try.prog 4 args W fun e W' => ∃ v, e = .returned v ∧ Rows.foldLinesSpec.post enc Try.prog Try.f4 false true false false W args v W' := by
  obtain ⟨p, q, hA0, hV, rfl, hfz, hnd⟩ := id hW
  have hA : DataW.TrodAll enc Try.prog W 0 (fun _ => true) true Try.f4.params.toList args.toList ds p := hA0
  rw [Try.params4] at hA hval
  obtain ⟨v0, vs0, d0, ds0, p0, q0, hargs, rfl, rfl, h0, r0⟩ := trodAll_cons hA
  obtain ⟨rfl, rfl, rfl⟩ := trodAll_nil r0
  obtain rfl : args = #[v0] := by cases args; simp_all
  obtain ⟨rfl, rfl⟩ := trodVars_none hV
  have hbk := bulk_bound hk
  simp only [List.append_nil, Rows.uptoBulkAll] at hbk
  obtain ⟨a, rfl, hoka, _, _, hsa⟩ := open_str (hval 0 24 v0 rfl rfl) h0 (by omega)
  refine (linesLaw_any a W hoka (by omega)).mono fun e W' ⟨he, hb⟩ => ?_
  subst he
  exact ⟨_, rfl, law_post (tb := 4) laidOut hW rfl ⟨rfl, rfl, rfl⟩ (by rw [Try.params4]; exact readable_all (by kernel_rfl)) rfl Try.underlying4 hb⟩

set_option maxRecDepth 100000 in
theorem lifted (os : Os) (started : os.Started) (H : Type) (enc : TypeId × Value → H) (F : Stop.Interp) :
    ReturnsInHanded {} Try.checked os 4 .any ((Rows.OpenSpec.upto Rows.foldLinesSpec).pre6 enc Try.prog Try.f4 Rows.foldLinesUptoRow.domain false) (((Rows.OpenSpec.upto Rows.foldLinesSpec).at F).post enc Try.prog Try.f4 false true false false) := by
  refine returnsInHanded_of_cond (C := Try.checked) (s := Rows.OpenSpec.upto Rows.foldLinesSpec) (k := Rows.uptoSmall) rfl own started (by kernel_rfl) Try.func4
    (OpenSpec.witness (enc := enc) (C := Try.checked) (s := Rows.OpenSpec.upto Rows.foldLinesSpec) (k := Rows.uptoSmall) rfl false ⟨#[], #[.agg #[.string .empty, .slice none 0 0]], []⟩ 8 (by kernel_rfl) (by kernel_rfl) (by kernel_rfl)
      (x := ([.agg [.lit (.string []), .nil]], [], [])) (by kernel_rfl) rfl (by kernel_rfl)) ?_
  intro W base args ds gs before hval hW _ hk _
  exact contract H enc W args ds gs before base hval hW hk

theorem proved : Rows.FoldLinesUptoSaid :=
  OpenClaim.holds_of_cond 4 Try.f4 rfl rfl rfl rfl rfl rfl rfl ⟨rfl, rfl, rfl, rfl, rfl⟩ rfl rfl rfl rfl rfl (by kernel_rfl) Try.func4 (by kernel_rfl)
    (of_decide_eq_true (by kernel_rfl)) (by unfold Func.isWrapper; first | (rw [if_pos (by decide +kernel)]; kernel_rfl) | (rw [if_neg (by decide +kernel)]; exact ⟨rfl, rfl⟩))
    (fun os started H enc _ F => lifted os started H enc F)

end Go.Proofs.Ytcaehaikjgcamaa.foldLines
