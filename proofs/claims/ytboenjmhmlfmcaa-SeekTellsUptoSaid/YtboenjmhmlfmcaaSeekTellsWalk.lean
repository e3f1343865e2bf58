/-
  The walk of the statement SeekTells.
-/
import Derived.Test.YtboenjmhmlfmcaaSeekAlive
import Derived.Test.YtboenjmhmlfmcaaSeekRef
import Derived.Test.YtboenjmhmlfmcaaSeekRefIdx
import Derived.Deep.DeepCutAuto
import Derived.Deep.CutBlock
import Derived.Deep.RegionHeld3
namespace Go.Proofs.Ytboenjmhmlfmcaa.mk
open Go.RowKit

/-- as far as k bytes go, they are the same, A to Z as a to z -/
def AgreeTo (s p : List UInt8) (k : Nat) : Prop := p.length ≤ s.length ∧ (s.map lowB).take k = (p.map lowB).take k
theorem agreeTo_next {s p : List UInt8} {k : Nat} {x y : UInt8} (h : AgreeTo s p k) (hx : s[k]? = some x) (hy : p[k]? = some y) : (lowB x = lowB y → AgreeTo s p (k + 1)) ∧ (lowB x ≠ lowB y → beginsB lowB s p = false) := by
  obtain ⟨h1, h2⟩ := h
  have ex : (s.map lowB).take (k + 1) = (s.map lowB).take k ++ [lowB x] := take_next (by rw [List.getElem?_map, hx]; rfl)
  have ey : (p.map lowB).take (k + 1) = (p.map lowB).take k ++ [lowB y] := take_next (by rw [List.getElem?_map, hy]; rfl)
  refine ⟨fun e => ⟨h1, by rw [ex, ey, h2, e]⟩, fun e => ?_⟩
  have hk : k < p.length := (List.getElem?_eq_some_iff.1 hy).1
  unfold beginsB
  rw [decide_eq_true h1, Bool.true_and, beq_eq_false_iff_ne]
  intro e2
  have e3 : ((s.map lowB).take p.length).take (k + 1) = (p.map lowB).take (k + 1) := by rw [e2]
  rw [List.take_take, Nat.min_eq_left (by omega), ex, ey, h2] at e3
  have := List.append_cancel_left e3
  simp at this
  exact e this
theorem agreeTo_all {s p : List UInt8} (h : AgreeTo s p p.length) : beginsB lowB s p = true := by
  obtain ⟨h1, h2⟩ := h
  unfold beginsB
  rw [decide_eq_true h1, Bool.true_and, beq_iff_eq, h2, List.take_of_length_le (by simp)]
def LowRel1 (s p : List UInt8) (w0 : World) (b i : Value) (wr : World) : Prop :=
  ∃ (k : Nat) (v : Bool), k ≤ p.length ∧ i = .int .i64 (k : Int) ∧ b = .bool v ∧ (v = true → AgreeTo s p k) ∧ (v = false → beginsB lowB s p = false) ∧ Below w0.heap.size w0 wr
def EachRel (m : Nat) (w0 : World) (i : Value) (wr : World) : Prop :=
  ∃ k : Nat, k ≤ m ∧ i = .int .i64 (k : Int) ∧ Below w0.heap.size w0 wr

set_option maxHeartbeats 2000000 in
set_option maxRecDepth 100000 in
theorem tells4_any (mx : Int) (a : LT) (p : ByteArray) (f : Int) (y : ByteArray) (w : World) (hmx : w.cell? ⟨0, 0, none⟩ = some (.int .i64 mx)) (hok : a.ok w w.heap.size) (hs : a.s.size ≤ 1048576) (hp : p.size ≤ 1048576) (hy : y.size ≤ 1048576) :
    Calls Try.prog 3 #[a.v, .string p, .int .i64 f, .string y] w fun e w' => e = .returned (.bool true) ∧ Below w.heap.size w w' := by
  have HOK := Lib.hid hok
  have HMX := Lib.hid hmx
  clear hok hmx
  have hsl : a.s.data.toList.length = a.s.size := by rw [Array.length_toList]; rfl
  have HSL := Lib.hid hsl
  have hpl : p.data.toList.length = p.size := by rw [Array.length_toList]; rfl
  have HPL := Lib.hid hpl
  clear hsl hpl
  unfold LT.v
  go_enter Try.func3, Try.ntmps3
  go_wp2_with fail
  generalize hw0 : w.alloc (.cells #[.string a.s, .slice a.A a.n a.c] 24) = w0
  have y0 : Whole w0 w.heap.size 24 #[.string a.s, .slice a.A a.n a.c] := by rw [← hw0]; exact Whole.made w _ _
  have hb0 : Below w.heap.size w w0 := by rw [← hw0]; exact (Below.refl _ _).alloc (Nat.le_refl _) _
  clear hw0
  refine (alive4_any mx w0 (maxLen_keep HMX.out hb0)).mono ?_
  rintro e w1 ⟨rfl, hb1⟩
  have y1 := y0.below hb1 y0.lt
  have hbw := below_next hb0 (Nat.le_refl _) hb1
  have hz1 := hbw.size
  have hlt1 := y1.lt
  have e0 : w1.cell? ⟨w.heap.size, 0, none⟩ = some (.string a.s) := y1.at_ 0
  have e1 : w1.cell? ⟨w.heap.size, 1, none⟩ = some (.slice a.A a.n a.c) := y1.at_ 1
  have HA1 := Lib.hid (HOK.out.next hbw (Nat.le_refl _))
  clear y0
  go_wp2_with fail
  refine (refOf_any a.s a.A a.n a.c a.rs _ HA1.out.1 HA1.out.2.1 HA1.out.2.2.2 HA1.out.2.2.1).mono ?_
  rintro e w2 ⟨v2, rfl, ho2, hb2⟩
  obtain ⟨A2, c2, rfl, _, _, _⟩ := own_form ho2
  have hCL : (chars a.s.data.toList a.rs).length = a.s.size := by rw [chars_length, HSL.out]
  have HCL := Lib.hid hCL
  have HCF := Lib.hid (chars_fst a.s.data.toList a.rs)
  have HLI := Lib.hid (Lies.own ho2)
  have y2 := y1.below hb2 y1.lt
  have hb12 := below_next hbw (Nat.le_refl _) hb2
  have hz2 := hb12.size
  clear ho2 hCL e0 e1
  generalize hch : chars a.s.data.toList a.rs = ch at *
  have HCH := Lib.hid hch
  clear hch
  go_upto_block 0 with fail
  obtain ⟨wo, rfl⟩ : ∃ wo : World, wo = w2 := ⟨_, rfl⟩
  go_cut [10] (fun s10 wx => s10 = .bool (beginsB lowB a.s.data.toList p.data.toList) ∧ Below wo.heap.size wo wx)
  case first =>
    go_wp2_with fail
    go_loopw [10, 11] (LowRel1 a.s.data.toList p.data.toList wo) (fun _ i _ => p.size - (intOf i).toNat)
    case atStart =>
      refine ⟨0, decide (p.size ≤ a.s.size), Nat.zero_le _, rfl, rfl, fun h => ⟨by rw [HSL.out, HPL.out]; exact of_decide_eq_true h, by rw [List.take_zero, List.take_zero]⟩, fun h => ?_, Below.refl _ _⟩
      unfold beginsB
      rw [HSL.out, HPL.out, h, Bool.false_and]
    case round =>
      obtain ⟨k, v, hk, rfl, rfl, h1, h2, hbl⟩ := hrel
      rw [HPL.out] at hk
      have H1 := Lib.hid h1
      have H2 := Lib.hid h2
      clear h1 h2
      have hws := hbl.size
      by_cases hlt : k < p.size
      · cases v with
        | false =>
          go_wp2_with fail
          go_meet
          exact ⟨by rw [H2.out (by first | rfl | trivial)], hbl⟩
        | true =>
          have HAG := Lib.hid (H1.out rfl)
          have hps : p.size ≤ a.s.size := by have := HAG.out.1; rw [HSL.out, HPL.out] at this; exact this
          obtain ⟨ad, b, o, rfl, hbA, hc1, hc2, HR⟩ := (HLI.out.below hbl).ch (k := k) (by rw [HCL.out]; omega)
          have HSB : Hid (a.s.data.toList[k]? = some b) := by show _ = _; rw [← HCF.out, List.getElem?_map, HR.out]; rfl
          have HPB : Hid (p.data.toList[k]? = some (p[k]'hlt)) := by
            show _ = _
            rw [List.getElem?_eq_getElem (by rw [HPL.out]; exact hlt)]
            rfl
          have HNX := Lib.hid (agreeTo_next HAG.out HSB.out HPB.out)
          have hk0 : (0 : Int) ≤ (k : Int) := Int.natCast_nonneg _
          have hk1 : (k : Int) < (p.size : Int) := by omega
          have hk2 : (k : Int) < (a.s.size : Int) := by omega
          clear hc2 hps
          go_wp2_with fail
          go_quiet ((go_at_call 8; exact Calls.quiet_of_same ((refLow_any _ _).mono fun _ _ ⟨he, hw⟩ => ⟨he, hw.symm⟩)))
          go_wp2_with fail
          go_roundw
          case rel =>
            refine ⟨k + 1, _, by rw [HPL.out]; omega, by go_num, rfl, fun h => HNX.out.1 ?_, fun h => HNX.out.2 ?_, hbl.drewN _⟩
            · rw [byte_beq] at h; simpa using h
            · rw [byte_beq] at h; simpa using h
          case measure => simp [intOf]; omega
      · have HKE := Lib.hid (show k = p.data.toList.length by rw [HPL.out]; omega)
        have HV : Hid (Value.bool v = .bool (beginsB lowB a.s.data.toList p.data.toList)) := by
          show _ = _
          cases v with
          | true => rw [agreeTo_all (HKE.out ▸ H1.out rfl)]
          | false => rw [H2.out rfl]
        go_wp2_with fail
        go_meet
        exact ⟨HV.out, hbl⟩
  case rest =>
    obtain ⟨rfl, hbA⟩ := hcut
    generalize hbb : beginsB lowB a.s.data.toList p.data.toList = bb at *
    have HBB := Lib.hid hbb
    clear hbb
    obtain ⟨wd, rfl⟩ : ∃ wd : World, wd = wc := ⟨_, rfl⟩
    go_upto_block 2 with fail
    go_cut [12] (fun s12 wx => s12 = .int .i64 (spanN a.s.data.toList (isIn y.data.toList)) ∧ wx = wd)
    case first =>
      have HLD := Lib.hid (HLI.out.below hbA)
      go_wp2_with fail
      go_loop [12] (SpanRel a.s.data.toList (isIn y.data.toList)) (fun i => a.s.size - (intOf i).toNat)
      case atStart => exact ⟨0, Nat.zero_le _, rfl, by simp⟩
      case round =>
        obtain ⟨k, hk, rfl, hall⟩ := hrel
        have HALL := Lib.hid hall
        clear hall
        rw [HSL.out] at hk
        by_cases hlt : k < a.s.size
        · obtain ⟨ad, b, o, rfl, hbB, hc1, hc2, HR⟩ := HLD.out.ch (k := k) (by rw [HCL.out]; omega)
          have HSB : Hid (a.s.data.toList[k]? = some b) := by show _ = _; rw [← HCF.out, List.getElem?_map, HR.out]; rfl
          have hk0 : (0 : Int) ≤ (k : Int) := Int.natCast_nonneg _
          have hk2 : (k : Int) < (a.s.size : Int) := by omega
          clear hc2
          go_wp2_with fail
          refine (refIn_any b y _ (by omega)).mono ?_
          rintro e w' ⟨rfl, rfl⟩
          cases hq : isIn y.data.toList b with
          | true =>
            have HNX : Hid (∀ z ∈ a.s.data.toList.take (k + 1), isIn y.data.toList z = true) := by
              intro z hz
              rw [take_next HSB.out] at hz
              rcases List.mem_append.1 hz with hz | hz
              · exact HALL.out z hz
              · simp at hz; subst hz; exact hq
            clear hq
            go_wp2_with fail
            go_round
            case rel => exact ⟨k + 1, by rw [HSL.out]; omega, by go_num, HNX.out⟩
            case measure => simp [intOf]; omega
          | false =>
            have HR2 : Hid (spanN a.s.data.toList (isIn y.data.toList) = k) := spanN_stop HALL.out HSB.out hq
            clear hq
            go_wp2_with fail
            go_meet
            exact ⟨by rw [HR2.out], rfl⟩
        · have HR2 : Hid (spanN a.s.data.toList (isIn y.data.toList) = k) := by
            show _ = _
            have hka : k = a.s.data.toList.length := by rw [HSL.out]; omega
            rw [hka]
            refine spanN_all (fun z hz => HALL.out z ?_)
            rw [List.take_of_length_le (by omega)]
            exact hz
          go_wp2_with fail
          go_meet
          exact ⟨by rw [HR2.out], rfl⟩
    case rest =>
      obtain ⟨rfl, hwc⟩ := hcut
      obtain rfl := hwc.symm
      generalize hsn : spanN a.s.data.toList (isIn y.data.toList) = sn at *
      have HSN := Lib.hid hsn
      clear hsn
      have yd := y2.below hbA y2.lt
      have hzd := hbA.size
      have HLD := Lib.hid ((HLI.out.below hbA).mono (show _ ≤ wd.heap.size from hzd))
      have HAD := Lib.hid ((HA1.out.next hb2 (Nat.le_refl _)).next hbA (Nat.le_refl _))
      have e0 : wd.cell? ⟨w.heap.size, 0, none⟩ = some (.string a.s) := yd.at_ 0
      have e1 : wd.cell? ⟨w.heap.size, 1, none⟩ = some (.slice a.A a.n a.c) := yd.at_ 1
      have hbD := below_next hb12 (Nat.le_refl _) hbA
      go_wp2_with fail
      refine (refFields_any A2 a.s.size c2 ch wd HLD.out HCL.out (by omega)).mono ?_
      rintro e w3 ⟨v3, xs, B3, rfl, ho3, hF3, hb3⟩
      obtain ⟨A3, c3, rfl, _, _, _⟩ := own_form ho3
      have y3 := yd.below hb3 yd.lt
      have hz3 := hb3.size
      have f0 : w3.cell? ⟨w.heap.size, 0, none⟩ = some (.string a.s) := y3.at_ 0
      have f1 : w3.cell? ⟨w.heap.size, 1, none⟩ = some (.slice a.A a.n a.c) := y3.at_ 1
      have HA3 := Lib.hid (HAD.out.next hb3 (Nat.le_refl _))
      have HX3 := Lib.hid (Lies.own ho3)
      have HF3 := Lib.hid hF3
      have hXL := hF3.1
      clear ho3 hF3 e0 e1
      have HQL : Hid (∀ q ∈ least 1 (parts (onB (isIn blanksL)) ch), q.length ≤ 1048576) := fun q hq => by
        unfold least at hq
        have h := parts_le _ _ q (List.mem_filter.1 hq).1
        rw [HCL.out] at h
        omega
      have hNQ : (least 1 (parts (onB (isIn blanksL)) ch)).length ≤ a.s.size + 1 := by
        refine Nat.le_trans (least_length _ _) ?_
        rw [parts_length]
        have := List.countP_le_length (p := onB (isIn blanksL)) (l := ch)
        rw [HCL.out] at this
        omega
      go_wp2_with fail
      have HFI := Lib.hid (fields_any a.s a.A a.n a.c a.rs w3 HA3.out.1 HA3.out.2.1 HA3.out.2.2.2 HA3.out.2.2.1)
      rw [HCH.out] at HFI
      refine HFI.out.mono ?_
      rintro e w4 ⟨v4, ts, rfl, ho4, hT4, hb4⟩
      obtain ⟨A4, c4, rfl, _, _, _⟩ := own_form ho4
      have y4 := y3.below hb4 y3.lt
      have hz4 := hb4.size
      have g0 : w4.cell? ⟨w.heap.size, 0, none⟩ = some (.string a.s) := y4.at_ 0
      have g1 : w4.cell? ⟨w.heap.size, 1, none⟩ = some (.slice a.A a.n a.c) := y4.at_ 1
      have hTL := hT4.1
      have HT4 := Lib.hid hT4
      have HTS := Lib.hid (Lies.own ho4)
      have HX4 := Lib.hid (HX3.out.next hb4 (Nat.le_refl _))
      clear ho4 hT4 f0 f1 HFI
      generalize hqs : least 1 (parts (onB (isIn blanksL)) ch) = qs at *
      have HQS := Lib.hid hqs
      clear hqs
      generalize hN : qs.length = N at *
      have HN := Lib.hid hN
      clear hN
      rw [hTL]
      have HXL := Lib.hid hXL
      have HTL := Lib.hid hTL
      clear hXL hTL
      go_wp2_with fail
      obtain ⟨wq, rfl⟩ : ∃ wq : World, wq = w4 := ⟨_, rfl⟩
      have hb34 := below_next hb3 (Nat.le_refl _) hb4
      go_loopw [15] (EachRel N wq) (fun i _ => N - (intOf i).toNat)
      case atStart => exact ⟨0, Nat.zero_le _, rfl, Below.refl _ _⟩
      case round =>
        obtain ⟨j, hj, rfl, hbl⟩ := hrel
        have hws := hbl.size
        by_cases hjl : j < N
        · obtain ⟨ad, t, rfl, hbT, hd1, hd2, HR⟩ := (HTS.out.below hbl).lt (k := j) (by rw [HTL.out]; exact hjl)
          obtain ⟨q, hq, hq1, hq2, hq3, hq4⟩ := HT4.out.get HR.out
          obtain ⟨x, hx⟩ : ∃ x, xs[j]? = some x := ⟨_, List.getElem?_eq_getElem (by rw [HF3.out.1, HN.out]; exact hjl)⟩
          obtain ⟨hxl, hxn⟩ := HF3.out.lies hq hx
          obtain ⟨ad2, hA2, hbX, hd3⟩ := HX4.out j x.v (by rw [List.getElem?_map, hx]; rfl)
          subst hA2
          have hd3' : wr.cell? (ad2.add j) = some (.slice x.A x.n x.c) := (hbl.cell (by rw [addr_block]; exact hbX)).trans hd3
          have hqz := HQL.out q (List.mem_of_getElem? hq)
          have HQ1 := Lib.hid hq1
          have HQ2 := Lib.hid hq2
          have HQ3 := Lib.hid hq3
          have HQ4 := Lib.hid (Lies.own hq4)
          have HXN := Lib.hid hxn
          have HXB := Lib.hid (hxl.next hb4 (Nat.le_refl _))
          have hj0 : (0 : Int) ≤ (j : Int) := Int.natCast_nonneg _
          have hj1 : (j : Int) < (N : Int) := by omega
          have HIS : Hid (∀ W, Below wr.heap.size wr W → Calls Try.prog 12 #[.agg #[.string t.s, .slice t.A t.n t.c], .slice x.A x.n x.c] W fun e w' => e = .returned (.bool true) ∧ Below W.heap.size W w') := by
            intro W hW
            have hW2 := below_next hbl (Nat.le_refl _) hW
            have hcl := comp_length_le (q.map (·.2))
            rw [List.length_map] at hcl
            refine (refIs_any t.s t.A t.n t.c t.rs x.A x.n x.c q W (HQ4.out.next hW2 (Nat.le_refl _)) HQ3.out (by rw [← HQ3.out, HQ2.out]; omega) (HXB.out.next hW2 (Nat.le_refl _)) HXN.out (by rw [← HXN.out]; omega)).mono ?_
            rintro e w' ⟨rfl, h⟩
            refine ⟨ret_bool ?_, h⟩
            unfold isB
            rw [HQ1.out, HQ2.out, decide_eq_true_iff]
            exact ⟨rfl, rfl⟩
          have KS : ∀ w', Below wr.heap.size wr w' → w'.cell? (ad.add (j * 2)) = some (.string t.s) ∧ w'.cell? ⟨(ad.add (j * 2)).block, (ad.add (j * 2)).off + 1, none⟩ = some (.slice t.A t.n t.c) ∧ w'.cell? (ad2.add j) = some (.slice x.A x.n x.c) ∧ Below wr.heap.size wr w' := fun w' h =>
            ⟨(h.cell (by rw [addr_block]; omega)).trans hd1, (h.cell (by show (ad.add (j * 2)).block < _; rw [addr_block]; omega)).trans hd2, (h.cell (by rw [addr_block]; omega)).trans hd3', h⟩
          have HKS := Lib.hid KS
          clear KS hq hq1 hq2 hq3 hq4 hxl hxn hx hd3
          go_wp2_with fail
          go_region_held3 (fun w' => w'.cell? (ad.add (j * 2)) = some (.string t.s) ∧ w'.cell? ⟨(ad.add (j * 2)).block, (ad.add (j * 2)).off + 1, none⟩ = some (.slice t.A t.n t.c) ∧ w'.cell? (ad2.add j) = some (.slice x.A x.n x.c) ∧ Below wr.heap.size wr w')
            (first
              | exact HKS.out _ (Below.drew (Below.refl _ _))
              | (go_split_ands; exact HKS.out _ (by assumption))
              | (go_split_ands; exact HKS.out _ (below_next (by assumption) (Nat.le_refl _) hbC)))
            (first
              | (go_at_call 12; refine (HIS.out _ ?_).mono ?_; (go_split_ands; assumption); rintro e w5 ⟨rfl, hbC⟩))
          all_goals
            go_wp2_with fail
            go_roundw
            case rel => exact ⟨j + 1, by omega, by go_num, below_next hbl (Nat.le_refl _) (below_next (Below.drew (Below.refl _ _)) (Nat.le_refl _) hbC)⟩
            case measure => simp [intOf]; omega
        · have yr := y4.below hbl y4.lt
          have hzr := hbl.size
          have k0 : wr.cell? ⟨w.heap.size, 0, none⟩ = some (.string a.s) := yr.at_ 0
          have k1 : wr.cell? ⟨w.heap.size, 1, none⟩ = some (.slice a.A a.n a.c) := yr.at_ 1
          have hbR := below_next (below_next hbD (Nat.le_refl _) hb34) (Nat.le_refl _) hbl
          have HMR := Lib.hid (maxLen_keep HMX.out hbR)
          have HBR := Lib.hid hbR
          have HLR := Lib.hid (HLD.out.next (below_next hb34 (Nat.le_refl _) hbl) (Nat.le_refl _))
          have HFE : Hid (findI (ch.map (·.1)) p.data.toList f = findI a.s.data.toList p.data.toList f) := by show _ = _; rw [HCF.out]
          have hj2 : ¬ (j : Int) < (N : Int) := by omega
          clear hbR
          go_wp2_with fail
          refine (index_any a.s a.A a.n a.c p f mx wr (by omega) HMR.out).mono ?_
          generalize findI a.s.data.toList p.data.toList f = fi at *
          rintro e w6 ⟨rfl, hb6⟩
          have hz6 := hb6.size
          have y6 := yr.below hb6 yr.lt
          have m0 : w6.cell? ⟨w.heap.size, 0, none⟩ = some (.string a.s) := y6.at_ 0
          have m1 : w6.cell? ⟨w.heap.size, 1, none⟩ = some (.slice a.A a.n a.c) := y6.at_ 1
          go_wp2_with fail
          refine (refIndex_any A2 a.s.size c2 ch p f w6 (HLR.out.next hb6 (Nat.le_refl _)) HCL.out (by omega) (by omega)).mono ?_
          rw [HFE.out]
          rintro e w7 ⟨rfl, hb7⟩
          have y7 := y6.below hb7 y6.lt
          have n0 : w7.cell? ⟨w.heap.size, 0, none⟩ = some (.string a.s) := y7.at_ 0
          have n1 : w7.cell? ⟨w.heap.size, 1, none⟩ = some (.slice a.A a.n a.c) := y7.at_ 1
          go_wp2_with fail
          refine (begins_any a.s a.A a.n a.c p w7 (by omega)).mono ?_
          rw [HBB.out]
          rintro e w8 ⟨rfl, hb8⟩
          have y8 := y7.below hb8 y7.lt
          have q0 : w8.cell? ⟨w.heap.size, 0, none⟩ = some (.string a.s) := y8.at_ 0
          have q1 : w8.cell? ⟨w.heap.size, 1, none⟩ = some (.slice a.A a.n a.c) := y8.at_ 1
          go_wp2_with fail
          refine (span_any a.s a.A a.n a.c y w8 (by omega) (by omega)).mono ?_
          rw [HSN.out]
          rintro e w9 ⟨rfl, hb9⟩
          go_wp2_with fail
          go_ret
          exact ⟨rfl, below_next (below_next (below_next (below_next HBR.out (Nat.le_refl _) hb6) (Nat.le_refl _) hb7) (Nat.le_refl _) hb8) (Nat.le_refl _) hb9⟩

end Go.Proofs.Ytboenjmhmlfmcaa.mk
