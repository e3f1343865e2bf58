/-
  The statements' own words: where a name stands, whether texts and lists of attributes are alike.
-/
import Derived.Test.YthckecfjghjnjaaAttFun
import Derived.Test.YthckecfjghjnjaaMarkEq
import Derived.Test.YthckecfjghjnjaaMarkRefOf
namespace Go.Proofs.Ythckecfjghjnjaa.mk
open Go.RowKit

set_option maxHeartbeats 1000000 in
set_option maxRecDepth 100000 in
theorem attPlace_any (A : Option Addr) (n c : Nat) (ts : List AT) (s : ByteArray) (w : World) (hl : Lies w w.heap.size A (atCells ts)) (hn : ts.length = n) (hn2 : n ≤ 4294967296) :
    Calls Try.prog 7 #[.slice A n c, .string s] w fun e w' => e = .returned (.int .i64 (plI (ts.map AT.ch) s.data.toList)) ∧ Below w.heap.size w w' := by
  have HN := Lib.hid hn
  have HL := Lib.hid hl
  have HLN : Hid ((ts.map AT.ch).length = n) := by show _ = _; rw [List.length_map]; exact hn
  clear hn hl
  go_enter Try.func7, Try.ntmps7
  go_wp2_with fail
  go_loopw [5] (IdxRel s.data.toList (ts.map AT.ch) n w) (fun i _ => n - (intOf i).toNat)
  case atStart => exact ⟨0, Nat.zero_le _, rfl, fun j q hj _ => by omega, Below.refl _ _⟩
  case round =>
    obtain ⟨k, hk, rfl, hno, hb⟩ := hrel
    have HNO := Lib.hid hno
    clear hno
    by_cases hlt : k < n
    · obtain ⟨ad, t, rfl, hbA, d0, d1, d2, d3, HR⟩ := (HL.out.below hb).att (k := k) (by rw [HN.out]; exact hlt)
      have hk0 : (0 : Int) ≤ (k : Int) := Int.natCast_nonneg _
      have hk1 : (k : Int) < (n : Int) := by omega
      have HRC := Lib.hid (chs_at HR.out)
      by_cases he : t.nm.bs = s.data.toList
      · have ht' : (t.nm.s.toList == s.toList) = true := by rw [beq_iff_eq, ByteArray.toList_eq, ByteArray.toList_eq]; exact he
        have HP : Hid (plI (ts.map AT.ch) s.data.toList = (k : Int)) := by
          show _ = _
          unfold plI
          rw [placeN_of HRC.out (by rw [AT.nmB]; exact he) HNO.out, HLN.out, if_pos hlt]
        clear he
        go_wp2_with fail
        go_ret
        exact ⟨by rw [HP.out]; rfl, hb⟩
      · have ht' : (t.nm.s.toList == s.toList) = false := by rw [beq_eq_false_iff_ne, ByteArray.toList_eq, ByteArray.toList_eq]; exact he
        have HS : Hid (∀ (j : Nat) (q : PA), j < k + 1 → (ts.map AT.ch)[j]? = some q → nmB q ≠ s.data.toList) := by
          intro j q hj hq
          rcases Nat.lt_or_ge j k with h | h
          · exact HNO.out j q h hq
          · obtain rfl : j = k := by omega
            rw [HRC.out] at hq
            injection hq with hq
            rw [← hq, AT.nmB]; exact he
        clear he
        go_wp2_with fail
        go_roundw
        case rel => exact ⟨k + 1, by omega, by go_num, HS.out, hb⟩
        case measure => simp [intOf]; omega
    · have HP : Hid (plI (ts.map AT.ch) s.data.toList = -1) := by
        show _ = _
        unfold plI
        rw [placeN_none (fun j q hq => HNO.out j q (by have := (List.getElem?_eq_some_iff.1 hq).1; rw [HLN.out] at this; omega) hq), if_neg (Nat.lt_irrefl _)]
      go_wp2_with fail
      go_ret
      exact ⟨by rw [HP.out]; rfl, hb⟩

set_option maxHeartbeats 1000000 in
set_option maxRecDepth 100000 in
theorem plainStr_any (a b : LT) (w : World) (ha : a.ok w w.heap.size) (hb : b.ok w w.heap.size) :
    Calls Try.prog 13 #[.agg #[.string a.s, .slice a.A a.n a.c], .agg #[.string b.s, .slice b.A b.n b.c]] w fun e w' => e = .returned (.bool (decide (a.ch = b.ch))) ∧ Below w.heap.size w w' := by
  have HA := Lib.hid ha
  have HB := Lib.hid hb
  clear ha hb
  go_enter Try.func13, Try.ntmps13
  go_wp2_with fail
  generalize hw0 : (w.alloc (.cells #[.string a.s, .slice a.A a.n a.c] 25)).alloc (.cells #[.string b.s, .slice b.A b.n b.c] 25) = w0
  have y0 : Whole w0 w.heap.size 25 #[.string a.s, .slice a.A a.n a.c] := by rw [← hw0]; exact (Whole.made w _ _).alloc _
  have y1 : Whole w0 (w.heap.size + 1) 25 #[.string b.s, .slice b.A b.n b.c] := by
    rw [← hw0]
    have h := Whole.made (w.alloc (.cells #[.string a.s, .slice a.A a.n a.c] 25)) 25 #[.string b.s, .slice b.A b.n b.c]
    simp only [World.size_alloc] at h
    exact h
  have hb0 : Below w.heap.size w w0 := by rw [← hw0]; exact ((Below.refl _ _).alloc (Nat.le_refl _) _).alloc (by simp) _
  have HLA := Lib.hid (HA.out.next hb0 (Nat.le_refl _))
  have HLB := Lib.hid (HB.out.next hb0 (Nat.le_refl _))
  have HW := Lib.hid hw0
  clear hw0
  have c0 : w0.cell? ⟨w.heap.size, 0, none⟩ = some (.string a.s) := y0.at_ 0
  have c1 : w0.cell? ⟨w.heap.size, 1, none⟩ = some (.slice a.A a.n a.c) := y0.at_ 1
  have c2 : w0.cell? ⟨w.heap.size + 1, 0, none⟩ = some (.string b.s) := y1.at_ 0
  have c3 : w0.cell? ⟨w.heap.size + 1, 1, none⟩ = some (.slice b.A b.n b.c) := y1.at_ 1
  have KS : ∀ w', Below w0.heap.size w0 w' → w'.cell? ⟨w.heap.size, 0, none⟩ = some (.string a.s) ∧ w'.cell? ⟨w.heap.size, 1, none⟩ = some (.slice a.A a.n a.c) ∧ w'.cell? ⟨w.heap.size + 1, 0, none⟩ = some (.string b.s) ∧ w'.cell? ⟨w.heap.size + 1, 1, none⟩ = some (.slice b.A b.n b.c) ∧ Below w0.heap.size w0 w' := fun w' h =>
    ⟨(h.cell y0.lt).trans (y0.at_ 0), (h.cell y0.lt).trans (y0.at_ 1), (h.cell y1.lt).trans (y1.at_ 0), (h.cell y1.lt).trans (y1.at_ 1), h⟩
  have HKS := Lib.hid KS
  clear KS
  have ha1 : (chars a.s.data.toList a.rs).length = a.s.size := a.ch_length
  have hb1' : (chars b.s.data.toList b.rs).length = b.s.size := b.ch_length
  have HCA := Lib.hid ha1
  have HCB := Lib.hid hb1'
  clear ha1 hb1'
  go_region_held3 (fun w' => w'.cell? ⟨w.heap.size, 0, none⟩ = some (.string a.s) ∧ w'.cell? ⟨w.heap.size, 1, none⟩ = some (.slice a.A a.n a.c) ∧ w'.cell? ⟨w.heap.size + 1, 0, none⟩ = some (.string b.s) ∧ w'.cell? ⟨w.heap.size + 1, 1, none⟩ = some (.slice b.A b.n b.c) ∧ Below w0.heap.size w0 w')
    (first
      | exact HKS.out _ (Below.drew (Below.refl _ _))
      | (go_split_ands; exact HKS.out _ (by assumption))
      | (go_split_ands; exact HKS.out _ (below_next (by assumption) (Nat.le_refl _) hb1))
      | (go_split_ands; exact HKS.out _ (below_next (by assumption) (Nat.le_refl _) hb2))
      | (go_split_ands; exact HKS.out _ (below_next (by assumption) (Nat.le_refl _) hb3)))
    (first
      | (go_at_call_of 26 (a.A); refine (refOf_any a.s a.A a.n a.c a.rs _ ?_ HLA.out.2.1 HLA.out.2.2.2 HLA.out.2.2.1).mono ?_; (go_split_ands; exact HLA.out.1.next (by assumption) (Nat.le_refl _)); rintro e w1 ⟨v1, rfl, h1, hb1⟩; obtain ⟨A1, d1, rfl, _, _, _⟩ := own_form h1)
      | (go_at_call_of 26 (b.A); refine (refOf_any b.s b.A b.n b.c b.rs _ ?_ HLB.out.2.1 HLB.out.2.2.2 HLB.out.2.2.1).mono ?_; (go_split_ands; exact HLB.out.1.next (by assumption) (Nat.le_refl _)); rintro e w2 ⟨v2, rfl, h2, hb2⟩; obtain ⟨A2, d2, rfl, _, _, _⟩ := own_form h2)
      | (go_at_call 25; refine (refSame_any A1 A2 _ _ d1 d2 (chars a.s.data.toList a.rs) (chars b.s.data.toList b.rs) _ (by exact (Lies.own h1).next hb2 (Nat.le_refl _)) (by exact Lies.own h2) HCA.out HCB.out HLA.out.2.2.2).mono ?_; rintro e w3 ⟨rfl, hb3⟩))
  all_goals
    go_wp2
    go_ret
    exact ⟨rfl, below_next (below_next (below_next hb0.drew (Nat.le_refl _) hb1) (Nat.le_refl _) hb2) (Nat.le_refl _) hb3⟩

def EqAt (ts us : List AT) (n : Nat) (w0 : World) (i : Value) (wr : World) : Prop :=
  ∃ k : Nat, k ≤ n ∧ i = .int .i64 (k : Int) ∧ (ts.map AT.ch).take k = (us.map AT.ch).take k ∧ Below w0.heap.size w0 wr

set_option maxHeartbeats 2000000 in
set_option maxRecDepth 100000 in
theorem plainAttrs_any (A : Option Addr) (n c : Nat) (ts : List AT) (B : Option Addr) (m d : Nat) (us : List AT) (w : World) (hl : Lies w w.heap.size A (atCells ts)) (hok : AllOk w w.heap.size ts) (hn : ts.length = n) (hn2 : n ≤ 4294967296)
    (hl' : Lies w w.heap.size B (atCells us)) (hok' : AllOk w w.heap.size us) (hm : us.length = m) :
    Calls Try.prog 9 #[.slice A n c, .slice B m d] w fun e w' => e = .returned (.bool (decide (ts.map AT.ch = us.map AT.ch))) ∧ Below w.heap.size w w' := by
  have HN := Lib.hid hn
  have HM := Lib.hid hm
  have HL := Lib.hid hl
  have HL' := Lib.hid hl'
  have HOK := Lib.hid hok
  have HOK' := Lib.hid hok'
  have HLN : Hid ((ts.map AT.ch).length = n) := by show _ = _; rw [List.length_map]; exact hn
  have HLM : Hid ((us.map AT.ch).length = m) := by show _ = _; rw [List.length_map]; exact hm
  clear hn hm hl hl' hok hok'
  by_cases hnm : n = m
  · have hne : ((n : Int) != (m : Int)) = false := by rw [bne_eq_false_iff_eq]; omega
    have HNM := Lib.hid hnm
    clear hnm
    go_enter Try.func9, Try.ntmps9
    go_wp2_with fail
    go_loopw [5] (EqAt ts us n w) (fun i _ => n - (intOf i).toNat)
    case atStart => exact ⟨0, Nat.zero_le _, rfl, rfl, Below.refl _ _⟩
    case round =>
      obtain ⟨k, hk, rfl, heq, hb⟩ := hrel
      have HEQ := Lib.hid heq
      clear heq
      by_cases hlt : k < n
      · obtain ⟨ad, x, rfl, hbA, d0, d1, d2, d3, HR⟩ := (HL.out.below hb).att (k := k) (by rw [HN.out]; exact hlt)
        obtain ⟨ad', y, rfl, hbB, e0, e1, e2, e3, HR'⟩ := (HL'.out.below hb).att (k := k) (by rw [HM.out, ← HNM.out]; exact hlt)
        have hk0 : (0 : Int) ≤ (k : Int) := Int.natCast_nonneg _
        have hk1 : (k : Int) < (n : Int) := by omega
        have hk2 : (k : Int) < (m : Int) := by have := HNM.out; omega
        have HXO := Lib.hid (HOK.out.get HR.out)
        have HYO := Lib.hid (HOK'.out.get HR'.out)
        have hzw := hb.size
        have hba : ∀ j, ((⟨(ad.add (k * 4)).block, (ad.add (k * 4)).off + j, none⟩ : Addr)).block < wr.heap.size := fun j => by show (ad.add (k * 4)).block < _; rw [addr_block]; omega
        have hbb : ∀ j, ((⟨(ad'.add (k * 4)).block, (ad'.add (k * 4)).off + j, none⟩ : Addr)).block < wr.heap.size := fun j => by show (ad'.add (k * 4)).block < _; rw [addr_block]; omega
        have KS : ∀ w', Below wr.heap.size wr w' → w'.cell? (ad.add (k * 4)) = some (.string x.nm.s) ∧ w'.cell? ⟨(ad.add (k * 4)).block, (ad.add (k * 4)).off + 1, none⟩ = some (.slice x.nm.A x.nm.n x.nm.c) ∧ w'.cell? ⟨(ad.add (k * 4)).block, (ad.add (k * 4)).off + 2, none⟩ = some (.string x.vl.s) ∧ w'.cell? ⟨(ad.add (k * 4)).block, (ad.add (k * 4)).off + 3, none⟩ = some (.slice x.vl.A x.vl.n x.vl.c) ∧
            w'.cell? (ad'.add (k * 4)) = some (.string y.nm.s) ∧ w'.cell? ⟨(ad'.add (k * 4)).block, (ad'.add (k * 4)).off + 1, none⟩ = some (.slice y.nm.A y.nm.n y.nm.c) ∧ w'.cell? ⟨(ad'.add (k * 4)).block, (ad'.add (k * 4)).off + 2, none⟩ = some (.string y.vl.s) ∧ w'.cell? ⟨(ad'.add (k * 4)).block, (ad'.add (k * 4)).off + 3, none⟩ = some (.slice y.vl.A y.vl.n y.vl.c) ∧ Below wr.heap.size wr w' := fun w' h =>
          ⟨(h.cell (by rw [addr_block]; omega)).trans d0, (h.cell (hba 1)).trans d1, (h.cell (hba 2)).trans d2, (h.cell (hba 3)).trans d3, (h.cell (by rw [addr_block]; omega)).trans e0, (h.cell (hbb 1)).trans e1, (h.cell (hbb 2)).trans e2, (h.cell (hbb 3)).trans e3, h⟩
        have HKS := Lib.hid KS
        have HNS : Hid (∀ W, Below wr.heap.size wr W → Calls Try.prog 13 #[.agg #[.string x.nm.s, .slice x.nm.A x.nm.n x.nm.c], .agg #[.string y.nm.s, .slice y.nm.A y.nm.n y.nm.c]] W fun e w' => e = .returned (.bool (decide (x.nm.ch = y.nm.ch))) ∧ Below W.heap.size W w') := fun W h => plainStr_any x.nm y.nm W ((HXO.out.1.next hb (Nat.le_refl _)).next h (Nat.le_refl _)) ((HYO.out.1.next hb (Nat.le_refl _)).next h (Nat.le_refl _))
        have HVS : Hid (∀ W, Below wr.heap.size wr W → Calls Try.prog 13 #[.agg #[.string x.vl.s, .slice x.vl.A x.vl.n x.vl.c], .agg #[.string y.vl.s, .slice y.vl.A y.vl.n y.vl.c]] W fun e w' => e = .returned (.bool (decide (x.vl.ch = y.vl.ch))) ∧ Below W.heap.size W w') := fun W h => plainStr_any x.vl y.vl W ((HXO.out.2.next hb (Nat.le_refl _)).next h (Nat.le_refl _)) ((HYO.out.2.next hb (Nat.le_refl _)).next h (Nat.le_refl _))
        have HA1 := Lib.hid (chs_at HR.out)
        have HA2 := Lib.hid (chs_at HR'.out)
        clear KS hba hbb
        by_cases hn1 : x.nm.ch = y.nm.ch
        · rw [decide_eq_true hn1] at HNS
          by_cases hv1 : x.vl.ch = y.vl.ch
          · rw [decide_eq_true hv1] at HVS
            have HNX : Hid ((ts.map AT.ch).take (k + 1) = (us.map AT.ch).take (k + 1)) := by
              show _ = _
              rw [take_next HA1.out, take_next HA2.out, HEQ.out, show x.ch = y.ch from Prod.ext hn1 hv1]
            clear hn1 hv1
            go_wp2_with fail
            go_region_held3 (fun w' => w'.cell? (ad.add (k * 4)) = some (.string x.nm.s) ∧ w'.cell? ⟨(ad.add (k * 4)).block, (ad.add (k * 4)).off + 1, none⟩ = some (.slice x.nm.A x.nm.n x.nm.c) ∧ w'.cell? ⟨(ad.add (k * 4)).block, (ad.add (k * 4)).off + 2, none⟩ = some (.string x.vl.s) ∧ w'.cell? ⟨(ad.add (k * 4)).block, (ad.add (k * 4)).off + 3, none⟩ = some (.slice x.vl.A x.vl.n x.vl.c) ∧
                w'.cell? (ad'.add (k * 4)) = some (.string y.nm.s) ∧ w'.cell? ⟨(ad'.add (k * 4)).block, (ad'.add (k * 4)).off + 1, none⟩ = some (.slice y.nm.A y.nm.n y.nm.c) ∧ w'.cell? ⟨(ad'.add (k * 4)).block, (ad'.add (k * 4)).off + 2, none⟩ = some (.string y.vl.s) ∧ w'.cell? ⟨(ad'.add (k * 4)).block, (ad'.add (k * 4)).off + 3, none⟩ = some (.slice y.vl.A y.vl.n y.vl.c) ∧ Below wr.heap.size wr w')
              (first
                | exact HKS.out _ (Below.drew (Below.refl _ _))
                | (go_split_ands; exact HKS.out _ (by assumption))
                | (go_split_ands; exact HKS.out _ (below_next (by assumption) (Nat.le_refl _) hb1))
                | (go_split_ands; exact HKS.out _ (below_next (by assumption) (Nat.le_refl _) hb2)))
              (first
                | (go_at_call_of 13 (x.nm.A); refine (HNS.out _ ?_).mono ?_; (go_split_ands; assumption); rintro e w1 ⟨rfl, hb1⟩)
                | (go_at_call_of 13 (x.vl.A); refine (HVS.out _ ?_).mono ?_; (go_split_ands; assumption); rintro e w2 ⟨rfl, hb2⟩))
            all_goals
              go_wp2_with fail
              go_roundw
              case rel => exact ⟨k + 1, by omega, by go_num, HNX.out, below_next (below_next hb.drew (Nat.le_refl _) hb1) (Nat.le_refl _) hb2⟩
              case measure => simp [intOf]; omega
          · rw [decide_eq_false hv1] at HVS
            have HF : Hid (decide (ts.map AT.ch = us.map AT.ch) = false) := by
              show decide _ = false
              rw [decide_eq_false_iff_not]
              intro h
              have h1 := HA1.out
              rw [h, HA2.out] at h1
              injection h1 with h1
              exact hv1 (congrArg Prod.snd h1).symm
            clear hn1 hv1
            go_wp2_with fail
            go_region_held3 (fun w' => w'.cell? (ad.add (k * 4)) = some (.string x.nm.s) ∧ w'.cell? ⟨(ad.add (k * 4)).block, (ad.add (k * 4)).off + 1, none⟩ = some (.slice x.nm.A x.nm.n x.nm.c) ∧ w'.cell? ⟨(ad.add (k * 4)).block, (ad.add (k * 4)).off + 2, none⟩ = some (.string x.vl.s) ∧ w'.cell? ⟨(ad.add (k * 4)).block, (ad.add (k * 4)).off + 3, none⟩ = some (.slice x.vl.A x.vl.n x.vl.c) ∧
                w'.cell? (ad'.add (k * 4)) = some (.string y.nm.s) ∧ w'.cell? ⟨(ad'.add (k * 4)).block, (ad'.add (k * 4)).off + 1, none⟩ = some (.slice y.nm.A y.nm.n y.nm.c) ∧ w'.cell? ⟨(ad'.add (k * 4)).block, (ad'.add (k * 4)).off + 2, none⟩ = some (.string y.vl.s) ∧ w'.cell? ⟨(ad'.add (k * 4)).block, (ad'.add (k * 4)).off + 3, none⟩ = some (.slice y.vl.A y.vl.n y.vl.c) ∧ Below wr.heap.size wr w')
              (first
                | exact HKS.out _ (Below.drew (Below.refl _ _))
                | (go_split_ands; exact HKS.out _ (by assumption))
                | (go_split_ands; exact HKS.out _ (below_next (by assumption) (Nat.le_refl _) hb1))
                | (go_split_ands; exact HKS.out _ (below_next (by assumption) (Nat.le_refl _) hb2)))
              (first
                | (go_at_call_of 13 (x.nm.A); refine (HNS.out _ ?_).mono ?_; (go_split_ands; assumption); rintro e w1 ⟨rfl, hb1⟩)
                | (go_at_call_of 13 (x.vl.A); refine (HVS.out _ ?_).mono ?_; (go_split_ands; assumption); rintro e w2 ⟨rfl, hb2⟩))
            all_goals
              go_wp2_with fail
              go_ret
              exact ⟨ret_bool' HF.out.symm, below_next (below_next hb.drew (Nat.le_refl _) hb1) (Nat.le_refl _) hb2⟩
        · rw [decide_eq_false hn1] at HNS
          have HF : Hid (decide (ts.map AT.ch = us.map AT.ch) = false) := by
            show decide _ = false
            rw [decide_eq_false_iff_not]
            intro h
            have h1 := HA1.out
            rw [h, HA2.out] at h1
            injection h1 with h1
            exact hn1 (congrArg Prod.fst h1).symm
          clear hn1
          go_wp2_with fail
          refine wp_region_held_drew (S := (fun w' => w'.cell? (ad.add (k * 4)) = some (.string x.nm.s) ∧ w'.cell? ⟨(ad.add (k * 4)).block, (ad.add (k * 4)).off + 1, none⟩ = some (.slice x.nm.A x.nm.n x.nm.c) ∧ w'.cell? ⟨(ad.add (k * 4)).block, (ad.add (k * 4)).off + 2, none⟩ = some (.string x.vl.s) ∧ w'.cell? ⟨(ad.add (k * 4)).block, (ad.add (k * 4)).off + 3, none⟩ = some (.slice x.vl.A x.vl.n x.vl.c) ∧
                w'.cell? (ad'.add (k * 4)) = some (.string y.nm.s) ∧ w'.cell? ⟨(ad'.add (k * 4)).block, (ad'.add (k * 4)).off + 1, none⟩ = some (.slice y.nm.A y.nm.n y.nm.c) ∧ w'.cell? ⟨(ad'.add (k * 4)).block, (ad'.add (k * 4)).off + 2, none⟩ = some (.string y.vl.s) ∧ w'.cell? ⟨(ad'.add (k * 4)).block, (ad'.add (k * 4)).off + 3, none⟩ = some (.slice y.vl.A y.vl.n y.vl.c) ∧ Below wr.heap.size wr w')) (by kernel_rfl) ?_ (fun hHeld => ?_)
          · (try dsimp only); exact HKS.out _ (Below.drew (Below.refl _ _))
          refine wpAnyH_take (i := 0) (oi := ⟨_, _, _, _, _, _⟩) (v := ?_) rfl (by kernel_rfl) (by kernel_rfl) (by kernel_rfl) (fun _ _ _ h => h) (Or.inl ⟨by rfl, ?_⟩) (by assumption) ?_
          rotate_left
          · intro w hSw; (try dsimp only at hSw); first | (go_simp; done) | (go_simp; with_reducible rfl)
          try simp only [Act.put, List.setIfInBounds_toArray, List.set_cons_zero, List.set_cons_succ]
          refine wpAnyH_take (i := 1) (oi := ⟨_, _, _, _, _, _⟩) (v := ?_) rfl (by kernel_rfl) (by kernel_rfl) (by kernel_rfl) (fun _ _ _ h => h) (Or.inl ⟨by rfl, ?_⟩) (by assumption) ?_
          rotate_left
          · intro w hSw; (try dsimp only at hSw); first | (go_simp; done) | (go_simp; with_reducible rfl)
          try simp only [Act.put, List.setIfInBounds_toArray, List.set_cons_zero, List.set_cons_succ]
          refine wpAnyH_take (i := 2) (oi := ⟨_, _, _, _, _, _⟩) (v := ?_) rfl (by kernel_rfl) (by kernel_rfl) (by kernel_rfl) (fun _ _ _ h => h) (Or.inl ⟨by rfl, ?_⟩) (by assumption) ?_
          rotate_left
          · intro w hSw; (try dsimp only at hSw); first | (go_simp; done) | (go_simp; with_reducible rfl)
          try simp only [Act.put, List.setIfInBounds_toArray, List.set_cons_zero, List.set_cons_succ]
          refine wpAnyH_take (i := 3) (oi := ⟨_, _, _, _, _, _⟩) (v := ?_) rfl (by kernel_rfl) (by kernel_rfl) (by kernel_rfl) (fun _ _ _ h => h) (Or.inl ⟨by rfl, ?_⟩) (by assumption) ?_
          rotate_left
          · intro w hSw; (try dsimp only at hSw); first | (go_simp; done) | (go_simp; with_reducible rfl)
          try simp only [Act.put, List.setIfInBounds_toArray, List.set_cons_zero, List.set_cons_succ]
          refine wpAnyH_take (i := 4) (oi := ⟨_, _, _, _, _, _⟩) (v := ?_) rfl (by kernel_rfl) (by kernel_rfl) (by kernel_rfl) (fun _ _ _ h => h) (Or.inl ⟨by rfl, ?_⟩) (by assumption) ?_
          rotate_left
          · intro w hSw; (try dsimp only at hSw); first | (go_simp; done) | (go_simp; with_reducible rfl)
          try simp only [Act.put, List.setIfInBounds_toArray, List.set_cons_zero, List.set_cons_succ]
          refine wpAnyH_take (i := 5) (oi := ⟨_, _, _, _, _, _⟩) (v := ?_) rfl (by kernel_rfl) (by kernel_rfl) (by kernel_rfl) (fun _ _ _ h => h) (Or.inl ⟨by rfl, ?_⟩) (by assumption) ?_
          rotate_left
          · intro w hSw; (try dsimp only at hSw); first | (go_simp; done) | (go_simp; with_reducible rfl)
          try simp only [Act.put, List.setIfInBounds_toArray, List.set_cons_zero, List.set_cons_succ]
          refine wpAnyH_take (i := 6) (oi := ⟨_, _, _, _, _, _⟩) (v := ?_) rfl (by kernel_rfl) (by kernel_rfl) (by kernel_rfl) (fun _ _ _ h => h) (Or.inl ⟨by rfl, ?_⟩) (by assumption) ?_
          rotate_left
          · intro w hSw; (try dsimp only at hSw); first | (go_simp; done) | (go_simp; with_reducible rfl)
          try simp only [Act.put, List.setIfInBounds_toArray, List.set_cons_zero, List.set_cons_succ]
          refine wpAnyH_take (i := 7) (oi := ⟨_, _, _, _, _, _⟩) (v := ?_) rfl (by kernel_rfl) (by kernel_rfl) (by kernel_rfl) (fun _ _ _ h => h) (Or.inl ⟨by rfl, ?_⟩) (by assumption) ?_
          rotate_left
          · intro w hSw; (try dsimp only at hSw); first | (go_simp; done) | (go_simp; with_reducible rfl)
          try simp only [Act.put, List.setIfInBounds_toArray, List.set_cons_zero, List.set_cons_succ]
          refine wpAnyH_take (i := 8) (oi := ⟨_, _, _, _, _, _⟩) (v := ?_) rfl (by kernel_rfl) (by kernel_rfl) (by kernel_rfl) (fun _ _ _ h => h) (Or.inl ⟨by rfl, ?_⟩) (by assumption) ?_
          rotate_left
          · intro w hSw; (try dsimp only at hSw); first | (go_simp; done) | (go_simp; with_reducible rfl)
          try simp only [Act.put, List.setIfInBounds_toArray, List.set_cons_zero, List.set_cons_succ]
          refine wpAnyH_take (i := 9) (oi := ⟨_, _, _, _, _, _⟩) (v := ?_) rfl (by kernel_rfl) (by kernel_rfl) (by kernel_rfl) (fun _ _ _ h => h) (Or.inl ⟨by rfl, ?_⟩) (by assumption) ?_
          rotate_left
          · intro w hSw; (try dsimp only at hSw); first | (go_simp; done) | (go_simp; with_reducible rfl)
          try simp only [Act.put, List.setIfInBounds_toArray, List.set_cons_zero, List.set_cons_succ]
          refine wpAnyH_ready (rs := [10]) (by kernel_rfl) (by simp) ?_
          refine AllReadyH.cons (o := ⟨_, _, _, _, _, _⟩) rfl (fun K hK => ?_) AllReadyH.nil
          go_simp
          (go_at_call_of 13 (x.nm.A); refine (HNS.out _ ?_).mono ?_; (go_split_ands; assumption); rintro e w1 ⟨rfl, hb1⟩)
          refine hK.out _ _ ?_ (fun hHeld => ?_)
          · (try dsimp only); (go_split_ands; exact HKS.out _ (below_next (by assumption) (Nat.le_refl _) hb1))
          clear hK K
          try simp only [Act.put, List.setIfInBounds_toArray, List.set_cons_zero, List.set_cons_succ]
          refine wpAnyH_take (i := 11) (oi := ⟨_, _, _, _, _, _⟩) (v := ?_) rfl (by kernel_rfl) (by kernel_rfl) (by kernel_rfl) (fun _ _ _ h => h) (Or.inl ⟨by rfl, ?_⟩) (by assumption) ?_
          rotate_left
          · intro w hSw; (try dsimp only at hSw); first | (go_simp; done) | (go_simp; with_reducible rfl)
          try simp only [Act.put, List.setIfInBounds_toArray, List.set_cons_zero, List.set_cons_succ]
          refine wpAnyH_take (i := 12) (oi := ⟨_, _, _, _, _, _⟩) (v := ?_) rfl (by kernel_rfl) (by kernel_rfl) (by kernel_rfl) (fun _ _ _ h => h) (Or.inl ⟨by rfl, ?_⟩) (by assumption) ?_
          rotate_left
          · intro w hSw; (try dsimp only at hSw); first | (go_simp; done) | (go_simp; with_reducible rfl)
          try simp only [Act.put, List.setIfInBounds_toArray, List.set_cons_zero, List.set_cons_succ]
          refine wpAnyH_take (i := 13) (oi := ⟨_, _, _, _, _, _⟩) (v := undef) rfl (by kernel_rfl) (by kernel_rfl) (by kernel_rfl) (fun _ _ _ h => h) (Or.inr ⟨by rfl, rfl⟩) (by assumption) ?_
          try simp only [Act.put, List.setIfInBounds_toArray, List.set_cons_zero, List.set_cons_succ]
          refine wpAnyH_take (i := 14) (oi := ⟨_, _, _, _, _, _⟩) (v := undef) rfl (by kernel_rfl) (by kernel_rfl) (by kernel_rfl) (fun _ _ _ h => h) (Or.inr ⟨by rfl, rfl⟩) (by assumption) ?_
          try simp only [Act.put, List.setIfInBounds_toArray, List.set_cons_zero, List.set_cons_succ]
          refine wpAnyH_take (i := 15) (oi := ⟨_, _, _, _, _, _⟩) (v := undef) rfl (by kernel_rfl) (by kernel_rfl) (by kernel_rfl) (fun _ _ _ h => h) (Or.inr ⟨by rfl, rfl⟩) (by assumption) ?_
          try simp only [Act.put, List.setIfInBounds_toArray, List.set_cons_zero, List.set_cons_succ]
          refine wpAnyH_take (i := 16) (oi := ⟨_, _, _, _, _, _⟩) (v := undef) rfl (by kernel_rfl) (by kernel_rfl) (by kernel_rfl) (fun _ _ _ h => h) (Or.inr ⟨by rfl, rfl⟩) (by assumption) ?_
          try simp only [Act.put, List.setIfInBounds_toArray, List.set_cons_zero, List.set_cons_succ]
          refine wpAnyH_take (i := 17) (oi := ⟨_, _, _, _, _, _⟩) (v := undef) rfl (by kernel_rfl) (by kernel_rfl) (by kernel_rfl) (fun _ _ _ h => h) (Or.inr ⟨by rfl, rfl⟩) (by assumption) ?_
          try simp only [Act.put, List.setIfInBounds_toArray, List.set_cons_zero, List.set_cons_succ]
          refine wpAnyH_take (i := 18) (oi := ⟨_, _, _, _, _, _⟩) (v := undef) rfl (by kernel_rfl) (by kernel_rfl) (by kernel_rfl) (fun _ _ _ h => h) (Or.inr ⟨by rfl, rfl⟩) (by assumption) ?_
          try simp only [Act.put, List.setIfInBounds_toArray, List.set_cons_zero, List.set_cons_succ]
          refine wpAnyH_take (i := 19) (oi := ⟨_, _, _, _, _, _⟩) (v := undef) rfl (by kernel_rfl) (by kernel_rfl) (by kernel_rfl) (fun _ _ _ h => h) (Or.inr ⟨by rfl, rfl⟩) (by assumption) ?_
          try simp only [Act.put, List.setIfInBounds_toArray, List.set_cons_zero, List.set_cons_succ]
          refine wpAnyH_take (i := 20) (oi := ⟨_, _, _, _, _, _⟩) (v := undef) rfl (by kernel_rfl) (by kernel_rfl) (by kernel_rfl) (fun _ _ _ h => h) (Or.inr ⟨by rfl, rfl⟩) (by assumption) ?_
          try simp only [Act.put, List.setIfInBounds_toArray, List.set_cons_zero, List.set_cons_succ]
          refine wpAnyH_take (i := 21) (oi := ⟨_, _, _, _, _, _⟩) (v := undef) rfl (by kernel_rfl) (by kernel_rfl) (by kernel_rfl) (fun _ _ _ h => h) (Or.inr ⟨by rfl, rfl⟩) (by assumption) ?_
          try simp only [Act.put, List.setIfInBounds_toArray, List.set_cons_zero, List.set_cons_succ]
          refine wpAnyH_take (i := 22) (oi := ⟨_, _, _, _, _, _⟩) (v := undef) rfl (by kernel_rfl) (by kernel_rfl) (by kernel_rfl) (fun _ _ _ h => h) (Or.inr ⟨by rfl, rfl⟩) (by assumption) ?_
          try simp only [Act.put, List.setIfInBounds_toArray, List.set_cons_zero, List.set_cons_succ]
          refine wpAnyH_take (i := 23) (oi := ⟨_, _, _, _, _, _⟩) (v := undef) rfl (by kernel_rfl) (by kernel_rfl) (by kernel_rfl) (fun _ _ _ h => h) (Or.inr ⟨by rfl, rfl⟩) (by assumption) ?_
          try simp only [Act.put, List.setIfInBounds_toArray, List.set_cons_zero, List.set_cons_succ]
          refine wpAnyH_take (i := 24) (oi := ⟨_, _, _, _, _, _⟩) (v := undef) rfl (by kernel_rfl) (by kernel_rfl) (by kernel_rfl) (fun _ _ _ h => h) (Or.inr ⟨by rfl, rfl⟩) (by assumption) ?_
          try simp only [Act.put, List.setIfInBounds_toArray, List.set_cons_zero, List.set_cons_succ]
          refine wpAnyH_take (i := 25) (oi := ⟨_, _, _, _, _, _⟩) (v := ?_) rfl (by kernel_rfl) (by kernel_rfl) (by kernel_rfl) (fun _ _ _ h => h) (Or.inl ⟨by rfl, ?_⟩) (by assumption) ?_
          rotate_left
          · intro w hSw; (try dsimp only at hSw); first | (go_simp; done) | (go_simp; with_reducible rfl)
          try simp only [Act.put, List.setIfInBounds_toArray, List.set_cons_zero, List.set_cons_succ]
          refine wpAnyH_done (by kernel_rfl) ?_ _
          go_wp2_with fail
          go_ret
          exact ⟨ret_bool' HF.out.symm, below_next hb.drew (Nat.le_refl _) hb1⟩
      · have HT : Hid (decide (ts.map AT.ch = us.map AT.ch) = true) := by
          show decide _ = true
          rw [decide_eq_true_iff]
          have h1 := HEQ.out
          rw [List.take_of_length_le (by rw [HLN.out]; omega), List.take_of_length_le (by rw [HLM.out, ← HNM.out]; omega)] at h1
          exact h1
        go_wp2_with fail
        go_ret
        exact ⟨ret_bool' HT.out.symm, hb⟩
  · have hne : ((n : Int) != (m : Int)) = true := by rw [bne_iff_ne]; omega
    have HF : Hid (decide (ts.map AT.ch = us.map AT.ch) = false) := by
      show decide _ = false
      rw [decide_eq_false_iff_not]
      intro h
      have := congrArg List.length h
      rw [HLN.out, HLM.out] at this
      exact hnm this
    clear hnm
    go_enter Try.func9, Try.ntmps9
    go_wp2_with fail
    go_ret
    exact ⟨ret_bool' HF.out.symm, Below.refl _ _⟩

end Go.Proofs.Ythckecfjghjnjaa.mk
