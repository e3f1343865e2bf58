/-
  Contracts of the reference's Repair and Valid.
-/
import Derived.Test.YtkapkoehmofpcaaUtfRefNext
import Derived.Test.YtkapkoehmofpcaaUtfRep
import Derived.Test.YtkapkoehmofpcaaApp
import Derived.Test.YtkapkoehmofpcaaMarkAll
import Derived.Test.YtkapkoehmofpcaaMarkWorst
import Derived.Outline
namespace Go.Proofs.Ytkapkoehmofpcaa.mk
open Go.RowKit

theorem Lies.drop {w : World} {B : Nat} {ad : Addr} {xs : List Value} (h : Lies w B (some ad) xs) (n : Nat) : Lies w B (some (ad.add n)) (xs.drop n) := by
  intro j u hu
  rw [List.getElem?_drop] at hu
  obtain ⟨ad', e, hb, hc⟩ := h _ _ hu
  injection e with e
  subst e
  exact ⟨_, rfl, by rw [addr_block]; exact hb, by rw [addr_add]; exact hc⟩
theorem Lies.take {w : World} {B : Nat} {A : Option Addr} {xs : List Value} (h : Lies w B A xs) (n : Nat) : Lies w B A (xs.take n) := by
  intro j u hu
  rw [List.getElem?_take] at hu
  split at hu
  · exact h _ _ hu
  · cases hu
theorem chCells_drop (l : List (UInt8 × Int)) (n : Nat) : chCells (l.drop n) = (chCells l).drop (n * 2) := by
  by_cases h : n ≤ l.length
  · have e : chCells l = chCells (l.take n) ++ chCells (l.drop n) := by rw [← chCells_append, List.take_append_drop]
    rw [e, List.drop_left' (by rw [chCells_length, List.length_take]; omega)]
  · rw [List.drop_of_length_le (by omega), List.drop_of_length_le (by rw [chCells_length]; omega)]; rfl
theorem chCells_take (l : List (UInt8 × Int)) (n : Nat) : chCells (l.take n) = (chCells l).take (n * 2) := by
  by_cases h : n ≤ l.length
  · have e : chCells l = chCells (l.take n) ++ chCells (l.drop n) := by rw [← chCells_append, List.take_append_drop]
    rw [e, List.take_left' (by rw [chCells_length, List.length_take]; omega)]
  · rw [List.take_of_length_le (by omega), List.take_of_length_le (by rw [chCells_length]; omega)]
theorem bad_all {o : Int} (h : 0 ≤ o ∧ o ≤ 65536) : allCh [239, 191, 189] o = badCh o := by
  unfold allCh badCh
  rw [nearO_in h.1 h.2]
  rfl

def RRepRel (L : List (UInt8 × Int)) (B : Nat) (w0 : World) (v0 v3 : Value) (wr : World) : Prop :=
  ∃ (j : Nat) (A : Option Addr) (k c : Nat) (out : List (UInt8 × Int)), v0 = .slice A k c ∧ k + j = L.length ∧ (A = none → c = 0) ∧ k ≤ c ∧ Lies wr B A (chCells (L.drop j)) ∧ rep L = out ++ rep (L.drop j) ∧ wr.ownsRow B 62 2 v3 out.length (chCells out) ∧ Below B w0 wr

set_option maxHeartbeats 2000000 in
set_option maxRecDepth 100000 in
theorem refRepair_any (A : Option Addr) (n c : Nat) (L : List (UInt8 × Int)) (w : World) (hl : Lies w w.heap.size A (chCells L)) (hn : L.length = n) (hA : A = none → c = 0) (hnc : n ≤ c) (hin : InR L) (hn2 : n ≤ 268435456) :
    Calls Try.prog 17 #[.slice A n c] w fun e w' => ∃ v, e = .returned v ∧ w'.ownsRow w.heap.size 62 2 v (rep L).length (chCells (rep L)) ∧ Below w.heap.size w w' := by
  obtain ⟨i0, hi, hz0, hz1, hz2⟩ := info_parts ch_info
  have HN := Lib.hid hn
  have hrl := rep_length L
  rw [hn] at hrl
  clear hn
  go_enter Try.func17, Try.ntmps17
  go_wp2_with fail
  go_loopw [0, 3] (RRepRel L w.heap.size w) (fun v _ _ => sliceLen v)
  case atStart => exact ⟨0, A, n, c, [], rfl, by rw [HN.out]; rfl, hA, hnc, hl, by simp, by simpa [chCells] using World.ownsRow_nil _ _ _ _, Below.refl _ _⟩
  case round =>
    obtain ⟨j, A', k, c', out, rfl, hkj, hA', hkc, hl', hrep, hown, hbl⟩ := hrel
    rw [HN.out] at hkj
    have hws := hbl.size
    have HREP := Lib.hid hrep
    have hol : out.length ≤ 3 * n := by rw [hrep, List.length_append] at hrl; omega
    obtain ⟨A3, d3, rfl, _, _, _⟩ := own_form hown
    have hkj1 : k + j ≤ n := by omega
    have hlen : (L.drop j).length = k := by rw [List.length_drop, HN.out]; omega
    have HLEN := Lib.hid hlen
    have HKJ := Lib.hid hkj
    clear hrep hkj hlen
    by_cases hk : 0 < k
    · cases A' with
      | none => have := hA' rfl; omega
      | some ad =>
        have hne : L.drop j ≠ [] := by intro h; have := HLEN.out; rw [h] at this; simp at this; omega
        have hb := nxC_bd hne
        rw [HLEN.out] at hb
        unfold nxC at hb
        go_wp2_with fail
        refine (refNext_any (some ad) k c' (L.drop j) _ (hl'.mono hws) HLEN.out (by omega)).mono ?_
        rintro e w' ⟨rfl, rfl⟩
        obtain ⟨ad', b, o, e', hbk, hc1, hc2, HR⟩ := hl'.ch (k := 0) (by rw [HLEN.out]; exact hk)
        injection e' with e'
        subst e'
        simp only [Nat.zero_mul] at hc1
        rw [show ad.add 0 = ad by unfold Addr.add; rfl] at hc1
        have hhd : ((L.drop j).map (·.1)).head? = some b := by rw [List.head?_map, List.head?_eq_getElem?, HR.out]; rfl
        have hso : soughtB ((L.drop j).map (·.1)) = (!(nx ((L.drop j).map (·.1))).2 || (b == 0)) := by unfold soughtB; rw [hhd]; rfl
        have HRB : Hid (soughtB ((L.drop j).map (·.1)) = true → rep (L.drop j) = badCh (worstO (((L.drop j).take (nx ((L.drop j).map (·.1))).1).map (·.2))) ++ rep ((L.drop j).drop (nx ((L.drop j).map (·.1))).1)) := fun h => rep_bad hne h
        have HRR : Hid (soughtB ((L.drop j).map (·.1)) = false → rep (L.drop j) = (L.drop j).take (nx ((L.drop j).map (·.1))).1 ++ rep ((L.drop j).drop (nx ((L.drop j).map (·.1))).1)) := fun h => rep_right hne h
        generalize hq : nx ((L.drop j).map (·.1)) = q at *
        obtain ⟨m, ok⟩ := q
        simp only at hb hso HRB HRR
        have HSO := Lib.hid hso
        clear hq hso hc2 hhd hne
        obtain ⟨hb1, hb2⟩ := hb
        have hm0 : (0 : Int) ≤ (m : Int) := Int.natCast_nonneg _
        have hmk : (m : Int) ≤ (k : Int) := by omega
        have hmc : (m : Int) ≤ (c' : Int) := by omega
        have hmc' : m ≤ c' := by omega
        cases hs : soughtB ((L.drop j).map (·.1)) with
        | false =>
          have hrp := HRR.out hs
          rw [HSO.out] at hs
          cases ok with
          | false => simp at hs
          | true =>
            have hbn : b ≠ 0 := by intro h; subst h; simp at hs
            have hbp : 0 < b.toNat := by
              rcases Nat.eq_zero_or_pos b.toNat with h | h
              · exact absurd (UInt8.toNat_inj.1 (h.trans UInt8.toNat_zero.symm)) hbn
              · exact h
            have hbt : ((b.toNat : Int) != 0) = true := by rw [bne_iff_ne]; omega
            clear hs hbn
            have HDL : Hid (((L.drop j).drop m) = L.drop (j + m)) := by show _ = _; rw [List.drop_drop]
            have HTL : Hid (((L.drop j).take m).length = m) := by show _ = _; rw [List.length_take, HLEN.out]; omega
            have HLD : Hid (c' ≠ m → Lies wr w.heap.size (some (ad.add (m * 2))) (chCells (L.drop (j + m)))) := fun _ => by rw [← List.drop_drop, chCells_drop]; exact hl'.drop _
            have HLE : Hid (c' = m → L.drop (j + m) = []) := fun h => List.drop_of_length_le (by rw [HN.out]; have := HKJ.out; omega)
            have HLK : Hid (Lies wr w.heap.size (some ad) (chCells ((L.drop j).take m))) := by show Lies _ _ _ _; rw [chCells_take]; exact hl'.take _
            have HOW := Lib.hid hown
            generalize hz : out.length = z at *
            have HZ := Lib.hid hz
            clear hz hown
            have HRP : Hid (rep L = (out ++ (L.drop j).take m) ++ rep (L.drop (j + m))) := by show _ = _; rw [HREP.out, hrp, HDL.out, List.append_assoc]
            clear hrp
            have s1 := Lib.hid (show (chCells ((L.drop j).take m)).length = m * 2 by rw [chCells_length, HTL.out])
            have s3 : Hid (z + m ≤ maxLen) := by show _ ≤ _; simp only [maxLen]; omega
            have s4 : Hid ((z + m) * 16 ≤ 140737488355328) := by show _ ≤ _; omega
            go_wp2_with (at_builtin; refine wpList_append_src _ rfl _ _ 31 rfl w.heap.size 62 i0 _ 2 16 Try.underlying31 hi hz0 hz1 hz2 rfl (by decide) (.slice A3 z d3) z _ rfl HOW.out w.heap.size (some ad) m c' (chCells ((L.drop j).take m)) rfl (fun h => by cases h) s1.out HLK.out (chCells_one' _) s3.out s4.out hws ?_)
            intro v1 w1 hown1 hgrow _
            have hbl1' : Below w.heap.size wr w1 := (Below.refl _ _).grown hgrow hws (fun x hx => (HOW.out.lt x hx).1)
            have hbl1 := hbl.trans hbl1'
            clear hgrow
            by_cases hcm : c' = m
            · subst hcm
              have hkm : k = c' := by omega
              subst hkm
              go_wp2_with fail
              go_roundw
              case rel => exact ⟨j + k, _, 0, 0, out ++ (L.drop j).take k, rfl, by have := HKJ.out; rw [HN.out]; omega, (fun h => by cases h), Nat.le_refl _, by rw [HLE.out rfl]; exact Lies.empty _ _ _, HRP.out, by rw [List.length_append, HZ.out, chCells_append, HTL.out]; exact hown1, hbl1⟩
              case measure => simp [sliceLen]; omega
            · have hcm2 : (c' == m) = false := by rw [beq_eq_false_iff_ne]; exact hcm
              go_wp2_with fail
              go_roundw
              case rel => exact ⟨j + m, _, k - m, c' - m, out ++ (L.drop j).take m, rfl, by have := HKJ.out; rw [HN.out]; omega, (fun h => by cases h), by omega, (HLD.out hcm).below hbl1', HRP.out, by rw [List.length_append, HZ.out, chCells_append, HTL.out]; exact hown1, hbl1⟩
              case measure => simp [sliceLen]; omega
        | true =>
          have hrp := HRB.out hs
          rw [HSO.out] at hs
          cases ok with
          | false =>
            clear hs
            have HDL : Hid (((L.drop j).drop m) = L.drop (j + m)) := by show _ = _; rw [List.drop_drop]
            have HTL : Hid (((L.drop j).take m).length = m) := by show _ = _; rw [List.length_take, HLEN.out]; omega
            have HLD : Hid (c' ≠ m → Lies wr w.heap.size (some (ad.add (m * 2))) (chCells (L.drop (j + m)))) := fun _ => by rw [← List.drop_drop, chCells_drop]; exact hl'.drop _
            have HLE : Hid (c' = m → L.drop (j + m) = []) := fun h => List.drop_of_length_le (by rw [HN.out]; have := HKJ.out; omega)
            have HLK : Hid (Lies wr w.heap.size (some ad) (chCells ((L.drop j).take m))) := by show Lies _ _ _ _; rw [chCells_take]; exact hl'.take _
            have HOW := Lib.hid hown
            generalize hz : out.length = z at *
            have HZ := Lib.hid hz
            clear hz hown
            have hoin : 0 ≤ worstO (((L.drop j).take m).map (·.2)) ∧ worstO (((L.drop j).take m).map (·.2)) ≤ 65536 := worstO_in ((hin.drop j).take m)
            have HRP : Hid (rep L = (out ++ badCh (worstO (((L.drop j).take m).map (·.2)))) ++ rep (L.drop (j + m))) := by show _ = _; rw [HREP.out, hrp, HDL.out, List.append_assoc]
            clear hrp
            go_wp2_with fail
            refine (refWorst_any (some ad) m c' ((L.drop j).take m) _ (HLK.out.mono hws) HTL.out (by omega)).mono ?_
            rintro e w' ⟨rfl, rfl⟩
            generalize worstO (((L.drop j).take m).map (·.2)) = o' at *
            go_wp2_with fail
            refine (all_any ⟨#[239, 191, 189]⟩ o' _ (by decide)).mono ?_
            rintro e w0 ⟨v0, rfl, hown0, hbl0⟩
            have hown0' : w0.ownsRow wr.heap.size 62 2 v0 3 (chCells (badCh o')) := by
              have h := hown0
              rw [show allCh (⟨#[239, 191, 189]⟩ : ByteArray).data.toList o' = badCh o' from bad_all hoin] at h
              exact h
            obtain ⟨A0, c0, rfl, hA0, _, _⟩ := own_form hown0'
            have HOW0 := Lib.hid (own_keep HOW.out hbl0)
            have HO0 := Lib.hid hown0'
            have hz0' := hbl0.size
            clear hown0 hown0'
            have s1 := Lib.hid (show (chCells (badCh o')).length = 3 * 2 by rw [chCells_length]; rfl)
            have s3 : Hid (z + 3 ≤ maxLen) := by show _ ≤ _; simp only [maxLen]; omega
            have s4 : Hid ((z + 3) * 16 ≤ 140737488355328) := by show _ ≤ _; omega
            have s5 : Hid (w.heap.size ≤ w0.heap.size) := by show _ ≤ _; omega
            go_wp2_with (at_builtin; refine wpList_append_src _ rfl _ _ 31 rfl w.heap.size 62 i0 _ 2 16 Try.underlying31 hi hz0 hz1 hz2 rfl (by decide) (.slice A3 z d3) z _ rfl HOW0.out w0.heap.size A0 3 c0 (chCells (badCh o')) rfl hA0 s1.out (Lies.own HO0.out) (chCells_one' _) s3.out s4.out s5.out ?_)
            intro v1 w1 hown1 hgrow _
            have hbl1' : Below w.heap.size wr w1 := (hbl0.mono hws).trans ((Below.refl _ _).grown hgrow s5.out (fun x hx => (HOW0.out.lt x hx).1))
            have hbl1 := hbl.trans hbl1'
            clear hgrow
            by_cases hcm : c' = m
            · subst hcm
              have hkm : k = c' := by omega
              subst hkm
              go_wp2_with fail
              go_roundw
              case rel => exact ⟨j + k, _, 0, 0, out ++ badCh o', rfl, by have := HKJ.out; rw [HN.out]; omega, (fun h => by cases h), Nat.le_refl _, by rw [HLE.out rfl]; exact Lies.empty _ _ _, HRP.out, by rw [List.length_append, HZ.out, chCells_append, show (badCh o').length = 3 from rfl]; exact hown1, hbl1⟩
              case measure => simp [sliceLen]; omega
            · have hcm2 : (c' == m) = false := by rw [beq_eq_false_iff_ne]; exact hcm
              go_wp2_with fail
              go_roundw
              case rel => exact ⟨j + m, _, k - m, c' - m, out ++ badCh o', rfl, by have := HKJ.out; rw [HN.out]; omega, (fun h => by cases h), by omega, (HLD.out hcm).below hbl1', HRP.out, by rw [List.length_append, HZ.out, chCells_append, show (badCh o').length = 3 from rfl]; exact hown1, hbl1⟩
              case measure => simp [sliceLen]; omega
          | true =>
            have hb0 : b = 0 := by simpa using hs
            subst hb0
            clear hs
            have HDL : Hid (((L.drop j).drop m) = L.drop (j + m)) := by show _ = _; rw [List.drop_drop]
            have HTL : Hid (((L.drop j).take m).length = m) := by show _ = _; rw [List.length_take, HLEN.out]; omega
            have HLD : Hid (c' ≠ m → Lies wr w.heap.size (some (ad.add (m * 2))) (chCells (L.drop (j + m)))) := fun _ => by rw [← List.drop_drop, chCells_drop]; exact hl'.drop _
            have HLE : Hid (c' = m → L.drop (j + m) = []) := fun h => List.drop_of_length_le (by rw [HN.out]; have := HKJ.out; omega)
            have HLK : Hid (Lies wr w.heap.size (some ad) (chCells ((L.drop j).take m))) := by show Lies _ _ _ _; rw [chCells_take]; exact hl'.take _
            have HOW := Lib.hid hown
            generalize hz : out.length = z at *
            have HZ := Lib.hid hz
            clear hz hown
            have hoin : 0 ≤ worstO (((L.drop j).take m).map (·.2)) ∧ worstO (((L.drop j).take m).map (·.2)) ≤ 65536 := worstO_in ((hin.drop j).take m)
            have HRP : Hid (rep L = (out ++ badCh (worstO (((L.drop j).take m).map (·.2)))) ++ rep (L.drop (j + m))) := by show _ = _; rw [HREP.out, hrp, HDL.out, List.append_assoc]
            clear hrp
            go_wp2_with fail
            refine (refWorst_any (some ad) m c' ((L.drop j).take m) _ (HLK.out.mono hws) HTL.out (by omega)).mono ?_
            rintro e w' ⟨rfl, rfl⟩
            generalize worstO (((L.drop j).take m).map (·.2)) = o' at *
            go_wp2_with fail
            refine (all_any ⟨#[239, 191, 189]⟩ o' _ (by decide)).mono ?_
            rintro e w0 ⟨v0, rfl, hown0, hbl0⟩
            have hown0' : w0.ownsRow wr.heap.size 62 2 v0 3 (chCells (badCh o')) := by
              have h := hown0
              rw [show allCh (⟨#[239, 191, 189]⟩ : ByteArray).data.toList o' = badCh o' from bad_all hoin] at h
              exact h
            obtain ⟨A0, c0, rfl, hA0, _, _⟩ := own_form hown0'
            have HOW0 := Lib.hid (own_keep HOW.out hbl0)
            have HO0 := Lib.hid hown0'
            have hz0' := hbl0.size
            clear hown0 hown0'
            have s1 := Lib.hid (show (chCells (badCh o')).length = 3 * 2 by rw [chCells_length]; rfl)
            have s3 : Hid (z + 3 ≤ maxLen) := by show _ ≤ _; simp only [maxLen]; omega
            have s4 : Hid ((z + 3) * 16 ≤ 140737488355328) := by show _ ≤ _; omega
            have s5 : Hid (w.heap.size ≤ w0.heap.size) := by show _ ≤ _; omega
            go_wp2_with (at_builtin; refine wpList_append_src _ rfl _ _ 31 rfl w.heap.size 62 i0 _ 2 16 Try.underlying31 hi hz0 hz1 hz2 rfl (by decide) (.slice A3 z d3) z _ rfl HOW0.out w0.heap.size A0 3 c0 (chCells (badCh o')) rfl hA0 s1.out (Lies.own HO0.out) (chCells_one' _) s3.out s4.out s5.out ?_)
            intro v1 w1 hown1 hgrow _
            have hbl1' : Below w.heap.size wr w1 := (hbl0.mono hws).trans ((Below.refl _ _).grown hgrow s5.out (fun x hx => (HOW0.out.lt x hx).1))
            have hbl1 := hbl.trans hbl1'
            clear hgrow
            by_cases hcm : c' = m
            · subst hcm
              have hkm : k = c' := by omega
              subst hkm
              go_wp2_with fail
              go_roundw
              case rel => exact ⟨j + k, _, 0, 0, out ++ badCh o', rfl, by have := HKJ.out; rw [HN.out]; omega, (fun h => by cases h), Nat.le_refl _, by rw [HLE.out rfl]; exact Lies.empty _ _ _, HRP.out, by rw [List.length_append, HZ.out, chCells_append, show (badCh o').length = 3 from rfl]; exact hown1, hbl1⟩
              case measure => simp [sliceLen]; omega
            · have hcm2 : (c' == m) = false := by rw [beq_eq_false_iff_ne]; exact hcm
              go_wp2_with fail
              go_roundw
              case rel => exact ⟨j + m, _, k - m, c' - m, out ++ badCh o', rfl, by have := HKJ.out; rw [HN.out]; omega, (fun h => by cases h), by omega, (HLD.out hcm).below hbl1', HRP.out, by rw [List.length_append, HZ.out, chCells_append, show (badCh o').length = 3 from rfl]; exact hown1, hbl1⟩
              case measure => simp [sliceLen]; omega
    · have hl0 : L.drop j = [] := List.eq_nil_of_length_eq_zero (by rw [HLEN.out]; omega)
      have hout : rep L = out := by rw [HREP.out, hl0, rep_nil, List.append_nil]
      have HOUT := Lib.hid hout
      have hk0 : k = 0 := by omega
      subst hk0
      clear hl0 hout
      have HOW := Lib.hid hown
      generalize hz : out.length = z at *
      clear hown
      go_wp2_with fail
      go_ret
      exact ⟨_, rfl, by rw [HOUT.out]; rw [hz]; exact HOW.out, hbl⟩

def RValRel (L : List (UInt8 × Int)) (w : World) (v : Value) : Prop :=
  ∃ (j : Nat) (A : Option Addr) (k c : Nat), v = .slice A k c ∧ k + j = L.length ∧ (A = none → c = 0) ∧ k ≤ c ∧ Lies w w.heap.size A (chCells (L.drop j)) ∧ validB (L.map (·.1)) = validB ((L.drop j).map (·.1))

set_option maxHeartbeats 2000000 in
set_option maxRecDepth 100000 in
theorem refValid_any (s : ByteArray) (w : World) (hs : s.size ≤ 268435456) :
    Calls Try.prog 19 #[.string s] w fun e w' => e = .returned (.bool (validB s.data.toList)) ∧ Below w.heap.size w w' := by
  go_enter Try.func19, Try.ntmps19
  go_wp2_with fail
  refine (all_any s 0 _ (by omega)).mono ?_
  rintro e w1 ⟨v1, rfl, hown, hbl⟩
  obtain ⟨A, c, rfl, hA, _, hnc⟩ := own_form hown
  have HF : Hid ((allCh s.data.toList 0).map (·.1) = s.data.toList) := allCh_fst _ _
  have HN : Hid ((allCh s.data.toList 0).length = s.size) := by show _ = _; unfold allCh; rw [List.length_map, Array.length_toList]; rfl
  have hl := Lies.own hown
  generalize allCh s.data.toList 0 = L at *
  clear hown
  go_wp2_with fail
  go_loop [3] (RValRel L w1) (fun v => sliceLen v)
  case atStart => exact ⟨0, A, s.size, c, rfl, by rw [HN.out]; rfl, hA, hnc, hl, by simp⟩
  case round =>
    obtain ⟨j, A', k, c', rfl, hkj, hA', hkc, hl', hval⟩ := hrel
    rw [HN.out] at hkj
    have HV := Lib.hid hval
    have hkj1 : k + j ≤ s.size := by omega
    have hlen : (L.drop j).length = k := by rw [List.length_drop, HN.out]; omega
    have HLEN := Lib.hid hlen
    have HKJ := Lib.hid hkj
    clear hval hkj hlen
    by_cases hk : 0 < k
    · cases A' with
      | none => have := hA' rfl; omega
      | some ad =>
        have hne : (L.drop j).map (·.1) ≠ [] := by intro h; have h1 := congrArg List.length h; rw [List.length_map, HLEN.out] at h1; simp at h1; omega
        have hb := nx_bd hne
        rw [List.length_map, HLEN.out] at hb
        have hvn := validB_next hne
        go_wp2_with fail
        refine (refNext_any (some ad) k c' (L.drop j) _ hl' HLEN.out (by omega)).mono ?_
        rintro e w' ⟨rfl, rfl⟩
        obtain ⟨ad', b, o, e', hbk, hc1, hc2, HR⟩ := hl'.ch (k := 0) (by rw [HLEN.out]; exact hk)
        injection e' with e'
        subst e'
        simp only [Nat.zero_mul] at hc1
        rw [show ad.add 0 = ad by unfold Addr.add; rfl] at hc1
        have hhd : ((L.drop j).map (·.1)).head? = some b := by rw [List.head?_map, List.head?_eq_getElem?, HR.out]; rfl
        have hso : soughtB ((L.drop j).map (·.1)) = (!(nx ((L.drop j).map (·.1))).2 || (b == 0)) := by unfold soughtB; rw [hhd]; rfl
        rw [hso] at hvn
        generalize hq : nx ((L.drop j).map (·.1)) = q at *
        obtain ⟨m, ok⟩ := q
        simp only at hb hvn
        have HVN := Lib.hid hvn
        clear hq hso hc2 hhd hne hvn
        obtain ⟨hb1, hb2⟩ := hb
        have hm0 : (0 : Int) ≤ (m : Int) := Int.natCast_nonneg _
        have hmk : (m : Int) ≤ (k : Int) := by omega
        have hmc : (m : Int) ≤ (c' : Int) := by omega
        have hmc' : m ≤ c' := by omega
        cases ok with
        | false =>
          have HX : Hid (validB (L.map (·.1)) = false) := by show _ = _; rw [HV.out, HVN.out]; rfl
          go_wp2_with fail
          go_ret
          exact ⟨by rw [← HF.out, HX.out]; rfl, hbl⟩
        | true =>
          by_cases hb0 : b = 0
          · subst hb0
            have HX : Hid (validB (L.map (·.1)) = false) := by show _ = _; rw [HV.out, HVN.out]; rfl
            go_wp2_with fail
            go_ret
            exact ⟨by rw [← HF.out, HX.out]; rfl, hbl⟩
          · have hbp : 0 < b.toNat := by
              rcases Nat.eq_zero_or_pos b.toNat with h | h
              · exact absurd (UInt8.toNat_inj.1 (h.trans UInt8.toNat_zero.symm)) hb0
              · exact h
            have hbt : ((b.toNat : Int) == 0) = false := by rw [beq_eq_false_iff_ne]; omega
            have HX : Hid (validB (L.map (·.1)) = validB ((L.drop (j + m)).map (·.1))) := by
              show _ = _
              rw [HV.out, HVN.out, ← List.drop_drop, List.map_drop (l := L.drop j)]
              have : (b == 0) = false := by rw [beq_eq_false_iff_ne]; exact hb0
              rw [this]
              rfl
            clear hb0
            have HLD : Hid (c' ≠ m → Lies w1 w1.heap.size (some (ad.add (m * 2))) (chCells (L.drop (j + m)))) := fun _ => by rw [← List.drop_drop, chCells_drop]; exact hl'.drop _
            have HLE : Hid (c' = m → L.drop (j + m) = []) := fun h => List.drop_of_length_le (by rw [HN.out]; have := HKJ.out; omega)
            by_cases hcm : c' = m
            · subst hcm
              have hkm : k = c' := by omega
              subst hkm
              go_wp2_with fail
              go_round
              case rel => exact ⟨j + k, _, 0, 0, rfl, by have := HKJ.out; rw [HN.out]; omega, (fun h => by cases h), Nat.le_refl _, by rw [HLE.out (by first | rfl | exact trivial)]; exact Lies.empty _ _ _, HX.out⟩
              case measure => simp [sliceLen]; omega
            · have hcm2 : (c' == m) = false := by rw [beq_eq_false_iff_ne]; exact hcm
              go_wp2_with fail
              go_round
              case rel => exact ⟨j + m, _, k - m, c' - m, rfl, by have := HKJ.out; rw [HN.out]; omega, (fun h => by cases h), by omega, HLD.out hcm, HX.out⟩
              case measure => simp [sliceLen]; omega
    · have HX : Hid (validB (L.map (·.1)) = true) := by
        show _ = _
        rw [HV.out, List.eq_nil_of_length_eq_zero (l := L.drop j) (by rw [HLEN.out]; omega)]
        exact validB_nil
      have hk0 : k = 0 := by omega
      subst hk0
      go_wp2_with fail
      go_ret
      exact ⟨by rw [← HF.out, HX.out]; rfl, hbl⟩

end Go.Proofs.Ytkapkoehmofpcaa.mk
