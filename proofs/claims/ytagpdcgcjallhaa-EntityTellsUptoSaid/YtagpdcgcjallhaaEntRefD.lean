/-
  The contract of the reference's Decode.
-/
import Derived.Test.YtagpdcgcjallhaaEntRefT
import Derived.Test.YtagpdcgcjallhaaEntOne
import Derived.Test.YtagpdcgcjallhaaApp
import Derived.Test.YtagpdcgcjallhaaMarkAll
import Derived.Test.YtagpdcgcjallhaaMarkWorst
import Derived.Outline
namespace Go.Proofs.Ytagpdcgcjallhaa.mk
open Go.RowKit

theorem putE_all {o : Int} (p : List UInt8) (h : 0 ≤ o ∧ o ≤ 65536) : allCh p o = putE p o := by
  unfold allCh putE
  rw [nearO_in h.1 h.2]
def RDecRel (L : List (UInt8 × Int)) (B : Nat) (w0 : World) (v0 v3 : Value) (wr : World) : Prop :=
  ∃ (j : Nat) (A : Option Addr) (k c : Nat) (out : List (UInt8 × Int)), v0 = .slice A k c ∧ k + j = L.length ∧ (A = none → c = 0) ∧ k ≤ c ∧ Lies wr B A (chCells (L.drop j)) ∧ decE L = out ++ decE (L.drop j) ∧ wr.ownsRow B 47 2 v3 out.length (chCells out) ∧ Below B w0 wr

set_option maxHeartbeats 2000000 in
set_option maxRecDepth 100000 in
theorem refDecode_any (A : Option Addr) (n c : Nat) (L : List (UInt8 × Int)) (w : World) (hl : Lies w w.heap.size A (chCells L)) (hn : L.length = n) (hA : A = none → c = 0) (hnc : n ≤ c) (hin : InR L) (hn2 : n ≤ 268435456) :
    Calls Try.prog 12 #[.slice A n c] w fun e w' => ∃ v, e = .returned v ∧ w'.ownsRow w.heap.size 47 2 v (decE L).length (chCells (decE L)) ∧ Below w.heap.size w w' := by
  obtain ⟨i0, hi, hz0, hz1, hz2⟩ := info_parts ch_info
  have HN := Lib.hid hn
  have hrl := decE_len L
  rw [hn] at hrl
  clear hn
  go_enter Try.func12, Try.ntmps12
  go_wp2_with fail
  go_loopw [0, 3] (RDecRel L w.heap.size w) (fun v _ _ => sliceLen v)
  case atStart => exact ⟨0, A, n, c, [], rfl, by rw [HN.out]; rfl, hA, hnc, hl, by simp, by simpa [chCells] using World.ownsRow_nil _ _ _ _, Below.refl _ _⟩
  case round =>
    obtain ⟨j, A', k, c', out, rfl, hkj, hA', hkc, hl', hrep, hown, hbl⟩ := hrel
    rw [HN.out] at hkj
    have hws := hbl.size
    have HREP := Lib.hid hrep
    have hol : out.length ≤ n := by rw [hrep, List.length_append] at hrl; omega
    obtain ⟨A3, d3, rfl, _, _, _⟩ := own_form hown
    have hkj1 : k + j ≤ n := by omega
    have hlen : (L.drop j).length = k := by rw [List.length_drop, HN.out]; omega
    have HLEN := Lib.hid hlen
    have HKJ := Lib.hid hkj
    clear hrep hkj hlen
    by_cases hk : 0 < k
    · cases A' with
      | none => have := hA' rfl; omega
      | some ad =>
        go_wp2_with fail
        refine (refEntTake_any (some ad) k c' (L.drop j) _ (hl'.mono hws) HLEN.out hkc (by omega)).mono ?_
        cases hr : refer ((L.drop j).map (·.1)) with
        | none =>
          rw [takeE_none hr]
          rintro e w2 ⟨rfl, hb2⟩
          have hbl2 := hbl.trans (hb2.mono hws)
          obtain ⟨ad', b, o, e', hbk, hc1, hc2, HR⟩ := (hl'.below (hb2.mono hws)).ch (k := 0) (by rw [HLEN.out]; exact hk)
          injection e' with e'
          subst e'
          simp only [Nat.zero_mul] at hc1 hc2
          rw [show ad.add 0 = ad by unfold Addr.add; rfl] at hc1 hc2
          have hoin : 0 ≤ o := ((hin.drop j) o (List.mem_map.2 ⟨_, List.mem_of_getElem? HR.out, rfl⟩)).1
          have HRP : Hid (decE L = (out ++ [(b, o)]) ++ decE (L.drop (j + 1))) := by show _ = _; rw [HREP.out, decE_one HR.out hoin hr, List.drop_drop, List.append_assoc]
          have HLD : Hid (c' ≠ 1 → Lies wr w.heap.size (some (ad.add (1 * 2))) (chCells (L.drop (j + 1)))) := fun _ => by rw [← List.drop_drop, chCells_drop]; exact hl'.drop _
          have HLE : Hid (c' = 1 → L.drop (j + 1) = []) := fun h => List.drop_of_length_le (by rw [HN.out]; have := HKJ.out; omega)
          have HOW := Lib.hid (own_keep hown hb2)
          have hz2' := hb2.size
          generalize hz : out.length = z at *
          have HZ := Lib.hid hz
          clear hz hown hr
          have hk1 : (1 : Int) ≤ (k : Int) := by omega
          have hk2 : (0 : Int) < (k : Int) := by omega
          go_wp2_with (at_builtin; refine wpList_append_own_at _ rfl _ _ 26 rfl w.heap.size 47 i0 _ 2 16 Try.underlying26 hi hz0 hz1 hz2 rfl (by decide) (.slice A3 z d3) z _ rfl (HOW.out.alloc _) ⟨w2.heap.size, 0, none⟩ 1 1 [.int .u8 b.toNat, .int .i64 o] rfl rfl (cells_new w2 _ _) (by simp [Value.oneCell']) (by simp only [maxLen]; omega) (by omega) (by simp; omega) ?_)
          intro v1 w1 hown1 hgrow _ _
          have hbl1' : Below w.heap.size wr w1 := ((hb2.mono hws).alloc (by omega) _).grown hgrow (by simp; omega) (fun x hx => (HOW.out.lt x hx).1)
          have hbl1 := hbl.trans hbl1'
          clear hgrow hbl2
          by_cases hcm : c' = 1
          · subst hcm
            have hkm : k = 1 := by omega
            subst hkm
            go_wp2_with fail
            go_roundw
            case rel => exact ⟨j + 1, _, 0, 0, out ++ [(b, o)], rfl, by have := HKJ.out; rw [HN.out]; omega, (fun h => by cases h), Nat.le_refl _, by rw [HLE.out rfl]; exact Lies.empty _ _ _, HRP.out, by rw [List.length_append, HZ.out, chCells_snoc]; exact hown1, hbl1⟩
            case measure => simp [sliceLen]
          · have hcm2 : (c' == 1) = false := by rw [beq_eq_false_iff_ne]; exact hcm
            go_wp2_with fail
            go_roundw
            case rel => exact ⟨j + 1, _, k - 1, c' - 1, out ++ [(b, o)], rfl, by have := HKJ.out; rw [HN.out]; omega, (fun h => by cases h), by omega, (HLD.out hcm).below hbl1', HRP.out, by rw [List.length_append, HZ.out, chCells_snoc]; exact hown1, hbl1⟩
            case measure => simp [sliceLen]; omega
        | some p =>
          obtain ⟨v, m⟩ := p
          rw [takeE_some hr]
          rintro e w2 ⟨rfl, hb2⟩
          have hrb := refer_bd hr
          rw [List.length_map, HLEN.out] at hrb
          obtain ⟨hm4, hb2k⟩ := hrb
          have hbl2 := hbl.trans (hb2.mono hws)
          have hm0 : (0 : Int) ≤ (m : Int) := Int.natCast_nonneg _
          have hmz : ((m : Int) == 0) = false := by rw [beq_eq_false_iff_ne]; omega
          have hmk : (m : Int) ≤ (k : Int) := by omega
          have hmc : (m : Int) ≤ (c' : Int) := by omega
          have hmc' : m ≤ c' := by omega
          have HDL : Hid (((L.drop j).drop m) = L.drop (j + m)) := by show _ = _; rw [List.drop_drop]
          have HTL : Hid (((L.drop j).take m).length = m) := by show _ = _; rw [List.length_take, HLEN.out]; omega
          have HLD : Hid (c' ≠ m → Lies wr w.heap.size (some (ad.add (m * 2))) (chCells (L.drop (j + m)))) := fun _ => by rw [← List.drop_drop, chCells_drop]; exact hl'.drop _
          have HLE : Hid (c' = m → L.drop (j + m) = []) := fun h => List.drop_of_length_le (by rw [HN.out]; have := HKJ.out; omega)
          have HLK : Hid (Lies w2 w.heap.size (some ad) (chCells ((L.drop j).take m))) := by show Lies _ _ _ _; rw [chCells_take]; exact (hl'.below (hb2.mono hws)).take _
          have HOW := Lib.hid (own_keep hown hb2)
          have hoin : 0 ≤ worstO (((L.drop j).take m).map (·.2)) ∧ worstO (((L.drop j).take m).map (·.2)) ≤ 65536 := worstO_in ((hin.drop j).take m)
          have HRP : Hid (decE L = (out ++ putE (numB v).data.toList (worstO (((L.drop j).take m).map (·.2)))) ++ decE (L.drop (j + m))) := by show _ = _; rw [HREP.out, decE_ref hr, HDL.out, List.append_assoc]
          have hz2' := hb2.size
          have hnz := numB_le v
          generalize hz : out.length = z at *
          have HZ := Lib.hid hz
          clear hz hown hr
          generalize numB v = nb at *
          have hnl : nb.data.toList.length = nb.size := by rw [Array.length_toList]; rfl
          have HNL := Lib.hid hnl
          clear hnl
          go_wp2_with fail
          refine (refWorst_any (some ad) m c' ((L.drop j).take m) _ (HLK.out.mono (by omega)) HTL.out (by omega)).mono ?_
          rintro e w' ⟨rfl, rfl⟩
          generalize worstO (((L.drop j).take m).map (·.2)) = o' at *
          go_wp2_with fail
          refine (all_any nb o' _ (by omega)).mono ?_
          rintro e w0 ⟨v0, rfl, hown0, hbl0⟩
          rw [putE_all _ hoin] at hown0
          obtain ⟨A0, c0, rfl, hA0, _, _⟩ := own_form hown0
          have HOW0 := Lib.hid (own_keep HOW.out hbl0)
          have HO0 := Lib.hid hown0
          have hz0' := hbl0.size
          clear hown0
          have s1 := Lib.hid (show (chCells (putE nb.data.toList o')).length = nb.size * 2 by rw [chCells_length, putE_len, HNL.out])
          have s3 : Hid (z + nb.size ≤ maxLen) := by show _ ≤ _; simp only [maxLen]; omega
          have s4 : Hid ((z + nb.size) * 16 ≤ 140737488355328) := by show _ ≤ _; omega
          have s5 : Hid (w.heap.size ≤ w0.heap.size) := by show _ ≤ _; omega
          go_wp2_with (at_builtin; refine wpList_append_src _ rfl _ _ 26 rfl w.heap.size 47 i0 _ 2 16 Try.underlying26 hi hz0 hz1 hz2 rfl (by decide) (.slice A3 z d3) z _ rfl HOW0.out w0.heap.size A0 nb.size c0 (chCells (putE nb.data.toList o')) rfl hA0 s1.out (Lies.own HO0.out) (chCells_one' _) s3.out s4.out s5.out ?_)
          intro v1 w1 hown1 hgrow _
          have hbl1' : Below w.heap.size wr w1 := ((hb2.mono hws).trans (hbl0.mono (by omega))).trans ((Below.refl _ _).grown hgrow s5.out (fun x hx => (HOW0.out.lt x hx).1))
          have hbl1 := hbl.trans hbl1'
          clear hgrow
          by_cases hcm : c' = m
          · subst hcm
            have hkm : k = c' := by omega
            subst hkm
            go_wp2_with fail
            go_roundw
            case rel => exact ⟨j + k, _, 0, 0, out ++ putE nb.data.toList o', rfl, by have := HKJ.out; rw [HN.out]; omega, (fun h => by cases h), Nat.le_refl _, by rw [HLE.out rfl]; exact Lies.empty _ _ _, HRP.out, by rw [List.length_append, HZ.out, chCells_append, putE_len, HNL.out]; exact hown1, hbl1⟩
            case measure => simp [sliceLen]; omega
          · have hcm2 : (c' == m) = false := by rw [beq_eq_false_iff_ne]; exact hcm
            go_wp2_with fail
            go_roundw
            case rel => exact ⟨j + m, _, k - m, c' - m, out ++ putE nb.data.toList o', rfl, by have := HKJ.out; rw [HN.out]; omega, (fun h => by cases h), by omega, (HLD.out hcm).below hbl1', HRP.out, by rw [List.length_append, HZ.out, chCells_append, putE_len, HNL.out]; exact hown1, hbl1⟩
            case measure => simp [sliceLen]; omega
    · have hl0 : L.drop j = [] := List.eq_nil_of_length_eq_zero (by rw [HLEN.out]; omega)
      have hout : decE L = out := by rw [HREP.out, hl0, decE_nil, List.append_nil]
      have HOUT := Lib.hid hout
      have hk0 : k = 0 := by omega
      subst hk0
      clear hl0 hout
      have HOW := Lib.hid hown
      generalize hz : out.length = z at *
      clear hown
      go_wp2_with fail
      go_ret
      exact ⟨_, rfl, by rw [HOUT.out]; rw [hz]; exact HOW.out, hbl⟩

end Go.Proofs.Ytagpdcgcjallhaa.mk
