/-
  FoldTells, where what comes in is of bulk at most 1048576: what is lower, without its ends, trimmed, without some bytes, with a text for a byte, is byte by byte as the page says.
  Conditions: none beside the bound that the statement itself names.
-/
import Derived.Test.YtcaehaikjgcamaaFoldEnds
import Derived.Test.YtcaehaikjgcamaaMarkArgs
namespace Go.Proofs.Ytcaehaikjgcamaa.mk
open Go.RowKit

def EndsRel (w0 : World) (v i : Value) (wr : World) : Prop :=
  ∃ (k : Nat) (e : ByteArray), k ≤ 33 ∧ i = .int .i64 (k : Int) ∧ v = .string e ∧ e.size = k ∧ e.data.toList = (List.range k).map UInt8.ofNat ∧ Below w0.heap.size w0 wr
def SwRel (L : List (UInt8 × Int)) (x : UInt8) (z : List UInt8) (n : Nat) (w0 : World) (v b i : Value) (wr : World) : Prop :=
  ∃ (k : Nat) (bb : Bool), k ≤ n ∧ i = .int .i64 (k : Int) ∧ b = .bool bb ∧ bb = (L.take k).all (fun x => x.1 == lowB x.1) ∧ wr.ownsRow w0.heap.size 30 2 v (replL (fun b => b == x) z (L.take k)).length (chCells (replL (fun b => b == x) z (L.take k))) ∧ Below w0.heap.size w0 wr

set_option maxHeartbeats 2000000 in
set_option maxRecDepth 100000 in
theorem tells3_any (a : LT) (y z : ByteArray) (x : UInt8) (w : World) (ha : a.ok w w.heap.size) (hsz : a.s.size ≤ 1048573) (hy : y.size ≤ 1048573) (hz : z.size ≤ 1048573) :
    Calls Try.prog 3 #[a.v, .string y, .int .u8 x.toNat, .string z] w fun e w' => e = .returned (.bool true) ∧ Below w.heap.size w w' := by
  obtain ⟨s, A, m, c, rs⟩ := a
  obtain ⟨hl, hm, hm2, hs2⟩ := ha
  simp only at hl hm hm2 hs2 hsz
  show Calls Try.prog 3 #[.agg #[.string s, .slice A m c], .string y, .int .u8 x.toNat, .string z] w _
  have HM := Lib.hid hm
  clear hm
  have hlen : (chars s.data.toList rs).length = s.size := by rw [chars_length, Array.length_toList]; rfl
  have HLN := Lib.hid hlen
  clear hlen
  go_enter Try.func3, Try.ntmps3
  go_wp2_with fail
  refine (alive3_any _).mono ?_
  rintro e w1 ⟨rfl, hb1⟩
  simp only [World.size_alloc] at hb1
  have hz1 := hb1.size
  simp only [World.size_alloc] at hz1
  have y0 : Whole w1 w.heap.size 24 #[.string s, .slice A m c] := (Whole.made w _ _).below hb1 (Nat.lt_succ_self _)
  have c0 : w1.cell? ⟨w.heap.size, 0, none⟩ = some (.string s) := y0.at_ 0
  have c1 : w1.cell? ⟨w.heap.size, 1, none⟩ = some (.slice A m c) := y0.at_ 1
  have hl1 : Lies w1 w1.heap.size A (runCells rs) := ((hl.alloc (Nat.le_refl _) _).mono (Nat.le_succ _)).next hb1 (by simp)
  have hbw : Below w.heap.size w w1 := below_made hb1
  go_wp2_with fail
  refine (refOf_any s A m c rs _ hl1 HM.out (by omega) hm2).mono ?_
  rintro e w2 ⟨v2, rfl, ho2, hb2⟩
  obtain ⟨A2, c2, rfl, hA2, _, hc2⟩ := own_form ho2
  have hl2 : Lies w2 w2.heap.size A (runCells rs) := hl1.next hb2 (Nat.le_refl _)
  have hL2 : Lies w2 w2.heap.size A2 (chCells (chars s.data.toList rs)) := Lies.own ho2
  have y2 := y0.below hb2 y0.lt
  have hbw2 : Below w.heap.size w w2 := hbw.trans (hb2.mono (by omega))
  clear c0 c1 hl1 hb2 ho2 y0 hbw hb1
  go_wp2_with fail
  go_loopw [10, 11] (EndsRel w2) (fun _ i _ => 33 - (intOf i).toNat)
  case atStart => exact ⟨0, ⟨#[]⟩, by omega, rfl, rfl, rfl, rfl, Below.refl _ _⟩
  case round =>
    obtain ⟨k, en, hk, rfl, rfl, hes, hel, hbl⟩ := hrel
    have HES := Lib.hid hes
    have HEL := Lib.hid hel
    have HBL := Lib.hid hbl
    have hws := hbl.size
    clear hel hbl
    by_cases hlt : k < 33
    · have hk1 : (k : Int) ≤ 32 := by omega
      have hwk : IntKind.u8.wrap (k : Int) = (k : Int) := IntWalk.u8_in _ (by omega)
      have hcv : (convert 28 9 (.slice (some ⟨wr.heap.size, 0, none⟩) 1 1)).run Try.prog (wr.alloc (.cells #[.int .u8 (k : Int)] 5)) = .ok (.string ⟨#[UInt8.ofNat k]⟩) (wr.alloc (.cells #[.int .u8 (k : Int)] 5)) := by
        refine run_convert_bytes_back (P := Try.prog) _ 28 9 5 ⟨wr.heap.size, 0, none⟩ 1 [UInt8.ofNat k] Try.underlying28 Try.underlying5 Try.underlying9 (fun j hj => ?_)
        obtain rfl : j = 0 := by simpa using hj
        have h := cells_new wr 5 [.int .u8 (k : Int)] 0 _ rfl
        rw [h]
        simp
        omega
      have HAP : Hid ((en ++ ⟨#[UInt8.ofNat k]⟩).data.toList = (List.range (k + 1)).map UInt8.ofNat) := by
        show _ = _
        rw [ByteArray.data_append, Array.toList_append, HEL.out, List.range_succ, List.map_append]
        rfl
      have HAS : Hid ((en ++ ⟨#[UInt8.ofNat k]⟩).size = k + 1) := by
        show _ = _
        rw [ByteArray.size_append, HES.out]
        rfl
      go_wp2_with fail
      go_roundw
      case rel => exact ⟨k + 1, _, by omega, by go_num, rfl, HAS.out, HAP.out, HBL.out.alloc (by omega) _⟩
      case measure => simp [intOf]; omega
    · have HE33 : Hid (en.data.toList = (List.range 33).map UInt8.ofNat) := by
        have h := HEL.out
        rw [show k = 33 by omega] at h
        exact h
      have hk33 : ¬ (k : Int) ≤ 32 := by omega
      obtain ⟨k33, rfl⟩ : ∃ k33 : Nat, k33 = k := ⟨_, rfl⟩
      obtain ⟨w3, rfl⟩ : ∃ w3 : World, w3 = wr := ⟨_, rfl⟩
      go_wp2_with fail
      have hl3 : Lies w3 w3.heap.size A (runCells rs) := hl2.next HBL.out (Nat.le_refl _)
      have hL3 : Lies w3 w3.heap.size A2 (chCells (chars s.data.toList rs)) := hL2.next HBL.out (Nat.le_refl _)
      have y3 := y2.below HBL.out y2.lt
      have hbw3 : Below w.heap.size w w3 := hbw2.trans (HBL.out.mono hbw2.size)
      have HIN : Hid (∀ o ∈ (chars s.data.toList rs).map (·.2), 0 ≤ o ∧ o ≤ 65536) := fun o ho => by rw [chars_snd] at ho; exact origins_in _ _ o ho
      have HZL : Hid (z.data.toList.length = z.size) := by show _ = _; rw [Array.length_toList]; rfl
      have hpr : s.size * (z.size + 1) ≤ 1048573 * 1048574 := Nat.mul_le_mul hsz (by omega)
      have HCH : Hid ((chars s.data.toList rs).map (·.1) = s.data.toList) := chars_fst _ _
      generalize hLL : chars s.data.toList rs = L at *
      have HLL := Lib.hid hLL
      clear hLL hl2 hL2 y2 hbw2
      obtain ⟨i0, hi, hq0, hq1, hq2⟩ := info_parts ch_info
      go_loopw [12, 13, 14] (SwRel L x z.data.toList s.size w3) (fun _ _ i _ => s.size - (intOf i).toNat)
      case atStart => exact ⟨0, true, Nat.zero_le _, rfl, rfl, rfl, by simpa [chCells, replL] using World.ownsRow_nil _ _ _ _, Below.refl _ _⟩
      case round =>
        obtain ⟨k, bb, hk', rfl, rfl, hbb, hown, hbl⟩ := hrel
        have hws3 := hbl.size
        have HRL : Hid ((replL (fun b => b == x) z.data.toList (L.take k)).length ≤ s.size * (z.size + 1)) := by
          refine Nat.le_trans (replL_length _ _ _) ?_
          rw [HZL.out]
          refine Nat.mul_le_mul_right _ ?_
          rw [List.length_take, HLN.out]
          omega
        have hrl := HRL.out
        generalize hq : replL (fun b => b == x) z.data.toList (L.take k) = q at *
        have HQ := Lib.hid hq
        clear hq HRL
        generalize hn5 : q.length = n5 at *
        have HN5 := Lib.hid hn5
        clear hn5
        have HOWN := Lib.hid hown
        have HBL3 := Lib.hid hbl
        have HBB := Lib.hid hbb
        obtain ⟨A5, c5, rfl, _, _, _⟩ := own_form hown
        have hn5b : n5 ≤ 1099511627776 := by omega
        clear hbb hrl hpr
        by_cases hlt' : k < s.size
        · obtain ⟨ad, b, o, rfl, hb, hc1, hc2', HR⟩ := (hL3.below hbl).ch (k := k) (by rw [HLN.out]; exact hlt')
          have hk0 : (0 : Int) ≤ (k : Int) := Int.natCast_nonneg _
          have hk1 : (k : Int) < (s.size : Int) := by omega
          have hoo : 0 ≤ o ∧ o ≤ 65536 := HIN.out o (List.mem_map.2 ⟨(b, o), List.mem_of_getElem? HR.out, rfl⟩)
          have HNO : Hid (nearO o = o) := nearO_in hoo.1 hoo.2
          have HNB : Hid ((bb && (b == lowB b)) = (L.take (k + 1)).all (fun x => x.1 == lowB x.1)) := by
            show _ = _
            rw [take_next HR.out, List.all_append, HBB.out]
            simp
          clear hown hbl hoo
          have hblo : ((b.toNat : Int) == ((lowB b).toNat : Int)) = (b == lowB b) := by
            rw [Bool.eq_iff_iff, beq_iff_eq, beq_iff_eq]
            constructor
            · intro e; exact UInt8.toNat_inj.1 (by omega)
            · intro e; rw [← e]
          go_wp2_with fail
          cases bb
          · go_quiet (fail)
            have HNB2 : Hid (false = (L.take (k + 1)).all (fun x => x.1 == lowB x.1)) := by rw [← HNB.out]; exact rfl
            generalize hwq : wr.drewN nq = wq at *
            have hownq : wq.ownsRow w3.heap.size 30 2 (.slice A5 n5 c5) n5 (chCells q) := by rw [← hwq]; exact HOWN.out
            have hblq : Below w3.heap.size w3 wq := by rw [← hwq]; exact HBL3.out.drewN nq
            have hd1 : wq.cell? (ad.add (k * 2)) = some (.int .u8 b.toNat) := by rw [← hwq]; exact hc1
            have hd2 : wq.cell? ⟨(ad.add (k * 2)).block, (ad.add (k * 2)).off + 1, none⟩ = some (.int .i64 o) := by rw [← hwq]; exact hc2'
            have hwsq := hblq.size
            have HOQ := Lib.hid hownq
            have HBQ := Lib.hid hblq
            clear hwq hownq hblq hc1 hc2' HNB hblo
            by_cases hbx : b = x
            · have hbx1 : ((b.toNat : Int) == (x.toNat : Int)) = true := by rw [hbx]; simp
              have HNX : Hid (replL (fun b => b == x) z.data.toList (L.take (k + 1)) = q ++ allCh z.data.toList o) := by
                show _ = _
                rw [replL_next HR.out, HQ.out, if_pos (by rw [hbx]; simp)]
                unfold allCh
                rw [HNO.out]
              clear hbx
              go_wp2_with fail
              refine (all_any z o _ (by omega)).mono ?_
              rintro e wA ⟨vA, rfl, hoA, hbA⟩
              obtain ⟨AA, cA, rfl, hAA, _, _⟩ := own_form hoA
              have hzA := hbA.size
              have HLA : Hid ((allCh z.data.toList o).length = z.size) := by show _ = _; unfold allCh; rw [List.length_map, HZL.out]
              go_wp2_with (at_builtin; refine wpList_append_src _ rfl _ _ 26 rfl w3.heap.size 30 i0 _ 2 16 Try.underlying26 hi hq0 hq1 hq2 rfl (by decide) (.slice A5 n5 c5) n5 _ rfl (own_keep HOQ.out hbA) wA.heap.size AA z.size cA (chCells (allCh z.data.toList o)) rfl hAA (by rw [chCells_length, HLA.out]) (Lies.own hoA) (chCells_one' _) (by simp only [maxLen]; omega) (by omega) (by omega) ?_)
              intro v' w1 hown1 hgrow _
              have hbl1 : Below w3.heap.size w3 w1 := (below_next HBQ.out (Nat.le_refl _) hbA).grown hgrow (by omega) (fun x hx => (HOQ.out.lt x hx).1)
              clear hgrow
              go_wp2_with fail
              go_roundw
              case rel => exact ⟨k + 1, _, by omega, by go_num, rfl, HNB2.out, by rw [HNX.out, chCells_append, List.length_append, HN5.out, HLA.out]; exact hown1, hbl1⟩
              case measure => simp [intOf]; omega
            · have hbx1 : ((b.toNat : Int) == (x.toNat : Int)) = false := by
                rw [beq_eq_false_iff_ne]
                intro e
                exact hbx (UInt8.toNat_inj.1 (by omega))
              have HNX : Hid (replL (fun b => b == x) z.data.toList (L.take (k + 1)) = q ++ [(b, o)]) := by
                show _ = _
                rw [replL_next HR.out, HQ.out, if_neg (by simpa using hbx)]
                rfl
              clear hbx
              go_wp2_with (at_builtin; refine wpList_append_own_at _ rfl _ _ 26 rfl w3.heap.size 30 i0 _ 2 16 Try.underlying26 hi hq0 hq1 hq2 rfl (by decide) (.slice A5 n5 c5) n5 _ rfl (HOQ.out.alloc _) ⟨wq.heap.size, 0, none⟩ 1 1 [.int .u8 b.toNat, .int .i64 o] rfl rfl (cells_new wq _ _) (by simp [Value.oneCell']) (by simp only [maxLen]; omega) (by omega) (by simp; omega) ?_)
              intro v' w1 hown1 hgrow _ _
              have hbl1 : Below w3.heap.size w3 w1 := (HBQ.out.alloc (by omega) _).grown hgrow (by simp; omega) (fun x hx => (HOQ.out.lt x hx).1)
              clear hgrow
              go_wp2_with fail
              go_roundw
              case rel => exact ⟨k + 1, _, by omega, by go_num, rfl, HNB2.out, by rw [HNX.out, chCells_snoc, List.length_append, HN5.out]; exact hown1, hbl1⟩
              case measure => simp [intOf]; omega
          · go_quiet ((go_at_call 8; exact Calls.quiet_of_same ((refLow_any b _).mono fun _ _ ⟨he, hw⟩ => ⟨he, hw.symm⟩)))
            have HNB2 : Hid ((b == lowB b) = (L.take (k + 1)).all (fun x => x.1 == lowB x.1)) := by rw [← HNB.out]; exact rfl
            generalize hwq : wr.drewN nq = wq at *
            have hownq : wq.ownsRow w3.heap.size 30 2 (.slice A5 n5 c5) n5 (chCells q) := by rw [← hwq]; exact HOWN.out
            have hblq : Below w3.heap.size w3 wq := by rw [← hwq]; exact HBL3.out.drewN nq
            have hd1 : wq.cell? (ad.add (k * 2)) = some (.int .u8 b.toNat) := by rw [← hwq]; exact hc1
            have hd2 : wq.cell? ⟨(ad.add (k * 2)).block, (ad.add (k * 2)).off + 1, none⟩ = some (.int .i64 o) := by rw [← hwq]; exact hc2'
            have hwsq := hblq.size
            have HOQ := Lib.hid hownq
            have HBQ := Lib.hid hblq
            clear hwq hownq hblq hc1 hc2' HNB hblo
            by_cases hbx : b = x
            · have hbx1 : ((b.toNat : Int) == (x.toNat : Int)) = true := by rw [hbx]; simp
              have HNX : Hid (replL (fun b => b == x) z.data.toList (L.take (k + 1)) = q ++ allCh z.data.toList o) := by
                show _ = _
                rw [replL_next HR.out, HQ.out, if_pos (by rw [hbx]; simp)]
                unfold allCh
                rw [HNO.out]
              clear hbx
              go_wp2_with fail
              refine (all_any z o _ (by omega)).mono ?_
              rintro e wA ⟨vA, rfl, hoA, hbA⟩
              obtain ⟨AA, cA, rfl, hAA, _, _⟩ := own_form hoA
              have hzA := hbA.size
              have HLA : Hid ((allCh z.data.toList o).length = z.size) := by show _ = _; unfold allCh; rw [List.length_map, HZL.out]
              go_wp2_with (at_builtin; refine wpList_append_src _ rfl _ _ 26 rfl w3.heap.size 30 i0 _ 2 16 Try.underlying26 hi hq0 hq1 hq2 rfl (by decide) (.slice A5 n5 c5) n5 _ rfl (own_keep HOQ.out hbA) wA.heap.size AA z.size cA (chCells (allCh z.data.toList o)) rfl hAA (by rw [chCells_length, HLA.out]) (Lies.own hoA) (chCells_one' _) (by simp only [maxLen]; omega) (by omega) (by omega) ?_)
              intro v' w1 hown1 hgrow _
              have hbl1 : Below w3.heap.size w3 w1 := (below_next HBQ.out (Nat.le_refl _) hbA).grown hgrow (by omega) (fun x hx => (HOQ.out.lt x hx).1)
              clear hgrow
              go_wp2_with fail
              go_roundw
              case rel => exact ⟨k + 1, _, by omega, by go_num, rfl, HNB2.out, by rw [HNX.out, chCells_append, List.length_append, HN5.out, HLA.out]; exact hown1, hbl1⟩
              case measure => simp [intOf]; omega
            · have hbx1 : ((b.toNat : Int) == (x.toNat : Int)) = false := by
                rw [beq_eq_false_iff_ne]
                intro e
                exact hbx (UInt8.toNat_inj.1 (by omega))
              have HNX : Hid (replL (fun b => b == x) z.data.toList (L.take (k + 1)) = q ++ [(b, o)]) := by
                show _ = _
                rw [replL_next HR.out, HQ.out, if_neg (by simpa using hbx)]
                rfl
              clear hbx
              go_wp2_with (at_builtin; refine wpList_append_own_at _ rfl _ _ 26 rfl w3.heap.size 30 i0 _ 2 16 Try.underlying26 hi hq0 hq1 hq2 rfl (by decide) (.slice A5 n5 c5) n5 _ rfl (HOQ.out.alloc _) ⟨wq.heap.size, 0, none⟩ 1 1 [.int .u8 b.toNat, .int .i64 o] rfl rfl (cells_new wq _ _) (by simp [Value.oneCell']) (by simp only [maxLen]; omega) (by omega) (by simp; omega) ?_)
              intro v' w1 hown1 hgrow _ _
              have hbl1 : Below w3.heap.size w3 w1 := (HBQ.out.alloc (by omega) _).grown hgrow (by simp; omega) (fun x hx => (HOQ.out.lt x hx).1)
              clear hgrow
              go_wp2_with fail
              go_roundw
              case rel => exact ⟨k + 1, _, by omega, by go_num, rfl, HNB2.out, by rw [HNX.out, chCells_snoc, List.length_append, HN5.out]; exact hown1, hbl1⟩
              case measure => simp [intOf]; omega
        · obtain rfl : k = s.size := by omega
          have hful : L.take s.size = L := List.take_of_length_le (by rw [HLN.out]; exact Nat.le_refl _)
          have hq5 := HQ.out
          have hbb2 := HBB.out
          rw [hful] at hq5 hbb2
          have hlt0 : w.heap.size < wr.heap.size := Nat.lt_of_lt_of_le y3.lt hbl.size
          obtain ⟨l1, l2, l3, l4, n1, n2, n3, n4, hends⟩ := fends s A m c rs x y z en A2 c2 A5 c5 bb wr q (hl3.next hbl (Nat.le_refl _)) HM.out hm2 hsz hy hz (by rw [HLL.out]; exact hL3.next hbl (Nat.le_refl _)) hc2 (by have h := Lies.own HOWN.out; exact h) (by rw [HLL.out]; exact hq5.symm) HE33.out (by rw [hbb2]; exact (noUp_all L _ HCH.out).symm)
          rw [HN5.out] at hends
          have HE := Lib.hid hends
          have yr := y3.below hbl y3.lt
          have HBF := Lib.hid (hbw3.trans (hbl.mono hbw3.size))
          have KS : ∀ w', Below wr.heap.size wr w' → w'.cell? ⟨w.heap.size, 0, none⟩ = some (.string s) ∧ w'.cell? ⟨w.heap.size, 1, none⟩ = some (.slice A m c) ∧ Below wr.heap.size wr w' := fun w' h =>
            ⟨(h.cell yr.lt).trans (yr.at_ 0), (h.cell yr.lt).trans (yr.at_ 1), h⟩
          have HKS := Lib.hid KS
          have c0 : wr.cell? ⟨w.heap.size, 0, none⟩ = some (.string s) := yr.at_ 0
          have c1 : wr.cell? ⟨w.heap.size, 1, none⟩ = some (.slice A m c) := yr.at_ 1
          clear KS hends hown hbl hq5 hbb2 hful hL3 hl3 hc2 HBB HQ
          have hK0 : Below wr.heap.size wr wr := Below.refl _ _
          go_wp2_with fail
          refine (HE.out.lower _ hK0).mono ?_
          rintro e wx1 ⟨D1, k1, rfl, hd1, hb1⟩
          have hK1 : Below wr.heap.size wr wx1 := below_next hK0 (Nat.le_refl _) hb1
          clear c0 c1 hb1
          obtain ⟨c0, c1, _⟩ := HKS.out _ hK1
          have HD1 := Lib.hid hd1
          clear hd1
          go_wp2_with fail
          refine (HE.out.rlower _ hK1).mono ?_
          rintro e wx2 ⟨D2, k2, rfl, hd2, hb2⟩
          have HD1' := Lib.hid (HD1.out.next hb2 (Nat.le_refl _))
          have hK2 : Below wr.heap.size wr wx2 := below_next hK1 (Nat.le_refl _) hb2
          clear c0 c1 hb2
          obtain ⟨c0, c1, _⟩ := HKS.out _ hK2
          have HD2 := Lib.hid hd2
          clear hd2
          go_wp2_with fail
          refine (HE.out.is1 _ D1 k1 D2 k2 HD1'.out HD2.out).mono ?_
          rintro e wx3 ⟨rfl, hb3⟩
          have hK3 : Below wr.heap.size wr wx3 := below_next hK2 (Nat.le_refl _) hb3
          clear c0 c1 hb3
          obtain ⟨c0, c1, _⟩ := HKS.out _ hK3
          go_wp2_with fail
          refine (HE.out.ends _ hK3).mono ?_
          rintro e wx4 ⟨D4, k4, rfl, hd4, hb4⟩
          have hK4 : Below wr.heap.size wr wx4 := below_next hK3 (Nat.le_refl _) hb4
          clear c0 c1 hb4
          obtain ⟨c0, c1, _⟩ := HKS.out _ hK4
          have HD4 := Lib.hid hd4
          clear hd4
          go_wp2_with fail
          refine (HE.out.rends _ hK4).mono ?_
          rintro e wx5 ⟨D5, k5, rfl, hd5, hb5⟩
          have HD4' := Lib.hid (HD4.out.next hb5 (Nat.le_refl _))
          have hK5 : Below wr.heap.size wr wx5 := below_next hK4 (Nat.le_refl _) hb5
          clear c0 c1 hb5
          obtain ⟨c0, c1, _⟩ := HKS.out _ hK5
          have HD5 := Lib.hid hd5
          clear hd5
          go_wp2_with fail
          refine (HE.out.is2 _ D4 k4 D5 k5 HD4'.out HD5.out).mono ?_
          rintro e wx6 ⟨rfl, hb6⟩
          have hK6 : Below wr.heap.size wr wx6 := below_next hK5 (Nat.le_refl _) hb6
          clear c0 c1 hb6
          obtain ⟨c0, c1, _⟩ := HKS.out _ hK6
          go_wp2_with fail
          refine (HE.out.trim _ hK6).mono ?_
          rintro e wx7 ⟨D7, k7, rfl, hd7, hb7⟩
          have hK7 : Below wr.heap.size wr wx7 := below_next hK6 (Nat.le_refl _) hb7
          clear c0 c1 hb7
          obtain ⟨c0, c1, _⟩ := HKS.out _ hK7
          have HD7 := Lib.hid hd7
          clear hd7
          go_wp2_with fail
          refine (HE.out.rtrim _ hK7).mono ?_
          rintro e wx8 ⟨D8, k8, rfl, hd8, hb8⟩
          have HD7' := Lib.hid (HD7.out.next hb8 (Nat.le_refl _))
          have hK8 : Below wr.heap.size wr wx8 := below_next hK7 (Nat.le_refl _) hb8
          clear c0 c1 hb8
          obtain ⟨c0, c1, _⟩ := HKS.out _ hK8
          have HD8 := Lib.hid hd8
          clear hd8
          go_wp2_with fail
          refine (HE.out.is3 _ D7 k7 D8 k8 HD7'.out HD8.out).mono ?_
          rintro e wx9 ⟨rfl, hb9⟩
          have hK9 : Below wr.heap.size wr wx9 := below_next hK8 (Nat.le_refl _) hb9
          clear c0 c1 hb9
          obtain ⟨c0, c1, _⟩ := HKS.out _ hK9
          go_wp2_with fail
          refine (HE.out.without _ hK9).mono ?_
          rintro e wx10 ⟨D10, k10, rfl, hd10, hb10⟩
          have hK10 : Below wr.heap.size wr wx10 := below_next hK9 (Nat.le_refl _) hb10
          clear c0 c1 hb10
          obtain ⟨c0, c1, _⟩ := HKS.out _ hK10
          have HD10 := Lib.hid hd10
          clear hd10
          go_wp2_with fail
          refine (HE.out.rwithout _ hK10).mono ?_
          rintro e wx11 ⟨D11, k11, rfl, hd11, hb11⟩
          have HD10' := Lib.hid (HD10.out.next hb11 (Nat.le_refl _))
          have hK11 : Below wr.heap.size wr wx11 := below_next hK10 (Nat.le_refl _) hb11
          clear c0 c1 hb11
          obtain ⟨c0, c1, _⟩ := HKS.out _ hK11
          have HD11 := Lib.hid hd11
          clear hd11
          go_wp2_with fail
          refine (HE.out.is4 _ D10 k10 D11 k11 HD10'.out HD11.out).mono ?_
          rintro e wx12 ⟨rfl, hb12⟩
          have hK12 : Below wr.heap.size wr wx12 := below_next hK11 (Nat.le_refl _) hb12
          clear c0 c1 hb12
          obtain ⟨c0, c1, _⟩ := HKS.out _ hK12
          go_wp2_with fail
          refine (HE.out.swap _ hK12).mono ?_
          rintro e wx13 ⟨D13, k13, rfl, hd13, hb13⟩
          have hK13 : Below wr.heap.size wr wx13 := below_next hK12 (Nat.le_refl _) hb13
          clear c0 c1 hb13
          obtain ⟨c0, c1, _⟩ := HKS.out _ hK13
          have HD13 := Lib.hid hd13
          clear hd13
          go_wp2_with fail
          refine (HE.out.is5 _ D13 k13 hK13 HD13.out).mono ?_
          rintro e wx14 ⟨rfl, hb14⟩
          have hK14 : Below wr.heap.size wr wx14 := below_next hK13 (Nat.le_refl _) hb14
          clear c0 c1 hb14
          obtain ⟨c0, c1, _⟩ := HKS.out _ hK14
          go_wp2_with fail
          refine (HE.out.isl _).mono ?_
          rintro e wx15 ⟨rfl, hb15⟩
          have hK15 : Below wr.heap.size wr wx15 := below_next hK14 (Nat.le_refl _) hb15
          clear c0 c1 hb15
          have hbbb : (bb == bb) = true := by simp
          go_wp2_with fail
          all_goals
            go_ret
            exact ⟨by first | rfl | exact ret_bool (by simp), HBF.out.trans (hK15.mono (by have := HBF.out.size; omega))⟩

end Go.Proofs.Ytcaehaikjgcamaa.mk
namespace Go.Proofs.Ytcaehaikjgcamaa.foldTells
open Go.ChangeShapes Go.WideShapes Go.ChangeAt Go.RowKit Go.Proofs.Ytcaehaikjgcamaa.mk

theorem contract (H : Type) (enc : TypeId × Value → H) (W : World) (args : Array Value) (ds gs : List (DataW H)) (before : List MemPlace) (base : Nat)
    (hval : ∀ (j : Nat) t v, Try.f3.params[j]? = some t → args[j]? = some v → Value.okWide Try.prog W .any base t v)
    (hW : DataW.Whole enc Try.prog Try.f3.params.toList Rows.foldTellsSpec.vars false W args.toList ds gs before) (hk : Rows.uptoSmall H (ds ++ gs) = true) :
    Calls Try.prog 3 args W fun e W' => ∃ v, e = .returned v ∧ Rows.foldTellsSpec.post enc Try.prog Try.f3 false true false false W args v W' := by
  obtain ⟨p, q, hA0, hV, rfl, hfz, hnd⟩ := id hW
  have hA : DataW.TrodAll enc Try.prog W 0 (fun _ => true) true Try.f3.params.toList args.toList ds p := hA0
  rw [Try.params3] at hA hval
  obtain ⟨v0, vs0, d0, ds0, p0, q0, hargs, rfl, rfl, h0, r0⟩ := trodAll_cons hA
  obtain ⟨v1, vs1, d1, ds1, p1, q1, rfl, rfl, rfl, h1, r1⟩ := trodAll_cons r0
  obtain ⟨v2, vs2, d2, ds2, p2, q2, rfl, rfl, rfl, h2, r2⟩ := trodAll_cons r1
  obtain ⟨v3, vs3, d3, ds3, p3, q3, rfl, rfl, rfl, h3, r3⟩ := trodAll_cons r2
  obtain ⟨rfl, rfl, rfl⟩ := trodAll_nil r3
  obtain rfl : args = #[v0, v1, v2, v3] := by cases args; simp_all
  obtain ⟨rfl, rfl⟩ := trodVars_none hV
  have hbk := bulk_bound hk
  simp only [List.append_nil, Rows.uptoBulkAll] at hbk
  have hbk2 : Rows.uptoBulk d0 + Rows.uptoBulk d1 + Rows.uptoBulk d3 ≤ 1048576 := by omega
  obtain ⟨y, rfl, hy⟩ := open_txt (hval 1 9 v1 rfl rfl) h1
  obtain ⟨z, rfl, hz⟩ := open_txt (hval 3 9 v3 rfl rfl) h3
  obtain ⟨x, rfl⟩ := open_byte Try.underlying5 (hval 2 5 v2 rfl rfl)
  obtain ⟨a, rfl, hoka, _, _, hsa⟩ := open_str (hval 0 24 v0 rfl rfl) h0 (by omega)
  refine (tells3_any a y z x W hoka (by omega) (by omega) (by omega)).mono fun e W' ⟨he, hb⟩ => ?_
  subst he
  exact ⟨_, rfl, law_post (tb := 4) laidOut hW rfl ⟨rfl, rfl, rfl⟩ (by rw [Try.params3]; exact readable_all (by kernel_rfl)) rfl Try.underlying4 hb⟩

set_option maxRecDepth 100000 in
theorem lifted (os : Os) (started : os.Started) (H : Type) (enc : TypeId × Value → H) (F : Stop.Interp) :
    ReturnsInHanded {} Try.checked os 3 .any ((Rows.OpenSpec.upto Rows.foldTellsSpec).pre6 enc Try.prog Try.f3 Rows.foldTellsUptoRow.domain false) (((Rows.OpenSpec.upto Rows.foldTellsSpec).at F).post enc Try.prog Try.f3 false true false false) := by
  refine returnsInHanded_of_cond (C := Try.checked) (s := Rows.OpenSpec.upto Rows.foldTellsSpec) (k := Rows.uptoSmall) rfl own started (by kernel_rfl) Try.func3
    (OpenSpec.witness (enc := enc) (C := Try.checked) (s := Rows.OpenSpec.upto Rows.foldTellsSpec) (k := Rows.uptoSmall) rfl false ⟨#[], #[.agg #[.string .empty, .slice none 0 0], .string .empty, .int .u8 0, .string .empty], []⟩ 8 (by kernel_rfl) (by kernel_rfl) (by kernel_rfl)
      (x := ([.agg [.lit (.string []), .nil], .lit (.string []), .lit (.int .u8 0), .lit (.string [])], [], [])) (by kernel_rfl) rfl (by kernel_rfl)) ?_
  intro W base args ds gs before hval hW _ hk _
  exact contract H enc W args ds gs before base hval hW hk

theorem proved : Rows.FoldTellsUptoSaid :=
  OpenClaim.holds_of_cond 3 Try.f3 rfl rfl rfl rfl rfl rfl rfl ⟨rfl, rfl, rfl, rfl, rfl⟩ rfl rfl rfl rfl rfl (by kernel_rfl) Try.func3 (by kernel_rfl)
    (of_decide_eq_true (by kernel_rfl)) (by unfold Func.isWrapper; first | (rw [if_pos (by decide +kernel)]; kernel_rfl) | (rw [if_neg (by decide +kernel)]; exact ⟨rfl, rfl⟩))
    (fun os started H enc _ F => lifted os started H enc F)

end Go.Proofs.Ytcaehaikjgcamaa.foldTells
