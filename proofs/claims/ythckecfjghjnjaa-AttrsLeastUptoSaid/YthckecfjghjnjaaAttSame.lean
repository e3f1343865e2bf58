/-
  Contracts of attrs' same, and of what tells what has to be put.
-/
import Derived.Test.YthckecfjghjnjaaAttMap
import Derived.Test.YthckecfjghjnjaaMarkSame
namespace Go.Proofs.Ythckecfjghjnjaa.mk
open Go.RowKit Go.Maps

theorem ch_ext {a b : LT} : a.ch = b.ch ↔ a.bs = b.bs ∧ a.os = b.os := by
  constructor
  · intro h
    exact ⟨by rw [← LT.ch_fst, ← LT.ch_fst, h], by rw [← LT.ch_snd, ← LT.ch_snd, h]⟩
  · rintro ⟨h1, h2⟩
    exact chars_ext (by rw [LT.ch_fst, LT.ch_fst]; exact h1) (by rw [LT.ch_snd, LT.ch_snd]; exact h2)
theorem sameB_ch (a b : LT) : sameB a b = decide (a.ch = b.ch) := by
  unfold sameB
  rw [decide_eq_decide]
  exact ch_ext.symm

set_option maxHeartbeats 1000000 in
set_option maxRecDepth 100000 in
theorem sameAt_any (a b : AT) (w : World) (ha : a.ok w w.heap.size) (hb : b.ok w w.heap.size) :
    Calls Try.prog 29 #[.agg #[.string a.nm.s, .slice a.nm.A a.nm.n a.nm.c, .string a.vl.s, .slice a.vl.A a.vl.n a.vl.c], .agg #[.string b.nm.s, .slice b.nm.A b.nm.n b.nm.c, .string b.vl.s, .slice b.vl.A b.vl.n b.vl.c]] w fun e w' => e = .returned (.bool (decide (a.ch = b.ch))) ∧ Below w.heap.size w w' := by
  have HA := Lib.hid ha
  have HB := Lib.hid hb
  clear ha hb
  go_enter Try.func29, Try.ntmps29
  go_wp2_with fail
  generalize hw0 : (w.alloc (.cells #[.string a.nm.s, .slice a.nm.A a.nm.n a.nm.c, .string a.vl.s, .slice a.vl.A a.vl.n a.vl.c] 27)).alloc (.cells #[.string b.nm.s, .slice b.nm.A b.nm.n b.nm.c, .string b.vl.s, .slice b.vl.A b.vl.n b.vl.c] 27) = w0
  have y0 : Whole w0 w.heap.size 27 #[.string a.nm.s, .slice a.nm.A a.nm.n a.nm.c, .string a.vl.s, .slice a.vl.A a.vl.n a.vl.c] := by rw [← hw0]; exact (Whole.made w _ _).alloc _
  have y1 : Whole w0 (w.heap.size + 1) 27 #[.string b.nm.s, .slice b.nm.A b.nm.n b.nm.c, .string b.vl.s, .slice b.vl.A b.vl.n b.vl.c] := by
    rw [← hw0]
    have h := Whole.made (w.alloc (.cells #[.string a.nm.s, .slice a.nm.A a.nm.n a.nm.c, .string a.vl.s, .slice a.vl.A a.vl.n a.vl.c] 27)) 27 #[.string b.nm.s, .slice b.nm.A b.nm.n b.nm.c, .string b.vl.s, .slice b.vl.A b.vl.n b.vl.c]
    simp only [World.size_alloc] at h
    exact h
  have hb0 : Below w.heap.size w w0 := by rw [← hw0]; exact ((Below.refl _ _).alloc (Nat.le_refl _) _).alloc (by simp) _
  clear hw0
  refine (same_any a.nm b.nm w0 (HA.out.1.next hb0 (Nat.le_refl _)) (HB.out.1.next hb0 (Nat.le_refl _))).mono ?_
  rw [sameB_ch]
  rintro e w1 ⟨rfl, hb1⟩
  have z0 := y0.below hb1 y0.lt
  have z1 := y1.below hb1 y1.lt
  have hbw := below_next hb0 (Nat.le_refl _) hb1
  have c2 : w1.cell? ⟨w.heap.size, 2, none⟩ = some (.string a.vl.s) := z0.at_ 2
  have c3 : w1.cell? ⟨w.heap.size, 3, none⟩ = some (.slice a.vl.A a.vl.n a.vl.c) := z0.at_ 3
  have c4 : w1.cell? ⟨w.heap.size + 1, 2, none⟩ = some (.string b.vl.s) := z1.at_ 2
  have c5 : w1.cell? ⟨w.heap.size + 1, 3, none⟩ = some (.slice b.vl.A b.vl.n b.vl.c) := z1.at_ 3
  by_cases hn : a.nm.ch = b.nm.ch
  · rw [decide_eq_true hn]
    have HR : Hid (decide (a.vl.ch = b.vl.ch) = decide (a.ch = b.ch)) := by
      show _ = _
      rw [decide_eq_decide]
      unfold AT.ch
      rw [hn]
      simp
    clear hn
    go_wp2_with fail
    refine (same_any a.vl b.vl w1 (HA.out.2.next hbw (Nat.le_refl _)) (HB.out.2.next hbw (Nat.le_refl _))).mono ?_
    rw [sameB_ch, HR.out]
    rintro e w2 ⟨rfl, hb2⟩
    go_wp2_with fail
    go_ret
    exact ⟨rfl, below_next hbw (Nat.le_refl _) hb2⟩
  · rw [decide_eq_false hn]
    have HR : Hid (decide (a.ch = b.ch) = false) := by
      show _ = _
      rw [decide_eq_false_iff_not]
      intro h
      exact hn (congrArg Prod.fst h)
    clear hn
    go_wp2_with fail
    go_ret
    exact ⟨by rw [HR.out]; rfl, hbw⟩

theorem putP_at {L : List PA} {x y : PA} (h : getA L (nmB x) = some y) : putP L x = !(decide (y = x)) := by
  unfold putP
  rw [h]
  congr 1
  rw [Bool.eq_iff_iff]
  simp
theorem putP_none {L : List PA} {x : PA} (h : getA L (nmB x) = none) : putP L x = true := by
  unfold putP
  rw [h]
  rfl
theorem plI_le (L : List PA) (nm : List UInt8) : -1 ≤ plI L nm ∧ plI L nm ≤ L.length := by
  unfold plI
  split <;> omega

set_option maxHeartbeats 2000000 in
set_option maxRecDepth 100000 in
theorem changesF_any (x : AT) (gi ga g b n : Nat) (A : Option Addr) (c : Nat) (ts : List AT) (w : World) (h1 : w.cell? ⟨gi, 0, none⟩ = some (.func (.func 37) #[] #[.pointer (some ⟨g, 0, none⟩)])) (h2 : w.cell? ⟨ga, 0, none⟩ = some (.slice A n c))
    (h3 : w.cell? ⟨g, 0, none⟩ = some (.map (some b))) (hM : MapF w b n (whF (ts.map AT.ch) n)) (hO : OneEach (ts.map AT.ch)) (hl : Lies w w.heap.size A (atCells ts)) (hok : AllOk w w.heap.size ts) (hn : ts.length = n) (hn2 : n ≤ 4294967295) (hx : x.ok w w.heap.size) :
    Calls Try.prog 28 #[.agg #[.string x.nm.s, .slice x.nm.A x.nm.n x.nm.c, .string x.vl.s, .slice x.vl.A x.vl.n x.vl.c], .pointer (some ⟨gi, 0, none⟩), .pointer (some ⟨ga, 0, none⟩)] w fun e w' => e = .returned (.bool (putP (ts.map AT.ch) x.ch)) ∧ Below w.heap.size w w' := by
  have HLN : Hid ((ts.map AT.ch).length = n) := by show _ = _; rw [List.length_map]; exact hn
  have HN := Lib.hid hn
  have HPL := Lib.hid (whF_plI hO x.nm.bs)
  rw [HLN.out] at HPL
  have HWL := Lib.hid (whF_le (ts.map AT.ch) n x.nm.bs)
  have HX := Lib.hid hx
  have HL := Lib.hid hl
  have HOK := Lib.hid hok
  have HM := Lib.hid hM
  have H3 := Lib.hid h3
  have hg1 := World.block_lt_of_cell? w _ h1
  have hg2 := World.block_lt_of_cell? w _ h2
  clear hn hO hM hx hl hok h3
  go_enter Try.func28, Try.ntmps28
  generalize hw0 : w.alloc (.cells #[.string x.nm.s, .slice x.nm.A x.nm.n x.nm.c, .string x.vl.s, .slice x.vl.A x.vl.n x.vl.c] 27) = w0
  have y0 : Whole w0 w.heap.size 27 #[.string x.nm.s, .slice x.nm.A x.nm.n x.nm.c, .string x.vl.s, .slice x.vl.A x.vl.n x.vl.c] := by rw [← hw0]; exact Whole.made _ _ _
  have hb0 : Below w.heap.size w w0 := by rw [← hw0]; exact (Below.refl _ _).alloc (Nat.le_refl _) _
  have c0 : w0.cell? ⟨w.heap.size, 0, none⟩ = some (.string x.nm.s) := y0.at_ 0
  have k1 := (hb0.cell hg1).trans h1
  have k2 := (hb0.cell hg2).trans h2
  go_wp2_with fail
  refine (finderF_any x.nm.s g b n _ w0 ((hb0.cell (World.block_lt_of_cell? w _ H3.out)).trans H3.out) (HM.out.below hb0) ⟨HWL.out.1, by have := HWL.out.2; show whF (ts.map AT.ch) n x.nm.bs ≤ _; omega⟩ HX.out.1.2.2.2).mono ?_
  rw [show (whF (ts.map AT.ch) n x.nm.s.data.toList - 1 : Int) = plI (ts.map AT.ch) x.nm.bs from HPL.out]
  rintro e w' ⟨rfl, rfl⟩
  clear hw0
  have c1 : w0.cell? ⟨w.heap.size, 1, none⟩ = some (.slice x.nm.A x.nm.n x.nm.c) := y0.at_ 1
  have c2 : w0.cell? ⟨w.heap.size, 2, none⟩ = some (.string x.vl.s) := y0.at_ 2
  have c3 : w0.cell? ⟨w.heap.size, 3, none⟩ = some (.slice x.vl.A x.vl.n x.vl.c) := y0.at_ 3
  have HX0 := Lib.hid (HX.out.next hb0 (Nat.le_refl _))
  have HOK0 := Lib.hid (HOK.out.next hb0 (Nat.le_refl _))
  have HL0 := Lib.hid (HL.out.next hb0 (Nat.le_refl _))
  by_cases hp : placeN (ts.map AT.ch) x.nm.bs < n
  · have HPI : Hid (plI (ts.map AT.ch) x.nm.bs = (placeN (ts.map AT.ch) x.nm.bs : Int)) := by show _ = _; unfold plI; rw [if_pos (by rw [HLN.out]; exact hp)]
    rw [HPI.out]
    have HGA : Hid (getA (ts.map AT.ch) (nmB x.ch) = (ts.map AT.ch)[placeN (ts.map AT.ch) x.nm.bs]?) := by show _ = _; rw [AT.nmB]; rfl
    generalize placeN (ts.map AT.ch) x.nm.bs = k at *
    obtain ⟨ad, y, rfl, hbA, d0, d1, d2, d3, HR⟩ := HL0.out.att (k := k) (by rw [HN.out]; exact hp)
    have HPP : Hid (putP (ts.map AT.ch) x.ch = !(decide (y.ch = x.ch))) := putP_at (HGA.out.trans (chs_at HR.out))
    have hk0 : (0 : Int) ≤ (k : Int) := Int.natCast_nonneg _
    have hk1 : (k : Int) < (n : Int) := by omega
    have HYO := Lib.hid (HOK0.out.get HR.out)
    have KS : ∀ w', Below w0.heap.size w0 w' → w'.cell? ⟨w.heap.size, 0, none⟩ = some (.string x.nm.s) ∧ w'.cell? ⟨w.heap.size, 1, none⟩ = some (.slice x.nm.A x.nm.n x.nm.c) ∧ w'.cell? ⟨w.heap.size, 2, none⟩ = some (.string x.vl.s) ∧ w'.cell? ⟨w.heap.size, 3, none⟩ = some (.slice x.vl.A x.vl.n x.vl.c) ∧ w'.cell? ⟨ga, 0, none⟩ = some (.slice (some ad) n c) ∧
        w'.cell? (ad.add (k * 4)) = some (.string y.nm.s) ∧ w'.cell? ⟨(ad.add (k * 4)).block, (ad.add (k * 4)).off + 1, none⟩ = some (.slice y.nm.A y.nm.n y.nm.c) ∧ w'.cell? ⟨(ad.add (k * 4)).block, (ad.add (k * 4)).off + 2, none⟩ = some (.string y.vl.s) ∧ w'.cell? ⟨(ad.add (k * 4)).block, (ad.add (k * 4)).off + 3, none⟩ = some (.slice y.vl.A y.vl.n y.vl.c) ∧ Below w0.heap.size w0 w' := fun w' h =>
      ⟨(h.cell y0.lt).trans c0, (h.cell y0.lt).trans c1, (h.cell y0.lt).trans c2, (h.cell y0.lt).trans c3, (h.cell (Nat.lt_of_lt_of_le hg2 hb0.size)).trans k2, (h.cell (by rw [addr_block]; exact hbA)).trans d0, (h.cell (p := ⟨(ad.add (k * 4)).block, (ad.add (k * 4)).off + 1, none⟩) (by show (ad.add (k * 4)).block < _; rw [addr_block]; exact hbA)).trans d1, (h.cell (p := ⟨(ad.add (k * 4)).block, (ad.add (k * 4)).off + 2, none⟩) (by show (ad.add (k * 4)).block < _; rw [addr_block]; exact hbA)).trans d2, (h.cell (p := ⟨(ad.add (k * 4)).block, (ad.add (k * 4)).off + 3, none⟩) (by show (ad.add (k * 4)).block < _; rw [addr_block]; exact hbA)).trans d3, h⟩
    have HKS := Lib.hid KS
    clear KS
    go_wp2_with fail
    go_region_held3 (fun w' => w'.cell? ⟨w.heap.size, 0, none⟩ = some (.string x.nm.s) ∧ w'.cell? ⟨w.heap.size, 1, none⟩ = some (.slice x.nm.A x.nm.n x.nm.c) ∧ w'.cell? ⟨w.heap.size, 2, none⟩ = some (.string x.vl.s) ∧ w'.cell? ⟨w.heap.size, 3, none⟩ = some (.slice x.vl.A x.vl.n x.vl.c) ∧ w'.cell? ⟨ga, 0, none⟩ = some (.slice (some ad) n c) ∧
        w'.cell? (ad.add (k * 4)) = some (.string y.nm.s) ∧ w'.cell? ⟨(ad.add (k * 4)).block, (ad.add (k * 4)).off + 1, none⟩ = some (.slice y.nm.A y.nm.n y.nm.c) ∧ w'.cell? ⟨(ad.add (k * 4)).block, (ad.add (k * 4)).off + 2, none⟩ = some (.string y.vl.s) ∧ w'.cell? ⟨(ad.add (k * 4)).block, (ad.add (k * 4)).off + 3, none⟩ = some (.slice y.vl.A y.vl.n y.vl.c) ∧ Below w0.heap.size w0 w')
      (first
        | exact HKS.out _ (Below.drew (Below.refl _ _))
        | (go_split_ands; exact HKS.out _ (by assumption))
        | (go_split_ands; exact HKS.out _ (below_next (by assumption) (Nat.le_refl _) hb1)))
      (first
        | (go_at_call 29; refine (sameAt_any y x _ ?_ ?_).mono ?_; (go_split_ands; exact HYO.out.next (by assumption) (Nat.le_refl _)); (go_split_ands; exact HX0.out.next (by assumption) (Nat.le_refl _)); rintro e w1 ⟨rfl, hb1⟩))
    all_goals
      go_wp2
      go_ret
      exact ⟨by rw [HPP.out]; rfl, below_next hb0.drew (Nat.le_refl _) hb1⟩
  · have HPI : Hid (plI (ts.map AT.ch) x.nm.bs = -1) := by show _ = _; unfold plI; rw [if_neg (by rw [HLN.out]; exact hp)]
    have HPP : Hid (putP (ts.map AT.ch) x.ch = true) := putP_none (by rw [AT.nmB]; unfold getA; exact List.getElem?_eq_none (by rw [HLN.out]; omega))
    rw [HPI.out]
    clear hp
    go_wp2_with fail
    go_quiet (fail)
    go_wp2
    go_ret
    exact ⟨by rw [HPP.out]; rfl, hb0.drewN nq⟩

end Go.Proofs.Ythckecfjghjnjaa.mk
