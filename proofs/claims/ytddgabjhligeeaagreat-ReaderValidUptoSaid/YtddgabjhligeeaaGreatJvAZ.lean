/-
  The builder's endNamed.
-/
import Derived.Test.YtddgabjhligeeaaGreatJvAW
import Derived.Test.YtddgabjhligeeaaGreatJvAP
namespace Go.Proofs.YtddgabjhligeeaaGreat.mk
open Go.RowKit

/-- what a start tag begins -/
def elK (t : KT) : TT := ⟨t.nm, t.A, t.n, t.c, t.ats, none, 0, 0, [], noT⟩
theorem elK_in {S : Nat → Prop} {w : World} {t : KT} (h : t.inS S w) : AllS S w [elK t] := by
  refine AllS.one ⟨h.nm, noT_in _ _, h.att, h.an, h.ac, h.am, h.atts, LiesS.nil _ _ _, rfl, fun _ => rfl, Nat.zero_le _⟩ (AllS.nil _ _)
theorem elK_ch (t : KT) : (elK t).ch = ⟨t.ch.name, t.ch.attrs, [], []⟩ := by
  rw [TT.ch_eq]
  show PT.mk t.nm.ch (t.ats.map AT.ch) (chL []) noT.ch = _
  rw [noT_ch, chL]
  rfl

set_option maxHeartbeats 4000000 in
set_option maxRecDepth 100000 in
theorem begin_void {S : Nat → Prop} {base g bm co cl mn : Nat} {Ao Al : Option Addr} {fr ls : List TT} {f : List UInt8 → Int} (t1 : TT) (w : World) (h : BldM S w base g bm Ao co fr Al cl ls mn f) (ht : AllS S w [t1]) (hls : ls.length ≤ 1048576) (hnm : t1.tag.s.data.toList ≠ []) (hv : voidB t1.tag.s.data.toList = true) :
    Calls Tryz.prog 103 #[.pointer (some ⟨g, 0, none⟩), .agg #[.string t1.tag.s, .slice t1.tag.A t1.tag.n t1.tag.c, .slice t1.A t1.n t1.c, .slice t1.K t1.kn t1.kc, .string t1.text.s, .slice t1.text.A t1.text.n t1.text.c]] w fun e w' => e = .returned (.tuple #[]) ∧ ∃ (Al' : Option Addr) (cl' : Nat), BldM S w' base g bm Ao co fr Al' cl' (ls ++ [t1]) mn f ∧ Below base w w' := by
  obtain ⟨i0, hi, hz0, hz1, hz2⟩ := info_parts tree_info
  have HV := Lib.hid (bldVoid_any t1.tag.s)
  rw [hv] at HV
  have hx : (t1.tag.s.toList == []) = false := by rw [beq_eq_false_iff_ne, ByteArray.toList_eq]; exact hnm
  have hx2 : t1.tag.s.toList.isEmpty = false := by
    cases hq : t1.tag.s.toList with
    | nil => rw [hq] at hx; exact absurd hx (by decide)
    | cons a b => rfl
  have H00 := Lib.hid h
  have HA := Lib.hid ht
  clear h ht hv hnm
  go_enter Tryz.func103, Tryz.ntmps103
  go_wp2_with fail
  generalize hw0 : w.alloc (.cells #[.string t1.tag.s, .slice t1.tag.A t1.tag.n t1.tag.c, .slice t1.A t1.n t1.c, .slice t1.K t1.kn t1.kc, .string t1.text.s, .slice t1.text.A t1.text.n t1.text.c] 48) = w0
  have y0 : Hid (Whole w0 w.heap.size 48 #[.string t1.tag.s, .slice t1.tag.A t1.tag.n t1.tag.c, .slice t1.A t1.n t1.c, .slice t1.K t1.kn t1.kc, .string t1.text.s, .slice t1.text.A t1.text.n t1.text.c]) := by rw [← hw0]; exact Whole.made _ _ _
  have hb0 : Below w.heap.size w w0 := by rw [← hw0]; exact (Below.refl _ _).alloc (Nat.le_refl _) _
  have H0 := Lib.hid (H00.out.below hb0)
  have HA0 : Hid (AllS S w0 [t1]) := HA.out.keep (Stays.of hb0)
  have HB0 : Hid (Below base w w0) := hb0.mono H00.out.bw
  generalize hebb : w.heap.size = eb at *
  clear hw0 hb0
  refine (HV.out w0).mono ?_
  rintro e wy ⟨rfl, rfl⟩
  go_upto_region 4 with fail
  have hS : w0.drew.cell? ⟨g, 1, none⟩ = some (.slice Al ls.length cl) ∧ Whole w0.drew eb 48 #[.string t1.tag.s, .slice t1.tag.A t1.tag.n t1.tag.c, .slice t1.A t1.n t1.c, .slice t1.K t1.kn t1.kc, .string t1.text.s, .slice t1.text.A t1.text.n t1.text.c] := ⟨H0.out.at1, y0.out.drew⟩
  have H000 := H00
  refine wp_region_lastB (S := (fun V => V.cell? ⟨g, 1, none⟩ = some (.slice Al ls.length cl) ∧ Whole V eb 48 #[.string t1.tag.s, .slice t1.tag.A t1.tag.n t1.tag.c, .slice t1.A t1.n t1.c, .slice t1.K t1.kn t1.kc, .string t1.text.s, .slice t1.text.A t1.text.n t1.text.c])) (Z := (fun i => decide (8 ≤ i))) (by kernel_rfl) ?_
  have hla0 : (0 : Int) ≤ (ls.length : Int) := Int.natCast_nonneg _
  have hla1 : (ls.length : Int) < ((ls.length + 1 : Nat) : Int) := by omega
  have hla2 : (ls.length : Int) < (ls.length : Int) + 1 := by omega
  refine' wpAnyL_take (i := 0) ?hi1 (by kernel_rfl) (by kernel_rfl) (by kernel_rfl) (by kernel_rfl) ?hQ1 ?hy1 hS ?rest1
  case hi1 => simp only [List.getElem?_toArray, List.getElem?_cons_zero]; rfl
  case hQ1 => exact fun _ _ _ h => h
  case hy1 =>
    refine Or.inl ⟨by rfl, ?_⟩
    intro wq hq
    try dsimp only at hq
    try obtain ⟨hq0, hq1, hq2, hq3, hq4, hq5, hq6⟩ := hq
    try obtain ⟨hq0, hq1, hq2, hq3, hq4, hq5⟩ := hq
    try obtain ⟨hq0, hq1, hq2, hq3, hq4⟩ := hq
    try obtain ⟨hq0, hq1, hq2, hq3⟩ := hq
    try obtain ⟨hq0, hq1, hq2⟩ := hq
    try obtain ⟨hq0, hq1⟩ := hq
    go_simp
    try with_reducible rfl
  try simp only [Act.put, List.setIfInBounds_toArray, List.set_cons_zero, List.set_cons_succ]
  refine' wpAnyL_take (i := 1) ?hi2 (by kernel_rfl) (by kernel_rfl) (by kernel_rfl) (by kernel_rfl) ?hQ2 ?hy2 hS ?rest2
  case hi2 => simp only [List.getElem?_toArray, List.getElem?_cons_succ, List.getElem?_cons_zero]; rfl
  case hQ2 => exact fun _ _ _ h => h
  case hy2 =>
    refine Or.inl ⟨by rfl, ?_⟩
    intro wq hq
    try dsimp only at hq
    try obtain ⟨hq0, hq1, hq2, hq3, hq4, hq5, hq6⟩ := hq
    try obtain ⟨hq0, hq1, hq2, hq3, hq4, hq5⟩ := hq
    try obtain ⟨hq0, hq1, hq2, hq3, hq4⟩ := hq
    try obtain ⟨hq0, hq1, hq2, hq3⟩ := hq
    try obtain ⟨hq0, hq1, hq2⟩ := hq
    try obtain ⟨hq0, hq1⟩ := hq
    go_simp
    try with_reducible rfl
  try simp only [Act.put, List.setIfInBounds_toArray, List.set_cons_zero, List.set_cons_succ]
  refine' wpAnyL_take (i := 2) ?hi3 (by kernel_rfl) (by kernel_rfl) (by kernel_rfl) (by kernel_rfl) ?hQ3 ?hy3 hS ?rest3
  case hi3 => simp only [List.getElem?_toArray, List.getElem?_cons_succ, List.getElem?_cons_zero]; rfl
  case hQ3 => exact fun _ _ _ h => h
  case hy3 =>
    refine Or.inl ⟨by rfl, ?_⟩
    intro wq hq
    try dsimp only at hq
    try obtain ⟨hq0, hq1, hq2, hq3, hq4, hq5, hq6⟩ := hq
    try obtain ⟨hq0, hq1, hq2, hq3, hq4, hq5⟩ := hq
    try obtain ⟨hq0, hq1, hq2, hq3, hq4⟩ := hq
    try obtain ⟨hq0, hq1, hq2, hq3⟩ := hq
    try obtain ⟨hq0, hq1, hq2⟩ := hq
    try obtain ⟨hq0, hq1⟩ := hq
    go_simp
    try with_reducible rfl
  try simp only [Act.put, List.setIfInBounds_toArray, List.set_cons_zero, List.set_cons_succ]
  refine' wpAnyL_take (i := 3) ?hi4 (by kernel_rfl) (by kernel_rfl) (by kernel_rfl) (by kernel_rfl) ?hQ4 ?hy4 hS ?rest4
  case hi4 => simp only [List.getElem?_toArray, List.getElem?_cons_succ, List.getElem?_cons_zero]; rfl
  case hQ4 => exact fun _ _ _ h => h
  case hy4 =>
    refine Or.inl ⟨by rfl, ?_⟩
    intro wq hq
    try dsimp only at hq
    try obtain ⟨hq0, hq1, hq2, hq3, hq4, hq5, hq6⟩ := hq
    try obtain ⟨hq0, hq1, hq2, hq3, hq4, hq5⟩ := hq
    try obtain ⟨hq0, hq1, hq2, hq3, hq4⟩ := hq
    try obtain ⟨hq0, hq1, hq2, hq3⟩ := hq
    try obtain ⟨hq0, hq1, hq2⟩ := hq
    try obtain ⟨hq0, hq1⟩ := hq
    go_simp
    try with_reducible rfl
  try simp only [Act.put, List.setIfInBounds_toArray, List.set_cons_zero, List.set_cons_succ]
  refine' wpAnyL_take (i := 4) ?hi5 (by kernel_rfl) (by kernel_rfl) (by kernel_rfl) (by kernel_rfl) ?hQ5 ?hy5 hS ?rest5
  case hi5 => simp only [List.getElem?_toArray, List.getElem?_cons_succ, List.getElem?_cons_zero]; rfl
  case hQ5 => exact fun _ _ _ h => h
  case hy5 =>
    refine Or.inl ⟨by rfl, ?_⟩
    intro wq hq
    try dsimp only at hq
    try obtain ⟨hq0, hq1, hq2, hq3, hq4, hq5, hq6⟩ := hq
    try obtain ⟨hq0, hq1, hq2, hq3, hq4, hq5⟩ := hq
    try obtain ⟨hq0, hq1, hq2, hq3, hq4⟩ := hq
    try obtain ⟨hq0, hq1, hq2, hq3⟩ := hq
    try obtain ⟨hq0, hq1, hq2⟩ := hq
    try obtain ⟨hq0, hq1⟩ := hq
    have hr0 := hq1.at_ 0
    have hr1 := hq1.at_ 1
    have hr2 := hq1.at_ 2
    have hr3 := hq1.at_ 3
    have hr4 := hq1.at_ 4
    have hr5 := hq1.at_ 5
    have hr6 := hq1.at_ 6
    go_simp
    try with_reducible rfl
  try simp only [Act.put, List.setIfInBounds_toArray, List.set_cons_zero, List.set_cons_succ]
  refine' wpAnyL_take (i := 5) ?hi6 (by kernel_rfl) (by kernel_rfl) (by kernel_rfl) (by kernel_rfl) ?hQ6 ?hy6 hS ?rest6
  case hi6 => simp only [List.getElem?_toArray, List.getElem?_cons_succ, List.getElem?_cons_zero]; rfl
  case hQ6 => exact fun _ _ _ h => h
  case hy6 =>
    refine Or.inl ⟨by rfl, ?_⟩
    intro wq hq
    try dsimp only at hq
    try obtain ⟨hq0, hq1, hq2, hq3, hq4, hq5, hq6⟩ := hq
    try obtain ⟨hq0, hq1, hq2, hq3, hq4, hq5⟩ := hq
    try obtain ⟨hq0, hq1, hq2, hq3, hq4⟩ := hq
    try obtain ⟨hq0, hq1, hq2, hq3⟩ := hq
    try obtain ⟨hq0, hq1, hq2⟩ := hq
    try obtain ⟨hq0, hq1⟩ := hq
    go_simp
    try with_reducible rfl
  try simp only [Act.put, List.setIfInBounds_toArray, List.set_cons_zero, List.set_cons_succ]
  refine wpAnyL_ready (rs := [6]) (by kernel_rfl) (by simp) ?_
  refine' ReadyL.cons ?ho7 (fun K hK => ?step7) ?more7
  case ho7 => simp only [List.getElem?_toArray, List.getElem?_cons_succ, List.getElem?_cons_zero]; rfl
  case step7 =>
    go_simp
    have hba : Below w0.heap.size w0 (w0.drew.alloc (.cells (treeRow zeroTT).toArray 48)) := (Below.drew (Below.refl w0.heap.size w0)).alloc (Nat.le_refl _) _
    have h6a := H0.out.below hba
    have HA7 : Hid (AllS S (w0.drew.alloc (.cells (treeRow zeroTT).toArray 48)) [t1]) := HA0.out.keep (Stays.of hba)
    have HBA : Hid (Below base w (w0.drew.alloc (.cells (treeRow zeroTT).toArray 48))) := HB0.out.trans (hba.mono H0.out.bw)
    refine hK.out _ _ (.inr ⟨h6a.at1, hS.2.alloc _⟩) ?_
    have hS2 : Whole (w0.drew.alloc (.cells (treeRow zeroTT).toArray 48)) eb 48 #[.string t1.tag.s, .slice t1.tag.A t1.tag.n t1.tag.c, .slice t1.A t1.n t1.c, .slice t1.K t1.kn t1.kc, .string t1.text.s, .slice t1.text.A t1.text.n t1.text.c] := hS.2.alloc _
    clear hK K hba hS
    try simp only [Act.put, List.setIfInBounds_toArray, List.set_cons_zero, List.set_cons_succ]
    refine wpAnyL_ready (rs := [7]) (by kernel_rfl) (by simp) ?_
    refine' ReadyL.cons ?ho8 (fun K hK => ?step8) ?more8
    case ho8 => simp only [List.getElem?_toArray, List.getElem?_cons_succ, List.getElem?_cons_zero]; rfl
    case step8 =>
      refine step_append_src _ (by rfl) (.tmp 15) (.tmp 18) 27 (by rfl) base 48 i0 _ 6 128 Tryz.underlying27 hi hz0 hz1 hz2 rfl (by omega) (.slice Al ls.length cl) ls.length _ (by rfl) h6a.loo _ (some ⟨w0.heap.size, 0, none⟩) 1 1 (treeRow zeroTT) (by rfl) (by simp) (by rfl) (lies_wholeA (Whole.made w0.drew _ _) rfl) (treeRow_one _) (by simp only [maxLen]; omega) (by omega) h6a.bw ?_
      intro v2 w7 hown7 hgr7 hbl7
      obtain ⟨gK, kc', cur, rfl, hgKb, hgK⟩ : ∃ gK cap cur, v2 = .slice (some ⟨gK, 0, none⟩) (ls.length + 1) cap ∧ base ≤ gK ∧ w7.heap[gK]? = some (.cells cur 48 (0, 0)) := by
        rcases hown7.2 with ⟨_, h0⟩ | ⟨gK, cap, cur, hv, hb, hg, _⟩
        · omega
        · exact ⟨gK, cap, cur, hv, hb, hg⟩
      rw [blk_own] at hgr7
      rw [blk_own, blk_own] at hbl7
      have hbg : Whole w7 g 58 #[.slice Ao fr.length co, .slice Al ls.length cl, .map (some bm)] := h6a.box.grown hgr7 (fun e => (h6a.notg h6a.loo e.symm).1 rfl)
      have hne1 : gK ≠ g := by
        rintro rfl
        unfold Whole at hbg
        rw [hgK] at hbg
        injection hbg with hbg
        injection hbg with _ hbg _
        exact absurd hbg (by decide)
      have hne2 : g ≠ gK := Ne.symm hne1
      have hcz : ∀ j u, j < 6 → (treeRow zeroTT)[j]? = some u → w7.cell? ⟨gK, ls.length * 6 + j, none⟩ = some u := fun j u hj hu => by
        have h1 := hown7
        rw [← treeCells_snoc] at h1
        obtain ⟨ad, e, _, hc⟩ := Lies.own h1 _ _ ((treeCells_at (ls ++ [zeroTT]) ls.length zeroTT (by rw [List.getElem?_concat_length]) j hj).trans hu)
        injection e with e
        subst e
        rw [addr_flat] at hc
        exact hc
      have z0 : w7.cell? ⟨gK, ls.length * 6, none⟩ = some (.string ⟨#[]⟩) := hcz 0 _ (by omega) rfl
      have z1 := hcz 1 _ (by omega) rfl
      have z2 := hcz 2 _ (by omega) rfl
      have z3 := hcz 3 _ (by omega) rfl
      have z4 := hcz 4 _ (by omega) rfl
      have z5 := hcz 5 _ (by omega) rfl
      have zf0 : w7.frozen? ⟨gK, ls.length * 6, none⟩ = false := frozen_of_row w7 gK _ cur _ hgK
      have zf1 : w7.frozen? ⟨gK, ls.length * 6 + 1, none⟩ = false := frozen_of_row w7 gK _ cur _ hgK
      have zf2 : w7.frozen? ⟨gK, ls.length * 6 + 2, none⟩ = false := frozen_of_row w7 gK _ cur _ hgK
      have zf3 : w7.frozen? ⟨gK, ls.length * 6 + 3, none⟩ = false := frozen_of_row w7 gK _ cur _ hgK
      have zf4 : w7.frozen? ⟨gK, ls.length * 6 + 4, none⟩ = false := frozen_of_row w7 gK _ cur _ hgK
      have zf5 : w7.frozen? ⟨gK, ls.length * 6 + 5, none⟩ = false := frozen_of_row w7 gK _ cur _ hgK
      have haf : (⟨gK, 0, none⟩ : Addr).add (ls.length * 6) = ⟨gK, ls.length * 6, none⟩ := addr_flat _ _
      have q3 : w7.cell? ⟨g, 1, none⟩ = some (.slice Al ls.length cl) := hbg.at_ 1
      have qf3 : w7.frozen? ⟨g, 1, none⟩ = false := hbg.free 1
      have hneb : some eb ≠ blkA Al := fun e => by
        have h1 := (H000.out.loo.lt eb (by rw [blk_own]; exact e.symm)).2
        omega
      have y7 : Whole w7 eb 48 #[.string t1.tag.s, .slice t1.tag.A t1.tag.n t1.tag.c, .slice t1.A t1.n t1.c, .slice t1.K t1.kn t1.kc, .string t1.text.s, .slice t1.text.A t1.text.n t1.text.c] := hS2.grown hgr7 hneb
      have ho7 := hown7
      rw [← treeCells_snoc] at ho7
      obtain ⟨ho8, hm8⟩ := tree_stored (k := ls.length) t1 ho7 (by rw [List.length_append]; show _ < _ + 1; omega)
      have hset : (ls ++ [zeroTT]).set ls.length t1 = ls ++ [t1] := by
        rw [List.set_append, if_neg (by omega), Nat.sub_self]
        rfl
      rw [hset, treeCells_append] at ho8
      have hgr8 : (w0.drew.alloc (.cells (treeRow zeroTT).toArray 48)).grownBy ((((((w7.setCell ⟨gK, ls.length * 6, none⟩ (.string t1.tag.s)).setCell ⟨gK, ls.length * 6 + 1, none⟩ (.slice t1.tag.A t1.tag.n t1.tag.c)).setCell ⟨gK, ls.length * 6 + 2, none⟩ (.slice t1.A t1.n t1.c)).setCell ⟨gK, ls.length * 6 + 3, none⟩ (.slice t1.K t1.kn t1.kc)).setCell ⟨gK, ls.length * 6 + 4, none⟩ (.string t1.text.s)).setCell ⟨gK, ls.length * 6 + 5, none⟩ (.slice t1.text.A t1.text.n t1.text.c)) (blkA Al) :=
        ⟨hm8.os.trans hgr7.os, hm8.tape.trans hgr7.tape, hm8.output.trans hgr7.output, Nat.le_trans hgr7.size hm8.size, fun k hk hs => (hm8.block k (Nat.lt_of_lt_of_le hk hgr7.size) (fun e => by
          rcases hbl7 with e2 | e2
          · exact hs (by rw [e, ← e2]; rfl)
          · have e2 : some gK = some _ := e2
            injection e2 with e2
            exact Nat.lt_irrefl _ (Nat.lt_of_lt_of_eq hk (e.trans e2).symm))).trans (hgr7.block k hk hs)⟩
      have HF7 := Lib.hid (h6a.pushLoose HA7.out hgr8 hbl7 ho8)
      have HB7 : Hid (Below base w (((((((w7.setCell ⟨gK, ls.length * 6, none⟩ (.string t1.tag.s)).setCell ⟨gK, ls.length * 6 + 1, none⟩ (.slice t1.tag.A t1.tag.n t1.tag.c)).setCell ⟨gK, ls.length * 6 + 2, none⟩ (.slice t1.A t1.n t1.c)).setCell ⟨gK, ls.length * 6 + 3, none⟩ (.slice t1.K t1.kn t1.kc)).setCell ⟨gK, ls.length * 6 + 4, none⟩ (.string t1.text.s)).setCell ⟨gK, ls.length * 6 + 5, none⟩ (.slice t1.text.A t1.text.n t1.text.c)).setCell ⟨g, 1, none⟩ (.slice (some ⟨gK, 0, none⟩) (ls.length + 1) kc'))) := by
        have h2 : Below base (w0.drew.alloc (.cells (treeRow zeroTT).toArray 48)) ((((((w7.setCell ⟨gK, ls.length * 6, none⟩ (.string t1.tag.s)).setCell ⟨gK, ls.length * 6 + 1, none⟩ (.slice t1.tag.A t1.tag.n t1.tag.c)).setCell ⟨gK, ls.length * 6 + 2, none⟩ (.slice t1.A t1.n t1.c)).setCell ⟨gK, ls.length * 6 + 3, none⟩ (.slice t1.K t1.kn t1.kc)).setCell ⟨gK, ls.length * 6 + 4, none⟩ (.string t1.text.s)).setCell ⟨gK, ls.length * 6 + 5, none⟩ (.slice t1.text.A t1.text.n t1.text.c)) := (Below.refl base _).grown hgr8 h6a.bw (fun k hk => (h6a.loo.lt k (by rw [blk_own]; exact hk)).1)
        exact (HBA.out.trans h2).setCell h6a.gb.1 _
      have HCM : Hid ((((((((w7.setCell ⟨g, 1, none⟩ (.slice (some ⟨gK, 0, none⟩) (ls.length + 1) kc')).setCell ⟨gK, ls.length * 6, none⟩ (.string t1.tag.s)).setCell ⟨gK, ls.length * 6 + 1, none⟩ (.slice t1.tag.A t1.tag.n t1.tag.c)).setCell ⟨gK, ls.length * 6 + 2, none⟩ (.slice t1.A t1.n t1.c)).setCell ⟨gK, ls.length * 6 + 3, none⟩ (.slice t1.K t1.kn t1.kc)).setCell ⟨gK, ls.length * 6 + 4, none⟩ (.string t1.text.s)).setCell ⟨gK, ls.length * 6 + 5, none⟩ (.slice t1.text.A t1.text.n t1.text.c)) = ((((((w7.setCell ⟨gK, ls.length * 6, none⟩ (.string t1.tag.s)).setCell ⟨gK, ls.length * 6 + 1, none⟩ (.slice t1.tag.A t1.tag.n t1.tag.c)).setCell ⟨gK, ls.length * 6 + 2, none⟩ (.slice t1.A t1.n t1.c)).setCell ⟨gK, ls.length * 6 + 3, none⟩ (.slice t1.K t1.kn t1.kc)).setCell ⟨gK, ls.length * 6 + 4, none⟩ (.string t1.text.s)).setCell ⟨gK, ls.length * 6 + 5, none⟩ (.slice t1.text.A t1.text.n t1.text.c)).setCell ⟨g, 1, none⟩ (.slice (some ⟨gK, 0, none⟩) (ls.length + 1) kc')) := by
        show _ = _
        rw [setCell_comm w7 ⟨g, 1, none⟩ ⟨gK, ls.length * 6, none⟩ hne2, setCell_comm _ ⟨g, 1, none⟩ ⟨gK, ls.length * 6 + 1, none⟩ hne2, setCell_comm _ ⟨g, 1, none⟩ ⟨gK, ls.length * 6 + 2, none⟩ hne2, setCell_comm _ ⟨g, 1, none⟩ ⟨gK, ls.length * 6 + 3, none⟩ hne2, setCell_comm _ ⟨g, 1, none⟩ ⟨gK, ls.length * 6 + 4, none⟩ hne2, setCell_comm _ ⟨g, 1, none⟩ ⟨gK, ls.length * 6 + 5, none⟩ hne2]
      refine hK.out _ _ (.inr ⟨q3, y7⟩) ?_
      clear hK K hown7 hgr7 hbl7 hgK hcz hbg y7 ho7 ho8 hm8 hset hgr8 hS2 h6a
      try simp only [Act.put, List.setIfInBounds_toArray, List.set_cons_zero, List.set_cons_succ]
      refine wpAnyL_ready (rs := [8, 10]) (by kernel_rfl) (by simp) ?_
      refine' ReadyL.cons ?ho9 (fun K hK => ?step9) ?more9
      case ho9 => simp only [List.getElem?_toArray, List.getElem?_cons_succ, List.getElem?_cons_zero]; rfl
      case step9 =>
        go_simp
        refine hK.out _ _ (.inl (by decide)) ?_
        clear hK K
        try simp only [Act.put, List.setIfInBounds_toArray, List.set_cons_zero, List.set_cons_succ]
        refine wpAnyL_ready (rs := [9, 10]) (by kernel_rfl) (by simp) ?_
        refine' ReadyL.cons ?ho10 (fun K hK => ?step10) ?more10
        case ho10 => simp only [List.getElem?_toArray, List.getElem?_cons_succ, List.getElem?_cons_zero]; rfl
        case step10 =>
          go_simp
          refine hK.out _ _ (.inl (by decide)) ?_
          clear hK K
          try simp only [Act.put, List.setIfInBounds_toArray, List.set_cons_zero, List.set_cons_succ]
          refine wpAnyL_ready (rs := [10]) (by kernel_rfl) (by simp) ?_
          refine' ReadyL.cons ?ho11 (fun K hK => ?step11) ?more11
          case ho11 => simp only [List.getElem?_toArray, List.getElem?_cons_succ, List.getElem?_cons_zero]; rfl
          case step11 =>
            go_simp
            refine hK.out _ _ (.inl (by decide)) ?_
            clear hK K
            try simp only [Act.put, List.setIfInBounds_toArray, List.set_cons_zero, List.set_cons_succ]
            refine wpAnyL_ready (rs := [11]) (by kernel_rfl) (by simp) ?_
            refine' ReadyL.cons ?ho12 (fun K hK => ?step12) ?more12
            case ho12 => simp only [List.getElem?_toArray, List.getElem?_cons_succ, List.getElem?_cons_zero]; rfl
            case step12 =>
              go_simp
              refine hK.out _ _ (.inl (by decide)) ?_
              clear hK K
              try simp only [Act.put, List.setIfInBounds_toArray, List.set_cons_zero, List.set_cons_succ]
              refine wpAnyL_ready (rs := [12]) (by kernel_rfl) (by simp) ?_
              refine' ReadyL.cons ?ho13 (fun K hK => ?step13) ?more13
              case ho13 => simp only [List.getElem?_toArray, List.getElem?_cons_succ, List.getElem?_cons_zero]; rfl
              case step13 =>
                go_simp
                refine hK.out _ _ (.inl (by decide)) ?_
                clear hK K
                try simp only [Act.put, List.setIfInBounds_toArray, List.set_cons_zero, List.set_cons_succ]
                refine wpAnyL_done (by kernel_rfl) ?_ _
                go_wp2_with fail
                refine bodyPost_ret (results_none rfl _ _ _) rfl ?_
                exact ⟨rfl, some ⟨gK, 0, none⟩, kc', HF7.out, HB7.out⟩
              exact ReadyL.nil
            exact ReadyL.nil
          exact ReadyL.nil
        refine' ReadyL.cons ?ho14 (fun K hK => ?step14) ?more14
        case ho14 => simp only [List.getElem?_toArray, List.getElem?_cons_succ, List.getElem?_cons_zero]; rfl
        case step14 =>
          go_simp
          refine hK.out _ _ (.inl (by decide)) ?_
          clear hK K
          try simp only [Act.put, List.setIfInBounds_toArray, List.set_cons_zero, List.set_cons_succ]
          refine wpAnyL_ready (rs := [9, 11]) (by kernel_rfl) (by simp) ?_
          refine' ReadyL.cons ?ho15 (fun K hK => ?step15) ?more15
          case ho15 => simp only [List.getElem?_toArray, List.getElem?_cons_succ, List.getElem?_cons_zero]; rfl
          case step15 =>
            go_simp
            refine hK.out _ _ (.inl (by decide)) ?_
            clear hK K
            try simp only [Act.put, List.setIfInBounds_toArray, List.set_cons_zero, List.set_cons_succ]
            refine wpAnyL_ready (rs := [11]) (by kernel_rfl) (by simp) ?_
            refine' ReadyL.cons ?ho16 (fun K hK => ?step16) ?more16
            case ho16 => simp only [List.getElem?_toArray, List.getElem?_cons_succ, List.getElem?_cons_zero]; rfl
            case step16 =>
              go_simp
              refine hK.out _ _ (.inl (by decide)) ?_
              clear hK K
              try simp only [Act.put, List.setIfInBounds_toArray, List.set_cons_zero, List.set_cons_succ]
              refine wpAnyL_ready (rs := [12]) (by kernel_rfl) (by simp) ?_
              refine' ReadyL.cons ?ho17 (fun K hK => ?step17) ?more17
              case ho17 => simp only [List.getElem?_toArray, List.getElem?_cons_succ, List.getElem?_cons_zero]; rfl
              case step17 =>
                go_simp
                refine hK.out _ _ (.inl (by decide)) ?_
                clear hK K
                try simp only [Act.put, List.setIfInBounds_toArray, List.set_cons_zero, List.set_cons_succ]
                refine wpAnyL_done (by kernel_rfl) ?_ _
                go_wp2_with fail
                refine bodyPost_ret (results_none rfl _ _ _) rfl ?_
                exact ⟨rfl, some ⟨gK, 0, none⟩, kc', HF7.out, HB7.out⟩
              exact ReadyL.nil
            exact ReadyL.nil
          refine' ReadyL.cons ?ho18 (fun K hK => ?step18) ?more18
          case ho18 => simp only [List.getElem?_toArray, List.getElem?_cons_succ, List.getElem?_cons_zero]; rfl
          case step18 =>
            go_simp
            refine hK.out _ _ (.inl (by decide)) ?_
            clear hK K
            try simp only [Act.put, List.setIfInBounds_toArray, List.set_cons_zero, List.set_cons_succ]
            refine wpAnyL_ready (rs := [9, 12]) (by kernel_rfl) (by simp) ?_
            refine' ReadyL.cons ?ho19 (fun K hK => ?step19) ?more19
            case ho19 => simp only [List.getElem?_toArray, List.getElem?_cons_succ, List.getElem?_cons_zero]; rfl
            case step19 =>
              go_simp
              refine hK.out _ _ (.inl (by decide)) ?_
              clear hK K
              try simp only [Act.put, List.setIfInBounds_toArray, List.set_cons_zero, List.set_cons_succ]
              refine wpAnyL_ready (rs := [12]) (by kernel_rfl) (by simp) ?_
              refine' ReadyL.cons ?ho20 (fun K hK => ?step20) ?more20
              case ho20 => simp only [List.getElem?_toArray, List.getElem?_cons_succ, List.getElem?_cons_zero]; rfl
              case step20 =>
                go_simp
                refine hK.out _ _ (.inl (by decide)) ?_
                clear hK K
                try simp only [Act.put, List.setIfInBounds_toArray, List.set_cons_zero, List.set_cons_succ]
                refine wpAnyL_done (by kernel_rfl) ?_ _
                go_wp2_with fail
                refine bodyPost_ret (results_none rfl _ _ _) rfl ?_
                exact ⟨rfl, some ⟨gK, 0, none⟩, kc', HF7.out, HB7.out⟩
              exact ReadyL.nil
            refine' ReadyL.cons ?ho21 (fun K hK => ?step21) ?more21
            case ho21 => simp only [List.getElem?_toArray, List.getElem?_cons_succ, List.getElem?_cons_zero]; rfl
            case step21 =>
              go_simp
              refine hK.out _ _ (.inl (by decide)) ?_
              clear hK K
              try simp only [Act.put, List.setIfInBounds_toArray, List.set_cons_zero, List.set_cons_succ]
              refine wpAnyL_ready (rs := [9]) (by kernel_rfl) (by simp) ?_
              refine' ReadyL.cons ?ho22 (fun K hK => ?step22) ?more22
              case ho22 => simp only [List.getElem?_toArray, List.getElem?_cons_succ, List.getElem?_cons_zero]; rfl
              case step22 =>
                go_simp
                refine hK.out _ _ (.inl (by decide)) ?_
                clear hK K
                try simp only [Act.put, List.setIfInBounds_toArray, List.set_cons_zero, List.set_cons_succ]
                refine wpAnyL_done (by kernel_rfl) ?_ _
                go_wp2_with fail
                refine bodyPost_ret (results_none rfl _ _ _) rfl ?_
                exact ⟨rfl, some ⟨gK, 0, none⟩, kc', by have h9 := HF7.out; rw [← HCM.out] at h9; exact h9, by have h9 := HB7.out; rw [← HCM.out] at h9; exact h9⟩
              exact ReadyL.nil
            exact ReadyL.nil
          exact ReadyL.nil
        exact ReadyL.nil
      refine' ReadyL.cons ?ho23 (fun K hK => ?step23) ?more23
      case ho23 => simp only [List.getElem?_toArray, List.getElem?_cons_succ, List.getElem?_cons_zero]; rfl
      case step23 =>
        go_simp
        refine hK.out _ _ (.inl (by decide)) ?_
        clear hK K
        try simp only [Act.put, List.setIfInBounds_toArray, List.set_cons_zero, List.set_cons_succ]
        refine wpAnyL_ready (rs := [8, 11]) (by kernel_rfl) (by simp) ?_
        refine' ReadyL.cons ?ho24 (fun K hK => ?step24) ?more24
        case ho24 => simp only [List.getElem?_toArray, List.getElem?_cons_succ, List.getElem?_cons_zero]; rfl
        case step24 =>
          go_simp
          refine hK.out _ _ (.inl (by decide)) ?_
          clear hK K
          try simp only [Act.put, List.setIfInBounds_toArray, List.set_cons_zero, List.set_cons_succ]
          refine wpAnyL_ready (rs := [9, 11]) (by kernel_rfl) (by simp) ?_
          refine' ReadyL.cons ?ho25 (fun K hK => ?step25) ?more25
          case ho25 => simp only [List.getElem?_toArray, List.getElem?_cons_succ, List.getElem?_cons_zero]; rfl
          case step25 =>
            go_simp
            refine hK.out _ _ (.inl (by decide)) ?_
            clear hK K
            try simp only [Act.put, List.setIfInBounds_toArray, List.set_cons_zero, List.set_cons_succ]
            refine wpAnyL_ready (rs := [11]) (by kernel_rfl) (by simp) ?_
            refine' ReadyL.cons ?ho26 (fun K hK => ?step26) ?more26
            case ho26 => simp only [List.getElem?_toArray, List.getElem?_cons_succ, List.getElem?_cons_zero]; rfl
            case step26 =>
              go_simp
              refine hK.out _ _ (.inl (by decide)) ?_
              clear hK K
              try simp only [Act.put, List.setIfInBounds_toArray, List.set_cons_zero, List.set_cons_succ]
              refine wpAnyL_ready (rs := [12]) (by kernel_rfl) (by simp) ?_
              refine' ReadyL.cons ?ho27 (fun K hK => ?step27) ?more27
              case ho27 => simp only [List.getElem?_toArray, List.getElem?_cons_succ, List.getElem?_cons_zero]; rfl
              case step27 =>
                go_simp
                refine hK.out _ _ (.inl (by decide)) ?_
                clear hK K
                try simp only [Act.put, List.setIfInBounds_toArray, List.set_cons_zero, List.set_cons_succ]
                refine wpAnyL_done (by kernel_rfl) ?_ _
                go_wp2_with fail
                refine bodyPost_ret (results_none rfl _ _ _) rfl ?_
                exact ⟨rfl, some ⟨gK, 0, none⟩, kc', HF7.out, HB7.out⟩
              exact ReadyL.nil
            exact ReadyL.nil
          refine' ReadyL.cons ?ho28 (fun K hK => ?step28) ?more28
          case ho28 => simp only [List.getElem?_toArray, List.getElem?_cons_succ, List.getElem?_cons_zero]; rfl
          case step28 =>
            go_simp
            refine hK.out _ _ (.inl (by decide)) ?_
            clear hK K
            try simp only [Act.put, List.setIfInBounds_toArray, List.set_cons_zero, List.set_cons_succ]
            refine wpAnyL_ready (rs := [9, 12]) (by kernel_rfl) (by simp) ?_
            refine' ReadyL.cons ?ho29 (fun K hK => ?step29) ?more29
            case ho29 => simp only [List.getElem?_toArray, List.getElem?_cons_succ, List.getElem?_cons_zero]; rfl
            case step29 =>
              go_simp
              refine hK.out _ _ (.inl (by decide)) ?_
              clear hK K
              try simp only [Act.put, List.setIfInBounds_toArray, List.set_cons_zero, List.set_cons_succ]
              refine wpAnyL_ready (rs := [12]) (by kernel_rfl) (by simp) ?_
              refine' ReadyL.cons ?ho30 (fun K hK => ?step30) ?more30
              case ho30 => simp only [List.getElem?_toArray, List.getElem?_cons_succ, List.getElem?_cons_zero]; rfl
              case step30 =>
                go_simp
                refine hK.out _ _ (.inl (by decide)) ?_
                clear hK K
                try simp only [Act.put, List.setIfInBounds_toArray, List.set_cons_zero, List.set_cons_succ]
                refine wpAnyL_done (by kernel_rfl) ?_ _
                go_wp2_with fail
                refine bodyPost_ret (results_none rfl _ _ _) rfl ?_
                exact ⟨rfl, some ⟨gK, 0, none⟩, kc', HF7.out, HB7.out⟩
              exact ReadyL.nil
            refine' ReadyL.cons ?ho31 (fun K hK => ?step31) ?more31
            case ho31 => simp only [List.getElem?_toArray, List.getElem?_cons_succ, List.getElem?_cons_zero]; rfl
            case step31 =>
              go_simp
              refine hK.out _ _ (.inl (by decide)) ?_
              clear hK K
              try simp only [Act.put, List.setIfInBounds_toArray, List.set_cons_zero, List.set_cons_succ]
              refine wpAnyL_ready (rs := [9]) (by kernel_rfl) (by simp) ?_
              refine' ReadyL.cons ?ho32 (fun K hK => ?step32) ?more32
              case ho32 => simp only [List.getElem?_toArray, List.getElem?_cons_succ, List.getElem?_cons_zero]; rfl
              case step32 =>
                go_simp
                refine hK.out _ _ (.inl (by decide)) ?_
                clear hK K
                try simp only [Act.put, List.setIfInBounds_toArray, List.set_cons_zero, List.set_cons_succ]
                refine wpAnyL_done (by kernel_rfl) ?_ _
                go_wp2_with fail
                refine bodyPost_ret (results_none rfl _ _ _) rfl ?_
                exact ⟨rfl, some ⟨gK, 0, none⟩, kc', by have h9 := HF7.out; rw [← HCM.out] at h9; exact h9, by have h9 := HB7.out; rw [← HCM.out] at h9; exact h9⟩
              exact ReadyL.nil
            exact ReadyL.nil
          exact ReadyL.nil
        refine' ReadyL.cons ?ho33 (fun K hK => ?step33) ?more33
        case ho33 => simp only [List.getElem?_toArray, List.getElem?_cons_succ, List.getElem?_cons_zero]; rfl
        case step33 =>
          go_simp
          refine hK.out _ _ (.inl (by decide)) ?_
          clear hK K
          try simp only [Act.put, List.setIfInBounds_toArray, List.set_cons_zero, List.set_cons_succ]
          refine wpAnyL_ready (rs := [8, 12]) (by kernel_rfl) (by simp) ?_
          refine' ReadyL.cons ?ho34 (fun K hK => ?step34) ?more34
          case ho34 => simp only [List.getElem?_toArray, List.getElem?_cons_succ, List.getElem?_cons_zero]; rfl
          case step34 =>
            go_simp
            refine hK.out _ _ (.inl (by decide)) ?_
            clear hK K
            try simp only [Act.put, List.setIfInBounds_toArray, List.set_cons_zero, List.set_cons_succ]
            refine wpAnyL_ready (rs := [9, 12]) (by kernel_rfl) (by simp) ?_
            refine' ReadyL.cons ?ho35 (fun K hK => ?step35) ?more35
            case ho35 => simp only [List.getElem?_toArray, List.getElem?_cons_succ, List.getElem?_cons_zero]; rfl
            case step35 =>
              go_simp
              refine hK.out _ _ (.inl (by decide)) ?_
              clear hK K
              try simp only [Act.put, List.setIfInBounds_toArray, List.set_cons_zero, List.set_cons_succ]
              refine wpAnyL_ready (rs := [12]) (by kernel_rfl) (by simp) ?_
              refine' ReadyL.cons ?ho36 (fun K hK => ?step36) ?more36
              case ho36 => simp only [List.getElem?_toArray, List.getElem?_cons_succ, List.getElem?_cons_zero]; rfl
              case step36 =>
                go_simp
                refine hK.out _ _ (.inl (by decide)) ?_
                clear hK K
                try simp only [Act.put, List.setIfInBounds_toArray, List.set_cons_zero, List.set_cons_succ]
                refine wpAnyL_done (by kernel_rfl) ?_ _
                go_wp2_with fail
                refine bodyPost_ret (results_none rfl _ _ _) rfl ?_
                exact ⟨rfl, some ⟨gK, 0, none⟩, kc', HF7.out, HB7.out⟩
              exact ReadyL.nil
            refine' ReadyL.cons ?ho37 (fun K hK => ?step37) ?more37
            case ho37 => simp only [List.getElem?_toArray, List.getElem?_cons_succ, List.getElem?_cons_zero]; rfl
            case step37 =>
              go_simp
              refine hK.out _ _ (.inl (by decide)) ?_
              clear hK K
              try simp only [Act.put, List.setIfInBounds_toArray, List.set_cons_zero, List.set_cons_succ]
              refine wpAnyL_ready (rs := [9]) (by kernel_rfl) (by simp) ?_
              refine' ReadyL.cons ?ho38 (fun K hK => ?step38) ?more38
              case ho38 => simp only [List.getElem?_toArray, List.getElem?_cons_succ, List.getElem?_cons_zero]; rfl
              case step38 =>
                go_simp
                refine hK.out _ _ (.inl (by decide)) ?_
                clear hK K
                try simp only [Act.put, List.setIfInBounds_toArray, List.set_cons_zero, List.set_cons_succ]
                refine wpAnyL_done (by kernel_rfl) ?_ _
                go_wp2_with fail
                refine bodyPost_ret (results_none rfl _ _ _) rfl ?_
                exact ⟨rfl, some ⟨gK, 0, none⟩, kc', by have h9 := HF7.out; rw [← HCM.out] at h9; exact h9, by have h9 := HB7.out; rw [← HCM.out] at h9; exact h9⟩
              exact ReadyL.nil
            exact ReadyL.nil
          refine' ReadyL.cons ?ho39 (fun K hK => ?step39) ?more39
          case ho39 => simp only [List.getElem?_toArray, List.getElem?_cons_succ, List.getElem?_cons_zero]; rfl
          case step39 =>
            go_simp
            refine hK.out _ _ (.inl (by decide)) ?_
            clear hK K
            try simp only [Act.put, List.setIfInBounds_toArray, List.set_cons_zero, List.set_cons_succ]
            refine wpAnyL_ready (rs := [8]) (by kernel_rfl) (by simp) ?_
            refine' ReadyL.cons ?ho40 (fun K hK => ?step40) ?more40
            case ho40 => simp only [List.getElem?_toArray, List.getElem?_cons_succ, List.getElem?_cons_zero]; rfl
            case step40 =>
              go_simp
              refine hK.out _ _ (.inl (by decide)) ?_
              clear hK K
              try simp only [Act.put, List.setIfInBounds_toArray, List.set_cons_zero, List.set_cons_succ]
              refine wpAnyL_ready (rs := [9]) (by kernel_rfl) (by simp) ?_
              refine' ReadyL.cons ?ho41 (fun K hK => ?step41) ?more41
              case ho41 => simp only [List.getElem?_toArray, List.getElem?_cons_succ, List.getElem?_cons_zero]; rfl
              case step41 =>
                go_simp
                refine hK.out _ _ (.inl (by decide)) ?_
                clear hK K
                try simp only [Act.put, List.setIfInBounds_toArray, List.set_cons_zero, List.set_cons_succ]
                refine wpAnyL_done (by kernel_rfl) ?_ _
                go_wp2_with fail
                refine bodyPost_ret (results_none rfl _ _ _) rfl ?_
                exact ⟨rfl, some ⟨gK, 0, none⟩, kc', by have h9 := HF7.out; rw [← HCM.out] at h9; exact h9, by have h9 := HB7.out; rw [← HCM.out] at h9; exact h9⟩
              exact ReadyL.nil
            exact ReadyL.nil
          exact ReadyL.nil
        exact ReadyL.nil
      exact ReadyL.nil
    exact ReadyL.nil
  exact ReadyL.nil

set_option maxHeartbeats 400000 in
set_option maxRecDepth 100000 in
theorem begin_none {g : Nat} (t1 : TT) (w : World) (hnm : t1.tag.s.data.toList = []) :
    Calls Tryz.prog 103 #[.pointer (some ⟨g, 0, none⟩), .agg #[.string t1.tag.s, .slice t1.tag.A t1.tag.n t1.tag.c, .slice t1.A t1.n t1.c, .slice t1.K t1.kn t1.kc, .string t1.text.s, .slice t1.text.A t1.text.n t1.text.c]] w fun e w' => e = .returned (.tuple #[]) ∧ Below w.heap.size w w' := by
  have hx : (t1.tag.s.toList == []) = true := by rw [beq_iff_eq, ByteArray.toList_eq]; exact hnm
  have hx2 : t1.tag.s.toList = [] := by rw [ByteArray.toList_eq]; exact hnm
  have hb0 : Below w.heap.size w (w.alloc (.cells #[.string t1.tag.s, .slice t1.tag.A t1.tag.n t1.tag.c, .slice t1.A t1.n t1.c, .slice t1.K t1.kn t1.kc, .string t1.text.s, .slice t1.text.A t1.text.n t1.text.c] 48)) := (Below.refl _ _).alloc (Nat.le_refl _) _
  clear hnm
  go_enter Tryz.func103, Tryz.ntmps103
  go_wp2_with fail
  refine bodyPost_ret (results_none rfl _ _ _) rfl ?_
  exact ⟨rfl, hb0⟩

theorem merge_el {t : PT} (h : t.tag ≠ []) (hk : t.kids = []) : mergeP [t] = [⟨t.tag, onceA t.attrs, [], []⟩] := by
  have h1 := merge_snoc [] t
  rw [List.nil_append, addT_el h, hk] at h1
  exact h1

set_option maxHeartbeats 4000000 in
set_option maxRecDepth 100000 in
theorem begin_open {S : Nat → Prop} {base g bm co cl mn : Nat} {Ao Al : Option Addr} {fs ls : List TT} {t : TT} {f : List UInt8 → Int} (t1 : TT) (w : World) (h : BldM S w base g bm Ao co (fs ++ [t]) Al cl ls mn f) (ht : AllS S w [t1]) (hkd : t1.kids = []) (hq : t.kn + bkL (chL ls) ≤ 1048576) (hq1 : bkL (chL [t1]) ≤ 1048576) (hf : fs.length ≤ 1048574) (hmn : mn ≤ 4294967296) (hfn : -4294967296 ≤ f t1.tag.s.data.toList ∧ f t1.tag.s.data.toList ≤ 4294967296) (hnm : t1.tag.s.data.toList ≠ []) (hv : voidB t1.tag.s.data.toList = false) :
    Calls Tryz.prog 103 #[.pointer (some ⟨g, 0, none⟩), .agg #[.string t1.tag.s, .slice t1.tag.A t1.tag.n t1.tag.c, .slice t1.A t1.n t1.c, .slice t1.K t1.kn t1.kc, .string t1.text.s, .slice t1.text.A t1.text.n t1.text.c]] w fun e w' => e = .returned (.tuple #[]) ∧ ∃ (K' : Option Addr) (kc' : Nat) (ms : List TT) (Ao' : Option Addr) (co' : Nat) (tn : TT), BldM S w' base g bm Ao' co' (fs ++ [t.withK K' (t.kn + ms.length) kc' (t.kids ++ ms)] ++ [tn]) Al cl [] (mn + 1) (upd f t1.tag.s.data.toList (f t1.tag.s.data.toList + 1)) ∧ chL ms = mergeP (chL ls) ∧ tn.ch = ⟨t1.tag.ch, onceA (t1.atts.map AT.ch), [], []⟩ ∧ Below base w w' := by
  obtain ⟨i0, hi, hz0, hz1, hz2⟩ := info_parts tree_info
  have HV := Lib.hid (bldVoid_any t1.tag.s)
  rw [hv] at HV
  have hx : (t1.tag.s.toList == []) = false := by rw [beq_eq_false_iff_ne, ByteArray.toList_eq]; exact hnm
  have hx2 : t1.tag.s.toList.isEmpty = false := by
    cases hq : t1.tag.s.toList with
    | nil => rw [hq] at hx; exact absurd hx (by decide)
    | cons a b => rfl
  have HNE : Hid (t1.ch.tag ≠ []) := fun e => by
    rw [TT.ch_tag] at e
    have h1 := t1.tag.ch_fst
    rw [e] at h1
    exact hnm h1.symm
  have HKD : Hid (t1.ch.kids = []) := by show _ = _; rw [TT.ch_kids, hkd]; rfl
  have H00 := Lib.hid h
  have HA := Lib.hid ht
  clear h ht hv hnm hkd
  go_enter Tryz.func103, Tryz.ntmps103
  go_wp2_with fail
  generalize hw0 : w.alloc (.cells #[.string t1.tag.s, .slice t1.tag.A t1.tag.n t1.tag.c, .slice t1.A t1.n t1.c, .slice t1.K t1.kn t1.kc, .string t1.text.s, .slice t1.text.A t1.text.n t1.text.c] 48) = w0
  have y0 : Hid (Whole w0 w.heap.size 48 #[.string t1.tag.s, .slice t1.tag.A t1.tag.n t1.tag.c, .slice t1.A t1.n t1.c, .slice t1.K t1.kn t1.kc, .string t1.text.s, .slice t1.text.A t1.text.n t1.text.c]) := by rw [← hw0]; exact Whole.made _ _ _
  have hb0 : Below w.heap.size w w0 := by rw [← hw0]; exact (Below.refl _ _).alloc (Nat.le_refl _) _
  have H0 := Lib.hid (H00.out.below hb0)
  have HA0 : Hid (AllS S w0 [t1]) := HA.out.keep (Stays.of hb0)
  have HB0 : Hid (Below base w w0) := hb0.mono H00.out.bw
  have heb := y0.out.lt
  have hbe : base ≤ w.heap.size := H00.out.bw
  have HEB : Hid (∀ b, Live base g bm Ao Al (fs ++ [t]) b → b ≠ w.heap.size) := fun b hlv => by
    rcases hlv with e | e | e | e | ⟨x, hx, e⟩ | e
    · have := H00.out.box.lt; omega
    · have := H00.out.map.lt; omega
    · have := (H00.out.opn.lt b (by rw [blk_own]; exact e)).2; omega
    · have := (H00.out.loo.lt b (by rw [blk_own]; exact e)).2; omega
    · have := ((H00.out.kid x hx).lt b (by rw [blk_own]; exact e)).2; omega
    · have := H00.out.bw; omega
  have HEBO : Hid (∀ b, blkA Ao = some b → b = w.heap.size → False) := fun b e e2 => by have := (H00.out.opn.lt b (by rw [blk_own]; exact e)).2; omega
  generalize hebb : w.heap.size = eb at *
  clear hw0 hb0
  refine (HV.out w0).mono ?_
  rintro e wy ⟨rfl, rfl⟩
  have HSET := Lib.hid (settle_any w0 H0.out (by omega) (by omega) (by omega))
  go_wp2_with fail
  refine HSET.out.mono ?_
  rintro e w1 ⟨rfl, K1, kc1, ms, hM1, hqm, hb1, hst1⟩
  have H1 := Lib.hid hM1
  have HQM := Lib.hid hqm
  have HB1 : Hid (Below base w w1) := HB0.out.trans hb1
  have y1 : Whole w1 eb 48 #[.string t1.tag.s, .slice t1.tag.A t1.tag.n t1.tag.c, .slice t1.A t1.n t1.c, .slice t1.K t1.kn t1.kc, .string t1.text.s, .slice t1.text.A t1.text.n t1.text.c] := y0.out.same (hst1 eb heb fun hlv => HEB.out eb hlv rfl)
  have HA1 : Hid (AllS S w1 [t1]) := HA0.out.keep ⟨hb1.size, fun b hb _ => hb1.block b (H0.out.inp b hb)⟩
  have HY1 := Lib.hid y1
  clear hM1 hqm hb1 hst1 y1 HSET HEB H0 H00 HA HA0 HB0 y0 HV
  generalize hfr : fs ++ [t.withK K1 (t.kn + ms.length) kc1 (t.kids ++ ms)] = fr at *
  have HFR := Lib.hid hfr
  have hN : fr.length = fs.length + 1 := by rw [← hfr, List.length_append]; rfl
  clear hfr
  obtain ⟨N, hNN⟩ : ∃ N, fr.length = N := ⟨_, rfl⟩
  have HN := Lib.hid hNN
  rw [hNN] at hN
  have hN2 : N ≤ 1048576 := by omega
  clear hNN hN
  go_upto_region 6 with fail
  go_cut [] (fun wx => ∃ (Ao' : Option Addr) (co' : Nat) (tn : TT), BldM S wx base g bm Ao' co' (fr ++ [tn]) Al cl [] mn f ∧ tn.ch = ⟨t1.tag.ch, onceA (t1.atts.map AT.ch), [], []⟩ ∧ Below base w wx)
  case first =>
    have c0 := H1.out.at0
    rw [HN.out] at c0
    have hS : w1.drew.cell? ⟨g, 0, none⟩ = some (.slice Ao N co) ∧ Whole w1.drew eb 48 #[.string t1.tag.s, .slice t1.tag.A t1.tag.n t1.tag.c, .slice t1.A t1.n t1.c, .slice t1.K t1.kn t1.kc, .string t1.text.s, .slice t1.text.A t1.text.n t1.text.c] := ⟨c0, HY1.out.drew⟩
    clear c0
    refine wp_region_lastB (S := (fun V => V.cell? ⟨g, 0, none⟩ = some (.slice Ao N co) ∧ Whole V eb 48 #[.string t1.tag.s, .slice t1.tag.A t1.tag.n t1.tag.c, .slice t1.A t1.n t1.c, .slice t1.K t1.kn t1.kc, .string t1.text.s, .slice t1.text.A t1.text.n t1.text.c])) (Z := (fun i => decide (9 ≤ i))) (by kernel_rfl) ?_
    refine' wpAnyL_take (i := 0) ?hi42 (by kernel_rfl) (by kernel_rfl) (by kernel_rfl) (by kernel_rfl) ?hQ42 ?hy42 hS ?rest42
    case hi42 => simp only [List.getElem?_toArray, List.getElem?_cons_zero]; rfl
    case hQ42 => exact fun _ _ _ h => h
    case hy42 =>
      refine Or.inl ⟨by rfl, ?_⟩
      intro wq hq
      try dsimp only at hq
      try obtain ⟨hq0, hq1, hq2, hq3, hq4, hq5, hq6⟩ := hq
      try obtain ⟨hq0, hq1, hq2, hq3, hq4, hq5⟩ := hq
      try obtain ⟨hq0, hq1, hq2, hq3, hq4⟩ := hq
      try obtain ⟨hq0, hq1, hq2, hq3⟩ := hq
      try obtain ⟨hq0, hq1, hq2⟩ := hq
      try obtain ⟨hq0, hq1⟩ := hq
      go_simp
      try with_reducible rfl
    try simp only [Act.put, List.setIfInBounds_toArray, List.set_cons_zero, List.set_cons_succ]
    refine' wpAnyL_take (i := 1) ?hi43 (by kernel_rfl) (by kernel_rfl) (by kernel_rfl) (by kernel_rfl) ?hQ43 ?hy43 hS ?rest43
    case hi43 => simp only [List.getElem?_toArray, List.getElem?_cons_succ, List.getElem?_cons_zero]; rfl
    case hQ43 => exact fun _ _ _ h => h
    case hy43 =>
      refine Or.inl ⟨by rfl, ?_⟩
      intro wq hq
      try dsimp only at hq
      try obtain ⟨hq0, hq1, hq2, hq3, hq4, hq5, hq6⟩ := hq
      try obtain ⟨hq0, hq1, hq2, hq3, hq4, hq5⟩ := hq
      try obtain ⟨hq0, hq1, hq2, hq3, hq4⟩ := hq
      try obtain ⟨hq0, hq1, hq2, hq3⟩ := hq
      try obtain ⟨hq0, hq1, hq2⟩ := hq
      try obtain ⟨hq0, hq1⟩ := hq
      go_simp
      try with_reducible rfl
    try simp only [Act.put, List.setIfInBounds_toArray, List.set_cons_zero, List.set_cons_succ]
    refine' wpAnyL_take (i := 2) ?hi44 (by kernel_rfl) (by kernel_rfl) (by kernel_rfl) (by kernel_rfl) ?hQ44 ?hy44 hS ?rest44
    case hi44 => simp only [List.getElem?_toArray, List.getElem?_cons_succ, List.getElem?_cons_zero]; rfl
    case hQ44 => exact fun _ _ _ h => h
    case hy44 =>
      refine Or.inl ⟨by rfl, ?_⟩
      intro wq hq
      try dsimp only at hq
      try obtain ⟨hq0, hq1, hq2, hq3, hq4, hq5, hq6⟩ := hq
      try obtain ⟨hq0, hq1, hq2, hq3, hq4, hq5⟩ := hq
      try obtain ⟨hq0, hq1, hq2, hq3, hq4⟩ := hq
      try obtain ⟨hq0, hq1, hq2, hq3⟩ := hq
      try obtain ⟨hq0, hq1, hq2⟩ := hq
      try obtain ⟨hq0, hq1⟩ := hq
      go_simp
      try with_reducible rfl
    try simp only [Act.put, List.setIfInBounds_toArray, List.set_cons_zero, List.set_cons_succ]
    refine' wpAnyL_take (i := 3) ?hi45 (by kernel_rfl) (by kernel_rfl) (by kernel_rfl) (by kernel_rfl) ?hQ45 ?hy45 hS ?rest45
    case hi45 => simp only [List.getElem?_toArray, List.getElem?_cons_succ, List.getElem?_cons_zero]; rfl
    case hQ45 => exact fun _ _ _ h => h
    case hy45 =>
      refine Or.inl ⟨by rfl, ?_⟩
      intro wq hq
      try dsimp only at hq
      try obtain ⟨hq0, hq1, hq2, hq3, hq4, hq5, hq6⟩ := hq
      try obtain ⟨hq0, hq1, hq2, hq3, hq4, hq5⟩ := hq
      try obtain ⟨hq0, hq1, hq2, hq3, hq4⟩ := hq
      try obtain ⟨hq0, hq1, hq2, hq3⟩ := hq
      try obtain ⟨hq0, hq1, hq2⟩ := hq
      try obtain ⟨hq0, hq1⟩ := hq
      go_simp
      try with_reducible rfl
    try simp only [Act.put, List.setIfInBounds_toArray, List.set_cons_zero, List.set_cons_succ]
    refine' wpAnyL_take (i := 4) ?hi46 (by kernel_rfl) (by kernel_rfl) (by kernel_rfl) (by kernel_rfl) ?hQ46 ?hy46 hS ?rest46
    case hi46 => simp only [List.getElem?_toArray, List.getElem?_cons_succ, List.getElem?_cons_zero]; rfl
    case hQ46 => exact fun _ _ _ h => h
    case hy46 =>
      refine Or.inl ⟨by rfl, ?_⟩
      intro wq hq
      try dsimp only at hq
      try obtain ⟨hq0, hq1, hq2, hq3, hq4, hq5, hq6⟩ := hq
      try obtain ⟨hq0, hq1, hq2, hq3, hq4, hq5⟩ := hq
      try obtain ⟨hq0, hq1, hq2, hq3, hq4⟩ := hq
      try obtain ⟨hq0, hq1, hq2, hq3⟩ := hq
      try obtain ⟨hq0, hq1, hq2⟩ := hq
      try obtain ⟨hq0, hq1⟩ := hq
      go_simp
      try with_reducible rfl
    try simp only [Act.put, List.setIfInBounds_toArray, List.set_cons_zero, List.set_cons_succ]
    refine' wpAnyL_take (i := 5) ?hi47 (by kernel_rfl) (by kernel_rfl) (by kernel_rfl) (by kernel_rfl) ?hQ47 ?hy47 hS ?rest47
    case hi47 => simp only [List.getElem?_toArray, List.getElem?_cons_succ, List.getElem?_cons_zero]; rfl
    case hQ47 => exact fun _ _ _ h => h
    case hy47 =>
      refine Or.inl ⟨by rfl, ?_⟩
      intro wq hq
      try dsimp only at hq
      try obtain ⟨hq0, hq1, hq2, hq3, hq4, hq5, hq6⟩ := hq
      try obtain ⟨hq0, hq1, hq2, hq3, hq4, hq5⟩ := hq
      try obtain ⟨hq0, hq1, hq2, hq3, hq4⟩ := hq
      try obtain ⟨hq0, hq1, hq2, hq3⟩ := hq
      try obtain ⟨hq0, hq1, hq2⟩ := hq
      try obtain ⟨hq0, hq1⟩ := hq
      have hr0 := hq1.at_ 0
      have hr1 := hq1.at_ 1
      have hr2 := hq1.at_ 2
      have hr3 := hq1.at_ 3
      have hr4 := hq1.at_ 4
      have hr5 := hq1.at_ 5
      have hr6 := hq1.at_ 6
      go_simp
      try with_reducible rfl
    try simp only [Act.put, List.setIfInBounds_toArray, List.set_cons_zero, List.set_cons_succ]
    refine wpAnyL_ready (rs := [6]) (by kernel_rfl) (by simp) ?_
    refine' ReadyL.cons ?ho48 (fun K hK => ?step48) ?more48
    case ho48 => simp only [List.getElem?_toArray, List.getElem?_cons_succ, List.getElem?_cons_zero]; rfl
    case step48 =>
      go_simp
      have hba : Below w1.heap.size w1 (w1.drew.alloc (.cells (treeRow t1).toArray 48)) := (Below.drew (Below.refl w1.heap.size w1)).alloc (Nat.le_refl _) _
      have H2 := Lib.hid (H1.out.below hba)
      have HA2 : Hid (AllS S (w1.drew.alloc (.cells (treeRow t1).toArray 48)) [t1]) := HA1.out.keep (Stays.of hba)
      have HB2 : Hid (Below base w (w1.drew.alloc (.cells (treeRow t1).toArray 48))) := HB1.out.trans (hba.mono H1.out.bw)
      have hS2 := hS.2.alloc (.cells (treeRow t1).toArray 48)
      have HLI : Hid (Lies (w1.drew.alloc (.cells (treeRow t1).toArray 48)) (w1.drew.alloc (.cells (treeRow t1).toArray 48)).heap.size (some ⟨w1.heap.size, 0, none⟩) (treeCells [t1])) := lies_wholeA (Whole.made w1.drew _ _) (by show treeRow t1 = treeRow t1 ++ []; rw [List.append_nil])
      have c2 := H2.out.at0
      rw [HN.out] at c2
      refine hK.out _ _ (.inr ⟨c2, hS2⟩) ?_
      clear hK K hba hS
      try simp only [Act.put, List.setIfInBounds_toArray, List.set_cons_zero, List.set_cons_succ]
      refine wpAnyL_ready (rs := [7]) (by kernel_rfl) (by simp) ?_
      refine' ReadyL.cons ?ho49 (fun K hK => ?step49) ?more49
      case ho49 => simp only [List.getElem?_toArray, List.getElem?_cons_succ, List.getElem?_cons_zero]; rfl
      case step49 =>
        go_simp
        refine (merge_any (some ⟨w1.heap.size, 0, none⟩) 1 1 [t1] _ ⟨HLI.out.inS (Nat.le_refl _), HA2.out.mono (fun b _ hl => hl), rfl, hq1⟩).mono ?_
        rintro e w3 ⟨A3, c3, us, rfl, ho3, hm3, ⟨hq3, hz3, _⟩, hb3⟩
        have hme := merge_el HNE.out HKD.out
        rw [show chL [t1] = [t1.ch] from rfl, hme] at hq3
        obtain ⟨tn, rfl⟩ : ∃ tn, us = [tn] := by
          have h1 := congrArg List.length hq3
          rw [chL_length] at h1
          exact List.length_eq_one_iff.1 h1
        have hch : tn.ch = ⟨t1.tag.ch, onceA (t1.atts.map AT.ch), [], []⟩ := by
          have h1 : [tn.ch] = [⟨t1.ch.tag, onceA t1.ch.attrs, [], []⟩] := hq3
          injection h1 with h1
          rw [h1, TT.ch_tag, TT.ch_attrs]
        have hkn : tn.kids = [] := by
          have h1 := congrArg PT.kids hch
          rw [TT.ch_kids] at h1
          have h2 := congrArg List.length h1
          rw [chL_length] at h2
          exact List.length_eq_zero_iff.1 h2
        have hin := hm3.get (List.mem_singleton.2 rfl)
        obtain ⟨hK0, hkc0⟩ := hz3 tn (List.mem_singleton.2 rfl) hkn
        have hkn0 : tn.kn = 0 := by rw [← hin.kn, hkn]; rfl
        have H3 := Lib.hid (H2.out.below hb3)
        have HB3 : Hid (Below base w w3) := HB2.out.trans (hb3.mono H2.out.bw)
        have hlive : ∀ b, (w1.drew.alloc (.cells (treeRow t1).toArray 48)).heap.size ≤ b → ¬ Live base g bm Ao Al fr b := fun b hb hlv => by
          rcases hlv with e | e | e | e | ⟨x, hx, e⟩ | e
          · have := H2.out.box.lt; omega
          · have := H2.out.map.lt; omega
          · have := (H2.out.opn.lt b (by rw [blk_own]; exact e)).2; omega
          · have := (H2.out.loo.lt b (by rw [blk_own]; exact e)).2; omega
          · have := ((H2.out.kid x hx).lt b (by rw [blk_own]; exact e)).2; omega
          · have := H2.out.bw; omega
        have HH3 : Hid (tn.headS (fun b => ¬ Live base g bm Ao Al fr b) w3) := ⟨hin.tag.mono (fun b hb _ => hlive b hb), hin.text.mono (fun b hb _ => hlive b hb), by have := congrArg PT.text hch; rw [TT.ch_text] at this; exact this, hin.att.mono (fun b hb _ => hlive b hb), hin.an, hin.ac, hin.am, fun a ha => (hin.atts a ha).mono (fun b hb _ => hlive b hb)⟩
        have HO3 := Lib.hid ho3
        have hA3 : A3 = none → c3 = 0 := by
          obtain ⟨_, _, ev, hA, _⟩ := own_form ho3
          injection ev with e1 e2 e3
          subst e1 e3
          exact hA
        have c3' := H3.out.at0
        rw [HN.out] at c3'
        have y3 := hS2.below hb3 hS2.lt
        refine hK.out _ _ (.inr ⟨c3', y3⟩) ?_
        clear hK K hb3 ho3 hm3 hq3 hz3 hme hin hlive hS2 c2
        have HTC := Lib.hid hch
        clear hch
        try simp only [Act.put, List.setIfInBounds_toArray, List.set_cons_zero, List.set_cons_succ]
        refine wpAnyL_ready (rs := [8]) (by kernel_rfl) (by simp) ?_
        refine' ReadyL.cons ?ho50 (fun K hK => ?step50) ?more50
        case ho50 => simp only [List.getElem?_toArray, List.getElem?_cons_succ, List.getElem?_cons_zero]; rfl
        case step50 =>
          have hopn := H3.out.opn
          rw [HN.out] at hopn
          refine step_append_src _ (by rfl) (.tmp 29) (.tmp 32) 27 (by rfl) base 48 i0 _ 6 128 Tryz.underlying27 hi hz0 hz1 hz2 rfl (by omega) (.slice Ao N co) N _ (by rfl) hopn _ A3 1 c3 (treeCells [tn]) (by rfl) hA3 (treeCells_length [tn]) (Lies.own HO3.out) (treeCells_one [tn]) (by simp only [maxLen]; omega) (by omega) H3.out.bw ?_
          intro v2 w7 hown7 hgr7 hbl7
          obtain ⟨Ao', co', rfl, _, _, _⟩ := own_form hown7
          rw [blk_own] at hgr7
          rw [blk_own, blk_own] at hbl7
          have hto : treeCells [tn] = treeRow tn := by show treeRow tn ++ [] = _; rw [List.append_nil]
          rw [hto, ← HN.out] at hown7
          have HF7 := Lib.hid (H3.out.pushOpen HH3.out hkn hK0 hkn0 hkc0 hgr7 hbl7 hown7)
          have hbg : Whole w7 g 58 #[.slice Ao fr.length co, .slice Al ([] : List TT).length cl, .map (some bm)] := H3.out.box.grown hgr7 (fun e => (H3.out.notg H3.out.opn e.symm).1 rfl)
          have HB7 : Hid (Below base w (w7.setCell ⟨g, 0, none⟩ (.slice Ao' (fr.length + 1) co'))) := by
            have h2 : Below base w3 w7 := (Below.refl base _).grown hgr7 H3.out.bw (fun k hk => (H3.out.opn.lt k (by rw [blk_own]; exact hk)).1)
            exact (HB3.out.trans h2).setCell H3.out.gb.1 _
          have q0 : w7.cell? ⟨g, 0, none⟩ = some (.slice Ao N co) := by rw [← HN.out]; exact hbg.at_ 0
          have qf0 : w7.frozen? ⟨g, 0, none⟩ = false := hbg.free 0
          have heb7 : some eb ≠ blkA Ao := fun e => by
            exact HEBO.out eb e.symm rfl
          have y7 : Whole w7 eb 48 #[.string t1.tag.s, .slice t1.tag.A t1.tag.n t1.tag.c, .slice t1.A t1.n t1.c, .slice t1.K t1.kn t1.kc, .string t1.text.s, .slice t1.text.A t1.text.n t1.text.c] := y3.grown hgr7 heb7
          refine hK.out _ _ (.inr ⟨q0, y7⟩) ?_
          rw [HN.out] at HF7 HB7
          clear hK K hown7 hgr7 hbl7 hbg y7 hto hopn y3 c3'
          try simp only [Act.put, List.setIfInBounds_toArray, List.set_cons_zero, List.set_cons_succ]
          refine wpAnyL_ready (rs := [9]) (by kernel_rfl) (by simp) ?_
          refine' ReadyL.cons ?ho51 (fun K hK => ?step51) ?more51
          case ho51 => simp only [List.getElem?_toArray, List.getElem?_cons_succ, List.getElem?_cons_zero]; rfl
          case step51 =>
            go_simp
            refine hK.out _ _ (.inl (by decide)) ?_
            clear hK K
            try simp only [Act.put, List.setIfInBounds_toArray, List.set_cons_zero, List.set_cons_succ]
            refine wpAnyL_ready (rs := [10]) (by kernel_rfl) (by simp) ?_
            refine' ReadyL.cons ?ho52 (fun K hK => ?step52) ?more52
            case ho52 => simp only [List.getElem?_toArray, List.getElem?_cons_succ, List.getElem?_cons_zero]; rfl
            case step52 =>
              go_simp
              refine hK.out _ _ (.inl (by decide)) ?_
              clear hK K
              try simp only [Act.put, List.setIfInBounds_toArray, List.set_cons_zero, List.set_cons_succ]
              refine wpAnyL_ready (rs := [11]) (by kernel_rfl) (by simp) ?_
              refine' ReadyL.cons ?ho53 (fun K hK => ?step53) ?more53
              case ho53 => simp only [List.getElem?_toArray, List.getElem?_cons_succ, List.getElem?_cons_zero]; rfl
              case step53 =>
                go_simp
                refine hK.out _ _ (.inl (by decide)) ?_
                clear hK K
                try simp only [Act.put]
                refine wpAnyL_done (by kernel_rfl) ?_ _
                go_wp2_with fail
                go_meet
                exact ⟨Ao', co', tn, HF7.out, HTC.out, HB7.out⟩
              exact ReadyL.nil
            exact ReadyL.nil
          exact ReadyL.nil
        exact ReadyL.nil
      exact ReadyL.nil
    exact ReadyL.nil
  case rest =>
    obtain ⟨Ao', co', tn, hM5, hch, hb5⟩ := hcut
    have H5 := Lib.hid hM5
    have HCH := Lib.hid hch
    have HB5 := Lib.hid hb5
    have c2 := hM5.at2
    have hgb := hM5.gb
    have hkey : keyOf Tryz.prog 9 (.string t1.tag.s) = some (.string t1.tag.s.data.toList) := by
      have := ((HA1.out.get (List.mem_singleton.2 rfl)).tag.ok).2.2.2
      exact WideMaps.keyOf_string_mk Tryz.underlying9 (by simp only [maxLen]; omega)
    obtain ⟨x, hx0⟩ : ∃ x, f t1.tag.s.data.toList = x := ⟨_, rfl⟩
    have HX := Lib.hid hx0
    rw [hx0] at hfn
    have hw1 : IntKind.i64.wrap (x + 1) = x + 1 := IntWalk.i64_in _ (by omega)
    obtain ⟨D, hown, hD⟩ := hM5.map
    clear hM5 hch hb5 hx0 H1 HA1 HY1 HB1 hx hx2
    go_wp2_with (first
      | (at_lookup; refine wpList_lookup_own_int _ rfl _ _ 56 rfl 9 3 .i64 strLaw Tryz.underlying56 Tryz.underlying3 (zeroI _) bm mn D rfl hown _ _ rfl hkey ?_; intro c hat hwc; have hce := (hD t1.tag.s.data.toList).symm.trans hat; injection hce with hce; injection hce with _ hce; rw [HX.out] at hce; subst hce; clear hat)
      | (at_mapUpdate; refine wpList_mapUpdate_own _ rfl _ _ _ 56 rfl 9 3 strLaw Tryz.underlying56 _ bm mn D rfl hown (by simp only [maxLen]; omega) _ _ _ rfl rfl hkey _ [] (plainElem_int Tryz.underlying3 (WalkArith.wf_i64 (by omega))) ?_; intro w7 hown7 hgr7)
      | fail)
    have hM7 := MapF.put hown hD hown7
    go_end0
    refine ⟨rfl, K1, kc1, ms, Ao', co', tn, ?_, HQM.out, HCH.out, ?_⟩
    · have h9 := H5.out.count hgr7 hM7
      rw [← HFR.out, List.append_assoc] at h9
      rw [HX.out]
      exact h9
    · exact HB5.out.trans ((Below.refl base wc).grown hgr7 H5.out.bw (fun k hk => by injection hk with hk; have := hgb.2; omega))

end Go.Proofs.YtddgabjhligeeaaGreat.mk

namespace Go.Proofs.YtddgabjhligeeaaGreat.mk
open Go.RowKit

/-! ### how much -/
def bkB (s : BS) : Nat := s.top.bk + bkL s.anc + bkL s.loose
theorem bk_settled (top : PT) (loose : List PT) : (settled top loose).bk ≤ top.bk + bkL loose := by
  have h1 := bk_merge loose
  rw [PT.bk_eq, PT.bk_eq top]
  show top.tag.length + top.attrs.length + ([] : Ch).length + 1 + bkL (top.kids ++ mergeP loose) ≤ _
  rw [bkL_append, List.length_nil]
  omega
theorem bk_around (a t : PT) : (aroundT a t).bk ≤ a.bk + t.bk := by
  rw [PT.bk_eq, PT.bk_eq a]
  show a.tag.length + a.attrs.length + ([] : Ch).length + 1 + bkL (a.kids ++ [t]) ≤ _
  rw [bkL_append, bkL_one, List.length_nil]
  omega
theorem bkL_cons (t : PT) (ts : List PT) : bkL (t :: ts) = t.bk + bkL ts := by rw [bkL]
theorem bkL_nil : bkL ([] : List PT) = 0 := by rw [bkL]
theorem el_bk (n : Ch) (a : List PA) : (PT.mk n a [] []).bk = n.length + a.length + 1 := by rw [PT.bk_eq]; show n.length + a.length + ([] : Ch).length + 1 + bkL [] = _; rw [bkL_nil, List.length_nil]
theorem tx_bk (c : Ch) : (txT c).bk = c.length + 1 := by rw [PT.bk_eq]; show ([] : Ch).length + ([] : List PA).length + c.length + 1 + bkL [] = _; rw [bkL_nil, List.length_nil, List.length_nil]; omega
theorem bkL_rev (l : List PT) : bkL l.reverse = bkL l := by
  induction l with
  | nil => rfl
  | cons a l ih => rw [List.reverse_cons, bkL_append, bkL_one, ih, bkL_cons]; omega
theorem bkB_end (top : PT) (loose : List PT) (a : PT) (anc : List PT) : bkB (endB top loose a anc) ≤ bkB ⟨top, loose, a :: anc⟩ := by
  have h1 := bk_settled top loose
  have h2 := bk_around a (settled top loose)
  show (aroundT a (settled top loose)).bk + bkL anc + bkL [] ≤ top.bk + bkL (a :: anc) + bkL loose
  rw [bkL_cons, bkL_nil]
  omega
theorem once_len (l : List PA) : (onceA l).length ≤ l.length := by
  unfold onceA sel
  exact selTo_len _ _ _
theorem bkB_close (x : Nm) : ∀ (anc : List PT) (top : PT) (loose : List PT), bkB (closeTo x top loose anc) ≤ bkB ⟨top, loose, anc⟩ := by
  intro anc
  induction anc with
  | nil => intro top loose; exact Nat.le_refl _
  | cons a anc ih =>
    intro top loose
    have h1 := bkB_end top loose a anc
    by_cases h : nmT top = x
    · rw [closeTo_end h]; exact h1
    · rw [closeTo_go h]; exact Nat.le_trans (ih _ _) h1
theorem bkB_step (s : BS) (t : KP) : bkB (stepB s t) ≤ bkB s + t.bk := by
  unfold stepB
  split
  · split
    · omega
    · split
      · show s.top.bk + bkL s.anc + bkL (s.loose ++ [⟨t.name, t.attrs, [], []⟩]) ≤ s.top.bk + bkL s.anc + bkL s.loose + (t.name.length + t.attrs.length + t.text.length + 1)
        rw [bkL_append, bkL_one, el_bk]
        omega
      · have h1 := bk_settled s.top s.loose
        have h2 := once_len t.attrs
        show (PT.mk t.name (onceA t.attrs) [] []).bk + bkL (settled s.top s.loose :: s.anc) + bkL [] ≤ s.top.bk + bkL s.anc + bkL s.loose + (t.name.length + t.attrs.length + t.text.length + 1)
        rw [bkL_cons, el_bk, bkL_nil]
        omega
  · split
    · split
      · have := bkB_close t.nm s.anc s.top s.loose
        exact Nat.le_trans this (Nat.le_add_right _ _)
      · omega
    · split
      · show s.top.bk + bkL s.anc + bkL (s.loose ++ [txT t.text]) ≤ s.top.bk + bkL s.anc + bkL s.loose + (t.name.length + t.attrs.length + t.text.length + 1)
        rw [bkL_append, bkL_one, tx_bk]
        omega
      · omega

/-! ### both -/
def BldR (S : Nat → Prop) (w : World) (base g bm mn : Nat) (s : BS) : Prop :=
  ∃ (Ao : Option Addr) (co : Nat) (fr : List TT) (Al : Option Addr) (cl : Nat) (ls : List TT) (f : List UInt8 → Int), BldM S w base g bm Ao co fr Al cl ls mn f ∧ chL fr = s.anc.reverse ++ [s.top] ∧ chL ls = s.loose ∧ ∀ x, f x = (s.names.count x : Int)
theorem BldR.below {S : Nat → Prop} {w w' : World} {base g bm mn : Nat} {s : BS} (h : BldR S w base g bm mn s) (hb : Below w.heap.size w w') : BldR S w' base g bm mn s := by
  obtain ⟨Ao, co, fr, Al, cl, ls, f, h1, h2⟩ := h
  exact ⟨Ao, co, fr, Al, cl, ls, f, h1.below hb, h2⟩
theorem split_last {fr : List TT} {l : List PT} {x : PT} (h : chL fr = l ++ [x]) : ∃ fs t, fr = fs ++ [t] ∧ chL fs = l ∧ t.ch = x := by
  rcases last_cases fr with rfl | ⟨fs, t, rfl⟩
  · have := congrArg List.length h
    rw [chL, List.length_append] at this
    have h2 : [x].length = 1 := rfl
    simp only [List.length_nil] at this
    omega
  · rw [chL_append] at h
    have h1 := List.append_inj' h rfl
    refine ⟨fs, t, rfl, h1.1, ?_⟩
    have h2 : [t.ch] = [x] := h1.2
    injection h2
theorem kn_le {S : Nat → Prop} {w : World} {base g bm co cl mn : Nat} {Ao Al : Option Addr} {fr ls : List TT} {f : List UInt8 → Int} (h : BldM S w base g bm Ao co fr Al cl ls mn f) {x : TT} (hx : x ∈ fr) : x.kn < x.ch.bk := by
  have h1 := bkL_len (chL x.kids)
  rw [chL_length, h.kln hx] at h1
  rw [PT.bk_eq, TT.ch_kids]
  omega
theorem count_snoc (l : List Nm) (y x : Nm) : ((l ++ [y]).count x : Int) = (l.count x : Int) + (if y = x then 1 else 0) := by
  rw [List.count_append, List.count_singleton]
  by_cases h : y = x
  · simp [h]
  · simp [h]
/-- how many are open -/
def openN (g : Nat) (w : World) : Nat := match w.cell? ⟨g, 0, none⟩ with
  | some (.slice _ n _) => n
  | _ => 0
theorem BldR.openN {S : Nat → Prop} {w : World} {base g bm mn : Nat} {s : BS} (h : BldR S w base g bm mn s) : openN g w = s.anc.length + 1 := by
  obtain ⟨Ao, co, fr, Al, cl, ls, f, h1, h2, _⟩ := h
  unfold mk.openN
  rw [h1.at0]
  have := congrArg List.length h2
  rw [chL_length, List.length_append, List.length_reverse] at this
  exact this

theorem end_r {S : Nat → Prop} {base g bm mn : Nat} {top a : PT} {loose anc : List PT} (w : World) (h : BldR S w base g bm mn ⟨top, loose, a :: anc⟩) (hb : bkB ⟨top, loose, a :: anc⟩ ≤ 1048576) (hmn : mn ≤ 4294967296) :
    Calls Tryz.prog 31 #[.pointer (some ⟨g, 0, none⟩)] w fun e w' => e = .returned (.tuple #[]) ∧ BldR S w' base g bm (mn + 1) (endB top loose a anc) ∧ Below base w w' := by
  obtain ⟨Ao, co, fr, Al, cl, ls, f, hM, hfr, hls, hf⟩ := h
  obtain ⟨fs1, t, rfl, hfs1, ht⟩ := split_last hfr
  rw [List.reverse_cons] at hfs1
  obtain ⟨fs, a1, rfl, hfs, ha⟩ := split_last hfs1
  have k1 := kn_le hM (x := t) (by simp)
  have k2 := kn_le hM (x := a1) (by simp)
  have hlen : fs.length ≤ bkL anc := by
    have h1 := bkL_len (chL fs)
    rw [chL_length, hfs, bkL_rev] at h1
    exact h1
  have hls' : chL ls = loose := hls
  have hb : top.bk + bkL (a :: anc) + bkL loose ≤ 1048576 := hb
  rw [bkL_cons] at hb
  have ht : t.ch = top := ht
  rw [ht] at k1
  rw [ha] at k2
  have hnm : t.tag.bs = nmT top := by
    unfold nmT
    rw [← ht, TT.ch_tag, LT.ch_fst]
  have hcnt := hf t.tag.bs
  have hcl : (BS.mk top loose (a :: anc)).names.count t.tag.bs ≤ anc.length + 1 := by
    refine Nat.le_trans List.count_le_length ?_
    unfold BS.names
    rw [List.length_map, List.length_tail, List.length_append, List.length_reverse, List.length_cons]
    show anc.length + 1 + 1 - 1 ≤ _
    omega
  have hal := bkL_len anc
  refine (bldEnd_any w hM (by rw [hls']; omega) (by omega) (by omega) hmn (by omega)).mono ?_
  rintro e w' ⟨rfl, K', kc', t', hM', ht', hbw⟩
  refine ⟨rfl, ⟨Ao, co, _, Al, cl, [], _, hM', ?_, rfl, ?_⟩, hbw⟩
  · rw [chL_append, hfs]
    show anc.reverse ++ [TT.ch _] = anc.reverse ++ [aroundT a (settled top loose)]
    congr 2
    rw [TT.ch_eq]
    have hat := (hM.head a1 (by simp)).blank
    show PT.mk a1.tag.ch (a1.atts.map AT.ch) (chL (a1.kids ++ [t'])) a1.text.ch = PT.mk a.tag a.attrs (a.kids ++ [settled top loose]) []
    rw [hat, chL_append, ← ha, TT.ch_tag, TT.ch_attrs, TT.ch_kids]
    show PT.mk _ _ (chL a1.kids ++ [t'.ch]) _ = _
    rw [ht', ht, hls']
  · intro x
    have hpush := names_push (aroundT a (settled top loose)) top [] loose a anc rfl
    have h0 := hf x
    rw [hpush, count_snoc] at h0
    rw [hpush, count_snoc] at hcnt
    show upd f t.tag.bs (f t.tag.bs - 1) x = ((BS.mk (aroundT a (settled top loose)) [] anc).names.count x : Int)
    unfold upd
    by_cases hx : x = t.tag.bs
    · rw [if_pos hx, hcnt, hnm, if_pos rfl, hx, hnm]
      omega
    · rw [if_neg hx, h0, if_neg (fun e => hx (by rw [hnm, e]))]
      omega

end Go.Proofs.YtddgabjhligeeaaGreat.mk

namespace Go.Proofs.YtddgabjhligeeaaGreat.mk
open Go.RowKit Go.Maps

def NamedRel (S : Nat → Prop) (base g bm mn : Nat) (s : BS) (x : Nm) (w wr : World) : Prop :=
  ∃ (s' : BS) (mn' : Nat), BldR S wr base g bm mn' s' ∧ mn' + s'.anc.length ≤ mn + s.anc.length ∧ x ∈ s'.names ∧ closeTo x s'.top s'.loose s'.anc = closeTo x s.top s.loose s.anc ∧ bkB s' ≤ bkB s ∧ Below base w wr
/-- what is open is ended up to the last one of a name, if there is one -/
def closedB (x : Nm) (s : BS) : BS := if x ∈ s.names then closeTo x s.top s.loose s.anc else s
theorem names_root (top : PT) (loose : List PT) : (BS.mk top loose []).names = [] := rfl
theorem endB_names (top : PT) (loose : List PT) (a : PT) (anc : List PT) : (BS.mk top loose (a :: anc)).names = (endB top loose a anc).names ++ [nmT top] := names_push (aroundT a (settled top loose)) top [] loose a anc rfl

set_option maxHeartbeats 4000000 in
set_option maxRecDepth 100000 in
theorem endNamed_r {S : Nat → Prop} {base g bm mn : Nat} {s : BS} (x : ByteArray) (w : World) (h : BldR S w base g bm mn s) (hb : bkB s ≤ 1048576) (hmn : mn + s.anc.length ≤ 4294967296) (hxs : x.size ≤ 4294967296) :
    Calls Tryz.prog 104 #[.pointer (some ⟨g, 0, none⟩), .string x] w fun e w' => e = .returned (.tuple #[]) ∧ ∃ mn', BldR S w' base g bm mn' (closedB x.data.toList s) ∧ mn' + (closedB x.data.toList s).anc.length ≤ mn + s.anc.length ∧ Below base w w' := by
  obtain ⟨Ao, co, fr, Al, cl, ls, f, hM, hfr, hls, hf⟩ := id h
  have c2 := hM.at2
  have hkey : keyOf Tryz.prog 9 (.string x) = some (.string x.data.toList) := WideMaps.keyOf_string_mk Tryz.underlying9 (by simp only [maxLen]; omega)
  obtain ⟨D, hown, hD⟩ := hM.map
  have HF := Lib.hid (hf x.data.toList)
  have HR := Lib.hid h
  clear hM hfr hls hf h
  by_cases hx : x.data.toList ∈ s.names
  · have hpos := List.count_pos_iff.2 hx
    have hne : ((s.names.count x.data.toList : Int) == 0) = false := by rw [beq_eq_false_iff_ne]; omega
    have HST : Hid (NamedRel S base g bm mn s x.data.toList w w) := ⟨s, mn, HR.out, Nat.le_refl _, hx, rfl, Nat.le_refl _, Below.refl _ _⟩
    have HIF : Hid ((closedB x.data.toList s) = closeTo x.data.toList s.top s.loose s.anc) := if_pos hx
    clear hpos
    go_enter Tryz.func104, Tryz.ntmps104
    go_wp2_with (first
      | (at_lookup; refine wpList_lookup_own_int _ rfl _ _ 56 rfl 9 3 .i64 strLaw Tryz.underlying56 Tryz.underlying3 (zeroI _) bm mn D rfl hown _ _ rfl hkey ?_; intro c hat hwc; have hce := (hD x.data.toList).symm.trans hat; injection hce with hce; injection hce with _ hce; rw [HF.out] at hce; subst hce; clear hat)
      | fail)
    clear hx hne hown hD c2 hkey
    go_loopw [] (NamedRel S base g bm mn s x.data.toList w) (fun wr => openN g wr)
    case atStart => exact HST.out
    case round =>
      obtain ⟨s', mn', hr, hmm, hxn, hcl, hbk, hbw⟩ := hrel
      obtain ⟨top, loose, anc⟩ := s'
      cases anc with
      | nil => exact absurd hxn (by rw [names_root]; simp)
      | cons a anc =>
        have hon := hr.openN
        obtain ⟨Ao', co', fr', Al', cl', ls', f', hM', hfr', hls', hf'⟩ := id hr
        obtain ⟨fs, t, rfl, hfs, ht⟩ := split_last hfr'
        obtain ⟨bo, hao, hbo, k0, _⟩ := hM'.cellsL
        have hlf : fs.length = anc.length + 1 := by
          have := congrArg List.length hfs
          rw [chL_length, List.length_reverse, List.length_cons] at this
          exact this
        have hal : anc.length ≤ 1048576 := by
          have h1 := bkL_len (a :: anc)
          have h2 : bkB ⟨top, loose, a :: anc⟩ = top.bk + bkL (a :: anc) + bkL loose := rfl
          rw [List.length_cons] at h1
          omega
        have HLA := Lib.hid (bldLast_any g bo fs.length (fs ++ [t]).length co' wr (by rw [List.length_append]; rfl) (by rw [← hao]; exact hM'.at0) (by omega))
        have hnm : t.tag.s.data.toList = nmT top := by
          have ht : t.ch = top := ht
          unfold nmT
          rw [← ht, TT.ch_tag]
          exact (LT.ch_fst t.tag).symm
        have HR' := Lib.hid hr
        have HBW := Lib.hid hbw
        have HCL := Lib.hid hcl
        have HXN := Lib.hid hxn
        have hb' : bkB ⟨top, loose, a :: anc⟩ ≤ 1048576 := Nat.le_trans hbk hb
        have hmm' : mn' + (anc.length + 1) ≤ mn + s.anc.length := hmm
        have hbk1 := bkB_end top loose a anc
        have hk0 : ∀ n, (wr.drewN n).cell? ⟨bo, fs.length * 6, none⟩ = some (.string t.tag.s) := fun n => k0
        have HEND : Hid (∀ n, Calls Tryz.prog 31 #[.pointer (some ⟨g, 0, none⟩)] (wr.drewN n) fun e w' => e = .returned (.tuple #[]) ∧ BldR S w' base g bm (mn' + 1) (endB top loose a anc) ∧ Below base (wr.drewN n) w') := fun n => end_r (wr.drewN n) (HR'.out.below ((Below.refl _ _).drewN n)) hb' (by omega)
        clear hM' hfr' hls' hf' hr hbw hcl hxn hfs ht hao hlf
        go_wp2_with fail
        refine HLA.out.mono ?_
        rintro e w1 ⟨rfl, n1, rfl⟩
        have q0 := hk0 n1
        have HE1 := Lib.hid (HEND.out n1)
        have HB1 : Hid (Below base w (wr.drewN n1)) := HBW.out.drewN n1
        by_cases he : nmT top = x.data.toList
        · have hx1 : (t.tag.s.toList == x.toList) = true := by rw [beq_iff_eq, ByteArray.toList_eq, ByteArray.toList_eq, hnm]; exact he
          have hx2 : (t.tag.s.toList != x.toList) = false := by rw [bne, hx1]; rfl
          have HFC : Hid (endB top loose a anc = closeTo x.data.toList s.top s.loose s.anc) := by
            show _ = _
            rw [← HCL.out]
            exact (closeTo_end he).symm
          clear he hk0
          go_wp2_with fail
          refine HE1.out.mono ?_
          rintro e w2 ⟨rfl, hr2, hb2⟩
          have HR2 := Lib.hid hr2
          have HB2 : Hid (Below base w w2) := HB1.out.trans hb2
          clear hr2 hb2
          go_wp2_with fail
          go_end0
          refine ⟨rfl, mn' + 1, by rw [HIF.out, ← HFC.out]; exact HR2.out, ?_, HB2.out⟩
          rw [HIF.out, ← HFC.out]
          show mn' + 1 + anc.length ≤ _
          omega
        · have hx1 : (t.tag.s.toList == x.toList) = false := by rw [beq_eq_false_iff_ne, ByteArray.toList_eq, ByteArray.toList_eq, hnm]; exact he
          have hx2 : (t.tag.s.toList != x.toList) = true := by rw [bne, hx1]; rfl
          have HREL : Hid (∀ w2, BldR S w2 base g bm (mn' + 1) (endB top loose a anc) → Below base w w2 → NamedRel S base g bm mn s x.data.toList w w2) := fun w2 hr2 hb2 => by
            refine ⟨endB top loose a anc, mn' + 1, hr2, by show mn' + 1 + anc.length ≤ _; omega, ?_, ?_, Nat.le_trans hbk1 hbk, hb2⟩
            · have h1 := HXN.out
              rw [endB_names] at h1
              rcases List.mem_append.1 h1 with h1 | h1
              · exact h1
              · exact absurd (by simpa using h1 : x.data.toList = nmT top).symm he
            · rw [← HCL.out]
              exact (closeTo_go he).symm
          clear he hk0
          go_wp2_with fail
          refine HE1.out.mono ?_
          rintro e w2 ⟨rfl, hr2, hb2⟩
          have HNX := Lib.hid (HREL.out w2 hr2 (HB1.out.trans hb2))
          have hon2 := hr2.openN
          clear hr2 hb2
          go_wp2_with fail
          go_roundw
          case rel => exact HNX.out
          case measure =>
            rw [hon, hon2]
            show anc.length + 1 < (a :: anc).length + 1
            rw [List.length_cons]
            omega
  · have hz : s.names.count x.data.toList = 0 := List.count_eq_zero.2 hx
    have HZ : Hid (f x.data.toList = 0) := by have := HF.out; rw [hz] at this; exact this
    have HIF : Hid ((closedB x.data.toList s) = s) := if_neg hx
    clear hz hx
    go_enter Tryz.func104, Tryz.ntmps104
    go_wp2_with (first
      | (at_lookup; refine wpList_lookup_own_int _ rfl _ _ 56 rfl 9 3 .i64 strLaw Tryz.underlying56 Tryz.underlying3 (zeroI _) bm mn D rfl hown _ _ rfl hkey ?_; intro c hat hwc; have hce := (hD x.data.toList).symm.trans hat; injection hce with hce; injection hce with _ hce; rw [HZ.out] at hce; subst hce; clear hat)
      | fail)
    refine bodyPost_ret (results_none rfl _ _ _) rfl ?_
    exact ⟨rfl, mn, by rw [HIF.out]; exact HR.out, by rw [HIF.out]; exact Nat.le_refl _, Below.refl _ _⟩

end Go.Proofs.YtddgabjhligeeaaGreat.mk
