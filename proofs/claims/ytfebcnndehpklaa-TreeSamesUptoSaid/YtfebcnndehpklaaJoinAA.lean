/-
  The same, or alike: as the law asks of merged trees, and as the code does.
-/
import Derived.Test.YtfebcnndehpklaaJoinY
import Derived.Test.YtfebcnndehpklaaJoinV
import Derived.Test.YtfebcnndehpklaaJoinZ
import Derived.Test.YtfebcnndehpklaaJoinG
import Derived.Test.YtfebcnndehpklaaJoinR
import Derived.Test.YtfebcnndehpklaaJoinM
import Derived.Test.YtfebcnndehpklaaJoinQ
import Derived.Test.YtfebcnndehpklaaJoinO
namespace Go.Proofs.Ytfebcnndehpklaa.mk
open Go.RowKit Go.Maps
attribute [local go_sem] Oper.semAt_some wide_fn wide_depth

theorem lets_then {K : Act → World → Prop} {Q : Exit → Act → World → Prop} (h : ∀ a w, ¬ Q .outgrown a w) : ¬ LetsOut (Exit.then K Q) := by
  rintro ⟨a, w, h2⟩
  exact h a w h2
theorem out_inBlock {id : Nat} {Q : Exit → Act → World → Prop} (h : ∀ a w, ¬ Q .outgrown a w) : ∀ a w, ¬ Exit.inBlock id Q .outgrown a w := h

theorem sibs_small (Q : List PT) : (sibs Q).length ≤ bkL Q := by
  have h1 : (mergeP Q).length = (sibs Q).length := by rw [merge_sibs, List.length_map]
  rw [← h1]
  exact Nat.le_trans (wtL_len _) (wt_small Q)

set_option maxHeartbeats 8000000 in
set_option maxRecDepth 100000 in
theorem merged_any {F : Nat} {g : Ch → Ch} (hF : AsF F g) (g0 : g [] = []) : ∀ (Q : List PT) (S : Nat → Prop) (A : Option Addr) (n c : Nat) (ts : List TT) (w : World), chL ts = Q → bkL Q ≤ 1048576 → LiesS S w A (treeCells ts) → AllS S w ts → ts.length = n → (∀ b, S b → b < w.heap.size) →
    Calls Try.prog 30 #[.slice A n c, .func (.func F) #[] #[]] w (TellsT (fun b => w.heap.size ≤ b) (mapL g (mergeP Q)) w) := by
  obtain ⟨i0, hi, hiz0, hiz1, hiz2⟩ := info_parts tree_info
  have HF := Lib.hid hF
  have HG0 := Lib.hid g0
  clear hF g0
  apply PT.lt_ind
  intro Q IH S A n c ts w hq hbk hl hok hn hS
  have HIH := Lib.hid IH
  have HQ := Lib.hid hq
  have HL := Lib.hid hl
  have HOK := Lib.hid hok
  have HN := Lib.hid hn
  have HS := Lib.hid hS
  clear IH hq hl hok hn hS
  refine callsIn_wide.1 (callsIn_of_wp_marks (n := 1) Try.func30 rfl trivial ?_ rfl)
  simp only [Try.ntmps30, List.size_toArray, List.length_cons, List.length_nil, Nat.reduceAdd, Nat.reduceSub, Array.replicate_succ, Array.replicate_zero, List.push_toArray, List.append_toArray, List.nil_append, List.cons_append]
  generalize hw3 : (w.alloc (.cells #[.func (.func F) #[] #[]] 51)).alloc (.cells #[.slice none 0 0] 22) = w3
  have hz3 : w3.heap.size = w.heap.size + 2 := by rw [← hw3]; simp
  have hb3 : Below w.heap.size w w3 := by rw [← hw3]; exact ((Below.refl _ _).alloc (Nat.le_refl _) _).alloc (by simp) _
  have y2 : Whole w3 w.heap.size 51 #[.func (.func F) #[] #[]] := by rw [← hw3]; exact (Whole.made w _ _).alloc _
  have y3 : Whole w3 (w.heap.size + 1) 22 #[.slice none 0 0] := by
    rw [← hw3]
    have h := Whole.made (w.alloc (.cells #[.func (.func F) #[] #[]] 51)) 22 #[.slice none 0 0]
    simp only [World.size_alloc] at h
    exact h
  gi_wp2_with fail
  refine callsIn_wide.2 ((siblings_any A n c w3).mono ?_)
  rintro e w4 ⟨rfl, hc4, hlt4, hb4⟩
  rw [hz3] at hc4 hlt4
  have Y2 := Lib.hid (y2.below hb4 y2.lt)
  have Y3 := Lib.hid (y3.below hb4 y3.lt)
  have HB4 : Hid (Below w.heap.size w w4) := below_next hb3 (Nat.le_refl _) hb4
  have HC4 := Lib.hid hc4
  have hst4 : Stays S w w4 := Stays.of HB4.out
  have HL4 := Lib.hid (HL.out.keep hst4)
  have HO4 := Lib.hid (HOK.out.keep hst4)
  clear hw3 hb3 hb4 y2 y3 hc4 hst4
  gi_wp2_with fail
  have hbq : bkL (chL ts) ≤ 1048576 := by rw [HQ.out]; exact hbk
  refine range_law (gf := 62) (lb := #[.pointer (some ⟨w.heap.size + 2, 0, none⟩)]) (encs := encT) (Sh := ShT S) (okp := fun p => chL p <+: sibs (chL ts)) (done := fun xs => chL xs = sibs (chL ts)) (S := S) rfl (fun _ _ => rfl) ?gives (fun _ => rfl) (MergI g (w.heap.size + 1) w4) (fun b => b = w.heap.size + 1) (fun b hb => ?hS) (fun b hb => ?hK0) mergI_held ?h0 ?round ?done
  case gives =>
    intro W' hb
    have hst : Stays S w4 W' := Stays.of hb
    exact sibs_gives ((hb.cell (p := ⟨w.heap.size + 2, 0, none⟩) hlt4).trans HC4.out) (HL4.out.keep hst) (HO4.out.keep hst) HN.out (fun b h => by have := HS.out b h; have := hb.size; omega) hbq
  case hS => have := HS.out b hb; omega
  case hK0 => subst hb; exact ⟨by omega, fun h => by have := HS.out _ h; omega⟩
  case h0 => exact ⟨_, [], Y3.out, World.ownsRow_nil _ _ _ _, (fun g h => by cases h), AllS.nil _ _, rfl, rfl, (fun b h => by omega), Moved.refl _ _⟩
  case round =>
    rintro l pre K G x W1 ⟨v, us, hy, hown, hg, hus, he, hkb, hkl, hm⟩ hsh hokx hl1 hl2 hkl2 hgl hks hG
    have hz41 : w4.heap.size ≤ W1.heap.size := hm.size
    have hzb : us.length ≤ 1048576 := by
      have h1 := hokx.length_le
      rw [chL_append, List.length_append] at h1
      have h2 := congrArg List.length he
      rw [chL_length, List.length_map] at h2
      have h3 := sibs_small (chL ts)
      omega
    have hmem : x.ch ∈ sibs (chL ts) := hokx.subset (by rw [chL_append, chL, chL]; simp)
    have hlt := sib_lt hmem
    rw [TT.ch_kids, HQ.out] at hlt
    have HLT := Lib.hid hlt
    have HOS := Lib.hid (sibs_ok hmem).1
    unfold encT
    generalize hw2 : W1.alloc (.cells #[.string x.tag.s, .slice x.tag.A x.tag.n x.tag.c, .slice x.A x.n x.c, .slice x.K x.kn x.kc, .string x.text.s, .slice x.text.A x.text.n x.text.c] 45) = W2
    have y2 : Whole W2 W1.heap.size 45 #[.string x.tag.s, .slice x.tag.A x.tag.n x.tag.c, .slice x.A x.n x.c, .slice x.K x.kn x.kc, .string x.text.s, .slice x.text.A x.text.n x.text.c] := by rw [← hw2]; exact Whole.made _ _ _
    have hb2 : Below W1.heap.size W1 W2 := by rw [← hw2]; exact (Below.refl _ _).alloc (Nat.le_refl _) _
    have hz2 := y2.lt
    have HFIN0 : Hid (∀ W3, Moved (fun b => b = l) W2 W3 → W1.heap.size < W3.heap.size ∧ Whole W3 W1.heap.size 45 #[.string x.tag.s, .slice x.tag.A x.tag.n x.tag.c, .slice x.A x.n x.c, .slice x.K x.kn x.kc, .string x.text.s, .slice x.text.A x.text.n x.text.c] ∧
        Whole W3 w.heap.size 51 #[.func (.func F) #[] #[]] ∧ Whole W3 (w.heap.size + 1) 22 #[v] ∧ W3.ownsRow w4.heap.size 45 6 v us.length (treeCells us) ∧ AllS (fun b => K b ∧ b ≠ w.heap.size + 1 ∧ v.ownBlock ≠ some b) W3 us ∧ Moved (fun i => w.heap.size + 1 ≤ i) w4 W3 ∧ ShT S x G W3) := by
      intro W3 hm3
      have hm13 : Moved (fun b => b = l) W1 W3 := (Moved.of_below hb2).join hm3 fun _ _ h => h
      have hm43 : Moved (fun i => w.heap.size + 1 ≤ i) w4 W3 := hm.join hm13 fun i hi h => by omega
      exact ⟨Nat.lt_of_lt_of_le hz2 hm3.size, hm3.whole y2 (fun h => by omega), hm43.whole Y2.out (fun h => by omega), hm13.whole hy (fun h => by omega), hm13.own hown (fun i hi h => hkl2 (h ▸ hg i hi)), hus.keep (hm13.stays fun i _ h h2 => hkl2 (h2 ▸ h.1)), hm43, hsh.moved (hm13.mono fun i _ h => by rintro (h2 | h2); have := HS.out i h2; omega; exact hgl (h ▸ h2))⟩
    have HG := Lib.hid hg
    have HE := Lib.hid he
    have HKB := Lib.hid hkb
    have HKL := Lib.hid hkl
    obtain ⟨A5, c5, rfl, _, _, _⟩ := own_form hown
    clear hy hown hg hus he hkb hkl hm hsh hokx hks hG hlt hmem
    gi_wp2_with fail
    refine ⟨hb2, fun W3 hm3 => ?_⟩
    obtain ⟨hz13, z3, v2, v3, hown3, hus3, hm43, hsh3⟩ := HFIN0.out W3 hm3
    have HOWN3 := Lib.hid hown3
    have HUS3 := Lib.hid hus3
    have HM43 := Lib.hid hm43
    have HSH3 := Lib.hid hsh3
    have HV3 := Lib.hid v3
    have HV2 := Lib.hid v2
    have HZ3 := Lib.hid z3
    have hzm3 := hm3.size
    have e0 : W3.cell? ⟨W1.heap.size, 0, none⟩ = some (.string x.tag.s) := z3.at_ 0
    have e1 : W3.cell? ⟨W1.heap.size, 1, none⟩ = some (.slice x.tag.A x.tag.n x.tag.c) := z3.at_ 1
    have e2 : W3.cell? ⟨W1.heap.size, 2, none⟩ = some (.slice x.A x.n x.c) := z3.at_ 2
    have e3 : W3.cell? ⟨W1.heap.size, 3, none⟩ = some (.slice x.K x.kn x.kc) := z3.at_ 3
    have e4 : W3.cell? ⟨W1.heap.size, 4, none⟩ = some (.string x.text.s) := z3.at_ 4
    have e5 : W3.cell? ⟨W1.heap.size, 5, none⟩ = some (.slice x.text.A x.text.n x.text.c) := z3.at_ 5
    clear hm3 y2 hb2 hw2 HFIN0 hown3 hus3 hm43 hsh3 v3 v2 z3
    gi_wp2_with fail
    refine CallsIn.inRound l (callsIn_wide.2 ((element_any x W3).mono ?_))
    rintro e W4 ⟨rfl, hb34⟩
    have HB34 := Lib.hid hb34
    have hz34 := hb34.size
    have HCELLS : Hid (∀ V, Below W4.heap.size W4 V → (V.cell? ⟨w.heap.size, 0, none⟩ = some (.func (.func F) #[] #[]) ∧ V.cell? ⟨W1.heap.size, 0, none⟩ = some (.string x.tag.s) ∧ V.cell? ⟨W1.heap.size, 1, none⟩ = some (.slice x.tag.A x.tag.n x.tag.c) ∧ V.cell? ⟨W1.heap.size, 2, none⟩ = some (.slice x.A x.n x.c) ∧ V.cell? ⟨W1.heap.size, 3, none⟩ = some (.slice x.K x.kn x.kc) ∧ V.cell? ⟨W1.heap.size, 4, none⟩ = some (.string x.text.s) ∧ V.cell? ⟨W1.heap.size, 5, none⟩ = some (.slice x.text.A x.text.n x.text.c)) ∧ Whole V W1.heap.size 45 #[.string x.tag.s, .slice x.tag.A x.tag.n x.tag.c, .slice x.A x.n x.c, .slice x.K x.kn x.kc, .string x.text.s, .slice x.text.A x.text.n x.text.c] ∧ Below W3.heap.size W3 V) := fun V h => by
      have hb := below_next hb34 (Nat.le_refl _) h
      have z := HZ3.out.below hb HZ3.out.lt
      exact ⟨⟨(HV2.out.below hb HV2.out.lt).at_ 0, z.at_ 0, z.at_ 1, z.at_ 2, z.at_ 3, z.at_ 4, z.at_ 5⟩, z, hb⟩
    have HSB : Hid (∀ V, Below W4.heap.size W4 V → V.cell? ⟨w.heap.size, 0, none⟩ = some (.func (.func F) #[] #[]) ∧ V.cell? ⟨W1.heap.size, 0, none⟩ = some (.string x.tag.s) ∧ V.cell? ⟨W1.heap.size, 1, none⟩ = some (.slice x.tag.A x.tag.n x.tag.c) ∧ V.cell? ⟨W1.heap.size, 2, none⟩ = some (.slice x.A x.n x.c) ∧ V.cell? ⟨W1.heap.size, 3, none⟩ = some (.slice x.K x.kn x.kc) ∧ V.cell? ⟨W1.heap.size, 4, none⟩ = some (.string x.text.s) ∧ V.cell? ⟨W1.heap.size, 5, none⟩ = some (.slice x.text.A x.text.n x.text.c)) := fun V h => (HCELLS.out V h).1
    have HFR : Hid (∀ V, Below W4.heap.size W4 V → V.frozen? ⟨W1.heap.size, 0, none⟩ = false ∧ V.frozen? ⟨W1.heap.size, 1, none⟩ = false ∧ V.frozen? ⟨W1.heap.size, 2, none⟩ = false ∧ V.frozen? ⟨W1.heap.size, 3, none⟩ = false ∧ V.frozen? ⟨W1.heap.size, 4, none⟩ = false ∧ V.frozen? ⟨W1.heap.size, 5, none⟩ = false) := fun V h => by
      have z := (HCELLS.out V h).2.1
      exact ⟨z.free 0, z.free 1, z.free 2, z.free 3, z.free 4, z.free 5⟩
    have HSHV : Hid (∀ V, Below W4.heap.size W4 V → ShT S x G V) := fun V h => HSH3.out.moved (Moved.of_below (HCELLS.out V h).2.2)
    -- what holds behind a round, whatever tree has been made
    have HG7 : Hid (∀ (T : TT) (W6 w7 : World) (d7 g7 : Nat) (o : Obj), MadeT g W1 W3 x T W6 → w7.ownsRow w4.heap.size 45 6 (.slice (some ⟨g7, 0, none⟩) (us.length + 1) d7) (us.length + 1) (treeCells us ++ treeRow zeroTT) → (W6.alloc o).grownBy w7 (Value.slice A5 us.length c5).ownBlock → ((Value.slice (some ⟨g7, 0, none⟩) (us.length + 1) d7).ownBlock = (Value.slice A5 us.length c5).ownBlock ∨ (Value.slice (some ⟨g7, 0, none⟩) (us.length + 1) d7).ownBlock = some (W6.alloc o).heap.size) →
        ((w7.cell? ⟨g7, us.length * 6, none⟩ = some (.string zeroTT.tag.s) ∧ w7.cell? ⟨g7, us.length * 6 + 1, none⟩ = some (.slice zeroTT.tag.A zeroTT.tag.n zeroTT.tag.c) ∧ w7.cell? ⟨g7, us.length * 6 + 2, none⟩ = some (.slice zeroTT.A zeroTT.n zeroTT.c) ∧ w7.cell? ⟨g7, us.length * 6 + 3, none⟩ = some (.slice zeroTT.K zeroTT.kn zeroTT.kc) ∧ w7.cell? ⟨g7, us.length * 6 + 4, none⟩ = some (.string zeroTT.text.s) ∧ w7.cell? ⟨g7, us.length * 6 + 5, none⟩ = some (.slice zeroTT.text.A zeroTT.text.n zeroTT.text.c) ∧ w7.frozen? ⟨g7, us.length * 6, none⟩ = false ∧ w7.frozen? ⟨g7, us.length * 6 + 1, none⟩ = false ∧ w7.frozen? ⟨g7, us.length * 6 + 2, none⟩ = false ∧ w7.frozen? ⟨g7, us.length * 6 + 3, none⟩ = false ∧ w7.frozen? ⟨g7, us.length * 6 + 4, none⟩ = false ∧ w7.frozen? ⟨g7, us.length * 6 + 5, none⟩ = false) ∧ (w7.cell? ⟨w.heap.size + 1, 0, none⟩ = some (.slice A5 us.length c5) ∧ w7.frozen? ⟨w.heap.size + 1, 0, none⟩ = false) ∧ (((((((w7.setCell ⟨g7, us.length * 6, none⟩ (.string T.tag.s)).setCell ⟨g7, us.length * 6 + 1, none⟩ (.slice T.tag.A T.tag.n T.tag.c)).setCell ⟨g7, us.length * 6 + 2, none⟩ (.slice T.A T.n T.c)).setCell ⟨g7, us.length * 6 + 3, none⟩ (.slice T.K T.kn T.kc)).setCell ⟨g7, us.length * 6 + 4, none⟩ (.string T.text.s)).setCell ⟨g7, us.length * 6 + 5, none⟩ (.slice T.text.A T.text.n T.text.c)).cell? ⟨w.heap.size + 1, 0, none⟩ = some (.slice A5 us.length c5) ∧ ((((((w7.setCell ⟨g7, us.length * 6, none⟩ (.string T.tag.s)).setCell ⟨g7, us.length * 6 + 1, none⟩ (.slice T.tag.A T.tag.n T.tag.c)).setCell ⟨g7, us.length * 6 + 2, none⟩ (.slice T.A T.n T.c)).setCell ⟨g7, us.length * 6 + 3, none⟩ (.slice T.K T.kn T.kc)).setCell ⟨g7, us.length * 6 + 4, none⟩ (.string T.text.s)).setCell ⟨g7, us.length * 6 + 5, none⟩ (.slice T.text.A T.text.n T.text.c)).frozen? ⟨w.heap.size + 1, 0, none⟩ = false)) ∧ (∀ u, (w7.setCell ⟨w.heap.size + 1, 0, none⟩ u).cell? ⟨g7, us.length * 6, none⟩ = some (.string zeroTT.tag.s) ∧ (w7.setCell ⟨w.heap.size + 1, 0, none⟩ u).cell? ⟨g7, us.length * 6 + 1, none⟩ = some (.slice zeroTT.tag.A zeroTT.tag.n zeroTT.tag.c) ∧ (w7.setCell ⟨w.heap.size + 1, 0, none⟩ u).cell? ⟨g7, us.length * 6 + 2, none⟩ = some (.slice zeroTT.A zeroTT.n zeroTT.c) ∧ (w7.setCell ⟨w.heap.size + 1, 0, none⟩ u).cell? ⟨g7, us.length * 6 + 3, none⟩ = some (.slice zeroTT.K zeroTT.kn zeroTT.kc) ∧ (w7.setCell ⟨w.heap.size + 1, 0, none⟩ u).cell? ⟨g7, us.length * 6 + 4, none⟩ = some (.string zeroTT.text.s) ∧ (w7.setCell ⟨w.heap.size + 1, 0, none⟩ u).cell? ⟨g7, us.length * 6 + 5, none⟩ = some (.slice zeroTT.text.A zeroTT.text.n zeroTT.text.c) ∧ (w7.setCell ⟨w.heap.size + 1, 0, none⟩ u).frozen? ⟨g7, us.length * 6, none⟩ = false ∧ (w7.setCell ⟨w.heap.size + 1, 0, none⟩ u).frozen? ⟨g7, us.length * 6 + 1, none⟩ = false ∧ (w7.setCell ⟨w.heap.size + 1, 0, none⟩ u).frozen? ⟨g7, us.length * 6 + 2, none⟩ = false ∧ (w7.setCell ⟨w.heap.size + 1, 0, none⟩ u).frozen? ⟨g7, us.length * 6 + 3, none⟩ = false ∧ (w7.setCell ⟨w.heap.size + 1, 0, none⟩ u).frozen? ⟨g7, us.length * 6 + 4, none⟩ = false ∧ (w7.setCell ⟨w.heap.size + 1, 0, none⟩ u).frozen? ⟨g7, us.length * 6 + 5, none⟩ = false) ∧ (∃ K', MergI g (w.heap.size + 1) w4 (pre ++ [x]) K' (((((((w7.setCell ⟨g7, us.length * 6, none⟩ (.string T.tag.s)).setCell ⟨g7, us.length * 6 + 1, none⟩ (.slice T.tag.A T.tag.n T.tag.c)).setCell ⟨g7, us.length * 6 + 2, none⟩ (.slice T.A T.n T.c)).setCell ⟨g7, us.length * 6 + 3, none⟩ (.slice T.K T.kn T.kc)).setCell ⟨g7, us.length * 6 + 4, none⟩ (.string T.text.s)).setCell ⟨g7, us.length * 6 + 5, none⟩ (.slice T.text.A T.text.n T.text.c)).setCell ⟨w.heap.size + 1, 0, none⟩ (.slice (some ⟨g7, 0, none⟩) (us.length + 1) d7)) ∧ (∀ b, K' b → K b ∨ G b ∨ (W1.heap.size ≤ b ∧ b < (((((((w7.setCell ⟨g7, us.length * 6, none⟩ (.string T.tag.s)).setCell ⟨g7, us.length * 6 + 1, none⟩ (.slice T.tag.A T.tag.n T.tag.c)).setCell ⟨g7, us.length * 6 + 2, none⟩ (.slice T.A T.n T.c)).setCell ⟨g7, us.length * 6 + 3, none⟩ (.slice T.K T.kn T.kc)).setCell ⟨g7, us.length * 6 + 4, none⟩ (.string T.text.s)).setCell ⟨g7, us.length * 6 + 5, none⟩ (.slice T.text.A T.text.n T.text.c)).setCell ⟨w.heap.size + 1, 0, none⟩ (.slice (some ⟨g7, 0, none⟩) (us.length + 1) d7)).heap.size)) ∧ Moved (fun b => K b ∨ G b ∨ W1.heap.size ≤ b) W3 (((((((w7.setCell ⟨g7, us.length * 6, none⟩ (.string T.tag.s)).setCell ⟨g7, us.length * 6 + 1, none⟩ (.slice T.tag.A T.tag.n T.tag.c)).setCell ⟨g7, us.length * 6 + 2, none⟩ (.slice T.A T.n T.c)).setCell ⟨g7, us.length * 6 + 3, none⟩ (.slice T.K T.kn T.kc)).setCell ⟨g7, us.length * 6 + 4, none⟩ (.string T.text.s)).setCell ⟨g7, us.length * 6 + 5, none⟩ (.slice T.text.A T.text.n T.text.c)).setCell ⟨w.heap.size + 1, 0, none⟩ (.slice (some ⟨g7, 0, none⟩) (us.length + 1) d7))) ∧ (∃ K', MergI g (w.heap.size + 1) w4 (pre ++ [x]) K' (((((((w7.setCell ⟨w.heap.size + 1, 0, none⟩ (.slice (some ⟨g7, 0, none⟩) (us.length + 1) d7)).setCell ⟨g7, us.length * 6, none⟩ (.string T.tag.s)).setCell ⟨g7, us.length * 6 + 1, none⟩ (.slice T.tag.A T.tag.n T.tag.c)).setCell ⟨g7, us.length * 6 + 2, none⟩ (.slice T.A T.n T.c)).setCell ⟨g7, us.length * 6 + 3, none⟩ (.slice T.K T.kn T.kc)).setCell ⟨g7, us.length * 6 + 4, none⟩ (.string T.text.s)).setCell ⟨g7, us.length * 6 + 5, none⟩ (.slice T.text.A T.text.n T.text.c)) ∧ (∀ b, K' b → K b ∨ G b ∨ (W1.heap.size ≤ b ∧ b < (((((((w7.setCell ⟨w.heap.size + 1, 0, none⟩ (.slice (some ⟨g7, 0, none⟩) (us.length + 1) d7)).setCell ⟨g7, us.length * 6, none⟩ (.string T.tag.s)).setCell ⟨g7, us.length * 6 + 1, none⟩ (.slice T.tag.A T.tag.n T.tag.c)).setCell ⟨g7, us.length * 6 + 2, none⟩ (.slice T.A T.n T.c)).setCell ⟨g7, us.length * 6 + 3, none⟩ (.slice T.K T.kn T.kc)).setCell ⟨g7, us.length * 6 + 4, none⟩ (.string T.text.s)).setCell ⟨g7, us.length * 6 + 5, none⟩ (.slice T.text.A T.text.n T.text.c)).heap.size)) ∧ Moved (fun b => K b ∨ G b ∨ W1.heap.size ≤ b) W3 (((((((w7.setCell ⟨w.heap.size + 1, 0, none⟩ (.slice (some ⟨g7, 0, none⟩) (us.length + 1) d7)).setCell ⟨g7, us.length * 6, none⟩ (.string T.tag.s)).setCell ⟨g7, us.length * 6 + 1, none⟩ (.slice T.tag.A T.tag.n T.tag.c)).setCell ⟨g7, us.length * 6 + 2, none⟩ (.slice T.A T.n T.c)).setCell ⟨g7, us.length * 6 + 3, none⟩ (.slice T.K T.kn T.kc)).setCell ⟨g7, us.length * 6 + 4, none⟩ (.string T.text.s)).setCell ⟨g7, us.length * 6 + 5, none⟩ (.slice T.text.A T.text.n T.text.c)))) := by
      intro T W6 w7 d7 g7 o hmade hown7 hgr hv'
      obtain ⟨zt, hm36, hT, hTK, hTC⟩ := hmade
      have hrow : w7.ownsRow w4.heap.size 45 6 (.slice (some ⟨g7, 0, none⟩) (us.length + 1) d7) (us.length + 1) (treeCells (us ++ [zeroTT])) := by rw [treeCells_snoc]; exact hown7
      have hg7 := hrow.lt g7 rfl
      have hne : g7 ≠ w.heap.size + 1 := by omega
      have hz36 := hm36.size
      have hvb : (Value.slice A5 us.length c5).ownBlock ≠ some (w.heap.size + 1) := fun h => by have := (HOWN3.out.lt _ h).1; omega
      have y7 : Whole w7 (w.heap.size + 1) 22 #[.slice A5 us.length c5] := ((hm36.whole HV3.out (fun h => by omega)).alloc o).grown hgr (fun h => hvb h.symm)
      have hlen : (us ++ [zeroTT]).length = us.length + 1 := by simp
      have hat : (us ++ [zeroTT])[us.length]? = some zeroTT := by simp
      have hset : (us ++ [zeroTT]).set us.length T = us ++ [T] := by rw [List.set_append_right _ _ (Nat.le_refl _), Nat.sub_self]; rfl
      have hA := tree_stored T hrow (k := us.length) (by rw [hlen]; omega)
      rw [hset] at hA
      obtain ⟨oA, mA⟩ := hA
      have hrowB : ∀ u, (w7.setCell ⟨w.heap.size + 1, 0, none⟩ u).ownsRow w4.heap.size 45 6 (.slice (some ⟨g7, 0, none⟩) (us.length + 1) d7) (us.length + 1) (treeCells (us ++ [zeroTT])) := fun u => own_far hrow _ (fun h => hne (by injection h)) u
      have hB := tree_stored T (hrowB (.slice (some ⟨g7, 0, none⟩) (us.length + 1) d7)) (k := us.length) (by rw [hlen]; omega)
      rw [hset] at hB
      obtain ⟨oB, mB⟩ := hB
      have yA := mA.whole y7 (fun h => hne h.symm)
      refine ⟨⟨tree_at hrow hat hlen, ⟨y7.at_ 0, y7.free 0⟩, ⟨yA.at_ 0, yA.free 0⟩⟩, fun u => tree_at (hrowB u) hat hlen, ?_, ?_⟩
      · refine merg_round (v' := .slice (some ⟨g7, 0, none⟩) (us.length + 1) d7) (by omega) hz41 hz13 HOWN3.out HG.out HUS3.out HE.out HKB.out HKL.out HM43.out hm36 hT hTK hTC hgr hv' (yA.put 0 _) (own_far oA _ (fun h => hne (by injection h)) _) ?_
        exact (mA.mono fun i _ h => .inr (by subst h; rfl)).join ((Moved.refl (fun b => b = w.heap.size + 1) _).setCell (p := ⟨w.heap.size + 1, 0, none⟩) rfl _) fun i _ h => .inl h
      · refine merg_round (v' := .slice (some ⟨g7, 0, none⟩) (us.length + 1) d7) (by omega) hz41 hz13 HOWN3.out HG.out HUS3.out HE.out HKB.out HKL.out HM43.out hm36 hT hTK hTC hgr hv' (mB.whole (y7.put 0 _) (fun h => hne h.symm)) oB ?_
        exact ((Moved.refl (fun b => b = w.heap.size + 1 ∨ (Value.slice (some ⟨g7, 0, none⟩) (us.length + 1) d7).ownBlock = some b) w7).setCell (p := ⟨w.heap.size + 1, 0, none⟩) (.inl rfl) _).join mB fun i _ h => .inr (by subst h; rfl)
    have hHB := (Below.refl W4.heap.size W4)
    obtain ⟨a0, a1, a2, a3, a4, a5, a6⟩ := HSB.out _ hHB
    clear e0 e1 e2 e3 e4 e5 hb34
    generalize hzu : us.length = z at *
    have HZU := Lib.hid hzu
    clear hzu
    cases hel : elB x with
    | true =>
      have HTX : Hid (x.ch.text = []) := HOS.out.2 (by rw [TT.ch_tag]; exact (elB_iff x).1 hel)
      clear hel
      have HCT : Hid (∀ V, Below W4.heap.size W4 V → Calls Try.prog F #[.agg #[.string x.tag.s, .slice x.tag.A x.tag.n x.tag.c]] V fun e w'' => ∃ t' : LT, e = .returned (.agg #[.string t'.s, .slice t'.A t'.n t'.c]) ∧ Hid (t'.ch = g x.tag.ch ∧ OwnL w'' V.heap.size t') ∧ Below V.heap.size V w'') := fun V h => HF.out.tells x.tag V (HSHV.out V h).1.tag.ok
      have HCA : Hid (∀ V, Below W4.heap.size W4 V → Calls Try.prog 51 #[.slice x.A x.n x.c, .func (.func F) #[] #[]] V (TellsA ((onceA (x.atts.map AT.ch)).map (gA g)) V)) := fun V h => by
        have hs := (HSHV.out V h).1
        exact tonce_any HF.out x.A x.n x.c x.atts V hs.att.lies (fun a ha => (hs.atts a ha).ok) hs.an (by have := hs.am; omega)
      have HCK : Hid (∀ V, Below W4.heap.size W4 V → Calls Try.prog 30 #[.slice x.K x.kn x.kc, .func (.func F) #[] #[]] V (TellsT (fun b => V.heap.size ≤ b) (mapL g (mergeP (chL x.kids))) V)) := fun V h => by
        have hs := HSHV.out V h
        exact HIH.out (chL x.kids) HLT.out S x.K x.kn x.kc x.kids V rfl (by have := HLT.out; omega) hs.2.1 hs.2.2 hs.1.kn (fun b hb => by have := HS.out b hb; have := h.size; omega)
      have HEL : Hid (∀ (t1 : LT) (w5 : World) (A1 : Option Addr) (c1 : Nat) (us1 : List AT) (w6 : World) (A2 : Option Addr) (c2 : Nat) (ks : List TT) (w7 : World), Below W4.heap.size W4 w5 → Below w5.heap.size w5 w6 → Below w6.heap.size w6 w7 → t1.ch = g x.tag.ch → OwnL w5 W4.heap.size t1 →
          w6.ownsRow w5.heap.size 62 4 (.slice A1 us1.length c1) us1.length (atCells us1) → AllOwn w6 w5.heap.size us1 → us1.map AT.ch = (onceA (x.atts.map AT.ch)).map (gA g) →
          w7.ownsRow w6.heap.size 45 6 (.slice A2 ks.length c2) ks.length (treeCells ks) → AllS (fun b => w6.heap.size ≤ b) w7 ks → chL ks = mapL g (mergeP (chL x.kids)) →
          MadeT g W1 W3 x (newEl t1 A1 c1 us1 A2 c2 ks) ((((((w7.setCell ⟨W1.heap.size, 0, none⟩ (.string t1.s)).setCell ⟨W1.heap.size, 1, none⟩ (.slice t1.A t1.n t1.c)).setCell ⟨W1.heap.size, 2, none⟩ (.slice A1 us1.length c1)).setCell ⟨W1.heap.size, 3, none⟩ (.slice A2 ks.length c2)).setCell ⟨W1.heap.size, 4, none⟩ (.string ⟨#[]⟩)).setCell ⟨W1.heap.size, 5, none⟩ (.slice none 0 0))) := by
        intro t1 w5 A1 c1 us1 w6 A2 c2 ks w7 hb5 hb6 hb7 q1 o1 p1 p2 p3 r1 r2 r3
        have hb46 := below_next hb5 (Nat.le_refl _) hb6
        have hb47 := below_next hb46 (Nat.le_refl _) hb7
        have hz5 := hb5.size
        have hz6 := hb6.size
        have hz7 := hb7.size
        have z7 := (HCELLS.out w7 hb47).2.1
        have hb37 := (HCELLS.out w7 hb47).2.2
        have hmc : Moved (fun b => b = W1.heap.size) w7 ((((((w7.setCell ⟨W1.heap.size, 0, none⟩ (.string t1.s)).setCell ⟨W1.heap.size, 1, none⟩ (.slice t1.A t1.n t1.c)).setCell ⟨W1.heap.size, 2, none⟩ (.slice A1 us1.length c1)).setCell ⟨W1.heap.size, 3, none⟩ (.slice A2 ks.length c2)).setCell ⟨W1.heap.size, 4, none⟩ (.string ⟨#[]⟩)).setCell ⟨W1.heap.size, 5, none⟩ (.slice none 0 0)) := ((((((Moved.refl (fun b => b = W1.heap.size) w7).setCell (p := ⟨W1.heap.size, 0, none⟩) rfl _).setCell (p := ⟨W1.heap.size, 1, none⟩) rfl _).setCell (p := ⟨W1.heap.size, 2, none⟩) rfl _).setCell (p := ⟨W1.heap.size, 3, none⟩) rfl _).setCell (p := ⟨W1.heap.size, 4, none⟩) rfl _).setCell (p := ⟨W1.heap.size, 5, none⟩) rfl _
        have hst : Stays (fun b => W1.heap.size < b) w7 ((((((w7.setCell ⟨W1.heap.size, 0, none⟩ (.string t1.s)).setCell ⟨W1.heap.size, 1, none⟩ (.slice t1.A t1.n t1.c)).setCell ⟨W1.heap.size, 2, none⟩ (.slice A1 us1.length c1)).setCell ⟨W1.heap.size, 3, none⟩ (.slice A2 ks.length c2)).setCell ⟨W1.heap.size, 4, none⟩ (.string ⟨#[]⟩)).setCell ⟨W1.heap.size, 5, none⟩ (.slice none 0 0)) := hmc.stays fun i _ h h2 => by omega
        have hs := (HSHV.out _ (Below.refl _ W4)).1
        have hal : us1.length ≤ 1048576 := by
          have h1 := congrArg List.length p3
          rw [List.length_map, List.length_map] at h1
          have h2 : (onceA (x.atts.map AT.ch)).length ≤ (x.atts.map AT.ch).length := sel_len _ _
          rw [List.length_map, hs.an] at h2
          have := hs.am
          omega
        have hkl : ks.length ≤ 1048576 := by
          have h1 := congrArg List.length r3
          rw [chL_length, mapL_map, List.length_map] at h1
          have h2 := wtL_len (mergeP (chL x.kids))
          have h3 := wt_small (chL x.kids)
          have := HLT.out
          omega
        have hno : ∀ {B c : Nat} {e : TypeId} {sz : Nat} {A : Option Addr} {m : Nat} {xs : List Value} {V : World}, V.ownsRow B e sz (.slice A m c) m xs → A = none → c = 0 := fun h h0 => by
          obtain ⟨A', c', hv, h1, _, _⟩ := own_form h
          injection hv with h2 _ h3
          rw [h3]; exact h1 (h2 ▸ h0)
        refine ⟨?_, (Moved.of_below hb37).join hmc fun _ _ h => h, ?_, ?_, ?_⟩
        · exact ((((((z7.put 0 _).put 1 _).put 2 _).put 3 _).put 4 _).put 5 _)
        · exact (TT.inS.mk ((o1.below (below_next hb6 (Nat.le_refl _) hb7)).inS) ⟨LiesS.nil _ _ _, rfl, Nat.zero_le _, Nat.zero_le _⟩ ((own_inS (own_keep p1 hb7)).mono fun b h _ => by show W4.heap.size ≤ b; have : w5.heap.size ≤ b := h; omega) rfl (hno p1) hal (fun a ha => ((p2.below hb7 a ha).inS).mono fun b h _ => by show W4.heap.size ≤ b; have : w5.heap.size ≤ b := h; omega) ((own_inS r1).mono fun b h _ => by show W4.heap.size ≤ b; have : w6.heap.size ≤ b := h; omega) rfl (hno r1) hkl : (newEl t1 A1 c1 us1 A2 c2 ks).inS (fun b => W4.heap.size ≤ b) w7) |>.mono (S' := fun b => W1.heap.size < b) (fun b h _ => by have : W4.heap.size ≤ b := h; show W1.heap.size < b; omega) |>.keep hst
        · exact (r2.mono (S' := fun b => W1.heap.size < b) fun b h _ => by have : w6.heap.size ≤ b := h; show W1.heap.size < b; omega).keep hst
        · rw [newEl_ch, mgG_el HG0.out _ HTX.out, TT.ch_tag, TT.ch_attrs, TT.ch_kids, q1, p3, r3]
      have hS := HSB.out W4.drew (Below.drew (Below.refl _ _))
      gi_wp2_with fail
      clear a0 a1 a2 a3 a4 a5 a6
      refine region_round (by kernel_rfl) rfl (lets_then fun _ _ h => by obtain ⟨h1, _⟩ := h; cases h1) ?_
      refine wpAny_of_last (S := fun V => V.cell? ⟨w.heap.size, 0, none⟩ = some (.func (.func F) #[] #[]) ∧ V.cell? ⟨W1.heap.size, 0, none⟩ = some (.string x.tag.s) ∧ V.cell? ⟨W1.heap.size, 1, none⟩ = some (.slice x.tag.A x.tag.n x.tag.c) ∧ V.cell? ⟨W1.heap.size, 2, none⟩ = some (.slice x.A x.n x.c) ∧ V.cell? ⟨W1.heap.size, 3, none⟩ = some (.slice x.K x.kn x.kc) ∧ V.cell? ⟨W1.heap.size, 4, none⟩ = some (.string x.text.s) ∧ V.cell? ⟨W1.heap.size, 5, none⟩ = some (.slice x.text.A x.text.n x.text.c)) (Z := fun i => decide (13 ≤ i)) _ _ _ _ ?_
      refine' wpAnyL_take (i := 0) ?hi1 (by kernel_rfl) (by kernel_rfl) (by kernel_rfl) (by kernel_rfl) ?hQ1 ?hy1 hS ?rest1
      case hi1 => simp only [List.getElem?_toArray, List.getElem?_cons_zero]; rfl
      case hQ1 => exact fun _ _ _ h => h
      case hy1 =>
        refine Or.inl ⟨by rfl, ?_⟩
        intro wq hq
        try dsimp only at hq
        try obtain ⟨hq0, hq1, hq2, hq3, hq4, hq5, hq6⟩ := hq
        go_simp
        try with_reducible rfl
      try simp only [Act.put, List.setIfInBounds_toArray, List.set_cons_zero, List.set_cons_succ]
      refine' wpAnyL_take (i := 1) ?hi2 (by kernel_rfl) (by kernel_rfl) (by kernel_rfl) (by kernel_rfl) ?hQ2 ?hy2 hS ?rest2
      case hi2 => simp only [List.getElem?_toArray, List.getElem?_cons_succ, List.getElem?_cons_zero]; rfl
      case hQ2 => exact fun _ _ _ h => h
      case hy2 =>
        refine Or.inl ⟨by rfl, ?_⟩
        intro wq hq
        try dsimp only at hq
        try obtain ⟨hq0, hq1, hq2, hq3, hq4, hq5, hq6⟩ := hq
        go_simp
        try with_reducible rfl
      try simp only [Act.put, List.setIfInBounds_toArray, List.set_cons_zero, List.set_cons_succ]
      refine' wpAnyL_take (i := 2) ?hi3 (by kernel_rfl) (by kernel_rfl) (by kernel_rfl) (by kernel_rfl) ?hQ3 ?hy3 hS ?rest3
      case hi3 => simp only [List.getElem?_toArray, List.getElem?_cons_succ, List.getElem?_cons_zero]; rfl
      case hQ3 => exact fun _ _ _ h => h
      case hy3 =>
        refine Or.inl ⟨by rfl, ?_⟩
        intro wq hq
        try dsimp only at hq
        try obtain ⟨hq0, hq1, hq2, hq3, hq4, hq5, hq6⟩ := hq
        go_simp
        try with_reducible rfl
      try simp only [Act.put, List.setIfInBounds_toArray, List.set_cons_zero, List.set_cons_succ]
      refine' wpAnyL_take (i := 4) ?hi4 (by kernel_rfl) (by kernel_rfl) (by kernel_rfl) (by kernel_rfl) ?hQ4 ?hy4 hS ?rest4
      case hi4 => simp only [List.getElem?_toArray, List.getElem?_cons_succ, List.getElem?_cons_zero]; rfl
      case hQ4 => exact fun _ _ _ h => h
      case hy4 =>
        refine Or.inl ⟨by rfl, ?_⟩
        intro wq hq
        try dsimp only at hq
        try obtain ⟨hq0, hq1, hq2, hq3, hq4, hq5, hq6⟩ := hq
        go_simp
        try with_reducible rfl
      try simp only [Act.put, List.setIfInBounds_toArray, List.set_cons_zero, List.set_cons_succ]
      refine' wpAnyL_take (i := 5) ?hi5 (by kernel_rfl) (by kernel_rfl) (by kernel_rfl) (by kernel_rfl) ?hQ5 ?hy5 hS ?rest5
      case hi5 => simp only [List.getElem?_toArray, List.getElem?_cons_succ, List.getElem?_cons_zero]; rfl
      case hQ5 => exact fun _ _ _ h => h
      case hy5 =>
        refine Or.inl ⟨by rfl, ?_⟩
        intro wq hq
        try dsimp only at hq
        try obtain ⟨hq0, hq1, hq2, hq3, hq4, hq5, hq6⟩ := hq
        go_simp
        try with_reducible rfl
      try simp only [Act.put, List.setIfInBounds_toArray, List.set_cons_zero, List.set_cons_succ]
      refine' wpAnyL_take (i := 6) ?hi6 (by kernel_rfl) (by kernel_rfl) (by kernel_rfl) (by kernel_rfl) ?hQ6 ?hy6 hS ?rest6
      case hi6 => simp only [List.getElem?_toArray, List.getElem?_cons_succ, List.getElem?_cons_zero]; rfl
      case hQ6 => exact fun _ _ _ h => h
      case hy6 =>
        refine Or.inl ⟨by rfl, ?_⟩
        intro wq hq
        try dsimp only at hq
        try obtain ⟨hq0, hq1, hq2, hq3, hq4, hq5, hq6⟩ := hq
        go_simp
        try with_reducible rfl
      try simp only [Act.put, List.setIfInBounds_toArray, List.set_cons_zero, List.set_cons_succ]
      refine' wpAnyL_take (i := 8) ?hi7 (by kernel_rfl) (by kernel_rfl) (by kernel_rfl) (by kernel_rfl) ?hQ7 ?hy7 hS ?rest7
      case hi7 => simp only [List.getElem?_toArray, List.getElem?_cons_succ, List.getElem?_cons_zero]; rfl
      case hQ7 => exact fun _ _ _ h => h
      case hy7 =>
        refine Or.inl ⟨by rfl, ?_⟩
        intro wq hq
        try dsimp only at hq
        try obtain ⟨hq0, hq1, hq2, hq3, hq4, hq5, hq6⟩ := hq
        go_simp
        try with_reducible rfl
      try simp only [Act.put, List.setIfInBounds_toArray, List.set_cons_zero, List.set_cons_succ]
      refine' wpAnyL_take (i := 9) ?hi8 (by kernel_rfl) (by kernel_rfl) (by kernel_rfl) (by kernel_rfl) ?hQ8 ?hy8 hS ?rest8
      case hi8 => simp only [List.getElem?_toArray, List.getElem?_cons_succ, List.getElem?_cons_zero]; rfl
      case hQ8 => exact fun _ _ _ h => h
      case hy8 =>
        refine Or.inl ⟨by rfl, ?_⟩
        intro wq hq
        try dsimp only at hq
        try obtain ⟨hq0, hq1, hq2, hq3, hq4, hq5, hq6⟩ := hq
        go_simp
        try with_reducible rfl
      try simp only [Act.put, List.setIfInBounds_toArray, List.set_cons_zero, List.set_cons_succ]
      refine' wpAnyL_take (i := 10) ?hi9 (by kernel_rfl) (by kernel_rfl) (by kernel_rfl) (by kernel_rfl) ?hQ9 ?hy9 hS ?rest9
      case hi9 => simp only [List.getElem?_toArray, List.getElem?_cons_succ, List.getElem?_cons_zero]; rfl
      case hQ9 => exact fun _ _ _ h => h
      case hy9 =>
        refine Or.inl ⟨by rfl, ?_⟩
        intro wq hq
        try dsimp only at hq
        try obtain ⟨hq0, hq1, hq2, hq3, hq4, hq5, hq6⟩ := hq
        go_simp
        try with_reducible rfl
      try simp only [Act.put, List.setIfInBounds_toArray, List.set_cons_zero, List.set_cons_succ]
      refine wpAnyL_ready (rs := [3]) (by kernel_rfl) (by simp) ?_
      refine' ReadyL.cons ?ho10 (fun K hK => ?step10) ?more10
      case ho10 => simp only [List.getElem?_toArray, List.getElem?_cons_succ, List.getElem?_cons_zero]; rfl
      case step10 =>
        refine step_call_val _ rfl _ _ _ rfl F rfl HF.out.enters (.agg #[.string x.tag.s, .slice x.tag.A x.tag.n x.tag.c]) rfl (HCT.out _ (Below.drew (Below.refl _ _))) ?_
        rintro e w5 ⟨t1, rfl, h1, hb5⟩
        refine ⟨_, rfl, ?_⟩
        have hbA : Below W4.heap.size W4 w5 := (Below.drew (Below.refl _ W4)).trans hb5
        refine hK.out _ _ (.inr (HSB.out _ hbA)) ?_
        clear hK K hS
        have hS := HSB.out _ hbA
        try simp only [Act.put, List.setIfInBounds_toArray, List.set_cons_zero, List.set_cons_succ]
        refine wpAnyL_ready (rs := [7]) (by kernel_rfl) (by simp) ?_
        refine' ReadyL.cons ?ho11 (fun K hK => ?step11) ?more11
        case ho11 => simp only [List.getElem?_toArray, List.getElem?_cons_succ, List.getElem?_cons_zero]; rfl
        case step11 =>
          go_simp
          refine (HCA.out _ hbA).mono ?_
          rintro e w6 ⟨A1, c1, us1, rfl, p1, p2, p3, hb6⟩
          have hbB : Below W4.heap.size W4 w6 := below_next hbA (Nat.le_refl _) hb6
          refine hK.out _ _ (.inr (HSB.out _ hbB)) ?_
          clear hK K hS
          have hS := HSB.out _ hbB
          try simp only [Act.put, List.setIfInBounds_toArray, List.set_cons_zero, List.set_cons_succ]
          refine wpAnyL_ready (rs := [11]) (by kernel_rfl) (by simp) ?_
          refine' ReadyL.cons ?ho12 (fun K hK => ?step12) ?more12
          case ho12 => simp only [List.getElem?_toArray, List.getElem?_cons_succ, List.getElem?_cons_zero]; rfl
          case step12 =>
            go_simp
            refine (HCK.out _ hbB).mono ?_
            rintro e w7 ⟨A2, c2, ks, rfl, r1, r2, r3, hb7⟩
            have hbC : Below W4.heap.size W4 w7 := below_next hbB (Nat.le_refl _) hb7
            refine hK.out _ _ (.inr (HSB.out _ hbC)) ?_
            clear hK K hS
            have hS := HSB.out _ hbC
            try simp only [Act.put, List.setIfInBounds_toArray, List.set_cons_zero, List.set_cons_succ]
            refine wpAnyL_ready (rs := [12]) (by kernel_rfl) (by simp) ?_
            refine' ReadyL.cons ?ho13 (fun K hK => ?step13) ?more13
            case ho13 => simp only [List.getElem?_toArray, List.getElem?_cons_succ, List.getElem?_cons_zero]; rfl
            case step13 =>
              go_simp
              refine hK.out _ _ (.inr hS) ?_
              clear hK K
              try simp only [Act.put, List.setIfInBounds_toArray, List.set_cons_zero, List.set_cons_succ]
              refine wpAnyL_ready (rs := [13]) (by kernel_rfl) (by simp) ?_
              refine' ReadyL.cons ?ho14 (fun K hK => ?step14) ?more14
              case ho14 => simp only [List.getElem?_toArray, List.getElem?_cons_succ, List.getElem?_cons_zero]; rfl
              case step14 =>
                obtain ⟨hs0, hs1, hs2, hs3, hs4, hs5, hs6⟩ := hS
                obtain ⟨g0, g1, g2, g3, g4, g5⟩ := HFR.out _ hbC
                go_simp
                refine hK.out _ _ (.inl (by decide)) ?_
                clear hK K hs0 hs1 hs2 hs3 hs4 hs5 hs6 g0 g1 g2 g3 g4 g5
                try simp only [Act.put, List.setIfInBounds_toArray, List.set_cons_zero, List.set_cons_succ]
                refine wpAnyL_done (by kernel_rfl) ?_ _
                have HT6 := Lib.hid (HEL.out t1 w5 A1 c1 us1 w6 A2 c2 ks w7 hbA hb6 hb7 h1.out.1 h1.out.2 p1 p2 p3 r1 r2 r3)
                clear hbA hbB hbC hb5 hb6 hb7 h1 p1 p2 p3 r1 r2 r3
                generalize hW6 : ((((((w7.setCell ⟨W1.heap.size, 0, none⟩ (.string t1.s)).setCell ⟨W1.heap.size, 1, none⟩ (.slice t1.A t1.n t1.c)).setCell ⟨W1.heap.size, 2, none⟩ (.slice A1 us1.length c1)).setCell ⟨W1.heap.size, 3, none⟩ (.slice A2 ks.length c2)).setCell ⟨W1.heap.size, 4, none⟩ (.string ⟨#[]⟩)).setCell ⟨W1.heap.size, 5, none⟩ (.slice none 0 0)) = W6 at HT6 ⊢
                clear hW6
                obtain ⟨T, HT7⟩ : ∃ T, Hid (MadeT g W1 W3 x T W6) := ⟨_, HT6⟩
                have hz36 := HT7.out.2.1.size
                have HOWN6 : Hid ((W6.drew.alloc (.cells #[.string ⟨#[]⟩, .slice none 0 0, .slice none 0 0, .slice none 0 0, .string ⟨#[]⟩, .slice none 0 0] 45)).ownsRow w4.heap.size 45 6 (.slice A5 z c5) z (treeCells us)) := (HT7.out.2.1.own HOWN3.out (fun i hi h => by have := (HKL.out i (HG.out i hi)).2; omega)).alloc _
                have HSB7 : Hid (∀ V, Below W6.heap.size W6 V → V.cell? ⟨w.heap.size + 1, 0, none⟩ = some (.slice A5 z c5) ∧ V.cell? ⟨W1.heap.size, 0, none⟩ = some (.string T.tag.s) ∧ V.cell? ⟨W1.heap.size, 1, none⟩ = some (.slice T.tag.A T.tag.n T.tag.c) ∧ V.cell? ⟨W1.heap.size, 2, none⟩ = some (.slice T.A T.n T.c) ∧ V.cell? ⟨W1.heap.size, 3, none⟩ = some (.slice T.K T.kn T.kc) ∧ V.cell? ⟨W1.heap.size, 4, none⟩ = some (.string T.text.s) ∧ V.cell? ⟨W1.heap.size, 5, none⟩ = some (.slice T.text.A T.text.n T.text.c)) := fun V h => by
                  have y := (HT7.out.2.1.whole HV3.out (fun h => by omega)).below h (by have := HV3.out.lt; omega)
                  have zt := HT7.out.1.below h HT7.out.1.lt
                  exact ⟨y.at_ 0, zt.at_ 0, zt.at_ 1, zt.at_ 2, zt.at_ 3, zt.at_ 4, zt.at_ 5⟩
                have HS7 : Hid (∀ V, (W6.drew.alloc (.cells #[.string ⟨#[]⟩, .slice none 0 0, .slice none 0 0, .slice none 0 0, .string ⟨#[]⟩, .slice none 0 0] 45)).grownBy V (Value.slice A5 z c5).ownBlock → V.cell? ⟨w.heap.size + 1, 0, none⟩ = some (.slice A5 z c5) ∧ V.cell? ⟨W1.heap.size, 0, none⟩ = some (.string T.tag.s) ∧ V.cell? ⟨W1.heap.size, 1, none⟩ = some (.slice T.tag.A T.tag.n T.tag.c) ∧ V.cell? ⟨W1.heap.size, 2, none⟩ = some (.slice T.A T.n T.c) ∧ V.cell? ⟨W1.heap.size, 3, none⟩ = some (.slice T.K T.kn T.kc) ∧ V.cell? ⟨W1.heap.size, 4, none⟩ = some (.string T.text.s) ∧ V.cell? ⟨W1.heap.size, 5, none⟩ = some (.slice T.text.A T.text.n T.text.c)) := fun V h => by
                  have y := ((HT7.out.2.1.whole HV3.out (fun h => by omega)).drew.alloc _).grown h (fun h => by have := (HOWN3.out.lt _ h.symm).1; omega)
                  have zt := (HT7.out.1.drew.alloc _).grown h (fun h => by have := (HKL.out _ (HG.out _ h.symm)).2; omega)
                  exact ⟨y.at_ 0, zt.at_ 0, zt.at_ 1, zt.at_ 2, zt.at_ 3, zt.at_ 4, zt.at_ 5⟩
                have HG7' : Hid (∀ (g7 : Nat) (w7 : World) (d7 : Nat) (o : Obj), w7.ownsRow w4.heap.size 45 6 (.slice (some ⟨g7, 0, none⟩) (z + 1) d7) (z + 1) (treeCells us ++ treeRow zeroTT) → (W6.drew.alloc o).grownBy w7 (Value.slice A5 z c5).ownBlock → ((Value.slice (some ⟨g7, 0, none⟩) (z + 1) d7).ownBlock = (Value.slice A5 z c5).ownBlock ∨ (Value.slice (some ⟨g7, 0, none⟩) (z + 1) d7).ownBlock = some (W6.drew.alloc o).heap.size) → ((w7.cell? ⟨g7, z * 6, none⟩ = some (.string zeroTT.tag.s) ∧ w7.cell? ⟨g7, z * 6 + 1, none⟩ = some (.slice zeroTT.tag.A zeroTT.tag.n zeroTT.tag.c) ∧ w7.cell? ⟨g7, z * 6 + 2, none⟩ = some (.slice zeroTT.A zeroTT.n zeroTT.c) ∧ w7.cell? ⟨g7, z * 6 + 3, none⟩ = some (.slice zeroTT.K zeroTT.kn zeroTT.kc) ∧ w7.cell? ⟨g7, z * 6 + 4, none⟩ = some (.string zeroTT.text.s) ∧ w7.cell? ⟨g7, z * 6 + 5, none⟩ = some (.slice zeroTT.text.A zeroTT.text.n zeroTT.text.c) ∧ w7.frozen? ⟨g7, z * 6, none⟩ = false ∧ w7.frozen? ⟨g7, z * 6 + 1, none⟩ = false ∧ w7.frozen? ⟨g7, z * 6 + 2, none⟩ = false ∧ w7.frozen? ⟨g7, z * 6 + 3, none⟩ = false ∧ w7.frozen? ⟨g7, z * 6 + 4, none⟩ = false ∧ w7.frozen? ⟨g7, z * 6 + 5, none⟩ = false) ∧ (w7.cell? ⟨w.heap.size + 1, 0, none⟩ = some (.slice A5 z c5) ∧ w7.frozen? ⟨w.heap.size + 1, 0, none⟩ = false) ∧ (((((((w7.setCell ⟨g7, z * 6, none⟩ (.string T.tag.s)).setCell ⟨g7, z * 6 + 1, none⟩ (.slice T.tag.A T.tag.n T.tag.c)).setCell ⟨g7, z * 6 + 2, none⟩ (.slice T.A T.n T.c)).setCell ⟨g7, z * 6 + 3, none⟩ (.slice T.K T.kn T.kc)).setCell ⟨g7, z * 6 + 4, none⟩ (.string T.text.s)).setCell ⟨g7, z * 6 + 5, none⟩ (.slice T.text.A T.text.n T.text.c)).cell? ⟨w.heap.size + 1, 0, none⟩ = some (.slice A5 z c5) ∧ ((((((w7.setCell ⟨g7, z * 6, none⟩ (.string T.tag.s)).setCell ⟨g7, z * 6 + 1, none⟩ (.slice T.tag.A T.tag.n T.tag.c)).setCell ⟨g7, z * 6 + 2, none⟩ (.slice T.A T.n T.c)).setCell ⟨g7, z * 6 + 3, none⟩ (.slice T.K T.kn T.kc)).setCell ⟨g7, z * 6 + 4, none⟩ (.string T.text.s)).setCell ⟨g7, z * 6 + 5, none⟩ (.slice T.text.A T.text.n T.text.c)).frozen? ⟨w.heap.size + 1, 0, none⟩ = false)) ∧ (∀ u, (w7.setCell ⟨w.heap.size + 1, 0, none⟩ u).cell? ⟨g7, z * 6, none⟩ = some (.string zeroTT.tag.s) ∧ (w7.setCell ⟨w.heap.size + 1, 0, none⟩ u).cell? ⟨g7, z * 6 + 1, none⟩ = some (.slice zeroTT.tag.A zeroTT.tag.n zeroTT.tag.c) ∧ (w7.setCell ⟨w.heap.size + 1, 0, none⟩ u).cell? ⟨g7, z * 6 + 2, none⟩ = some (.slice zeroTT.A zeroTT.n zeroTT.c) ∧ (w7.setCell ⟨w.heap.size + 1, 0, none⟩ u).cell? ⟨g7, z * 6 + 3, none⟩ = some (.slice zeroTT.K zeroTT.kn zeroTT.kc) ∧ (w7.setCell ⟨w.heap.size + 1, 0, none⟩ u).cell? ⟨g7, z * 6 + 4, none⟩ = some (.string zeroTT.text.s) ∧ (w7.setCell ⟨w.heap.size + 1, 0, none⟩ u).cell? ⟨g7, z * 6 + 5, none⟩ = some (.slice zeroTT.text.A zeroTT.text.n zeroTT.text.c) ∧ (w7.setCell ⟨w.heap.size + 1, 0, none⟩ u).frozen? ⟨g7, z * 6, none⟩ = false ∧ (w7.setCell ⟨w.heap.size + 1, 0, none⟩ u).frozen? ⟨g7, z * 6 + 1, none⟩ = false ∧ (w7.setCell ⟨w.heap.size + 1, 0, none⟩ u).frozen? ⟨g7, z * 6 + 2, none⟩ = false ∧ (w7.setCell ⟨w.heap.size + 1, 0, none⟩ u).frozen? ⟨g7, z * 6 + 3, none⟩ = false ∧ (w7.setCell ⟨w.heap.size + 1, 0, none⟩ u).frozen? ⟨g7, z * 6 + 4, none⟩ = false ∧ (w7.setCell ⟨w.heap.size + 1, 0, none⟩ u).frozen? ⟨g7, z * 6 + 5, none⟩ = false) ∧ (∃ K', MergI g (w.heap.size + 1) w4 (pre ++ [x]) K' (((((((w7.setCell ⟨g7, z * 6, none⟩ (.string T.tag.s)).setCell ⟨g7, z * 6 + 1, none⟩ (.slice T.tag.A T.tag.n T.tag.c)).setCell ⟨g7, z * 6 + 2, none⟩ (.slice T.A T.n T.c)).setCell ⟨g7, z * 6 + 3, none⟩ (.slice T.K T.kn T.kc)).setCell ⟨g7, z * 6 + 4, none⟩ (.string T.text.s)).setCell ⟨g7, z * 6 + 5, none⟩ (.slice T.text.A T.text.n T.text.c)).setCell ⟨w.heap.size + 1, 0, none⟩ (.slice (some ⟨g7, 0, none⟩) (z + 1) d7)) ∧ (∀ b, K' b → K b ∨ G b ∨ (W1.heap.size ≤ b ∧ b < (((((((w7.setCell ⟨g7, z * 6, none⟩ (.string T.tag.s)).setCell ⟨g7, z * 6 + 1, none⟩ (.slice T.tag.A T.tag.n T.tag.c)).setCell ⟨g7, z * 6 + 2, none⟩ (.slice T.A T.n T.c)).setCell ⟨g7, z * 6 + 3, none⟩ (.slice T.K T.kn T.kc)).setCell ⟨g7, z * 6 + 4, none⟩ (.string T.text.s)).setCell ⟨g7, z * 6 + 5, none⟩ (.slice T.text.A T.text.n T.text.c)).setCell ⟨w.heap.size + 1, 0, none⟩ (.slice (some ⟨g7, 0, none⟩) (z + 1) d7)).heap.size)) ∧ Moved (fun b => K b ∨ G b ∨ W1.heap.size ≤ b) W3 (((((((w7.setCell ⟨g7, z * 6, none⟩ (.string T.tag.s)).setCell ⟨g7, z * 6 + 1, none⟩ (.slice T.tag.A T.tag.n T.tag.c)).setCell ⟨g7, z * 6 + 2, none⟩ (.slice T.A T.n T.c)).setCell ⟨g7, z * 6 + 3, none⟩ (.slice T.K T.kn T.kc)).setCell ⟨g7, z * 6 + 4, none⟩ (.string T.text.s)).setCell ⟨g7, z * 6 + 5, none⟩ (.slice T.text.A T.text.n T.text.c)).setCell ⟨w.heap.size + 1, 0, none⟩ (.slice (some ⟨g7, 0, none⟩) (z + 1) d7))) ∧ (∃ K', MergI g (w.heap.size + 1) w4 (pre ++ [x]) K' (((((((w7.setCell ⟨w.heap.size + 1, 0, none⟩ (.slice (some ⟨g7, 0, none⟩) (z + 1) d7)).setCell ⟨g7, z * 6, none⟩ (.string T.tag.s)).setCell ⟨g7, z * 6 + 1, none⟩ (.slice T.tag.A T.tag.n T.tag.c)).setCell ⟨g7, z * 6 + 2, none⟩ (.slice T.A T.n T.c)).setCell ⟨g7, z * 6 + 3, none⟩ (.slice T.K T.kn T.kc)).setCell ⟨g7, z * 6 + 4, none⟩ (.string T.text.s)).setCell ⟨g7, z * 6 + 5, none⟩ (.slice T.text.A T.text.n T.text.c)) ∧ (∀ b, K' b → K b ∨ G b ∨ (W1.heap.size ≤ b ∧ b < (((((((w7.setCell ⟨w.heap.size + 1, 0, none⟩ (.slice (some ⟨g7, 0, none⟩) (z + 1) d7)).setCell ⟨g7, z * 6, none⟩ (.string T.tag.s)).setCell ⟨g7, z * 6 + 1, none⟩ (.slice T.tag.A T.tag.n T.tag.c)).setCell ⟨g7, z * 6 + 2, none⟩ (.slice T.A T.n T.c)).setCell ⟨g7, z * 6 + 3, none⟩ (.slice T.K T.kn T.kc)).setCell ⟨g7, z * 6 + 4, none⟩ (.string T.text.s)).setCell ⟨g7, z * 6 + 5, none⟩ (.slice T.text.A T.text.n T.text.c)).heap.size)) ∧ Moved (fun b => K b ∨ G b ∨ W1.heap.size ≤ b) W3 (((((((w7.setCell ⟨w.heap.size + 1, 0, none⟩ (.slice (some ⟨g7, 0, none⟩) (z + 1) d7)).setCell ⟨g7, z * 6, none⟩ (.string T.tag.s)).setCell ⟨g7, z * 6 + 1, none⟩ (.slice T.tag.A T.tag.n T.tag.c)).setCell ⟨g7, z * 6 + 2, none⟩ (.slice T.A T.n T.c)).setCell ⟨g7, z * 6 + 3, none⟩ (.slice T.K T.kn T.kc)).setCell ⟨g7, z * 6 + 4, none⟩ (.string T.text.s)).setCell ⟨g7, z * 6 + 5, none⟩ (.slice T.text.A T.text.n T.text.c)))) := fun g7 w7 d7 o q1 q2 q3 => HG7.out T W6.drew w7 d7 g7 o (made_drew HT7.out) q1 q2 q3
                have hS := HSB7.out W6.drew (Below.drew (Below.refl _ _))
                clear HT6
                gi_wp2_with fail
                refine region_round (by kernel_rfl) rfl (lets_inBlock fun _ _ h => by obtain ⟨h1, _⟩ := h; cases h1) ?_
                refine wpAny_of_last (S := fun V => V.cell? ⟨w.heap.size + 1, 0, none⟩ = some (.slice A5 z c5) ∧ V.cell? ⟨W1.heap.size, 0, none⟩ = some (.string T.tag.s) ∧ V.cell? ⟨W1.heap.size, 1, none⟩ = some (.slice T.tag.A T.tag.n T.tag.c) ∧ V.cell? ⟨W1.heap.size, 2, none⟩ = some (.slice T.A T.n T.c) ∧ V.cell? ⟨W1.heap.size, 3, none⟩ = some (.slice T.K T.kn T.kc) ∧ V.cell? ⟨W1.heap.size, 4, none⟩ = some (.string T.text.s) ∧ V.cell? ⟨W1.heap.size, 5, none⟩ = some (.slice T.text.A T.text.n T.text.c)) (Z := fun i => decide (5 ≤ i)) _ _ _ _ ?_
                refine' wpAnyL_take (i := 0) ?hi15 (by kernel_rfl) (by kernel_rfl) (by kernel_rfl) (by kernel_rfl) ?hQ15 ?hy15 hS ?rest15
                case hi15 => simp only [List.getElem?_toArray, List.getElem?_cons_zero]; rfl
                case hQ15 => exact fun _ _ _ h => h
                case hy15 =>
                  refine Or.inl ⟨by rfl, ?_⟩
                  intro wq hq
                  try dsimp only at hq
                  try obtain ⟨hq0, hq1, hq2, hq3, hq4, hq5, hq6⟩ := hq
                  go_simp
                  try with_reducible rfl
                try simp only [Act.put, List.setIfInBounds_toArray, List.set_cons_zero, List.set_cons_succ]
                refine' wpAnyL_take (i := 1) ?hi16 (by kernel_rfl) (by kernel_rfl) (by kernel_rfl) (by kernel_rfl) ?hQ16 ?hy16 hS ?rest16
                case hi16 => simp only [List.getElem?_toArray, List.getElem?_cons_succ, List.getElem?_cons_zero]; rfl
                case hQ16 => exact fun _ _ _ h => h
                case hy16 =>
                  refine Or.inl ⟨by rfl, ?_⟩
                  intro wq hq
                  try dsimp only at hq
                  try obtain ⟨hq0, hq1, hq2, hq3, hq4, hq5, hq6⟩ := hq
                  go_simp
                  try with_reducible rfl
                try simp only [Act.put, List.setIfInBounds_toArray, List.set_cons_zero, List.set_cons_succ]
                refine' wpAnyL_take (i := 2) ?hi17 (by kernel_rfl) (by kernel_rfl) (by kernel_rfl) (by kernel_rfl) ?hQ17 ?hy17 hS ?rest17
                case hi17 => simp only [List.getElem?_toArray, List.getElem?_cons_succ, List.getElem?_cons_zero]; rfl
                case hQ17 => exact fun _ _ _ h => h
                case hy17 =>
                  refine Or.inl ⟨by rfl, ?_⟩
                  intro wq hq
                  try dsimp only at hq
                  try obtain ⟨hq0, hq1, hq2, hq3, hq4, hq5, hq6⟩ := hq
                  go_simp
                  try with_reducible rfl
                try simp only [Act.put, List.setIfInBounds_toArray, List.set_cons_zero, List.set_cons_succ]
                refine wpAnyL_ready (rs := [3]) (by kernel_rfl) (by simp) ?_
                refine' ReadyL.cons ?ho18 (fun K hK => ?step18) ?more18
                case ho18 => simp only [List.getElem?_toArray, List.getElem?_cons_succ, List.getElem?_cons_zero]; rfl
                case step18 =>
                  go_simp
                  refine hK.out _ _ (.inr (HSB7.out _ ((Below.drew (Below.refl W6.heap.size W6)).alloc (Nat.le_refl _) _))) ?_
                  clear hK K hS
                  try simp only [Act.put, List.setIfInBounds_toArray, List.set_cons_zero, List.set_cons_succ]
                  refine wpAnyL_ready (rs := [4]) (by kernel_rfl) (by simp) ?_
                  refine' ReadyL.cons ?ho19 (fun K hK => ?step19) ?more19
                  case ho19 => simp only [List.getElem?_toArray, List.getElem?_cons_succ, List.getElem?_cons_zero]; rfl
                  case step19 =>
                    refine step_append_src _ rfl _ _ 22 rfl w4.heap.size 45 i0 _ 6 128 Try.underlying22 hi hiz0 hiz1 hiz2 rfl (by decide) (.slice A5 z c5) z (treeCells us) rfl HOWN6.out (W6.heap.size + 1) (some ⟨W6.heap.size, 0, none⟩) 1 1 (treeRow zeroTT) rfl (by simp) rfl (lies_new W6.drew _ _) (treeRow_one _) (by simp only [maxLen]; omega) (by omega) (by simp; omega) ?_
                    intro v' w7 hown7 hgr hv'
                    obtain ⟨A7, d7, rfl, _, _, _⟩ := own_form hown7
                    obtain ⟨g7, rfl⟩ : ∃ g7, A7 = some ⟨g7, 0, none⟩ := own_some hown7 (Nat.succ_pos _)
                    have HGO := Lib.hid (HG7'.out g7 w7 d7 _ hown7 hgr hv')
                    have HGA := Lib.hid HGO.out.1.1
                    have HGB := Lib.hid HGO.out.1.2.1
                    have HGC := Lib.hid HGO.out.1.2.2
                    have HGD := Lib.hid HGO.out.2.1
                    have HGE := Lib.hid HGO.out.2.2.1
                    have HGF := Lib.hid HGO.out.2.2.2
                    clear HGO HG7'
                    have hS7 := HS7.out _ hgr
                    refine hK.out _ _ (.inr hS7) ?_
                    clear hK K
                    try simp only [Act.put, List.setIfInBounds_toArray, List.set_cons_zero, List.set_cons_succ]
                    have hk0 : (0 : Int) ≤ (z : Int) := Int.natCast_nonneg _
                    have hk1 : (z : Int) < ((z + 1 : Nat) : Int) := by omega
                    have hk2 : (z : Int) < (z : Int) + 1 := by omega
                    refine wpAnyL_ready (rs := [5, 7]) (by kernel_rfl) (by simp) ?_
                    refine' ReadyL.cons ?ho20 (fun K hK => ?step20) ?more20
                    case ho20 => simp only [List.getElem?_toArray, List.getElem?_cons_succ, List.getElem?_cons_zero]; rfl
                    case step20 =>
                      go_simp
                      refine hK.out _ _ (.inl (by decide)) ?_
                      clear hK K
                      try simp only [Act.put, List.setIfInBounds_toArray, List.set_cons_zero, List.set_cons_succ]
                      refine wpAnyL_ready (rs := [6, 7]) (by kernel_rfl) (by simp) ?_
                      refine' ReadyL.cons ?ho21 (fun K hK => ?step21) ?more21
                      case ho21 => simp only [List.getElem?_toArray, List.getElem?_cons_succ, List.getElem?_cons_zero]; rfl
                      case step21 =>
                        obtain ⟨k0, k1, k2, k3, k4, k5, f0, f1, f2, f3, f4, f5⟩ := HGA.out
                        go_simp
                        refine hK.out _ _ (.inl (by decide)) ?_
                        clear k0 k1 k2 k3 k4 k5 f0 f1 f2 f3 f4 f5
                        clear hK K
                        try simp only [Act.put, List.setIfInBounds_toArray, List.set_cons_zero, List.set_cons_succ]
                        refine wpAnyL_ready (rs := [7]) (by kernel_rfl) (by simp) ?_
                        refine' ReadyL.cons ?ho22 (fun K hK => ?step22) ?more22
                        case ho22 => simp only [List.getElem?_toArray, List.getElem?_cons_succ, List.getElem?_cons_zero]; rfl
                        case step22 =>
                          have k6 := HGC.out.1
                          have f6 := HGC.out.2
                          go_simp
                          refine hK.out _ _ (.inl (by decide)) ?_
                          clear k6 f6
                          clear hK K
                          try simp only [Act.put, List.setIfInBounds_toArray, List.set_cons_zero, List.set_cons_succ]
                          refine wpAnyL_done (by kernel_rfl) ?_ _
                          refine ⟨rfl, ?_⟩
                          obtain ⟨K9, q1, q2, q3⟩ := HGE.out
                          exact ⟨K9, q1, fun b h => (q2 b h).imp id fun h => h.imp id fun h => ⟨h.1, by simpa [World.setCell] using h.2⟩, q3⟩
                        exact ReadyL.nil
                      refine' ReadyL.cons ?ho23 (fun K hK => ?step23) ?more23
                      case ho23 => simp only [List.getElem?_toArray, List.getElem?_cons_succ, List.getElem?_cons_zero]; rfl
                      case step23 =>
                        have k6 := HGB.out.1
                        have f6 := HGB.out.2
                        go_simp
                        refine hK.out _ _ (.inl (by decide)) ?_
                        clear k6 f6
                        clear hK K
                        try simp only [Act.put, List.setIfInBounds_toArray, List.set_cons_zero, List.set_cons_succ]
                        refine wpAnyL_ready (rs := [6]) (by kernel_rfl) (by simp) ?_
                        refine' ReadyL.cons ?ho24 (fun K hK => ?step24) ?more24
                        case ho24 => simp only [List.getElem?_toArray, List.getElem?_cons_succ, List.getElem?_cons_zero]; rfl
                        case step24 =>
                          obtain ⟨k0, k1, k2, k3, k4, k5, f0, f1, f2, f3, f4, f5⟩ := HGD.out (.slice (some ⟨g7, 0, none⟩) (z + 1) d7)
                          go_simp
                          refine hK.out _ _ (.inl (by decide)) ?_
                          clear k0 k1 k2 k3 k4 k5 f0 f1 f2 f3 f4 f5
                          clear hK K
                          try simp only [Act.put, List.setIfInBounds_toArray, List.set_cons_zero, List.set_cons_succ]
                          refine wpAnyL_done (by kernel_rfl) ?_ _
                          refine ⟨rfl, ?_⟩
                          obtain ⟨K9, q1, q2, q3⟩ := HGF.out
                          exact ⟨K9, q1, fun b h => (q2 b h).imp id fun h => h.imp id fun h => ⟨h.1, by simpa [World.setCell] using h.2⟩, q3⟩
                        exact ReadyL.nil
                      exact ReadyL.nil
                    refine' ReadyL.cons ?ho25 (fun K hK => ?step25) ?more25
                    case ho25 => simp only [List.getElem?_toArray, List.getElem?_cons_succ, List.getElem?_cons_zero]; rfl
                    case step25 =>
                      have k6 := HGB.out.1
                      have f6 := HGB.out.2
                      go_simp
                      refine hK.out _ _ (.inl (by decide)) ?_
                      clear k6 f6
                      clear hK K
                      try simp only [Act.put, List.setIfInBounds_toArray, List.set_cons_zero, List.set_cons_succ]
                      refine wpAnyL_ready (rs := [5]) (by kernel_rfl) (by simp) ?_
                      refine' ReadyL.cons ?ho26 (fun K hK => ?step26) ?more26
                      case ho26 => simp only [List.getElem?_toArray, List.getElem?_cons_succ, List.getElem?_cons_zero]; rfl
                      case step26 =>
                        go_simp
                        refine hK.out _ _ (.inl (by decide)) ?_
                        clear hK K
                        try simp only [Act.put, List.setIfInBounds_toArray, List.set_cons_zero, List.set_cons_succ]
                        refine wpAnyL_ready (rs := [6]) (by kernel_rfl) (by simp) ?_
                        refine' ReadyL.cons ?ho27 (fun K hK => ?step27) ?more27
                        case ho27 => simp only [List.getElem?_toArray, List.getElem?_cons_succ, List.getElem?_cons_zero]; rfl
                        case step27 =>
                          obtain ⟨k0, k1, k2, k3, k4, k5, f0, f1, f2, f3, f4, f5⟩ := HGD.out (.slice (some ⟨g7, 0, none⟩) (z + 1) d7)
                          go_simp
                          refine hK.out _ _ (.inl (by decide)) ?_
                          clear k0 k1 k2 k3 k4 k5 f0 f1 f2 f3 f4 f5
                          clear hK K
                          try simp only [Act.put, List.setIfInBounds_toArray, List.set_cons_zero, List.set_cons_succ]
                          refine wpAnyL_done (by kernel_rfl) ?_ _
                          refine ⟨rfl, ?_⟩
                          obtain ⟨K9, q1, q2, q3⟩ := HGF.out
                          exact ⟨K9, q1, fun b h => (q2 b h).imp id fun h => h.imp id fun h => ⟨h.1, by simpa [World.setCell] using h.2⟩, q3⟩
                        exact ReadyL.nil
                      exact ReadyL.nil
                    exact ReadyL.nil
                  exact ReadyL.nil
                exact ReadyL.nil
              exact ReadyL.nil
            exact ReadyL.nil
          exact ReadyL.nil
        exact ReadyL.nil
      exact ReadyL.nil
    | false =>
      have HTG : Hid (x.ch = txT x.text.ch) := by
        have h1 : x.ch.tag = [] := by
          rw [TT.ch_tag]
          have h2 := hel
          unfold elB at h2
          simpa using h2
        have h3 := (HOS.out.1 h1).1
        rw [TT.ch_text] at h3
        exact h3
      clear hel
      have HEL : Hid (∀ (t1 : LT) (w7 : World), Below W4.heap.size W4 w7 → t1.ch = g x.text.ch → OwnL w7 W4.heap.size t1 → MadeT g W1 W3 x (txTT t1) ((((((w7.setCell ⟨W1.heap.size, 0, none⟩ (.string ⟨#[]⟩)).setCell ⟨W1.heap.size, 1, none⟩ (.slice none 0 0)).setCell ⟨W1.heap.size, 2, none⟩ (.slice none 0 0)).setCell ⟨W1.heap.size, 3, none⟩ (.slice none 0 0)).setCell ⟨W1.heap.size, 4, none⟩ (.string t1.s)).setCell ⟨W1.heap.size, 5, none⟩ (.slice t1.A t1.n t1.c))) := by
        intro t1 w7 hb47 q1 o1
        have z7 := (HCELLS.out w7 hb47).2.1
        have hb37 := (HCELLS.out w7 hb47).2.2
        have hmc : Moved (fun b => b = W1.heap.size) w7 ((((((w7.setCell ⟨W1.heap.size, 0, none⟩ (.string ⟨#[]⟩)).setCell ⟨W1.heap.size, 1, none⟩ (.slice none 0 0)).setCell ⟨W1.heap.size, 2, none⟩ (.slice none 0 0)).setCell ⟨W1.heap.size, 3, none⟩ (.slice none 0 0)).setCell ⟨W1.heap.size, 4, none⟩ (.string t1.s)).setCell ⟨W1.heap.size, 5, none⟩ (.slice t1.A t1.n t1.c)) := ((((((Moved.refl (fun b => b = W1.heap.size) w7).setCell (p := ⟨W1.heap.size, 0, none⟩) rfl _).setCell (p := ⟨W1.heap.size, 1, none⟩) rfl _).setCell (p := ⟨W1.heap.size, 2, none⟩) rfl _).setCell (p := ⟨W1.heap.size, 3, none⟩) rfl _).setCell (p := ⟨W1.heap.size, 4, none⟩) rfl _).setCell (p := ⟨W1.heap.size, 5, none⟩) rfl _
        have hst : Stays (fun b => W1.heap.size < b) w7 ((((((w7.setCell ⟨W1.heap.size, 0, none⟩ (.string ⟨#[]⟩)).setCell ⟨W1.heap.size, 1, none⟩ (.slice none 0 0)).setCell ⟨W1.heap.size, 2, none⟩ (.slice none 0 0)).setCell ⟨W1.heap.size, 3, none⟩ (.slice none 0 0)).setCell ⟨W1.heap.size, 4, none⟩ (.string t1.s)).setCell ⟨W1.heap.size, 5, none⟩ (.slice t1.A t1.n t1.c)) := hmc.stays fun i _ h h2 => by omega
        refine ⟨?_, (Moved.of_below hb37).join hmc fun _ _ h => h, ?_, AllS.nil _ _, ?_⟩
        · exact ((((((z7.put 0 _).put 1 _).put 2 _).put 3 _).put 4 _).put 5 _)
        · have hx : t1.inS (fun b => W1.heap.size < b) w7 := o1.inS.mono fun b h _ => by have : W4.heap.size ≤ b := h; show W1.heap.size < b; omega
          exact ⟨⟨LiesS.nil _ _ _, rfl, Nat.zero_le _, Nat.zero_le _⟩, hx.keep hst, LiesS.nil _ _ _, rfl, fun _ => rfl, Nat.zero_le _, (by intro a ha; cases ha), LiesS.nil _ _ _, rfl, fun _ => rfl, Nat.zero_le _⟩
        · rw [txTT_ch, HTG.out, mgG_tx HG0.out, q1]
      gi_wp2_with fail
      rw [HF.out.enters, Oper.uponIn_enter]
      refine ⟨(fun hd => by cases hd), CallsIn.inRound l (callsIn_wide.2 ((HF.out.tells x.text W4 (HSHV.out W4 (Below.refl _ _)).1.text.ok).mono ?_))⟩
      rintro e w7 ⟨t1, rfl, h1, hb7⟩
      clear a0 a1 a2 a3 a4 a5 a6
      obtain ⟨a0, a1, a2, a3, a4, a5, a6⟩ := HSB.out w7 hb7
      obtain ⟨g0, g1, g2, g3, g4, g5⟩ := HFR.out w7 hb7
      have HT6 := Lib.hid (HEL.out t1 w7 hb7 h1.out.1 h1.out.2)
      generalize hW6 : ((((((w7.setCell ⟨W1.heap.size, 0, none⟩ (.string ⟨#[]⟩)).setCell ⟨W1.heap.size, 1, none⟩ (.slice none 0 0)).setCell ⟨W1.heap.size, 2, none⟩ (.slice none 0 0)).setCell ⟨W1.heap.size, 3, none⟩ (.slice none 0 0)).setCell ⟨W1.heap.size, 4, none⟩ (.string t1.s)).setCell ⟨W1.heap.size, 5, none⟩ (.slice t1.A t1.n t1.c)) = W6 at HT6
      clear hb7 h1
      gi_wp2_with fail
      clear a0 a1 a2 a3 a4 a5 a6 g0 g1 g2 g3 g4 g5
      obtain ⟨T, HT7⟩ : ∃ T, Hid (MadeT g W1 W3 x T W6) := ⟨_, HT6⟩
      have hz36 := HT7.out.2.1.size
      have HOWN6 : Hid ((W6.drew.alloc (.cells #[.string ⟨#[]⟩, .slice none 0 0, .slice none 0 0, .slice none 0 0, .string ⟨#[]⟩, .slice none 0 0] 45)).ownsRow w4.heap.size 45 6 (.slice A5 z c5) z (treeCells us)) := (HT7.out.2.1.own HOWN3.out (fun i hi h => by have := (HKL.out i (HG.out i hi)).2; omega)).alloc _
      have HSB7 : Hid (∀ V, Below W6.heap.size W6 V → V.cell? ⟨w.heap.size + 1, 0, none⟩ = some (.slice A5 z c5) ∧ V.cell? ⟨W1.heap.size, 0, none⟩ = some (.string T.tag.s) ∧ V.cell? ⟨W1.heap.size, 1, none⟩ = some (.slice T.tag.A T.tag.n T.tag.c) ∧ V.cell? ⟨W1.heap.size, 2, none⟩ = some (.slice T.A T.n T.c) ∧ V.cell? ⟨W1.heap.size, 3, none⟩ = some (.slice T.K T.kn T.kc) ∧ V.cell? ⟨W1.heap.size, 4, none⟩ = some (.string T.text.s) ∧ V.cell? ⟨W1.heap.size, 5, none⟩ = some (.slice T.text.A T.text.n T.text.c)) := fun V h => by
        have y := (HT7.out.2.1.whole HV3.out (fun h => by omega)).below h (by have := HV3.out.lt; omega)
        have zt := HT7.out.1.below h HT7.out.1.lt
        exact ⟨y.at_ 0, zt.at_ 0, zt.at_ 1, zt.at_ 2, zt.at_ 3, zt.at_ 4, zt.at_ 5⟩
      have HS7 : Hid (∀ V, (W6.drew.alloc (.cells #[.string ⟨#[]⟩, .slice none 0 0, .slice none 0 0, .slice none 0 0, .string ⟨#[]⟩, .slice none 0 0] 45)).grownBy V (Value.slice A5 z c5).ownBlock → V.cell? ⟨w.heap.size + 1, 0, none⟩ = some (.slice A5 z c5) ∧ V.cell? ⟨W1.heap.size, 0, none⟩ = some (.string T.tag.s) ∧ V.cell? ⟨W1.heap.size, 1, none⟩ = some (.slice T.tag.A T.tag.n T.tag.c) ∧ V.cell? ⟨W1.heap.size, 2, none⟩ = some (.slice T.A T.n T.c) ∧ V.cell? ⟨W1.heap.size, 3, none⟩ = some (.slice T.K T.kn T.kc) ∧ V.cell? ⟨W1.heap.size, 4, none⟩ = some (.string T.text.s) ∧ V.cell? ⟨W1.heap.size, 5, none⟩ = some (.slice T.text.A T.text.n T.text.c)) := fun V h => by
        have y := ((HT7.out.2.1.whole HV3.out (fun h => by omega)).drew.alloc _).grown h (fun h => by have := (HOWN3.out.lt _ h.symm).1; omega)
        have zt := (HT7.out.1.drew.alloc _).grown h (fun h => by have := (HKL.out _ (HG.out _ h.symm)).2; omega)
        exact ⟨y.at_ 0, zt.at_ 0, zt.at_ 1, zt.at_ 2, zt.at_ 3, zt.at_ 4, zt.at_ 5⟩
      have HG7' : Hid (∀ (g7 : Nat) (w7 : World) (d7 : Nat) (o : Obj), w7.ownsRow w4.heap.size 45 6 (.slice (some ⟨g7, 0, none⟩) (z + 1) d7) (z + 1) (treeCells us ++ treeRow zeroTT) → (W6.drew.alloc o).grownBy w7 (Value.slice A5 z c5).ownBlock → ((Value.slice (some ⟨g7, 0, none⟩) (z + 1) d7).ownBlock = (Value.slice A5 z c5).ownBlock ∨ (Value.slice (some ⟨g7, 0, none⟩) (z + 1) d7).ownBlock = some (W6.drew.alloc o).heap.size) → ((w7.cell? ⟨g7, z * 6, none⟩ = some (.string zeroTT.tag.s) ∧ w7.cell? ⟨g7, z * 6 + 1, none⟩ = some (.slice zeroTT.tag.A zeroTT.tag.n zeroTT.tag.c) ∧ w7.cell? ⟨g7, z * 6 + 2, none⟩ = some (.slice zeroTT.A zeroTT.n zeroTT.c) ∧ w7.cell? ⟨g7, z * 6 + 3, none⟩ = some (.slice zeroTT.K zeroTT.kn zeroTT.kc) ∧ w7.cell? ⟨g7, z * 6 + 4, none⟩ = some (.string zeroTT.text.s) ∧ w7.cell? ⟨g7, z * 6 + 5, none⟩ = some (.slice zeroTT.text.A zeroTT.text.n zeroTT.text.c) ∧ w7.frozen? ⟨g7, z * 6, none⟩ = false ∧ w7.frozen? ⟨g7, z * 6 + 1, none⟩ = false ∧ w7.frozen? ⟨g7, z * 6 + 2, none⟩ = false ∧ w7.frozen? ⟨g7, z * 6 + 3, none⟩ = false ∧ w7.frozen? ⟨g7, z * 6 + 4, none⟩ = false ∧ w7.frozen? ⟨g7, z * 6 + 5, none⟩ = false) ∧ (w7.cell? ⟨w.heap.size + 1, 0, none⟩ = some (.slice A5 z c5) ∧ w7.frozen? ⟨w.heap.size + 1, 0, none⟩ = false) ∧ (((((((w7.setCell ⟨g7, z * 6, none⟩ (.string T.tag.s)).setCell ⟨g7, z * 6 + 1, none⟩ (.slice T.tag.A T.tag.n T.tag.c)).setCell ⟨g7, z * 6 + 2, none⟩ (.slice T.A T.n T.c)).setCell ⟨g7, z * 6 + 3, none⟩ (.slice T.K T.kn T.kc)).setCell ⟨g7, z * 6 + 4, none⟩ (.string T.text.s)).setCell ⟨g7, z * 6 + 5, none⟩ (.slice T.text.A T.text.n T.text.c)).cell? ⟨w.heap.size + 1, 0, none⟩ = some (.slice A5 z c5) ∧ ((((((w7.setCell ⟨g7, z * 6, none⟩ (.string T.tag.s)).setCell ⟨g7, z * 6 + 1, none⟩ (.slice T.tag.A T.tag.n T.tag.c)).setCell ⟨g7, z * 6 + 2, none⟩ (.slice T.A T.n T.c)).setCell ⟨g7, z * 6 + 3, none⟩ (.slice T.K T.kn T.kc)).setCell ⟨g7, z * 6 + 4, none⟩ (.string T.text.s)).setCell ⟨g7, z * 6 + 5, none⟩ (.slice T.text.A T.text.n T.text.c)).frozen? ⟨w.heap.size + 1, 0, none⟩ = false)) ∧ (∀ u, (w7.setCell ⟨w.heap.size + 1, 0, none⟩ u).cell? ⟨g7, z * 6, none⟩ = some (.string zeroTT.tag.s) ∧ (w7.setCell ⟨w.heap.size + 1, 0, none⟩ u).cell? ⟨g7, z * 6 + 1, none⟩ = some (.slice zeroTT.tag.A zeroTT.tag.n zeroTT.tag.c) ∧ (w7.setCell ⟨w.heap.size + 1, 0, none⟩ u).cell? ⟨g7, z * 6 + 2, none⟩ = some (.slice zeroTT.A zeroTT.n zeroTT.c) ∧ (w7.setCell ⟨w.heap.size + 1, 0, none⟩ u).cell? ⟨g7, z * 6 + 3, none⟩ = some (.slice zeroTT.K zeroTT.kn zeroTT.kc) ∧ (w7.setCell ⟨w.heap.size + 1, 0, none⟩ u).cell? ⟨g7, z * 6 + 4, none⟩ = some (.string zeroTT.text.s) ∧ (w7.setCell ⟨w.heap.size + 1, 0, none⟩ u).cell? ⟨g7, z * 6 + 5, none⟩ = some (.slice zeroTT.text.A zeroTT.text.n zeroTT.text.c) ∧ (w7.setCell ⟨w.heap.size + 1, 0, none⟩ u).frozen? ⟨g7, z * 6, none⟩ = false ∧ (w7.setCell ⟨w.heap.size + 1, 0, none⟩ u).frozen? ⟨g7, z * 6 + 1, none⟩ = false ∧ (w7.setCell ⟨w.heap.size + 1, 0, none⟩ u).frozen? ⟨g7, z * 6 + 2, none⟩ = false ∧ (w7.setCell ⟨w.heap.size + 1, 0, none⟩ u).frozen? ⟨g7, z * 6 + 3, none⟩ = false ∧ (w7.setCell ⟨w.heap.size + 1, 0, none⟩ u).frozen? ⟨g7, z * 6 + 4, none⟩ = false ∧ (w7.setCell ⟨w.heap.size + 1, 0, none⟩ u).frozen? ⟨g7, z * 6 + 5, none⟩ = false) ∧ (∃ K', MergI g (w.heap.size + 1) w4 (pre ++ [x]) K' (((((((w7.setCell ⟨g7, z * 6, none⟩ (.string T.tag.s)).setCell ⟨g7, z * 6 + 1, none⟩ (.slice T.tag.A T.tag.n T.tag.c)).setCell ⟨g7, z * 6 + 2, none⟩ (.slice T.A T.n T.c)).setCell ⟨g7, z * 6 + 3, none⟩ (.slice T.K T.kn T.kc)).setCell ⟨g7, z * 6 + 4, none⟩ (.string T.text.s)).setCell ⟨g7, z * 6 + 5, none⟩ (.slice T.text.A T.text.n T.text.c)).setCell ⟨w.heap.size + 1, 0, none⟩ (.slice (some ⟨g7, 0, none⟩) (z + 1) d7)) ∧ (∀ b, K' b → K b ∨ G b ∨ (W1.heap.size ≤ b ∧ b < (((((((w7.setCell ⟨g7, z * 6, none⟩ (.string T.tag.s)).setCell ⟨g7, z * 6 + 1, none⟩ (.slice T.tag.A T.tag.n T.tag.c)).setCell ⟨g7, z * 6 + 2, none⟩ (.slice T.A T.n T.c)).setCell ⟨g7, z * 6 + 3, none⟩ (.slice T.K T.kn T.kc)).setCell ⟨g7, z * 6 + 4, none⟩ (.string T.text.s)).setCell ⟨g7, z * 6 + 5, none⟩ (.slice T.text.A T.text.n T.text.c)).setCell ⟨w.heap.size + 1, 0, none⟩ (.slice (some ⟨g7, 0, none⟩) (z + 1) d7)).heap.size)) ∧ Moved (fun b => K b ∨ G b ∨ W1.heap.size ≤ b) W3 (((((((w7.setCell ⟨g7, z * 6, none⟩ (.string T.tag.s)).setCell ⟨g7, z * 6 + 1, none⟩ (.slice T.tag.A T.tag.n T.tag.c)).setCell ⟨g7, z * 6 + 2, none⟩ (.slice T.A T.n T.c)).setCell ⟨g7, z * 6 + 3, none⟩ (.slice T.K T.kn T.kc)).setCell ⟨g7, z * 6 + 4, none⟩ (.string T.text.s)).setCell ⟨g7, z * 6 + 5, none⟩ (.slice T.text.A T.text.n T.text.c)).setCell ⟨w.heap.size + 1, 0, none⟩ (.slice (some ⟨g7, 0, none⟩) (z + 1) d7))) ∧ (∃ K', MergI g (w.heap.size + 1) w4 (pre ++ [x]) K' (((((((w7.setCell ⟨w.heap.size + 1, 0, none⟩ (.slice (some ⟨g7, 0, none⟩) (z + 1) d7)).setCell ⟨g7, z * 6, none⟩ (.string T.tag.s)).setCell ⟨g7, z * 6 + 1, none⟩ (.slice T.tag.A T.tag.n T.tag.c)).setCell ⟨g7, z * 6 + 2, none⟩ (.slice T.A T.n T.c)).setCell ⟨g7, z * 6 + 3, none⟩ (.slice T.K T.kn T.kc)).setCell ⟨g7, z * 6 + 4, none⟩ (.string T.text.s)).setCell ⟨g7, z * 6 + 5, none⟩ (.slice T.text.A T.text.n T.text.c)) ∧ (∀ b, K' b → K b ∨ G b ∨ (W1.heap.size ≤ b ∧ b < (((((((w7.setCell ⟨w.heap.size + 1, 0, none⟩ (.slice (some ⟨g7, 0, none⟩) (z + 1) d7)).setCell ⟨g7, z * 6, none⟩ (.string T.tag.s)).setCell ⟨g7, z * 6 + 1, none⟩ (.slice T.tag.A T.tag.n T.tag.c)).setCell ⟨g7, z * 6 + 2, none⟩ (.slice T.A T.n T.c)).setCell ⟨g7, z * 6 + 3, none⟩ (.slice T.K T.kn T.kc)).setCell ⟨g7, z * 6 + 4, none⟩ (.string T.text.s)).setCell ⟨g7, z * 6 + 5, none⟩ (.slice T.text.A T.text.n T.text.c)).heap.size)) ∧ Moved (fun b => K b ∨ G b ∨ W1.heap.size ≤ b) W3 (((((((w7.setCell ⟨w.heap.size + 1, 0, none⟩ (.slice (some ⟨g7, 0, none⟩) (z + 1) d7)).setCell ⟨g7, z * 6, none⟩ (.string T.tag.s)).setCell ⟨g7, z * 6 + 1, none⟩ (.slice T.tag.A T.tag.n T.tag.c)).setCell ⟨g7, z * 6 + 2, none⟩ (.slice T.A T.n T.c)).setCell ⟨g7, z * 6 + 3, none⟩ (.slice T.K T.kn T.kc)).setCell ⟨g7, z * 6 + 4, none⟩ (.string T.text.s)).setCell ⟨g7, z * 6 + 5, none⟩ (.slice T.text.A T.text.n T.text.c)))) := fun g7 w7 d7 o q1 q2 q3 => HG7.out T W6.drew w7 d7 g7 o (made_drew HT7.out) q1 q2 q3
      have hS := HSB7.out W6.drew (Below.drew (Below.refl _ _))
      clear HT6
      gi_wp2_with fail
      refine region_round (by kernel_rfl) rfl (lets_inBlock fun _ _ h => by obtain ⟨h1, _⟩ := h; cases h1) ?_
      refine wpAny_of_last (S := fun V => V.cell? ⟨w.heap.size + 1, 0, none⟩ = some (.slice A5 z c5) ∧ V.cell? ⟨W1.heap.size, 0, none⟩ = some (.string T.tag.s) ∧ V.cell? ⟨W1.heap.size, 1, none⟩ = some (.slice T.tag.A T.tag.n T.tag.c) ∧ V.cell? ⟨W1.heap.size, 2, none⟩ = some (.slice T.A T.n T.c) ∧ V.cell? ⟨W1.heap.size, 3, none⟩ = some (.slice T.K T.kn T.kc) ∧ V.cell? ⟨W1.heap.size, 4, none⟩ = some (.string T.text.s) ∧ V.cell? ⟨W1.heap.size, 5, none⟩ = some (.slice T.text.A T.text.n T.text.c)) (Z := fun i => decide (5 ≤ i)) _ _ _ _ ?_
      refine' wpAnyL_take (i := 0) ?hi28 (by kernel_rfl) (by kernel_rfl) (by kernel_rfl) (by kernel_rfl) ?hQ28 ?hy28 hS ?rest28
      case hi28 => simp only [List.getElem?_toArray, List.getElem?_cons_zero]; rfl
      case hQ28 => exact fun _ _ _ h => h
      case hy28 =>
        refine Or.inl ⟨by rfl, ?_⟩
        intro wq hq
        try dsimp only at hq
        try obtain ⟨hq0, hq1, hq2, hq3, hq4, hq5, hq6⟩ := hq
        go_simp
        try with_reducible rfl
      try simp only [Act.put, List.setIfInBounds_toArray, List.set_cons_zero, List.set_cons_succ]
      refine' wpAnyL_take (i := 1) ?hi29 (by kernel_rfl) (by kernel_rfl) (by kernel_rfl) (by kernel_rfl) ?hQ29 ?hy29 hS ?rest29
      case hi29 => simp only [List.getElem?_toArray, List.getElem?_cons_succ, List.getElem?_cons_zero]; rfl
      case hQ29 => exact fun _ _ _ h => h
      case hy29 =>
        refine Or.inl ⟨by rfl, ?_⟩
        intro wq hq
        try dsimp only at hq
        try obtain ⟨hq0, hq1, hq2, hq3, hq4, hq5, hq6⟩ := hq
        go_simp
        try with_reducible rfl
      try simp only [Act.put, List.setIfInBounds_toArray, List.set_cons_zero, List.set_cons_succ]
      refine' wpAnyL_take (i := 2) ?hi30 (by kernel_rfl) (by kernel_rfl) (by kernel_rfl) (by kernel_rfl) ?hQ30 ?hy30 hS ?rest30
      case hi30 => simp only [List.getElem?_toArray, List.getElem?_cons_succ, List.getElem?_cons_zero]; rfl
      case hQ30 => exact fun _ _ _ h => h
      case hy30 =>
        refine Or.inl ⟨by rfl, ?_⟩
        intro wq hq
        try dsimp only at hq
        try obtain ⟨hq0, hq1, hq2, hq3, hq4, hq5, hq6⟩ := hq
        go_simp
        try with_reducible rfl
      try simp only [Act.put, List.setIfInBounds_toArray, List.set_cons_zero, List.set_cons_succ]
      refine wpAnyL_ready (rs := [3]) (by kernel_rfl) (by simp) ?_
      refine' ReadyL.cons ?ho31 (fun K hK => ?step31) ?more31
      case ho31 => simp only [List.getElem?_toArray, List.getElem?_cons_succ, List.getElem?_cons_zero]; rfl
      case step31 =>
        go_simp
        refine hK.out _ _ (.inr (HSB7.out _ ((Below.drew (Below.refl W6.heap.size W6)).alloc (Nat.le_refl _) _))) ?_
        clear hK K hS
        try simp only [Act.put, List.setIfInBounds_toArray, List.set_cons_zero, List.set_cons_succ]
        refine wpAnyL_ready (rs := [4]) (by kernel_rfl) (by simp) ?_
        refine' ReadyL.cons ?ho32 (fun K hK => ?step32) ?more32
        case ho32 => simp only [List.getElem?_toArray, List.getElem?_cons_succ, List.getElem?_cons_zero]; rfl
        case step32 =>
          refine step_append_src _ rfl _ _ 22 rfl w4.heap.size 45 i0 _ 6 128 Try.underlying22 hi hiz0 hiz1 hiz2 rfl (by decide) (.slice A5 z c5) z (treeCells us) rfl HOWN6.out (W6.heap.size + 1) (some ⟨W6.heap.size, 0, none⟩) 1 1 (treeRow zeroTT) rfl (by simp) rfl (lies_new W6.drew _ _) (treeRow_one _) (by simp only [maxLen]; omega) (by omega) (by simp; omega) ?_
          intro v' w7 hown7 hgr hv'
          obtain ⟨A7, d7, rfl, _, _, _⟩ := own_form hown7
          obtain ⟨g7, rfl⟩ : ∃ g7, A7 = some ⟨g7, 0, none⟩ := own_some hown7 (Nat.succ_pos _)
          have HGO := Lib.hid (HG7'.out g7 w7 d7 _ hown7 hgr hv')
          have HGA := Lib.hid HGO.out.1.1
          have HGB := Lib.hid HGO.out.1.2.1
          have HGC := Lib.hid HGO.out.1.2.2
          have HGD := Lib.hid HGO.out.2.1
          have HGE := Lib.hid HGO.out.2.2.1
          have HGF := Lib.hid HGO.out.2.2.2
          clear HGO HG7'
          have hS7 := HS7.out _ hgr
          refine hK.out _ _ (.inr hS7) ?_
          clear hK K
          try simp only [Act.put, List.setIfInBounds_toArray, List.set_cons_zero, List.set_cons_succ]
          have hk0 : (0 : Int) ≤ (z : Int) := Int.natCast_nonneg _
          have hk1 : (z : Int) < ((z + 1 : Nat) : Int) := by omega
          have hk2 : (z : Int) < (z : Int) + 1 := by omega
          refine wpAnyL_ready (rs := [5, 7]) (by kernel_rfl) (by simp) ?_
          refine' ReadyL.cons ?ho33 (fun K hK => ?step33) ?more33
          case ho33 => simp only [List.getElem?_toArray, List.getElem?_cons_succ, List.getElem?_cons_zero]; rfl
          case step33 =>
            go_simp
            refine hK.out _ _ (.inl (by decide)) ?_
            clear hK K
            try simp only [Act.put, List.setIfInBounds_toArray, List.set_cons_zero, List.set_cons_succ]
            refine wpAnyL_ready (rs := [6, 7]) (by kernel_rfl) (by simp) ?_
            refine' ReadyL.cons ?ho34 (fun K hK => ?step34) ?more34
            case ho34 => simp only [List.getElem?_toArray, List.getElem?_cons_succ, List.getElem?_cons_zero]; rfl
            case step34 =>
              obtain ⟨k0, k1, k2, k3, k4, k5, f0, f1, f2, f3, f4, f5⟩ := HGA.out
              go_simp
              refine hK.out _ _ (.inl (by decide)) ?_
              clear k0 k1 k2 k3 k4 k5 f0 f1 f2 f3 f4 f5
              clear hK K
              try simp only [Act.put, List.setIfInBounds_toArray, List.set_cons_zero, List.set_cons_succ]
              refine wpAnyL_ready (rs := [7]) (by kernel_rfl) (by simp) ?_
              refine' ReadyL.cons ?ho35 (fun K hK => ?step35) ?more35
              case ho35 => simp only [List.getElem?_toArray, List.getElem?_cons_succ, List.getElem?_cons_zero]; rfl
              case step35 =>
                have k6 := HGC.out.1
                have f6 := HGC.out.2
                go_simp
                refine hK.out _ _ (.inl (by decide)) ?_
                clear k6 f6
                clear hK K
                try simp only [Act.put, List.setIfInBounds_toArray, List.set_cons_zero, List.set_cons_succ]
                refine wpAnyL_done (by kernel_rfl) ?_ _
                refine ⟨rfl, ?_⟩
                obtain ⟨K9, q1, q2, q3⟩ := HGE.out
                exact ⟨K9, q1, fun b h => (q2 b h).imp id fun h => h.imp id fun h => ⟨h.1, by simpa [World.setCell] using h.2⟩, q3⟩
              exact ReadyL.nil
            refine' ReadyL.cons ?ho36 (fun K hK => ?step36) ?more36
            case ho36 => simp only [List.getElem?_toArray, List.getElem?_cons_succ, List.getElem?_cons_zero]; rfl
            case step36 =>
              have k6 := HGB.out.1
              have f6 := HGB.out.2
              go_simp
              refine hK.out _ _ (.inl (by decide)) ?_
              clear k6 f6
              clear hK K
              try simp only [Act.put, List.setIfInBounds_toArray, List.set_cons_zero, List.set_cons_succ]
              refine wpAnyL_ready (rs := [6]) (by kernel_rfl) (by simp) ?_
              refine' ReadyL.cons ?ho37 (fun K hK => ?step37) ?more37
              case ho37 => simp only [List.getElem?_toArray, List.getElem?_cons_succ, List.getElem?_cons_zero]; rfl
              case step37 =>
                obtain ⟨k0, k1, k2, k3, k4, k5, f0, f1, f2, f3, f4, f5⟩ := HGD.out (.slice (some ⟨g7, 0, none⟩) (z + 1) d7)
                go_simp
                refine hK.out _ _ (.inl (by decide)) ?_
                clear k0 k1 k2 k3 k4 k5 f0 f1 f2 f3 f4 f5
                clear hK K
                try simp only [Act.put, List.setIfInBounds_toArray, List.set_cons_zero, List.set_cons_succ]
                refine wpAnyL_done (by kernel_rfl) ?_ _
                refine ⟨rfl, ?_⟩
                obtain ⟨K9, q1, q2, q3⟩ := HGF.out
                exact ⟨K9, q1, fun b h => (q2 b h).imp id fun h => h.imp id fun h => ⟨h.1, by simpa [World.setCell] using h.2⟩, q3⟩
              exact ReadyL.nil
            exact ReadyL.nil
          refine' ReadyL.cons ?ho38 (fun K hK => ?step38) ?more38
          case ho38 => simp only [List.getElem?_toArray, List.getElem?_cons_succ, List.getElem?_cons_zero]; rfl
          case step38 =>
            have k6 := HGB.out.1
            have f6 := HGB.out.2
            go_simp
            refine hK.out _ _ (.inl (by decide)) ?_
            clear k6 f6
            clear hK K
            try simp only [Act.put, List.setIfInBounds_toArray, List.set_cons_zero, List.set_cons_succ]
            refine wpAnyL_ready (rs := [5]) (by kernel_rfl) (by simp) ?_
            refine' ReadyL.cons ?ho39 (fun K hK => ?step39) ?more39
            case ho39 => simp only [List.getElem?_toArray, List.getElem?_cons_succ, List.getElem?_cons_zero]; rfl
            case step39 =>
              go_simp
              refine hK.out _ _ (.inl (by decide)) ?_
              clear hK K
              try simp only [Act.put, List.setIfInBounds_toArray, List.set_cons_zero, List.set_cons_succ]
              refine wpAnyL_ready (rs := [6]) (by kernel_rfl) (by simp) ?_
              refine' ReadyL.cons ?ho40 (fun K hK => ?step40) ?more40
              case ho40 => simp only [List.getElem?_toArray, List.getElem?_cons_succ, List.getElem?_cons_zero]; rfl
              case step40 =>
                obtain ⟨k0, k1, k2, k3, k4, k5, f0, f1, f2, f3, f4, f5⟩ := HGD.out (.slice (some ⟨g7, 0, none⟩) (z + 1) d7)
                go_simp
                refine hK.out _ _ (.inl (by decide)) ?_
                clear k0 k1 k2 k3 k4 k5 f0 f1 f2 f3 f4 f5
                clear hK K
                try simp only [Act.put, List.setIfInBounds_toArray, List.set_cons_zero, List.set_cons_succ]
                refine wpAnyL_done (by kernel_rfl) ?_ _
                refine ⟨rfl, ?_⟩
                obtain ⟨K9, q1, q2, q3⟩ := HGF.out
                exact ⟨K9, q1, fun b h => (q2 b h).imp id fun h => h.imp id fun h => ⟨h.1, by simpa [World.setCell] using h.2⟩, q3⟩
              exact ReadyL.nil
            exact ReadyL.nil
          exact ReadyL.nil
        exact ReadyL.nil
      exact ReadyL.nil
  case done =>
    rintro D xs K W1 hD hdx ⟨v, us, hy, hown, hg, hus, he, hkb, hkl, hm⟩ hKD hdef
    have hz41 : w4.heap.size ≤ W1.heap.size := hm.size
    obtain ⟨A5, c5, rfl, _, _, _⟩ := own_form hown
    have c3 : W1.cell? ⟨w.heap.size + 1, 0, none⟩ = some (.slice A5 us.length c5) := hy.at_ 0
    have HFIN : Hid (TellsT (fun b => w.heap.size ≤ b) (mapL g (mergeP Q)) w (.returned (.slice A5 us.length c5)) (W1.putObj D (.deferred none))) := by
      refine ⟨A5, c5, us, rfl, ?_, ?_, ?_, ?_⟩
      · exact own_mono (base := w4.heap.size) ((Moved.putObj W1 D (.deferred none)).own hown fun g h h2 => hKD (h2 ▸ hg g h)) (by omega)
      · exact (hus.keep ((Moved.putObj W1 D (.deferred none)).stays fun i _ h h2 => hKD (h2 ▸ h.1))).mono fun b h _ => by have := (hkl b h.1).1; show w.heap.size ≤ b; omega
      · rw [he, show chL xs = sibs (chL ts) from hdx, HQ.out, merge_map]
      · refine Moved.below (S := fun b => w.heap.size ≤ b) ?_ (Nat.le_refl _) (fun k hk h => by omega)
        exact ((Moved.of_below HB4.out).join hm fun i hi h => by omega).join (Moved.putObj _ _ _) fun i hi h => by omega
    have HD := Lib.hid hdef
    clear hown hy hg hus he hkb hkl hm hKD hdef hdx
    gi_wp2_with fail
    refine marks_out rfl HD.out ?_
    refine ⟨_, results_tmp (t := 4) rfl _ _ _, ?_⟩
    exact HFIN.out

end Go.Proofs.Ytfebcnndehpklaa.mk

namespace Go.Proofs.Ytfebcnndehpklaa.mk
open Go.RowKit

mutual
def PT.eqT : PT → PT → Bool
  | ⟨tag, attrs, kids, text⟩, y => decide (tag = y.tag) && (sameA attrs y.attrs && (decide (text = y.text) && eqL kids y.kids))
def eqL : List PT → List PT → Bool
  | [], [] => true
  | [], _ :: _ => false
  | _ :: _, [] => false
  | x :: xs, y :: ys => x.eqT y && eqL xs ys
end
theorem PT.eqT_eq (x y : PT) : x.eqT y = (decide (x.tag = y.tag) && (sameA x.attrs y.attrs && (decide (x.text = y.text) && eqL x.kids y.kids))) := by cases x; rw [PT.eqT]
theorem eqL_len {a b : List PT} (h : a.length ≠ b.length) : eqL a b = false := by
  induction a generalizing b with
  | nil => cases b with
    | nil => exact absurd rfl h
    | cons y ys => rw [eqL]
  | cons x xs ih => cases b with
    | nil => rw [eqL]
    | cons y ys => rw [eqL, ih (fun e => h (by simp [e])), Bool.and_false]
theorem eqL_take {a b : List PT} {k : Nat} {x y : PT} (hx : a[k]? = some x) (hy : b[k]? = some y) : eqL (a.take (k + 1)) (b.take (k + 1)) = (eqL (a.take k) (b.take k) && x.eqT y) := by
  induction a generalizing b k with
  | nil => cases hx
  | cons p a ih => cases b with
    | nil => cases hy
    | cons q b => cases k with
      | zero =>
        simp at hx hy
        subst hx hy
        simp [eqL]
      | succ k =>
        rw [List.take_succ_cons, List.take_succ_cons, List.take_succ_cons, List.take_succ_cons, eqL, eqL, ih (by simpa using hx) (by simpa using hy), Bool.and_assoc]
theorem eqL_false {a b : List PT} {k : Nat} (hl : a.length = b.length) (h : eqL (a.take k) (b.take k) = false) : eqL a b = false := by
  induction a generalizing b k with
  | nil => cases b with
    | nil => rw [List.take_nil] at h; exact h
    | cons y ys => rw [eqL]
  | cons x xs ih => cases b with
    | nil => rw [eqL]
    | cons y ys => cases k with
      | zero => rw [List.take_zero, List.take_zero, eqL] at h; cases h
      | succ k =>
        rw [List.take_succ_cons, List.take_succ_cons, eqL, Bool.and_eq_false_iff] at h
        rw [eqL, Bool.and_eq_false_iff]
        exact h.imp id (ih (by simpa using hl))

/-- trees as arguments of the plain kind -/
def TreesAt (w : World) (A : Option Addr) (n : Nat) (ts : List TT) : Prop := Lies w w.heap.size A (treeCells ts) ∧ AllS (fun _ => True) w ts ∧ ts.length = n ∧ n ≤ 1048576
theorem TreesAt.next {w w' : World} {A : Option Addr} {n : Nat} {ts : List TT} (h : TreesAt w A n ts) (hb : Below w.heap.size w w') : TreesAt w' A n ts := ⟨h.1.next hb (Nat.le_refl _), h.2.1.keep (Stays.of hb), h.2.2⟩

def TEqRel (a b : List PT) (n : Nat) (w0 : World) (i : Value) (wr : World) : Prop := ∃ k : Nat, k ≤ n ∧ i = .int .i64 (k : Int) ∧ eqL (a.take k) (b.take k) = true ∧ Below w0.heap.size w0 wr

set_option maxHeartbeats 2000000 in
set_option maxRecDepth 100000 in
theorem equalFunc_any (A : Option Addr) (n c : Nat) (ts : List TT) (B : Option Addr) (m d : Nat) (us : List TT) (w : World) (h1 : TreesAt w A n ts) (h2 : TreesAt w B m us)
    (hF : ∀ (x y : TT) w', x ∈ ts → y ∈ us → Below w.heap.size w w' → Calls Try.prog 57 #[.agg #[.string x.tag.s, .slice x.tag.A x.tag.n x.tag.c, .slice x.A x.n x.c, .slice x.K x.kn x.kc, .string x.text.s, .slice x.text.A x.text.n x.text.c], .agg #[.string y.tag.s, .slice y.tag.A y.tag.n y.tag.c, .slice y.A y.n y.c, .slice y.K y.kn y.kc, .string y.text.s, .slice y.text.A y.text.n y.text.c]] w' fun e w'' => e = .returned (.bool (x.ch.eqT y.ch)) ∧ Below w'.heap.size w' w'') :
    Calls Try.prog 56 #[.slice A n c, .slice B m d, .func (.func 57) #[] #[]] w fun e w' => e = .returned (.bool (eqL (chL ts) (chL us))) ∧ Below w.heap.size w w' := by
  have H1 := Lib.hid h1
  have H2 := Lib.hid h2
  have HF := Lib.hid hF
  have hn2 : n ≤ 1048576 := h1.2.2.2
  clear h1 h2 hF
  by_cases hnm : n = m
  · subst hnm
    have HLN : Hid ((chL ts).length = (chL us).length) := by show _ = _; rw [chL_length, chL_length, H1.out.2.2.1, H2.out.2.2.1]
    go_enter Try.func56, Try.ntmps56
    go_wp2_with fail
    go_loopw [17] (TEqRel (chL ts) (chL us) n w) (fun i _ => n - (intOf i).toNat)
    case atStart => exact ⟨0, Nat.zero_le _, rfl, rfl, Below.refl _ _⟩
    case round =>
      obtain ⟨k, hk, rfl, he, hb⟩ := hrel
      have HE := Lib.hid he
      clear he
      by_cases hlt : k < n
      · obtain ⟨ad, x, rfl, hbA, d0, d1, d2, d3, d4, d5, HR⟩ := (H1.out.next hb).1.tree (k := k) (by rw [H1.out.2.2.1]; exact hlt)
        obtain ⟨ad', y, rfl, hbB, e0, e1, e2, e3, e4, e5, HR'⟩ := (H2.out.next hb).1.tree (k := k) (by rw [H2.out.2.2.1]; exact hlt)
        have hk0 : (0 : Int) ≤ (k : Int) := Int.natCast_nonneg _
        have hk1 : (k : Int) < (n : Int) := by omega
        have HSN : Hid (eqL ((chL ts).take (k + 1)) ((chL us).take (k + 1)) = x.ch.eqT y.ch) := by
          show _ = _
          rw [eqL_take (chL_at HR.out) (chL_at HR'.out), HE.out, Bool.true_and]
        generalize hw4 : wr.alloc (.cells #[.string x.tag.s, .slice x.tag.A x.tag.n x.tag.c, .slice x.A x.n x.c, .slice x.K x.kn x.kc, .string x.text.s, .slice x.text.A x.text.n x.text.c] 45) = w4
        have y4 : Whole w4 wr.heap.size 45 #[.string x.tag.s, .slice x.tag.A x.tag.n x.tag.c, .slice x.A x.n x.c, .slice x.K x.kn x.kc, .string x.text.s, .slice x.text.A x.text.n x.text.c] := by rw [← hw4]; exact Whole.made _ _ _
        have hb4 : Below wr.heap.size wr w4 := by rw [← hw4]; exact (Below.refl _ _).alloc (Nat.le_refl _) _
        have hz4 : w4.heap.size = wr.heap.size + 1 := by rw [← hw4]; simp
        have g0 : w4.cell? (ad'.add (k * 6)) = some (.string y.tag.s) := (hb4.cell (by rw [addr_block]; exact hbB)).trans e0
        have g1 : w4.cell? ⟨(ad'.add (k * 6)).block, (ad'.add (k * 6)).off + 1, none⟩ = some (.slice y.tag.A y.tag.n y.tag.c) := (hb4.cell (by show (ad'.add (k * 6)).block < _; rw [addr_block]; exact hbB)).trans e1
        have g2 : w4.cell? ⟨(ad'.add (k * 6)).block, (ad'.add (k * 6)).off + 2, none⟩ = some (.slice y.A y.n y.c) := (hb4.cell (by show (ad'.add (k * 6)).block < _; rw [addr_block]; exact hbB)).trans e2
        have g3 : w4.cell? ⟨(ad'.add (k * 6)).block, (ad'.add (k * 6)).off + 3, none⟩ = some (.slice y.K y.kn y.kc) := (hb4.cell (by show (ad'.add (k * 6)).block < _; rw [addr_block]; exact hbB)).trans e3
        have g4 : w4.cell? ⟨(ad'.add (k * 6)).block, (ad'.add (k * 6)).off + 4, none⟩ = some (.string y.text.s) := (hb4.cell (by show (ad'.add (k * 6)).block < _; rw [addr_block]; exact hbB)).trans e4
        have g5 : w4.cell? ⟨(ad'.add (k * 6)).block, (ad'.add (k * 6)).off + 5, none⟩ = some (.slice y.text.A y.text.n y.text.c) := (hb4.cell (by show (ad'.add (k * 6)).block < _; rw [addr_block]; exact hbB)).trans e5
        generalize hw5 : w4.alloc (.cells #[.string y.tag.s, .slice y.tag.A y.tag.n y.tag.c, .slice y.A y.n y.c, .slice y.K y.kn y.kc, .string y.text.s, .slice y.text.A y.text.n y.text.c] 45) = w5
        have y5 : Whole w5 w4.heap.size 45 #[.string y.tag.s, .slice y.tag.A y.tag.n y.tag.c, .slice y.A y.n y.c, .slice y.K y.kn y.kc, .string y.text.s, .slice y.text.A y.text.n y.text.c] := by rw [← hw5]; exact Whole.made _ _ _
        have hb5 : Below w4.heap.size w4 w5 := by rw [← hw5]; exact (Below.refl _ _).alloc (Nat.le_refl _) _
        have z4 := y4.below hb5 y4.lt
        have p0 : w5.cell? ⟨wr.heap.size, 0, none⟩ = some (.string x.tag.s) := z4.at_ 0
        have p1 : w5.cell? ⟨wr.heap.size, 1, none⟩ = some (.slice x.tag.A x.tag.n x.tag.c) := z4.at_ 1
        have p2 : w5.cell? ⟨wr.heap.size, 2, none⟩ = some (.slice x.A x.n x.c) := z4.at_ 2
        have p3 : w5.cell? ⟨wr.heap.size, 3, none⟩ = some (.slice x.K x.kn x.kc) := z4.at_ 3
        have p4 : w5.cell? ⟨wr.heap.size, 4, none⟩ = some (.string x.text.s) := z4.at_ 4
        have p5 : w5.cell? ⟨wr.heap.size, 5, none⟩ = some (.slice x.text.A x.text.n x.text.c) := z4.at_ 5
        have q0 : w5.cell? ⟨w4.heap.size, 0, none⟩ = some (.string y.tag.s) := y5.at_ 0
        have q1 : w5.cell? ⟨w4.heap.size, 1, none⟩ = some (.slice y.tag.A y.tag.n y.tag.c) := y5.at_ 1
        have q2 : w5.cell? ⟨w4.heap.size, 2, none⟩ = some (.slice y.A y.n y.c) := y5.at_ 2
        have q3 : w5.cell? ⟨w4.heap.size, 3, none⟩ = some (.slice y.K y.kn y.kc) := y5.at_ 3
        have q4 : w5.cell? ⟨w4.heap.size, 4, none⟩ = some (.string y.text.s) := y5.at_ 4
        have q5 : w5.cell? ⟨w4.heap.size, 5, none⟩ = some (.slice y.text.A y.text.n y.text.c) := y5.at_ 5
        have HB5 : Hid (Below w.heap.size w w5) := below_next (below_next hb (Nat.le_refl _) hb4) (Nat.le_refl _) hb5
        have HB := Lib.hid hb
        have HCALL := Lib.hid (HF.out x y w5 (List.mem_of_getElem? HR.out) (List.mem_of_getElem? HR'.out) HB5.out)
        clear hb hb4 hb5 y4 y5 z4 hz4
        go_wp2_with fail
        refine HCALL.out.mono ?_
        rintro e w6 ⟨rfl, hb6⟩
        have HB6 : Hid (Below w.heap.size w w6) := below_next HB5.out (Nat.le_refl _) hb6
        clear hb6 HCALL d0 d1 d2 d3 d4 d5 e0 e1 e2 e3 e4 e5 g0 g1 g2 g3 g4 g5 p0 p1 p2 p3 p4 p5 q0 q1 q2 q3 q4 q5
        cases hq : x.ch.eqT y.ch with
        | true =>
          have HT : Hid (eqL ((chL ts).take (k + 1)) ((chL us).take (k + 1)) = true) := HSN.out.trans hq
          clear hq
          go_wp2_with fail
          go_roundw
          case rel => exact ⟨k + 1, by omega, by go_num, HT.out, HB6.out⟩
          case measure => simp [intOf]; omega
        | false =>
          have HT : Hid (eqL (chL ts) (chL us) = false) := eqL_false HLN.out (HSN.out.trans hq)
          clear hq
          go_wp2_with fail
          go_ret
          exact ⟨by rw [HT.out]; rfl, HB6.out⟩
      · obtain rfl : k = n := by omega
        have HT : Hid (eqL (chL ts) (chL us) = true) := by
          have h := HE.out
          rw [List.take_of_length_le (by rw [chL_length, H1.out.2.2.1]; exact Nat.le_refl _), List.take_of_length_le (by rw [chL_length, H2.out.2.2.1]; exact Nat.le_refl _)] at h
          exact h
        have HB := Lib.hid hb
        clear hb
        go_wp2_with fail
        go_ret
        exact ⟨by rw [HT.out]; rfl, HB.out⟩
  · have HT : Hid (eqL (chL ts) (chL us) = false) := eqL_len (by rw [chL_length, chL_length, H1.out.2.2.1, H2.out.2.2.1]; exact hnm)
    have hne : ¬ (n : Int) = (m : Int) := by omega
    have hne2 : ((n : Int) == (m : Int)) = false := by simpa using hne
    go_enter Try.func56, Try.ntmps56
    go_wp2_with fail
    go_ret
    exact ⟨by rw [HT.out]; rfl, Below.refl _ _⟩

end Go.Proofs.Ytfebcnndehpklaa.mk

namespace Go.Proofs.Ytfebcnndehpklaa.mk
open Go.RowKit

set_option maxHeartbeats 4000000 in
set_option maxRecDepth 100000 in
theorem equal1_any (x y : TT) (w : World) (hx : x.inS (fun _ => True) w) (hy : y.inS (fun _ => True) w)
    (hK : ∀ w', Below w.heap.size w w' → Calls Try.prog 38 #[.slice x.K x.kn x.kc, .slice y.K y.kn y.kc] w' fun e w'' => e = .returned (.bool (eqL (chL x.kids) (chL y.kids))) ∧ Below w'.heap.size w' w'') :
    Calls Try.prog 57 #[.agg #[.string x.tag.s, .slice x.tag.A x.tag.n x.tag.c, .slice x.A x.n x.c, .slice x.K x.kn x.kc, .string x.text.s, .slice x.text.A x.text.n x.text.c], .agg #[.string y.tag.s, .slice y.tag.A y.tag.n y.tag.c, .slice y.A y.n y.c, .slice y.K y.kn y.kc, .string y.text.s, .slice y.text.A y.text.n y.text.c]] w fun e w' => e = .returned (.bool (x.ch.eqT y.ch)) ∧ Below w.heap.size w w' := by
  have HX := Lib.hid hx
  have HY := Lib.hid hy
  have HK := Lib.hid hK
  have HE : Hid (x.ch.eqT y.ch = (decide (x.tag.ch = y.tag.ch) && (sameA (x.atts.map AT.ch) (y.atts.map AT.ch) && (decide (x.text.ch = y.text.ch) && eqL (chL x.kids) (chL y.kids))))) := by
    show _ = _
    rw [PT.eqT_eq, TT.ch_tag, TT.ch_tag, TT.ch_attrs, TT.ch_attrs, TT.ch_text, TT.ch_text, TT.ch_kids, TT.ch_kids]
  clear hx hy hK
  go_enter Try.func57, Try.ntmps57
  generalize hw0 : (w.alloc (.cells #[.string x.tag.s, .slice x.tag.A x.tag.n x.tag.c, .slice x.A x.n x.c, .slice x.K x.kn x.kc, .string x.text.s, .slice x.text.A x.text.n x.text.c] 45)).alloc (.cells #[.string y.tag.s, .slice y.tag.A y.tag.n y.tag.c, .slice y.A y.n y.c, .slice y.K y.kn y.kc, .string y.text.s, .slice y.text.A y.text.n y.text.c] 45) = w0
  have y1 : Whole w0 w.heap.size 45 #[.string x.tag.s, .slice x.tag.A x.tag.n x.tag.c, .slice x.A x.n x.c, .slice x.K x.kn x.kc, .string x.text.s, .slice x.text.A x.text.n x.text.c] := by rw [← hw0]; exact (Whole.made w _ _).alloc _
  have y2 : Whole w0 (w.heap.size + 1) 45 #[.string y.tag.s, .slice y.tag.A y.tag.n y.tag.c, .slice y.A y.n y.c, .slice y.K y.kn y.kc, .string y.text.s, .slice y.text.A y.text.n y.text.c] := by
    rw [← hw0]
    have h := Whole.made (w.alloc (.cells #[.string x.tag.s, .slice x.tag.A x.tag.n x.tag.c, .slice x.A x.n x.c, .slice x.K x.kn x.kc, .string x.text.s, .slice x.text.A x.text.n x.text.c] 45)) 45 #[.string y.tag.s, .slice y.tag.A y.tag.n y.tag.c, .slice y.A y.n y.c, .slice y.K y.kn y.kc, .string y.text.s, .slice y.text.A y.text.n y.text.c]
    simp only [World.size_alloc] at h
    exact h
  have hb0 : Below w.heap.size w w0 := by rw [← hw0]; exact ((Below.refl _ _).alloc (Nat.le_refl _) _).alloc (by simp) _
  have HV : Hid (∀ V, Below w0.heap.size w0 V → (V.cell? ⟨w.heap.size, 0, none⟩ = some (.string x.tag.s) ∧ V.cell? ⟨w.heap.size, 1, none⟩ = some (.slice x.tag.A x.tag.n x.tag.c) ∧ V.cell? ⟨w.heap.size, 2, none⟩ = some (.slice x.A x.n x.c) ∧ V.cell? ⟨w.heap.size, 3, none⟩ = some (.slice x.K x.kn x.kc) ∧ V.cell? ⟨w.heap.size, 4, none⟩ = some (.string x.text.s) ∧ V.cell? ⟨w.heap.size, 5, none⟩ = some (.slice x.text.A x.text.n x.text.c) ∧
      V.cell? ⟨w.heap.size + 1, 0, none⟩ = some (.string y.tag.s) ∧ V.cell? ⟨w.heap.size + 1, 1, none⟩ = some (.slice y.tag.A y.tag.n y.tag.c) ∧ V.cell? ⟨w.heap.size + 1, 2, none⟩ = some (.slice y.A y.n y.c) ∧ V.cell? ⟨w.heap.size + 1, 3, none⟩ = some (.slice y.K y.kn y.kc) ∧ V.cell? ⟨w.heap.size + 1, 4, none⟩ = some (.string y.text.s) ∧ V.cell? ⟨w.heap.size + 1, 5, none⟩ = some (.slice y.text.A y.text.n y.text.c)) ∧ Below w.heap.size w V) := fun V h => by
    have a := y1.below h y1.lt
    have b := y2.below h y2.lt
    exact ⟨⟨a.at_ 0, a.at_ 1, a.at_ 2, a.at_ 3, a.at_ 4, a.at_ 5, b.at_ 0, b.at_ 1, b.at_ 2, b.at_ 3, b.at_ 4, b.at_ 5⟩, below_next hb0 (Nat.le_refl _) h⟩
  obtain ⟨⟨a0, a1, a2, a3, a4, a5, c0, c1, c2, c3, c4, c5⟩, _⟩ := HV.out w0 (Below.refl _ _)
  clear y1 y2 hb0
  go_wp2_with fail
  clear hw0
  have hxs : ∀ V, Below w.heap.size w V → x.inS (fun _ => True) V ∧ y.inS (fun _ => True) V := fun V h => ⟨HX.out.keep (Stays.of h), HY.out.keep (Stays.of h)⟩
  have HXS := Lib.hid hxs
  clear hxs
  have HB0 : Hid (Below w.heap.size w w0) := (HV.out w0 (Below.refl _ _)).2
  refine (same_any x.tag y.tag w0 (HXS.out w0 HB0.out).1.tag.ok (HXS.out w0 HB0.out).2.tag.ok).mono ?_
  rintro e w1 ⟨rfl, hb1⟩
  clear a0 a1 a2 a3 a4 a5 c0 c1 c2 c3 c4 c5
  obtain ⟨⟨a0, a1, a2, a3, a4, a5, c0, c1, c2, c3, c4, c5⟩, hB1⟩ := HV.out w1 hb1
  have HB1 := Lib.hid hb1
  have HW1 := Lib.hid hB1
  clear hb1 hB1
  have HS1 : Hid (sameB x.tag y.tag = decide (x.tag.ch = y.tag.ch)) := sameB_ch _ _
  rw [HS1.out]
  cases h1 : decide (x.tag.ch = y.tag.ch) with
  | false =>
    have HR : Hid (x.ch.eqT y.ch = false) := HE.out.trans (by rw [h1]; rfl)
    clear h1 HS1
    go_wp2_with fail
    go_ret
    exact ⟨by rw [HR.out]; rfl, HW1.out⟩
  | true =>
    have HR1 : Hid (x.ch.eqT y.ch = (sameA (x.atts.map AT.ch) (y.atts.map AT.ch) && (decide (x.text.ch = y.text.ch) && eqL (chL x.kids) (chL y.kids)))) := HE.out.trans (by rw [h1]; rfl)
    clear h1 HS1
    go_wp2_with fail
    have hx1 := (HXS.out w1 HW1.out).1
    have hy1 := (HXS.out w1 HW1.out).2
    refine (sameL_any x.A x.n x.c x.atts y.A y.n y.c y.atts w1 hx1.att.lies (fun a ha => (hx1.atts a ha).ok) hx1.an (by have := hx1.am; omega) hy1.att.lies (fun a ha => (hy1.atts a ha).ok) hy1.an (by have := hy1.am; omega)).mono ?_
    rintro e w2 ⟨rfl, hb2⟩
    clear a0 a1 a2 a3 a4 a5 c0 c1 c2 c3 c4 c5 hx1 hy1
    have HB2 : Hid (Below w0.heap.size w0 w2) := below_next HB1.out (Nat.le_refl _) hb2
    obtain ⟨⟨a0, a1, a2, a3, a4, a5, c0, c1, c2, c3, c4, c5⟩, hB2⟩ := HV.out w2 HB2.out
    have HW2 := Lib.hid hB2
    clear hb2 hB2
    cases h2 : sameA (x.atts.map AT.ch) (y.atts.map AT.ch) with
    | false =>
      have HR : Hid (x.ch.eqT y.ch = false) := HR1.out.trans (by rw [h2]; rfl)
      clear h2
      go_wp2_with fail
      go_ret
      exact ⟨by rw [HR.out]; rfl, HW2.out⟩
    | true =>
      have HR2 : Hid (x.ch.eqT y.ch = (decide (x.text.ch = y.text.ch) && eqL (chL x.kids) (chL y.kids))) := HR1.out.trans (by rw [h2]; rfl)
      clear h2
      go_wp2_with fail
      refine (same_any x.text y.text w2 (HXS.out w2 HW2.out).1.text.ok (HXS.out w2 HW2.out).2.text.ok).mono ?_
      rintro e w3 ⟨rfl, hb3⟩
      clear a0 a1 a2 a3 a4 a5 c0 c1 c2 c3 c4 c5
      have HB3 : Hid (Below w0.heap.size w0 w3) := below_next HB2.out (Nat.le_refl _) hb3
      obtain ⟨⟨a0, a1, a2, a3, a4, a5, c0, c1, c2, c3, c4, c5⟩, hB3⟩ := HV.out w3 HB3.out
      have HW3 := Lib.hid hB3
      clear hb3 hB3
      have HS3 : Hid (sameB x.text y.text = decide (x.text.ch = y.text.ch)) := sameB_ch _ _
      rw [HS3.out]
      cases h3 : decide (x.text.ch = y.text.ch) with
      | false =>
        have HR : Hid (x.ch.eqT y.ch = false) := HR2.out.trans (by rw [h3]; rfl)
        clear h3 HS3
        go_wp2_with fail
        go_ret
        exact ⟨by rw [HR.out]; rfl, HW3.out⟩
      | true =>
        have HR3 : Hid (x.ch.eqT y.ch = eqL (chL x.kids) (chL y.kids)) := HR2.out.trans (by rw [h3]; rfl)
        clear h3 HS3
        go_wp2_with fail
        refine (HK.out w3 HW3.out).mono ?_
        rintro e w4 ⟨rfl, hb4⟩
        have HW4 : Hid (Below w.heap.size w w4) := below_next HW3.out (Nat.le_refl _) hb4
        clear hb4
        go_wp2_with fail
        go_ret
        exact ⟨by rw [HR3.out]; rfl, HW4.out⟩

set_option maxHeartbeats 1000000 in
set_option maxRecDepth 100000 in
theorem tequal_any : ∀ (Q : List PT) (A : Option Addr) (n c : Nat) (ts : List TT) (B : Option Addr) (m d : Nat) (us : List TT) (w : World), chL ts = Q → TreesAt w A n ts → TreesAt w B m us →
    Calls Try.prog 38 #[.slice A n c, .slice B m d] w fun e w' => e = .returned (.bool (eqL (chL ts) (chL us))) ∧ Below w.heap.size w w' := by
  apply PT.ind
  intro Q IH A n c ts B m d us w hq h1 h2
  have HC := Lib.hid (equalFunc_any A n c ts B m d us w h1 h2 (fun x y w' hx hy hb => equal1_any x y w' ((h1.2.1.keep (Stays.of hb)).get hx) ((h2.2.1.keep (Stays.of hb)).get hy) (fun w'' hb' => by
    have hb2 := below_next hb (Nat.le_refl _) hb'
    have hx2 := (h1.2.1.keep (Stays.of hb2)).get hx
    have hy2 := (h2.2.1.keep (Stays.of hb2)).get hy
    exact IH x.ch (by rw [← hq, chL_map]; exact List.mem_map.2 ⟨x, hx, rfl⟩) x.K x.kn x.kc x.kids y.K y.kn y.kc y.kids w'' (TT.ch_kids x).symm ⟨hx2.kid.lies, (h1.2.1.keep (Stays.of hb2)).kids hx, hx2.kn, hx2.km⟩ ⟨hy2.kid.lies, (h2.2.1.keep (Stays.of hb2)).kids hy, hy2.kn, hy2.km⟩)))
  clear h1 h2 hq IH
  go_enter Try.func38, Try.ntmps38
  go_wp2_with fail
  refine HC.out.mono ?_
  rintro e w1 ⟨rfl, hb1⟩
  have HB1 := Lib.hid hb1
  clear hb1 HC
  go_wp2_with fail
  go_ret
  exact ⟨rfl, HB1.out⟩

/-- what comes in: it lies below, and is not too large -/
structure TreesIn0 (w : World) (A : Option Addr) (n : Nat) (ts : List TT) : Prop where
  lies : LiesS (fun b => b < w.heap.size) w A (treeCells ts)
  all : AllS (fun b => b < w.heap.size) w ts
  len : ts.length = n
  bulk : bkL (chL ts) ≤ 1048576
theorem TreesIn0.next {w w' : World} {A : Option Addr} {n : Nat} {ts : List TT} (h : TreesIn0 w A n ts) (hb : Below w.heap.size w w') : TreesIn0 w' A n ts :=
  ⟨(h.lies.keep (Stays.of hb)).mono fun _ hb2 _ => Nat.lt_of_lt_of_le hb2 hb.size, (h.all.keep (Stays.of hb)).mono fun _ hb2 _ => Nat.lt_of_lt_of_le hb2 hb.size, h.len, h.bulk⟩
theorem TreesIn0.small {w : World} {A : Option Addr} {n : Nat} {ts : List TT} (h : TreesIn0 w A n ts) : n ≤ 1048576 := by
  have h1 := bkL_len (chL ts)
  rw [chL_length, h.len] at h1
  exact Nat.le_trans h1 h.bulk

set_option maxHeartbeats 1000000 in
set_option maxRecDepth 100000 in
theorem merge_any (A : Option Addr) (n c : Nat) (ts : List TT) (w : World) (h : TreesIn0 w A n ts) :
    Calls Try.prog 11 #[.slice A n c] w (TellsT (fun b => w.heap.size ≤ b) (mergeP (chL ts)) w) := by
  have HC := Lib.hid (merged_any asF_fix rfl (chL ts) (fun b => b < w.heap.size) A n c ts w rfl h.bulk h.lies h.all h.len (fun _ h => h))
  rw [mapL_id] at HC
  clear h
  go_enter Try.func11, Try.ntmps11
  go_wp2_with fail
  refine HC.out.mono ?_
  rintro e w1 ⟨A1, c1, us, rfl, h1, h2, h3, hb⟩
  have HFIN : Hid (TellsT (fun b => w.heap.size ≤ b) (mergeP (chL ts)) w (.returned (.slice A1 us.length c1)) w1) := ⟨A1, c1, us, rfl, h1, h2, h3, hb⟩
  clear h1 h2 h3 hb HC
  go_wp2_with fail
  go_ret
  exact HFIN.out
/-- what is told lies well -/
theorem TellsT.at_ {S : Nat → Prop} {w w' : World} {A : Option Addr} {c : Nat} {us : List TT} {Q : List PT} (h1 : w'.ownsRow w.heap.size 45 6 (.slice A us.length c) us.length (treeCells us)) (h2 : AllS S w' us) (h3 : chL us = Q) (hz : Q.length ≤ 1048576) : TreesAt w' A us.length us :=
  ⟨Lies.own h1, h2.mono fun _ _ _ => trivial, rfl, by rw [← h3, chL_length] at hz; exact hz⟩

set_option maxHeartbeats 1000000 in
set_option maxRecDepth 100000 in
theorem tsame_any (A : Option Addr) (n c : Nat) (ts : List TT) (B : Option Addr) (m d : Nat) (us : List TT) (w : World) (h : TreesIn0 w A n ts) (h' : TreesIn0 w B m us) :
    Calls Try.prog 18 #[.slice A n c, .slice B m d] w fun e w' => e = .returned (.bool (eqL (mergeP (chL ts)) (mergeP (chL us)))) ∧ Below w.heap.size w w' := by
  have HA := Lib.hid h
  have HB := Lib.hid h'
  clear h h'
  go_enter Try.func18, Try.ntmps18
  go_wp2_with fail
  refine (merge_any A n c ts w HA.out).mono ?_
  rintro e w1 ⟨A1, c1, xs, rfl, a1, a2, a3, hb1⟩
  have HT1 : Hid (TreesAt w1 A1 xs.length xs) := TellsT.at_ a1 a2 a3 (Nat.le_trans (Nat.le_trans (wtL_len _) (wt_small _)) HA.out.bulk)
  have H3 := Lib.hid a3
  have HB1 := Lib.hid hb1
  clear a1 a2 a3 hb1
  go_wp2_with fail
  refine (merge_any B m d us w1 (HB.out.next HB1.out)).mono ?_
  rintro e w2 ⟨A2, c2, ys, rfl, a1, a2, a3, hb2⟩
  have HT2 : Hid (TreesAt w2 A2 ys.length ys) := TellsT.at_ a1 a2 a3 (Nat.le_trans (Nat.le_trans (wtL_len _) (wt_small _)) HB.out.bulk)
  have H4 := Lib.hid a3
  have HB2 : Hid (Below w.heap.size w w2) := below_next HB1.out (Nat.le_refl _) hb2
  have HE := Lib.hid (tequal_any _ A1 xs.length c1 xs A2 ys.length c2 ys w2 rfl (HT1.out.next hb2) HT2.out)
  clear a1 a2 a3 hb2
  go_wp2_with fail
  refine HE.out.mono ?_
  rintro e w3 ⟨rfl, hb3⟩
  have HB3 : Hid (Below w.heap.size w w3) := below_next HB2.out (Nat.le_refl _) hb3
  clear hb3 HE
  rw [H3.out, H4.out]
  go_wp2_with fail
  go_ret
  exact ⟨rfl, HB3.out⟩

set_option maxHeartbeats 1000000 in
set_option maxRecDepth 100000 in
theorem alike_any (A : Option Addr) (n c : Nat) (ts : List TT) (B : Option Addr) (m d : Nat) (us : List TT) (w : World) (h : TreesIn0 w A n ts) (h' : TreesIn0 w B m us) :
    Calls Try.prog 20 #[.slice A n c, .slice B m d] w fun e w' => e = .returned (.bool (eqL (mapL paleC (mergeP (chL ts))) (mapL paleC (mergeP (chL us))))) ∧ Below w.heap.size w w' := by
  have HA := Lib.hid h
  have HB := Lib.hid h'
  have HML : Hid (∀ L : List PT, (mapL paleC (mergeP L)).length ≤ bkL L) := fun L => by
    rw [mapL_map, List.length_map]
    exact Nat.le_trans (wtL_len _) (wt_small _)
  clear h h'
  go_enter Try.func20, Try.ntmps20
  go_wp2_with fail
  refine (merged_any asF_bare rfl (chL ts) (fun b => b < w.heap.size) A n c ts w rfl HA.out.bulk HA.out.lies HA.out.all HA.out.len (fun _ h => h)).mono ?_
  rintro e w1 ⟨A1, c1, xs, rfl, a1, a2, a3, hb1⟩
  have HT1 : Hid (TreesAt w1 A1 xs.length xs) := TellsT.at_ a1 a2 a3 (Nat.le_trans (HML.out _) HA.out.bulk)
  have H3 := Lib.hid a3
  have HB1 := Lib.hid hb1
  clear a1 a2 a3 hb1
  go_wp2_with fail
  have HBN := Lib.hid (HB.out.next HB1.out)
  refine (merged_any asF_bare rfl (chL us) (fun b => b < w1.heap.size) B m d us w1 rfl HBN.out.bulk HBN.out.lies HBN.out.all HBN.out.len (fun _ h => h)).mono ?_
  rintro e w2 ⟨A2, c2, ys, rfl, a1, a2, a3, hb2⟩
  have HT2 : Hid (TreesAt w2 A2 ys.length ys) := TellsT.at_ a1 a2 a3 (Nat.le_trans (HML.out _) HB.out.bulk)
  have H4 := Lib.hid a3
  have HB2 : Hid (Below w.heap.size w w2) := below_next HB1.out (Nat.le_refl _) hb2
  have HE := Lib.hid (tequal_any _ A1 xs.length c1 xs A2 ys.length c2 ys w2 rfl (HT1.out.next hb2) HT2.out)
  clear a1 a2 a3 hb2
  go_wp2_with fail
  refine HE.out.mono ?_
  rintro e w3 ⟨rfl, hb3⟩
  have HB3 : Hid (Below w.heap.size w w3) := below_next HB2.out (Nat.le_refl _) hb3
  clear hb3 HE
  rw [H3.out, H4.out]
  go_wp2_with fail
  go_ret
  exact ⟨rfl, HB3.out⟩

end Go.Proofs.Ytfebcnndehpklaa.mk

namespace Go.Proofs.Ytfebcnndehpklaa.mk
open Go.RowKit

theorem nodup_len {α : Type} [DecidableEq α] : ∀ (A B : List α), A.Nodup → (∀ x ∈ A, x ∈ B) → A.length ≤ B.length := by
  intro A
  induction A with
  | nil => intro B _ _; exact Nat.zero_le _
  | cons x A ih =>
    intro B hn hs
    rw [List.nodup_cons] at hn
    have hx : x ∈ B := hs x (by simp)
    have h1 := ih (B.erase x) hn.2 fun y hy => (List.mem_erase_of_ne (fun e => hn.1 (by rw [← e]; exact hy))).2 (hs y (List.mem_cons_of_mem _ hy))
    rw [List.length_erase_of_mem hx] at h1
    have := List.length_pos_of_mem hx
    rw [List.length_cons]
    omega
theorem nodup_of_names {A : List PA} (h : (A.map nmB).Nodup) : A.Nodup := List.Pairwise.of_map nmB (fun _ _ h e => h (congrArg nmB e)) h
theorem names_inj {A : List PA} (h : (A.map nmB).Nodup) {p q : PA} (hp : p ∈ A) (hq : q ∈ A) (e : nmB p = nmB q) : p = q := by
  obtain ⟨i, hi⟩ := List.mem_iff_getElem?.1 hp
  obtain ⟨j, hj⟩ := List.mem_iff_getElem?.1 hq
  have h1 := dist_place h hi
  have h2 := dist_place h hj
  rw [e, h2] at h1
  subst h1
  rw [hi] at hj
  injection hj
theorem getA_dist {A : List PA} (h : (A.map nmB).Nodup) {p : PA} (hp : p ∈ A) : getA A (nmB p) = some p := by
  obtain ⟨i, hi⟩ := List.mem_iff_getElem?.1 hp
  unfold getA
  rw [dist_place h hi]
  exact hi
theorem getA_mem {A : List PA} {nm : List UInt8} {p : PA} (h : getA A nm = some p) : p ∈ A := List.mem_of_getElem? h
theorem sameA_dist {A B : List PA} (hA : (A.map nmB).Nodup) (hB : (B.map nmB).Nodup) : sameA A B = true ↔ A.length = B.length ∧ ∀ p ∈ A, p ∈ B := by
  have h0 : sameA A B = true ↔ (∀ x ∈ B, x ∈ A) ∧ (∀ x ∈ A, ∃ y ∈ B, nmB y = nmB x) := by
    unfold sameA
    rw [Bool.and_eq_true, List.isEmpty_iff, List.isEmpty_iff]
    constructor
    · rintro ⟨h1, h2⟩
      constructor
      · intro x hx
        by_cases h : getA A (nmB x) = some x
        · exact getA_mem h
        · have : x ∈ diffP A B := mem_diffP.2 ⟨getA_dist hB hx, h⟩
          rw [h1] at this; cases this
      · intro x hx
        cases h : getA B (nmB x) with
        | some y => exact ⟨y, getA_mem h, getA_nm h⟩
        | none =>
          have : x ∈ diffD A B := mem_diffD.2 ⟨getA_dist hA hx, h⟩
          rw [h2] at this; cases this
    · rintro ⟨h1, h2⟩
      constructor
      · refine List.eq_nil_iff_forall_not_mem.2 fun x hx => ?_
        obtain ⟨h3, h4⟩ := mem_diffP.1 hx
        exact h4 (getA_dist hA (h1 x (getA_mem h3)))
      · refine List.eq_nil_iff_forall_not_mem.2 fun x hx => ?_
        obtain ⟨h3, h4⟩ := mem_diffD.1 hx
        obtain ⟨y, hy, e⟩ := h2 x (getA_mem h3)
        rw [← e, getA_dist hB hy] at h4
        cases h4
  rw [h0]
  constructor
  · rintro ⟨h1, h2⟩
    have h3 : ∀ p ∈ A, p ∈ B := fun p hp => by
      obtain ⟨y, hy, e⟩ := h2 p hp
      rw [← names_inj hA (h1 y hy) hp e]
      exact hy
    exact ⟨Nat.le_antisymm (nodup_len _ _ (nodup_of_names hA) h3) (nodup_len _ _ (nodup_of_names hB) h1), h3⟩
  · rintro ⟨h1, h2⟩
    refine ⟨fun x hx => ?_, fun x hx => ⟨x, h2 x hx, rfl⟩⟩
    by_cases h : x ∈ A
    · exact h
    · exfalso
      have h3 := nodup_len A (B.erase x) (nodup_of_names hA) fun y hy => (List.mem_erase_of_ne (fun e => h (by rw [← e]; exact hy))).2 (h2 y hy)
      rw [List.length_erase_of_mem hx] at h3
      have := List.length_pos_of_mem hx
      omega

mutual
def PT.dist : PT → Prop
  | ⟨_, attrs, kids, _⟩ => (attrs.map nmB).Nodup ∧ distL kids
def distL : List PT → Prop
  | [] => True
  | t :: ts => t.dist ∧ distL ts
end
theorem PT.dist_eq (t : PT) : t.dist ↔ (t.attrs.map nmB).Nodup ∧ distL t.kids := by cases t; rw [PT.dist]
theorem distL_mem {L : List PT} : distL L ↔ ∀ t ∈ L, t.dist := by
  induction L with
  | nil => simp [distL]
  | cons x L ih => rw [distL, ih]; simp
theorem dist_tx (c : Ch) : (txT c).dist := by rw [PT.dist_eq]; exact ⟨List.nodup_nil, by show distL []; rw [distL]; trivial⟩
theorem dist_merge : ∀ L : List PT, distL (mergeP L) := by
  apply PT.ind
  intro L hk
  induction L using snocInd with
  | nil => show distL []; rw [distL]; trivial
  | append_singleton l t ih =>
    have ih' := ih fun y hy => hk y (List.mem_append_left _ hy)
    have hkt := hk t (by simp)
    rw [merge_snoc]
    rw [distL_mem] at ih' ⊢
    by_cases ht : t.tag = []
    · by_cases he : t.text = []
      · rw [addT_no ht he]; exact ih'
      · rcases last_cases (mergeP l) with h | ⟨xs, y, h⟩
        · rw [h, addT_nil ht he]; intro x hx; simp at hx; subst hx; exact dist_tx _
        · rw [h] at ih' ⊢
          by_cases hy : y.tag = []
          · rw [addT_tx ht he _ _ hy]
            intro x hx
            rcases List.mem_append.1 hx with hx | hx
            · exact ih' x (List.mem_append_left _ hx)
            · simp at hx; subst hx; exact dist_tx _
          · rw [addT_far ht he _ _ hy]
            intro x hx
            rcases List.mem_append.1 hx with hx | hx
            · exact ih' x hx
            · simp at hx; subst hx; exact dist_tx _
    · rw [addT_el ht]
      intro x hx
      rcases List.mem_append.1 hx with hx | hx
      · exact ih' x hx
      · simp at hx; subst hx; rw [PT.dist_eq]; exact ⟨once_dist _, hkt⟩

/-- what tells bytes, and origins where they are not pale -/
structure PaleG (pale : Bool) (g : Ch → Ch) : Prop where
  eq : ∀ c d, g c = g d ↔ c.map (·.1) = d.map (·.1) ∧ (pale = true ∨ c = d)
  fst : ∀ c, (g c).map (·.1) = c.map (·.1)
theorem paleG_id : PaleG false id := ⟨fun c d => ⟨fun h => ⟨congrArg _ h, .inr h⟩, fun h => h.2.resolve_left (by decide)⟩, fun _ => rfl⟩
theorem paleG_pale : PaleG true paleC := by
  have h1 : ∀ c : Ch, paleC c = (c.map (·.1)).map fun b => (b, (0 : Int)) := fun c => by unfold paleC; rw [List.map_map]; rfl
  have h2 : ∀ c : Ch, (paleC c).map (·.1) = c.map (·.1) := fun c => by unfold paleC; rw [List.map_map]; rfl
  exact ⟨fun c d => ⟨fun h => ⟨by rw [← h2 c, ← h2 d, h], .inl rfl⟩, fun h => by rw [h1, h1, h.1]⟩, h2⟩

theorem same_node {pale : Bool} {g : Ch → Ch} (hg : PaleG pale g) {A B : List PA} (hA : (A.map nmB).Nodup) (hB : (B.map nmB).Nodup) :
    sameA (A.map (gA g)) (B.map (gA g)) = (A.length == B.length && A.all fun p => B.any fun q => metA pale p q) := by
  have hn : ∀ p : PA, nmB (gA g p) = nmB p := fun p => hg.fst p.1
  have hm : ∀ M : List PA, (M.map (gA g)).map nmB = M.map nmB := fun M => by rw [List.map_map]; exact List.map_congr_left fun p _ => hn p
  have hmet : ∀ p q : PA, metA pale p q = true ↔ gA g p = gA g q := fun p q => by
    unfold metA gA
    simp only [Bool.and_eq_true, Bool.or_eq_true, beq_iff_eq, Prod.mk.injEq, hg.eq]
    constructor
    · rintro ⟨⟨h1, h2⟩, h3⟩
      exact ⟨⟨h1, h3.imp id fun e => by rw [e]⟩, h2, h3.imp id fun e => by rw [e]⟩
    · rintro ⟨⟨h1, h3⟩, h2, h4⟩
      refine ⟨⟨h1, h2⟩, ?_⟩
      rcases h3 with h3 | h3
      · exact .inl h3
      · rcases h4 with h4 | h4
        · exact .inl h4
        · exact .inr (Prod.ext h3 h4)
  rw [Bool.eq_iff_iff, sameA_dist (by rw [hm]; exact hA) (by rw [hm]; exact hB)]
  simp only [Bool.and_eq_true, beq_iff_eq, List.all_eq_true, List.any_eq_true, hmet, List.length_map]
  constructor
  · rintro ⟨h1, h2⟩
    refine ⟨h1, fun p hp => ?_⟩
    obtain ⟨q, hq, e⟩ := List.mem_map.1 (h2 _ (List.mem_map.2 ⟨p, hp, rfl⟩))
    exact ⟨q, hq, e.symm⟩
  · rintro ⟨h1, h2⟩
    refine ⟨h1, fun p' hp' => ?_⟩
    obtain ⟨p, hp, rfl⟩ := List.mem_map.1 hp'
    obtain ⟨q, hq, e⟩ := h2 p hp
    exact List.mem_map.2 ⟨q, hq, e.symm⟩

theorem eq_same {pale : Bool} {g : Ch → Ch} (hg : PaleG pale g) : ∀ a b : List PT, distL a → distL b → eqL (mapL g a) (mapL g b) = sameL pale a b := by
  apply PT.ind (p := fun a => ∀ b, distL a → distL b → eqL (mapL g a) (mapL g b) = sameL pale a b)
  intro a IH
  induction a with
  | nil =>
    intro b _ _
    cases b with
    | nil => rw [mapL, eqL, sameL]
    | cons y b => rw [mapL, mapL, eqL, sameL]
  | cons x a ih =>
    intro b ha hb
    cases b with
    | nil => rw [mapL, mapL, eqL, sameL]
    | cons y b =>
      rw [distL] at ha hb
      rw [mapL, mapL, eqL, sameL, ih (fun t ht => IH t (List.mem_cons_of_mem _ ht)) b ha.2 hb.2]
      congr 1
      have hx := (PT.dist_eq x).1 ha.1
      have hy := (PT.dist_eq y).1 hb.1
      rw [PT.eqT_eq, PT.mapT_eq, PT.mapT_eq, PT.same_eq]
      simp only
      rw [IH x (by simp) y.kids hx.2 hy.2, same_node hg hx.1 hy.1, Bool.eq_iff_iff]
      simp only [Bool.and_eq_true, Bool.or_eq_true, decide_eq_true_eq, beq_iff_eq, hg.eq]
      constructor
      · rintro ⟨⟨h1, h2⟩, ⟨h3, h4⟩, ⟨h5, h6⟩, h7⟩
        refine ⟨⟨⟨⟨⟨h1, h5⟩, h3⟩, h7⟩, ?_⟩, h4⟩
        rcases h2 with h2 | h2
        · exact .inl h2
        · exact h6.imp id fun h6 => ⟨h2, h6⟩
      · rintro ⟨⟨⟨⟨⟨h1, h5⟩, h3⟩, h7⟩, h2⟩, h4⟩
        exact ⟨⟨h1, h2.imp id (·.1)⟩, ⟨h3, h4⟩, ⟨h5, h2.imp id (·.2)⟩, h7⟩

end Go.Proofs.Ytfebcnndehpklaa.mk
