/-
  Words: all texts, in order.
-/
import Derived.Test.YtdiifkmcbnhliaaJoinAK
import Derived.Maps.OwnIn
namespace Go.Proofs.Ytdiifkmcbnhliaa.mk
open Go.RowKit
attribute [local go_sem] Oper.semAt_some wide_fn wide_depth

/-- between two rounds: the texts so far, in a row of the caller's own -/
def WordsI (S : Nat → Prop) (bt : Nat) (w : World) (pre : List (TT × Nat)) (K : Nat → Prop) (W : World) : Prop :=
  ∃ v us, Whole W bt 66 #[v] ∧ W.ownsRow w.heap.size 24 2 v us.length (ltCells us) ∧ (∀ g, v.ownBlock = some g → K g) ∧ (∀ u ∈ us, u.inS (fun b => S b ∨ (K b ∧ b ≠ bt ∧ v.ownBlock ≠ some b)) W) ∧
    us.map LT.ch = pre.map (fun x => x.1.text.ch) ∧ K bt ∧ (∀ b, K b → bt ≤ b) ∧ Moved (fun i => bt ≤ i) w W
theorem wordsI_held {S : Nat → Prop} {bt : Nat} {w : World} (hS : ∀ b, S b → b < w.heap.size) : Held w.heap.size (WordsI S bt w) := by
  rintro pre K W W' ⟨v, us, hw, hown, hg, hus, he, hkb, hkl, hm⟩ hz hmv
  refine ⟨v, us, hmv.whole hw (fun h => h.2 hkb), hmv.own hown (fun g h h2 => h2.2 (hg g h)), hg, fun u hu => (hus u hu).keep (hmv.stays fun i _ h h2 => ?_), he, hkb, hkl, hm.join hmv fun i hi h => by have := h.1; omega⟩
  rcases h with h | h
  · have := hS i h; omega
  · exact h2.2 h.1

theorem words_round {S : Nat → Prop} {bt : Nat} {w W1 W3 w7 : World} {pre : List (TT × Nat)} {K G : Nat → Prop} {x : TT × Nat} {v v' : Value} {us : List LT} {o : Obj} (hb : bt < w.heap.size) (hS : ∀ b, S b → b < w.heap.size ∧ b ≠ bt)
    (hw : Whole W3 bt 66 #[v]) (hown : W3.ownsRow w.heap.size 24 2 v us.length (ltCells us)) (hg : ∀ g, v.ownBlock = some g → K g) (hus : ∀ u ∈ us, u.inS (fun b => S b ∨ (K b ∧ b ≠ bt ∧ v.ownBlock ≠ some b)) W3)
    (he : us.map LT.ch = pre.map (fun x => x.1.text.ch)) (hkb : K bt) (hkl : ∀ b, K b → bt ≤ b) (hm : Moved (fun i => bt ≤ i) w W3) (hG : ∀ b, G b → w.heap.size ≤ b ∧ b < W1.heap.size ∧ ¬ K b) (hz : W1.heap.size ≤ W3.heap.size) (hz1 : w.heap.size ≤ W1.heap.size) (hx : x.1.text.inS (fun b => S b ∨ G b) W3)
    (hown7 : w7.ownsRow w.heap.size 24 2 v' (us.length + 1) (ltCells us ++ [.string x.1.text.s, .slice x.1.text.A x.1.text.n x.1.text.c])) (hgr : (W3.alloc o).grownBy w7 v.ownBlock) (hv' : v'.ownBlock = v.ownBlock ∨ v'.ownBlock = some (W3.alloc o).heap.size) :
    ∃ K', WordsI S bt w (pre ++ [x]) K' (w7.setCell ⟨bt, 0, none⟩ v') ∧ (∀ b, K' b → K b ∨ G b ∨ (W1.heap.size ≤ b ∧ b < w7.heap.size)) ∧ Moved (fun b => K b ∨ G b ∨ W1.heap.size ≤ b) W3 (w7.setCell ⟨bt, 0, none⟩ v') := by
  have hz4 : (W3.alloc o).heap.size = W3.heap.size + 1 := by simp
  have hz7 := hgr.size
  have hm0 : Moved (fun b => v.ownBlock = some b) W3 (W3.alloc o) := Moved.of_below ((Below.refl _ _).alloc (Nat.le_refl _) _)
  have hm7 : Moved (fun b => v.ownBlock = some b) W3 w7 := hm0.join (Y := fun b => v.ownBlock = some b) ⟨hgr.os, hgr.tape, hgr.output, hgr.size, fun i hi hn => hgr.block i hi (fun e => hn e.symm)⟩ (fun i _ h => h)
  have hlt := hown.lt
  have hmv : Moved (fun b => b = bt ∨ v.ownBlock = some b) W3 (w7.setCell ⟨bt, 0, none⟩ v') :=
    (hm7.mono (fun i _ h => .inr h)).join (Moved.setCell (S := fun b => b = bt) (Moved.refl _ _) (p := ⟨bt, 0, none⟩) rfl v') fun i _ h => .inl h
  have hw7 : Whole w7 bt 66 #[v] := hm7.whole hw (fun h => by have := (hlt _ h).1; omega)
  have hv2 : ∀ g, v'.ownBlock = some g → v.ownBlock = some g ∨ g = W3.heap.size + 1 := fun g h => by
    rcases hv' with e | e
    · exact .inl (e ▸ h)
    · rw [e] at h; injection h with h; exact .inr (by omega)
  have hlt7 := hown7.lt
  refine ⟨fun b => K b ∨ G b ∨ (W1.heap.size ≤ b ∧ b < w7.heap.size), ⟨v', us ++ [x.1.text], hw7.put 0 v', ?_, ?_, ?_, ?_, .inl hkb, ?_, ?_⟩, fun b h => h, hmv.mono ?_⟩
  · rw [List.length_append, List.length_singleton, show ltCells (us ++ [x.1.text]) = _ from ltCells_snoc _ _]
    exact own_far hown7 _ (fun h => by have h3 : w.heap.size ≤ bt := (hlt7 _ h).1; omega) _
  · intro g h
    rcases hv2 g h with h | h
    · exact .inl (hg g h)
    · exact .inr (.inr ⟨by omega, (hlt7 g (by assumption)).2⟩)
  · intro u hu
    have key : ∀ (T : Nat → Prop), u.inS T W3 → (∀ b, T b → b < W3.heap.size → S b ∨ ((K b ∨ G b ∨ (W1.heap.size ≤ b ∧ b < w7.heap.size)) ∧ b ≠ bt ∧ v.ownBlock ≠ some b)) → (∀ b, S b → b ≠ bt ∧ v.ownBlock ≠ some b) → u.inS (fun b => S b ∨ ((K b ∨ G b ∨ (W1.heap.size ≤ b ∧ b < w7.heap.size)) ∧ b ≠ bt ∧ v'.ownBlock ≠ some b)) (w7.setCell ⟨bt, 0, none⟩ v') := by
      intro T hT h1 h2
      have hT' : u.inS (fun b => b < W3.heap.size ∧ (S b ∨ ((K b ∨ G b ∨ (W1.heap.size ≤ b ∧ b < w7.heap.size)) ∧ b ≠ bt ∧ v.ownBlock ≠ some b))) W3 := hT.mono fun b hb hl => ⟨hl, h1 b hb hl⟩
      refine (hT'.keep (hmv.stays fun i _ h h3 => ?_)).mono fun b h _ => ?_
      · rcases h.2 with h | h
        · rcases h3 with h3 | h3
          · exact (h2 i h).1 h3
          · exact (h2 i h).2 h3
        · rcases h3 with h3 | h3
          · exact h.2.1 h3
          · exact h.2.2 h3
      · refine h.2.imp id fun h4 => ⟨h4.1, h4.2.1, fun h5 => ?_⟩
        rcases hv2 b h5 with h6 | h6
        · exact h4.2.2 h6
        · have := h.1; omega
    have hSn : ∀ b, S b → b ≠ bt ∧ v.ownBlock ≠ some b := fun b h => ⟨(hS b h).2, fun h2 => by have := (hlt b h2).1; have := (hS b h).1; omega⟩
    rcases List.mem_append.1 hu with hu | hu
    · exact key _ (hus u hu) (fun b h _ => h.imp id fun h => ⟨.inl h.1, h.2⟩) hSn
    · obtain rfl := List.mem_singleton.1 hu
      refine key _ hx (fun b h _ => h.imp id fun h => ⟨.inr (.inl h), by have := (hG b h).1; omega, fun h2 => (hG b h).2.2 (hg b h2)⟩) hSn
  · rw [List.map_append, List.map_append, he]; rfl
  · rintro b (h | h | h)
    · exact hkl b h
    · have := (hG b h).1; omega
    · omega
  · exact hm.join hmv fun i hi h => by
      rcases h with h | h
      · exact (by omega : bt ≤ i)
      · have := (hlt i h).1; exact (by omega : bt ≤ i)
  · rintro i _ (h | h)
    · exact .inl (h ▸ hkb)
    · exact .inl (hg i h)

theorem found_text (Q : List PT) : ((flatL (mergeP Q) 0).filter isTx).flatMap (fun x => x.2.1) = wordsL (mergeP Q) := found_words Q
theorem words_small (Q : List PT) : (wordsL (mergeP Q)).length ≤ bkL Q := Nat.le_trans (bk_words _) (bk_merge _)
theorem flat_small (Q : List PT) (p : Found → Bool) : ((flatL (mergeP Q) 0).filter p).length ≤ bkL Q := by
  have h1 := List.length_filter_le p (flatL (mergeP Q) 0)
  rw [flat_wt] at h1
  exact Nat.le_trans h1 (wt_small Q)
theorem info_words (xs : List (TT × Nat)) : (xs.map fun x => x.1.text.ch).flatten = (xs.map infoF).flatMap (fun x => x.2.1) := by
  induction xs with
  | nil => rfl
  | cons x xs ih => rw [List.map_cons, List.flatten_cons, ih, List.map_cons, List.flatMap_cons]; rfl
theorem catCh_map (us : List LT) : catCh us = (us.map LT.ch).flatten := by unfold catCh; rw [List.flatMap_def]

set_option maxHeartbeats 2000000 in
set_option maxRecDepth 100000 in
theorem words_any {S : Nat → Prop} (A : Option Addr) (n c : Nat) (ts : List TT) (w : World) (hl : LiesS S w A (treeCells ts)) (hok : AllS S w ts) (hn : ts.length = n) (hS : ∀ b, S b → b < w.heap.size) (hbk : bkL (chL ts) ≤ 1048576) :
    Calls Try.prog 23 #[.slice A n c] w (Tells (txtOf (wordsL (mergeP (chL ts)))) (comp ((wordsL (mergeP (chL ts))).map (·.2))) w) := by
  obtain ⟨i0, hi, hiz0, hiz1, hiz2⟩ := info_parts strT_info
  have HL := Lib.hid hl
  have HOK := Lib.hid hok
  have HN := Lib.hid hn
  have HS := Lib.hid hS
  have HBK := Lib.hid hbk
  clear hl hok hn hS hbk
  refine callsIn_wide.1 (callsIn_of_wp_marks (n := 1) Try.func23 rfl trivial ?_ rfl)
  simp only [Try.ntmps23, List.size_toArray, List.length_cons, List.length_nil, Nat.reduceAdd, Nat.reduceSub, Array.replicate_succ, Array.replicate_zero, List.push_toArray, List.append_toArray, List.nil_append, List.cons_append]
  generalize hw3 : (w.alloc (.cells #[.string ⟨#[]⟩, .slice none 0 0] 24)).alloc (.cells #[.slice none 0 0] 66) = w3
  have hz3 : w3.heap.size = w.heap.size + 2 := by rw [← hw3]; simp
  have hb3 : Below w.heap.size w w3 := by rw [← hw3]; exact ((Below.refl _ _).alloc (Nat.le_refl _) _).alloc (by simp) _
  have y2 : Whole w3 w.heap.size 24 #[.string ⟨#[]⟩, .slice none 0 0] := by rw [← hw3]; exact (Whole.made w _ _).alloc _
  have y3 : Whole w3 (w.heap.size + 1) 66 #[.slice none 0 0] := by
    rw [← hw3]
    have h := Whole.made (w.alloc (.cells #[.string ⟨#[]⟩, .slice none 0 0] 24)) 66 #[.slice none 0 0]
    simp only [World.size_alloc] at h
    exact h
  have HZ3 := Lib.hid hz3
  gi_wp2_with fail
  refine callsIn_wide.2 ((found_any A n c 42 w3).mono ?_)
  rintro e w4 ⟨rfl, hcl, hcw, hz4, hb4⟩
  have HY2 := Lib.hid (y2.below hb4 y2.lt)
  have HY := Lib.hid (y3.below hb4 y3.lt)
  have HB4 : Hid (Below w.heap.size w w4) := below_next hb3 (Nat.le_refl _) hb4
  have hst4 : Stays S w w4 := Stays.of HB4.out
  rw [hz3] at hcl hcw hz4
  have HZ4 : Hid (w4.heap.size = w.heap.size + 4) := hz4
  have HCL := Lib.hid hcl
  have HCW := Lib.hid hcw
  have HL4 := Lib.hid ((HL.out.keep hst4).mono (S' := fun b => S b ∨ b = w.heap.size + 3) fun _ h _ => .inl h)
  have HO4 := Lib.hid ((HOK.out.keep hst4).mono (S' := fun b => S b ∨ b = w.heap.size + 3) fun _ h _ => .inl h)
  clear hw3 hb3 hb4 y2 y3 hcl hcw hst4 hz4
  gi_wp2_with fail
  have hz4 := HZ4.out
  refine range_law (gf := 60) (lb := #[.pointer (some ⟨w.heap.size + 2, 0, none⟩), .pointer (some ⟨w.heap.size + 3, 0, none⟩)]) (encs := encF) (Sh := fun x => ShT (fun b => S b ∨ b = w.heap.size + 3) x.1) (okp := fun pre => pre.map infoF <+: (flatL (mergeP (chL ts)) 0).filter isTx) (done := fun xs => xs.map infoF = (flatL (mergeP (chL ts)) 0).filter isTx) (S := fun b => S b ∨ b = w.heap.size + 3)
    rfl (fun _ _ => rfl) ?gives (fun _ => rfl) (WordsI (fun b => S b ∨ b = w.heap.size + 3) (w.heap.size + 1) w4) (fun b => b = w.heap.size + 1) (fun b hb => ?hS) (fun b hb => ?hK0) (wordsI_held (fun b hb => by rcases hb with h | h; have := HS.out b h; omega; omega)) ?h0 ?round ?done
  case gives =>
    intro W' hb
    have hst : Stays (fun b => S b ∨ b = w.heap.size + 3) w4 W' := Stays.of hb
    exact found_gives wants_text (fun x => by unfold isTx elB infoF; simp) ((hb.cell (p := ⟨w.heap.size + 2, 0, none⟩) (by show w.heap.size + 2 < _; omega)).trans HCL.out) ((hb.cell (p := ⟨w.heap.size + 3, 0, none⟩) (by show w.heap.size + 3 < _; omega)).trans HCW.out) (.inr rfl) (HL4.out.keep hst) (HO4.out.keep hst) HN.out
      (fun b h => by have := hb.size; rcases h with h | h; have := HS.out b h; omega; omega) HBK.out
  case hS => rcases hb with h | h; have := HS.out b h; omega; omega
  case hK0 => subst hb; exact ⟨by omega, fun h => by rcases h with h | h; have := HS.out _ h; omega; omega⟩
  case h0 => exact ⟨_, [], HY.out, World.ownsRow_nil _ _ _ _, (fun g h => by cases h), (fun u hu => by cases hu), rfl, rfl, (fun b h => by omega), Moved.refl _ _⟩
  case round =>
    rintro l pre K G x W1 ⟨v, us, hy, hown, hg, hus, he, hkb, hkl, hm⟩ hsh hokx hl1 hl2 hkl2 hgl hks hG
    have hzb : us.length ≤ 1048576 := by
      have h1 := hokx.length_le
      rw [List.map_append, List.length_append, List.length_map] at h1
      have h2 := congrArg List.length he
      rw [List.length_map, List.length_map] at h2
      have h3 := flat_small (chL ts) isTx
      have := HBK.out
      omega
    unfold encF
    generalize hw2 : W1.alloc (.cells #[.string x.1.tag.s, .slice x.1.tag.A x.1.tag.n x.1.tag.c, .slice x.1.A x.1.n x.1.c, .slice x.1.K x.1.kn x.1.kc, .string x.1.text.s, .slice x.1.text.A x.1.text.n x.1.text.c] 71) = W2
    have y2 : Whole W2 W1.heap.size 71 #[.string x.1.tag.s, .slice x.1.tag.A x.1.tag.n x.1.tag.c, .slice x.1.A x.1.n x.1.c, .slice x.1.K x.1.kn x.1.kc, .string x.1.text.s, .slice x.1.text.A x.1.text.n x.1.text.c] := by rw [← hw2]; exact Whole.made _ _ _
    have hb2 : Below W1.heap.size W1 W2 := by rw [← hw2]; exact (Below.refl _ _).alloc (Nat.le_refl _) _
    have HSX := Lib.hid hsh.1.text
    have HG := Lib.hid hG
    have HY1 := Lib.hid hy
    have HOW := Lib.hid hown
    have HGV := Lib.hid hg
    have HUS := Lib.hid hus
    have HE1 := Lib.hid he
    have HKB := Lib.hid hkb
    have HKL := Lib.hid hkl
    have HM := Lib.hid hm
    clear hy hown hg hus he hkb hkl hm hsh hokx hks hG
    gi_wp2_with fail
    intro W3 hm3
    have hz2 := y2.lt
    have hz3 := hm3.size
    have hz41 : w4.heap.size ≤ W1.heap.size := HM.out.size
    have hm13 : Moved (fun b => b = l) W1 W3 := (Moved.of_below hb2).join hm3 fun _ _ h => h
    have z3 := hm3.whole y2 (fun h => by omega)
    have e4 : W3.cell? ⟨W1.heap.size, 4, none⟩ = some (.string x.1.text.s) := z3.at_ 4
    have e5 : W3.cell? ⟨W1.heap.size, 5, none⟩ = some (.slice x.1.text.A x.1.text.n x.1.text.c) := z3.at_ 5
    have HY3 := Lib.hid (hm13.whole HY1.out (fun h => by omega))
    have hown3 := hm13.own HOW.out (fun g hg h => hkl2 (h ▸ HGV.out g hg))
    have hst : ∀ T : Nat → Prop, (∀ i, T i → (S i ∨ i = w.heap.size + 3) ∨ K i ∨ G i) → Stays T W1 W3 := fun T hT => hm13.stays fun i _ hi h => by
      subst h
      rcases hT i hi with (h | h) | h | h
      · have := HS.out i h; omega
      · omega
      · exact hkl2 h
      · exact hgl h
    have HUS3 : Hid (∀ u ∈ us, u.inS (fun b => (S b ∨ b = w.heap.size + 3) ∨ (K b ∧ b ≠ w.heap.size + 1 ∧ v.ownBlock ≠ some b)) W3) := fun u hu => (HUS.out u hu).keep (hst _ fun i h => h.imp id fun h => .inl h.1)
    have HX3 : Hid (x.1.text.inS (fun b => (S b ∨ b = w.heap.size + 3) ∨ G b) W3) := HSX.out.keep (hst _ fun i h => h.imp id .inr)
    have HM3 : Hid (Moved (fun i => w.heap.size + 1 ≤ i) w4 W3) := HM.out.join hm13 fun i hi h => by omega
    clear hm3 hm13 hb2 y2 hw2 z3 hst
    have HRND : Hid (∀ (v' : Value) (w7 : World) (o : Obj), w7.ownsRow w4.heap.size 24 2 v' (us.length + 1) (ltCells us ++ [.string x.1.text.s, .slice x.1.text.A x.1.text.n x.1.text.c]) → (W3.alloc o).grownBy w7 v.ownBlock → (v'.ownBlock = v.ownBlock ∨ v'.ownBlock = some (W3.alloc o).heap.size) →
        ∃ K', WordsI (fun b => S b ∨ b = w.heap.size + 3) (w.heap.size + 1) w4 (pre ++ [x]) K' (w7.setCell ⟨w.heap.size + 1, 0, none⟩ v') ∧ (∀ b, K' b → K b ∨ G b ∨ (W1.heap.size ≤ b ∧ b < w7.heap.size)) ∧ Moved (fun b => K b ∨ G b ∨ W1.heap.size ≤ b) W3 (w7.setCell ⟨w.heap.size + 1, 0, none⟩ v')) :=
      fun v' w7 o h1 h2 h3 => words_round (by omega) (fun b hb => by rcases hb with h | h; have := HS.out b h; exact ⟨by omega, by omega⟩; exact ⟨by omega, by omega⟩) HY3.out hown3 HGV.out HUS3.out HE1.out HKB.out HKL.out HM3.out HG.out (by omega) hz41 HX3.out h1 h2 h3
    obtain ⟨A5, c5, rfl, _, _, _⟩ := own_form hown3
    have c3 : W3.cell? ⟨w.heap.size + 1, 0, none⟩ = some (.slice A5 us.length c5) := HY3.out.at_ 0
    have hbl : ∀ g, (Value.slice A5 us.length c5).ownBlock = some g → w4.heap.size ≤ g := fun g h => (hown3.lt g h).1
    have HBL := Lib.hid hbl
    have HY3' := HY3
    generalize hzu : us.length = z at *
    clear hzu hbl
    gi_wp2_with (gi_at_builtin; refine wpListIn_append_own_at _ rfl _ _ 66 rfl w4.heap.size 24 i0 _ 2 40 Try.underlying66 hi hiz0 hiz1 hiz2 rfl (by decide) (.slice A5 z c5) z _ rfl (hown3.alloc _) ⟨W3.heap.size, 0, none⟩ 1 1 [.string x.1.text.s, .slice x.1.text.A x.1.text.n x.1.text.c] rfl rfl (cells_new W3 _ _) (by simp [Value.oneCell']) (by simp only [maxLen]; omega) (by omega) (by simp; omega) ?_)
    intro v' w7 hown7 hgrow _ hv'
    have HR7 := Lib.hid (HRND.out v' w7 _ (by rw [hz4]; exact hown7) hgrow (by rw [World.size_alloc]; exact hv'))
    obtain ⟨A7, d7, rfl, _, _, _⟩ := own_form hown7
    have y7 : Whole w7 (w.heap.size + 1) 66 #[.slice A5 z c5] := (HY3'.out.alloc _).grown hgrow (fun h => by have := HBL.out _ h.symm; omega)
    have c7 : w7.cell? ⟨w.heap.size + 1, 0, none⟩ = some (.slice A5 z c5) := y7.at_ 0
    have f7 : w7.frozen? ⟨w.heap.size + 1, 0, none⟩ = false := y7.free 0
    clear hgrow hown7 hown3 hv' HRND y7 c3 e4 e5
    gi_wp2_with fail
    exact HR7.out
  case done =>
    rintro D xs K W1 hD hdx ⟨v, us, hy, hown, hg, hus, he, hkb, hkl, hm⟩ hKD hdef
    have hz41 : w4.heap.size ≤ W1.heap.size := hm.size
    have hcat : catCh us = wordsL (mergeP (chL ts)) := by
      rw [catCh_map, he, info_words, show xs.map infoF = (flatL (mergeP (chL ts)) 0).filter isTx from hdx, found_text]
    have hzb : us.length ≤ 1048576 := by
      have h1 := congrArg List.length hdx
      rw [List.length_map] at h1
      have h2 := congrArg List.length he
      rw [List.length_map, List.length_map] at h2
      have h3 := flat_small (chL ts) isTx
      have := HBK.out
      omega
    have hsm := words_small (chL ts)
    have hbq := HBK.out
    obtain ⟨A5, c5, rfl, _, _, _⟩ := own_form hown
    have hcall := Lib.hid (catl_any us A5 us.length c5 W1 (Lies.own hown) rfl (by omega) (fun u hu => (hus u hu).ok) (by rw [hcat]; omega))
    have z2 := hm.whole HY2.out (fun h => by omega)
    have c3 : W1.cell? ⟨w.heap.size + 1, 0, none⟩ = some (.slice A5 us.length c5) := hy.at_ 0
    have HM := Lib.hid hm
    have HD := Lib.hid hdef
    have HCAT := Lib.hid hcat
    clear hown hg hus he hkb hkl hm hKD hdef hdx hcat hzb hsm hbq
    gi_wp2_with fail
    refine callsIn_wide.2 (hcall.out.mono ?_)
    rintro e W2 ⟨vv, rfl, hown2, hb2⟩
    rw [HCAT.out] at hown2
    obtain ⟨A2, c2, rfl, _, _, _⟩ := own_form hown2
    have HSS : Hid (txtOf (catCh us) = txtOf (wordsL (mergeP (chL ts)))) := by rw [HCAT.out]; rfl
    rw [HSS.out]
    have HOWN2 := Lib.hid hown2
    clear hown2
    generalize hln : (comp ((wordsL (mergeP (chL ts))).map (·.2))).length = ln at *
    generalize htx : txtOf (wordsL (mergeP (chL ts))) = tx at *
    have z2' := z2.below hb2 z2.lt
    have q0 : W2.cell? ⟨w.heap.size, 0, none⟩ = some (.string ⟨#[]⟩) := z2'.at_ 0
    have q1 : W2.cell? ⟨w.heap.size, 1, none⟩ = some (.slice none 0 0) := z2'.at_ 1
    have q2 : W2.frozen? ⟨w.heap.size, 0, none⟩ = false := z2'.free 0
    have q3 : W2.frozen? ⟨w.heap.size, 1, none⟩ = false := z2'.free 1
    have hdl : D < W1.heap.size := (Array.getElem?_eq_some_iff.1 HD.out).1
    have hz12 := hb2.size
    obtain ⟨V, hV⟩ : ∃ V, ((W2.setCell ⟨w.heap.size, 0, none⟩ (.string tx)).setCell ⟨w.heap.size, 1, none⟩ (.slice A2 ln c2)).putObj D (.deferred none) = V := ⟨_, rfl⟩
    have hD2 : ((W2.setCell ⟨w.heap.size, 0, none⟩ (.string tx)).setCell ⟨w.heap.size, 1, none⟩ (.slice A2 ln c2)).heap[D]? = some (.deferred (some [])) :=
      (Below.heap_setCell _ _ _ _ (by show D ≠ w.heap.size; omega)).trans ((Below.heap_setCell _ _ _ _ (by show D ≠ w.heap.size; omega)).trans ((hb2.block _ hdl).trans HD.out))
    have zV : Whole V w.heap.size 24 #[.string tx, .slice A2 ln c2] := by
      rw [← hV]
      exact ((z2'.put 0 (.string tx)).put 1 (.slice A2 ln c2)).same (World.putObj_heap_other (by omega))
    have cV0 : V.cell? ⟨w.heap.size, 0, none⟩ = some (.string tx) := zV.at_ 0
    have cV1 : V.cell? ⟨w.heap.size, 1, none⟩ = some (.slice A2 ln c2) := zV.at_ 1
    have hmV : Moved (fun b => b = w.heap.size ∨ b = D) W2 V := by
      rw [← hV]
      exact (((Moved.refl _ W2).setCell (p := ⟨w.heap.size, 0, none⟩) (S := fun b => b = w.heap.size ∨ b = D) (.inl rfl) _).setCell (p := ⟨w.heap.size, 1, none⟩) (.inl rfl) _).join (Moved.putObj _ _ _) fun _ _ h => .inr h
    have HFIN : Hid (Tells tx (comp ((wordsL (mergeP (chL ts))).map (·.2))) w (.returned (.agg #[.string tx, .slice A2 ln c2])) V) := by
      refine ⟨_, rfl, ?_, ?_⟩
      · rw [hln]
        have h1 : w.heap.size + 1 ≤ W1.heap.size := by omega
        refine own_mono (base := W1.heap.size) (hmV.own HOWN2.out fun g hg h => ?_) (by omega)
        have := (HOWN2.out.lt g hg).1
        omega
      · refine Moved.below (S := fun b => w.heap.size ≤ b) ?_ (Nat.le_refl _) (fun k hk h => by omega)
        exact (((Moved.of_below HB4.out).join HM.out fun i hi h => by omega).join (Moved.of_below (S := fun _ => False) hb2) fun i hi h => h.elim).join hmV fun i hi h => by omega
    have HD2 := Lib.hid hD2
    clear z2 z2' zV hmV hD2
    gi_wp2_with fail
    refine marks_out rfl HD2.out ?_
    rw [hV]
    refine ⟨.agg #[.string tx, .slice A2 ln c2], ?_, by have h := HFIN.out; rw [← htx] at h ⊢; exact h⟩
    simp [results, Try.results23, go_sem, *]

end Go.Proofs.Ytdiifkmcbnhliaa.mk
