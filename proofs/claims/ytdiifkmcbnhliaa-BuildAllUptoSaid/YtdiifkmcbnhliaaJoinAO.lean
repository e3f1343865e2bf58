/-
  Tags: all elements' tags, in order.
-/
import Derived.Test.YtdiifkmcbnhliaaJoinAL
import Derived.Test.YtdiifkmcbnhliaaJoinAA
import Derived.Test.YtdiifkmcbnhliaaJoinG
import Derived.Deep.RegionHeld3
namespace Go.Proofs.Ytdiifkmcbnhliaa.mk
open Go.RowKit
attribute [local go_sem] Oper.semAt_some wide_fn wide_depth

/-- between two rounds: the tags so far, in a row of the caller's own -/
def TagsI (bt : Nat) (w : World) (pre : List (TT × Nat)) (K : Nat → Prop) (W : World) : Prop :=
  ∃ v ns, Whole W bt 41 #[v] ∧ W.ownsRow w.heap.size 9 1 v ns.length (txCells ns) ∧ (∀ g, v.ownBlock = some g → K g) ∧ ns = pre.map (fun x => x.1.tag.s) ∧ K bt ∧ (∀ b, K b → bt ≤ b) ∧ Moved (fun i => bt ≤ i) w W
theorem tagsI_held {bt : Nat} {w : World} : Held w.heap.size (TagsI bt w) := by
  rintro pre K W W' ⟨v, ns, hw, hown, hg, he, hkb, hkl, hm⟩ hz hmv
  exact ⟨v, ns, hmv.whole hw (fun h => h.2 hkb), hmv.own hown (fun g h h2 => h2.2 (hg g h)), hg, he, hkb, hkl, hm.join hmv fun i hi h => by have := h.1; omega⟩
theorem txCells_snoc (ns : List ByteArray) (s : ByteArray) : txCells (ns ++ [s]) = txCells ns ++ [.string s] := by simp [txCells]

theorem tags_round {bt : Nat} {w W1 W3 w5 w7 : World} {pre : List (TT × Nat)} {K G : Nat → Prop} {x : TT × Nat} {v v' : Value} {ns : List ByteArray} {o : Obj} (hb : bt < w.heap.size)
    (hw : Whole W3 bt 41 #[v]) (hown : W3.ownsRow w.heap.size 9 1 v ns.length (txCells ns)) (hg : ∀ g, v.ownBlock = some g → K g)
    (he : ns = pre.map (fun x => x.1.tag.s)) (hkb : K bt) (hkl : ∀ b, K b → bt ≤ b) (hm : Moved (fun i => bt ≤ i) w W3) (hz : W1.heap.size ≤ W3.heap.size) (hz1 : w.heap.size ≤ W1.heap.size) (hb5 : Below W3.heap.size W3 w5)
    (hown7 : w7.ownsRow w.heap.size 9 1 v' (ns.length + 1) (txCells ns ++ [.string x.1.tag.s])) (hgr : (w5.alloc o).grownBy w7 v.ownBlock) (hv' : v'.ownBlock = v.ownBlock ∨ v'.ownBlock = some (w5.alloc o).heap.size) :
    ∃ K', TagsI bt w (pre ++ [x]) K' (w7.setCell ⟨bt, 0, none⟩ v') ∧ (∀ b, K' b → K b ∨ G b ∨ (W1.heap.size ≤ b ∧ b < w7.heap.size)) ∧ Moved (fun b => K b ∨ G b ∨ W1.heap.size ≤ b) W3 (w7.setCell ⟨bt, 0, none⟩ v') := by
  have hz4 : (w5.alloc o).heap.size = w5.heap.size + 1 := by simp
  have hz5 := hb5.size
  have hz7 := hgr.size
  have hm0 : Moved (fun b => v.ownBlock = some b) W3 (w5.alloc o) := Moved.of_below (hb5.alloc hz5 o)
  have hm7 : Moved (fun b => v.ownBlock = some b) W3 w7 := hm0.join (Y := fun b => v.ownBlock = some b) ⟨hgr.os, hgr.tape, hgr.output, hgr.size, fun i hi hn => hgr.block i hi (fun e => hn e.symm)⟩ (fun i _ h => h)
  have hlt := hown.lt
  have hmv : Moved (fun b => b = bt ∨ v.ownBlock = some b) W3 (w7.setCell ⟨bt, 0, none⟩ v') :=
    (hm7.mono (fun i _ h => .inr h)).join (Moved.setCell (S := fun b => b = bt) (Moved.refl _ _) (p := ⟨bt, 0, none⟩) rfl v') fun i _ h => .inl h
  have hw7 : Whole w7 bt 41 #[v] := hm7.whole hw (fun h => by have := (hlt _ h).1; omega)
  have hlt7 := hown7.lt
  refine ⟨fun b => K b ∨ (W1.heap.size ≤ b ∧ b < w7.heap.size), ⟨v', ns ++ [x.1.tag.s], hw7.put 0 v', ?_, ?_, ?_, .inl hkb, ?_, ?_⟩, fun b h => h.imp id .inr, hmv.mono ?_⟩
  · rw [List.length_append, List.length_singleton, txCells_snoc]
    exact own_far hown7 _ (fun h => by have h3 : w.heap.size ≤ bt := (hlt7 _ h).1; omega) _
  · intro g h
    rcases hv' with e | e
    · exact .inl (hg g (e ▸ h))
    · have h2 := h
      rw [e] at h; injection h with h
      exact .inr ⟨by omega, (hlt7 g h2).2⟩
  · rw [List.map_append, ← he]; rfl
  · rintro b (h | h)
    · exact hkl b h
    · omega
  · exact hm.join hmv fun i hi h => by
      rcases h with h | h
      · exact (by omega : bt ≤ i)
      · have := (hlt i h).1; exact (by omega : bt ≤ i)
  · rintro i _ (h | h)
    · exact .inl (h ▸ hkb)
    · exact .inl (hg i h)

theorem lies_new (w : World) (t : TypeId) (cs : List Value) : Lies (w.alloc (.cells cs.toArray t)) (w.heap.size + 1) (some ⟨w.heap.size, 0, none⟩) cs := fun j u h => ⟨_, rfl, Nat.lt_succ_self _, cells_new w t cs j u h⟩
theorem lets_inBlock {id : Nat} {Q : Exit → Act → World → Prop} (h : ∀ a w, ¬ Q .outgrown a w) : ¬ LetsOut (Exit.inBlock id Q) := by
  rintro ⟨a, w, h2⟩
  exact h a w h2

set_option maxHeartbeats 2000000 in
set_option maxRecDepth 100000 in
theorem tags_any {S : Nat → Prop} (A : Option Addr) (n c : Nat) (ts : List TT) (w : World) (hl : LiesS S w A (treeCells ts)) (hok : AllS S w ts) (hn : ts.length = n) (hS : ∀ b, S b → b < w.heap.size) (hbk : bkL (chL ts) ≤ 1048576) :
    Calls Try.prog 25 #[.slice A n c] w fun e w' => ∃ A' c' ns, e = .returned (.slice A' ns.length c') ∧ w'.ownsRow w.heap.size 9 1 (.slice A' ns.length c') ns.length (txCells ns) ∧ ns.map (fun s => s.data.toList) = tagsL (mergeP (chL ts)) ∧ Below w.heap.size w w' := by
  obtain ⟨i0, hi, hiz0, hiz1, hiz2⟩ := info_parts string_info
  have HL := Lib.hid hl
  have HOK := Lib.hid hok
  have HN := Lib.hid hn
  have HS := Lib.hid hS
  have HBK := Lib.hid hbk
  clear hl hok hn hS hbk
  refine callsIn_wide.1 (callsIn_of_wp_marks (n := 1) Try.func25 rfl trivial ?_ rfl)
  simp only [Try.ntmps25, List.size_toArray, List.length_cons, List.length_nil, Nat.reduceAdd, Nat.reduceSub, Array.replicate_succ, Array.replicate_zero, List.push_toArray, List.append_toArray, List.nil_append, List.cons_append]
  generalize hw3 : w.alloc (.cells #[.slice none 0 0] 41) = w3
  have hz3 : w3.heap.size = w.heap.size + 1 := by rw [← hw3]; simp
  have hb3 : Below w.heap.size w w3 := by rw [← hw3]; exact (Below.refl _ _).alloc (Nat.le_refl _) _
  have y3 : Whole w3 w.heap.size 41 #[.slice none 0 0] := by rw [← hw3]; exact Whole.made w _ _
  gi_wp2_with fail
  refine callsIn_wide.2 ((found_any A n c 43 w3).mono ?_)
  rintro e w4 ⟨rfl, hcl, hcw, hz4, hb4⟩
  have HY := Lib.hid (y3.below hb4 y3.lt)
  have HB4 : Hid (Below w.heap.size w w4) := below_next hb3 (Nat.le_refl _) hb4
  have hst4 : Stays S w w4 := Stays.of HB4.out
  rw [hz3] at hcl hcw hz4
  have HZ4 : Hid (w4.heap.size = w.heap.size + 3) := hz4
  have HCL := Lib.hid hcl
  have HCW := Lib.hid hcw
  have HL4 := Lib.hid ((HL.out.keep hst4).mono (S' := fun b => S b ∨ b = w.heap.size + 2) fun _ h _ => .inl h)
  have HO4 := Lib.hid ((HOK.out.keep hst4).mono (S' := fun b => S b ∨ b = w.heap.size + 2) fun _ h _ => .inl h)
  clear hw3 hb3 hb4 y3 hcl hcw hst4 hz4
  gi_wp2_with fail
  have hz4 := HZ4.out
  refine range_law (gf := 60) (lb := #[.pointer (some ⟨w.heap.size + 1, 0, none⟩), .pointer (some ⟨w.heap.size + 2, 0, none⟩)]) (encs := encF) (Sh := fun x => ShT (fun b => S b ∨ b = w.heap.size + 2) x.1) (okp := fun pre => pre.map infoF <+: (flatL (mergeP (chL ts)) 0).filter isEl) (done := fun xs => xs.map infoF = (flatL (mergeP (chL ts)) 0).filter isEl) (S := fun b => S b ∨ b = w.heap.size + 2)
    rfl (fun _ _ => rfl) ?gives (fun _ => rfl) (TagsI w.heap.size w4) (fun b => b = w.heap.size) (fun b hb => ?hS) (fun b hb => ?hK0) tagsI_held ?h0 ?round ?done
  case gives =>
    intro W' hb
    have hst : Stays (fun b => S b ∨ b = w.heap.size + 2) w4 W' := Stays.of hb
    exact found_gives wants_element (fun _ => rfl) ((hb.cell (p := ⟨w.heap.size + 1, 0, none⟩) (by show w.heap.size + 1 < _; omega)).trans HCL.out) ((hb.cell (p := ⟨w.heap.size + 2, 0, none⟩) (by show w.heap.size + 2 < _; omega)).trans HCW.out) (.inr rfl) (HL4.out.keep hst) (HO4.out.keep hst) HN.out
      (fun b h => by have := hb.size; rcases h with h | h; have := HS.out b h; omega; omega) HBK.out
  case hS => rcases hb with h | h; have := HS.out b h; omega; omega
  case hK0 => subst hb; exact ⟨by omega, fun h => by rcases h with h | h; have := HS.out _ h; omega; omega⟩
  case h0 => exact ⟨_, [], HY.out, World.ownsRow_nil _ _ _ _, (fun g h => by cases h), rfl, rfl, (fun b h => by omega), Moved.refl _ _⟩
  case round =>
    rintro l pre K G x W1 ⟨v, ns, hy, hown, hg, he, hkb, hkl, hm⟩ hsh hokx hl1 hl2 hkl2 hgl hks hG
    have hzb : ns.length ≤ 1048576 := by
      have h1 := hokx.length_le
      rw [List.map_append, List.length_append, List.length_map] at h1
      have h2 := congrArg List.length he
      rw [List.length_map] at h2
      have h3 := flat_small (chL ts) isEl
      have := HBK.out
      omega
    have hsz : x.1.tag.s.size ≤ 281474976710656 := by have := hsh.1.tag.2.2.2; omega
    unfold encF
    generalize hw2 : W1.alloc (.cells #[.string x.1.tag.s, .slice x.1.tag.A x.1.tag.n x.1.tag.c, .slice x.1.A x.1.n x.1.c, .slice x.1.K x.1.kn x.1.kc, .string x.1.text.s, .slice x.1.text.A x.1.text.n x.1.text.c] 71) = W2
    have y2 : Whole W2 W1.heap.size 71 #[.string x.1.tag.s, .slice x.1.tag.A x.1.tag.n x.1.tag.c, .slice x.1.A x.1.n x.1.c, .slice x.1.K x.1.kn x.1.kc, .string x.1.text.s, .slice x.1.text.A x.1.text.n x.1.text.c] := by rw [← hw2]; exact Whole.made _ _ _
    have hb2 : Below W1.heap.size W1 W2 := by rw [← hw2]; exact (Below.refl _ _).alloc (Nat.le_refl _) _
    have HY1 := Lib.hid hy
    have HOW := Lib.hid hown
    have HGV := Lib.hid hg
    have HE1 := Lib.hid he
    have HKB := Lib.hid hkb
    have HKL := Lib.hid hkl
    have HM := Lib.hid hm
    clear hy hown hg he hkb hkl hm hsh hokx hks hG
    gi_wp2_with fail
    refine ⟨hb2, fun W3 hm3 => ?_⟩
    have hz2 := y2.lt
    have hz3 := hm3.size
    have hz41 : w4.heap.size ≤ W1.heap.size := HM.out.size
    have hm13 : Moved (fun b => b = l) W1 W3 := (Moved.of_below hb2).join hm3 fun _ _ h => h
    have z3 := hm3.whole y2 (fun h => by omega)
    have HY3 := Lib.hid (hm13.whole HY1.out (fun h => by omega))
    have HOWN3 := Lib.hid (hm13.own HOW.out (fun g hg h => hkl2 (h ▸ HGV.out g hg)))
    have HM3 : Hid (Moved (fun i => w.heap.size ≤ i) w4 W3) := HM.out.join hm13 fun i hi h => by omega
    clear hm3 hm13 hb2 y2 hw2
    have HRND : Hid (∀ (v' : Value) (w5 w7 : World) (o : Obj), Below W3.heap.size W3 w5 → w7.ownsRow w4.heap.size 9 1 v' (ns.length + 1) (txCells ns ++ [.string x.1.tag.s]) → (w5.alloc o).grownBy w7 v.ownBlock → (v'.ownBlock = v.ownBlock ∨ v'.ownBlock = some (w5.alloc o).heap.size) →
        ∃ K', TagsI w.heap.size w4 (pre ++ [x]) K' (w7.setCell ⟨w.heap.size, 0, none⟩ v') ∧ (∀ b, K' b → K b ∨ G b ∨ (W1.heap.size ≤ b ∧ b < w7.heap.size)) ∧ Moved (fun b => K b ∨ G b ∨ W1.heap.size ≤ b) W3 (w7.setCell ⟨w.heap.size, 0, none⟩ v')) :=
      fun v' w5 w7 o h0 h1 h2 h3 => tags_round (by omega) HY3.out HOWN3.out HGV.out HE1.out HKB.out HKL.out HM3.out (by omega) hz41 h0 h1 h2 h3
    obtain ⟨A5, c5, rfl, _, _, _⟩ := own_form HOWN3.out
    have HNB : Hid (¬ (Value.slice A5 ns.length c5).ownBlock = some W1.heap.size) := fun h => by have := (HOW.out.lt _ h).2; omega
    have HBL : Hid (∀ g, (Value.slice A5 ns.length c5).ownBlock = some g → w4.heap.size ≤ g) := fun g h => (HOWN3.out.lt g h).1
    have HSB : Hid (∀ w', Below W3.heap.size W3 w' → w'.cell? ⟨W1.heap.size, 0, none⟩ = some (.string x.1.tag.s)) := fun w' h => (z3.below h z3.lt).at_ 0
    have HC3 : Hid (∀ w', Below W3.heap.size W3 w' → w'.cell? ⟨w.heap.size, 0, none⟩ = some (.slice A5 ns.length c5)) := fun w' h => (HY3.out.below h HY3.out.lt).at_ 0
    have HSG : Hid (∀ (w5 w7 : World) (o : Obj), Below W3.heap.size W3 w5 → (w5.alloc o).grownBy w7 (Value.slice A5 ns.length c5).ownBlock → w7.cell? ⟨W1.heap.size, 0, none⟩ = some (.string x.1.tag.s)) := by
      intro w5 w7 o h1 h2
      refine (((z3.below h1 z3.lt).alloc o).grown h2 fun h => ?_).at_ 0
      exact HNB.out h.symm
    have HSP : Hid (∀ (w7 : World) (u : Value), w7.cell? ⟨W1.heap.size, 0, none⟩ = some (.string x.1.tag.s) → (w7.setCell ⟨w.heap.size, 0, none⟩ u).cell? ⟨W1.heap.size, 0, none⟩ = some (.string x.1.tag.s)) := fun w7 u h => (World.cell?_setCell_far _ _ _ _ (by show w.heap.size ≠ W1.heap.size; omega)).trans h
    have c3d : W3.drew.cell? ⟨w.heap.size, 0, none⟩ = some (.slice A5 ns.length c5) := HC3.out _ (Below.drew (Below.refl _ _))
    have hS : W3.drew.cell? ⟨W1.heap.size, 0, none⟩ = some (.string x.1.tag.s) := HSB.out _ (Below.drew (Below.refl _ _))
    gi_wp2_with fail
    refine region_round (by kernel_rfl) rfl (lets_inBlock fun _ _ h => by obtain ⟨h1, _⟩ := h; cases h1) ?_
    · refine wpAny_of_held (S := fun W' => W'.cell? ⟨W1.heap.size, 0, none⟩ = some (.string x.1.tag.s)) _ _ _ _ ?_
      refine' wpAnyH_take (i := 1) ?hi1 (by kernel_rfl) (by kernel_rfl) (by kernel_rfl) ?hQ1 ?hy1 hS ?rest1
      case hi1 => simp only [List.getElem?_toArray, List.getElem?_cons_succ, List.getElem?_cons_zero]; rfl
      case hQ1 => exact fun _ _ _ h => h
      case hy1 =>
        refine Or.inl ⟨by rfl, ?_⟩
        intro wq hq
        try dsimp only at hq
        go_simp
        try with_reducible rfl
      try simp only [Act.put, List.setIfInBounds_toArray, List.set_cons_zero, List.set_cons_succ]
      refine' wpAnyH_take (i := 2) ?hi2 (by kernel_rfl) (by kernel_rfl) (by kernel_rfl) ?hQ2 ?hy2 hS ?rest2
      case hi2 => simp only [List.getElem?_toArray, List.getElem?_cons_succ, List.getElem?_cons_zero]; rfl
      case hQ2 => exact fun _ _ _ h => h
      case hy2 =>
        refine Or.inl ⟨by rfl, ?_⟩
        intro wq hq
        try dsimp only at hq
        go_simp
        try with_reducible rfl
      try simp only [Act.put, List.setIfInBounds_toArray, List.set_cons_zero, List.set_cons_succ]
      refine' wpAnyH_take (i := 3) ?hi3 (by kernel_rfl) (by kernel_rfl) (by kernel_rfl) ?hQ3 ?hy3 hS ?rest3
      case hi3 => simp only [List.getElem?_toArray, List.getElem?_cons_succ, List.getElem?_cons_zero]; rfl
      case hQ3 => exact fun _ _ _ h => h
      case hy3 =>
        refine Or.inl ⟨by rfl, ?_⟩
        intro wq hq
        try dsimp only at hq
        go_simp
        try with_reducible rfl
      try simp only [Act.put, List.setIfInBounds_toArray, List.set_cons_zero, List.set_cons_succ]
      refine wpAnyH_ready (rs := [0, 4]) (by kernel_rfl) (by simp) ?_
      refine' AllReadyH.cons ?ho4 (fun K hK => ?step4) ?more4
      case ho4 => simp only [List.getElem?_toArray, List.getElem?_cons_zero]; rfl
      case step4 =>
        go_simp
        refine hK.out _ _ hS (fun _ => ?_)
        clear hK K
        try simp only [Act.put, List.setIfInBounds_toArray, List.set_cons_zero, List.set_cons_succ]
        refine wpAnyH_ready (rs := [4]) (by kernel_rfl) (by simp) ?_
        refine' AllReadyH.cons ?ho5 (fun K hK => ?step5) ?more5
        case ho5 => simp only [List.getElem?_toArray, List.getElem?_cons_succ, List.getElem?_cons_zero]; rfl
        case step5 =>
          go_simp
          refine (clone_any x.1.tag.s _ hsz).mono ?_
          rintro e w5 ⟨rfl, hb5⟩
          have hbel5 : Below W3.heap.size W3 w5 := (Below.drew (Below.refl _ W3)).trans hb5
          have hS5 := HSB.out w5 hbel5
          have c3 : w5.cell? ⟨w.heap.size, 0, none⟩ = some (.slice A5 ns.length c5) := HC3.out w5 hbel5
          refine hK.out _ _ hS5 (fun _ => ?_)
          clear hK K hS c3d
          have hS := hS5
          try simp only [Act.put, List.setIfInBounds_toArray, List.set_cons_zero, List.set_cons_succ]
          refine wpAnyH_ready (rs := [5]) (by kernel_rfl) (by simp) ?_
          refine' AllReadyH.cons ?ho6 (fun K hK => ?step6) ?more6
          case ho6 => simp only [List.getElem?_toArray, List.getElem?_cons_succ, List.getElem?_cons_zero]; rfl
          case step6 =>
            go_simp
            have hbel6 : Below W3.heap.size W3 (w5.alloc (.cells #[.string x.1.tag.s] 9)) := hbel5.alloc hbel5.size _
            have hS6 := HSB.out _ hbel6
            have c3 : (w5.alloc (.cells #[.string x.1.tag.s] 9)).cell? ⟨w.heap.size, 0, none⟩ = some (.slice A5 ns.length c5) := HC3.out _ hbel6
            refine hK.out _ _ hS6 (fun _ => ?_)
            clear hK K hS
            have hS := hS6
            try simp only [Act.put, List.setIfInBounds_toArray, List.set_cons_zero, List.set_cons_succ]
            refine wpAnyH_ready (rs := [6]) (by kernel_rfl) (by simp) ?_
            refine' AllReadyH.cons ?ho7 (fun K hK => ?step7) ?more7
            case ho7 => simp only [List.getElem?_toArray, List.getElem?_cons_succ, List.getElem?_cons_zero]; rfl
            case step7 =>
              have hown6 := (own_keep (HOWN3.out) hbel5).alloc (.cells #[.string x.1.tag.s] 9)
              refine step_append_src _ rfl _ _ 41 rfl w4.heap.size 9 i0 _ 1 16 Try.underlying41 hi hiz0 hiz1 hiz2 rfl (by decide) (.slice A5 ns.length c5) ns.length (txCells ns) rfl hown6 (w5.heap.size + 1) (some ⟨w5.heap.size, 0, none⟩) 1 1 [.string x.1.tag.s] rfl (by simp) rfl (lies_new w5 _ _) (by simp [Value.oneCell']) (by simp only [maxLen]; omega) (by omega) (by have := hbel5.size; simp; omega) ?_
              intro v' w7 hown7 hgr hv'
              obtain ⟨A7, d7, rfl, _, _, _⟩ := own_form hown7
              have hS7 := HSG.out _ _ _ hbel5 hgr
              have y7 : Whole w7 w.heap.size 41 #[.slice A5 ns.length c5] := ((HY3.out.below hbel5 HY3.out.lt).alloc _).grown hgr (fun h => by have := HBL.out _ h.symm; omega)
              have c7 : w7.cell? ⟨w.heap.size, 0, none⟩ = some (.slice A5 ns.length c5) := y7.at_ 0
              have f7 : w7.frozen? ⟨w.heap.size, 0, none⟩ = false := y7.free 0
              refine hK.out _ _ hS7 (fun _ => ?_)
              clear hK K hS hown6 c3 y7
              have hS := hS7
              try simp only [Act.put, List.setIfInBounds_toArray, List.set_cons_zero, List.set_cons_succ]
              refine wpAnyH_ready (rs := [7]) (by kernel_rfl) (by simp) ?_
              refine' AllReadyH.cons ?ho8 (fun K hK => ?step8) ?more8
              case ho8 => simp only [List.getElem?_toArray, List.getElem?_cons_succ, List.getElem?_cons_zero]; rfl
              case step8 =>
                go_simp
                refine hK.out _ _ (HSP.out _ _ hS) (fun _ => ?_)
                clear hK K
                try simp only [Act.put, List.setIfInBounds_toArray, List.set_cons_zero, List.set_cons_succ]
                refine wpAnyH_done (by kernel_rfl) ?_ _
                refine ⟨rfl, ?_⟩
                obtain ⟨K9, q1, q2, q3⟩ := HRND.out _ _ _ _ hbel5 hown7 hgr hv'
                exact ⟨K9, q1, fun b h => (q2 b h).imp id fun h => h.imp id fun h => ⟨h.1, by simpa [World.setCell] using h.2⟩, q3⟩
              exact AllReadyH.nil
            exact AllReadyH.nil
          exact AllReadyH.nil
        exact AllReadyH.nil
      refine' AllReadyH.cons ?ho9 (fun K hK => ?step9) ?more9
      case ho9 => simp only [List.getElem?_toArray, List.getElem?_cons_succ, List.getElem?_cons_zero]; rfl
      case step9 =>
        go_simp
        refine (clone_any x.1.tag.s _ hsz).mono ?_
        rintro e w5 ⟨rfl, hb5⟩
        have hbel5 : Below W3.heap.size W3 w5 := (Below.drew (Below.refl _ W3)).trans hb5
        have hS5 := HSB.out w5 hbel5
        have c3 : w5.cell? ⟨w.heap.size, 0, none⟩ = some (.slice A5 ns.length c5) := HC3.out w5 hbel5
        refine hK.out _ _ hS5 (fun _ => ?_)
        clear hK K hS c3d
        have hS := hS5
        try simp only [Act.put, List.setIfInBounds_toArray, List.set_cons_zero, List.set_cons_succ]
        refine wpAnyH_ready (rs := [0, 5]) (by kernel_rfl) (by simp) ?_
        refine' AllReadyH.cons ?ho10 (fun K hK => ?step10) ?more10
        case ho10 => simp only [List.getElem?_toArray, List.getElem?_cons_zero]; rfl
        case step10 =>
          go_simp
          refine hK.out _ _ hS (fun _ => ?_)
          clear hK K
          try simp only [Act.put, List.setIfInBounds_toArray, List.set_cons_zero, List.set_cons_succ]
          refine wpAnyH_ready (rs := [5]) (by kernel_rfl) (by simp) ?_
          refine' AllReadyH.cons ?ho11 (fun K hK => ?step11) ?more11
          case ho11 => simp only [List.getElem?_toArray, List.getElem?_cons_succ, List.getElem?_cons_zero]; rfl
          case step11 =>
            go_simp
            have hbel6 : Below W3.heap.size W3 (w5.alloc (.cells #[.string x.1.tag.s] 9)) := hbel5.alloc hbel5.size _
            have hS6 := HSB.out _ hbel6
            have c3 : (w5.alloc (.cells #[.string x.1.tag.s] 9)).cell? ⟨w.heap.size, 0, none⟩ = some (.slice A5 ns.length c5) := HC3.out _ hbel6
            refine hK.out _ _ hS6 (fun _ => ?_)
            clear hK K hS
            have hS := hS6
            try simp only [Act.put, List.setIfInBounds_toArray, List.set_cons_zero, List.set_cons_succ]
            refine wpAnyH_ready (rs := [6]) (by kernel_rfl) (by simp) ?_
            refine' AllReadyH.cons ?ho12 (fun K hK => ?step12) ?more12
            case ho12 => simp only [List.getElem?_toArray, List.getElem?_cons_succ, List.getElem?_cons_zero]; rfl
            case step12 =>
              have hown6 := (own_keep (HOWN3.out) hbel5).alloc (.cells #[.string x.1.tag.s] 9)
              refine step_append_src _ rfl _ _ 41 rfl w4.heap.size 9 i0 _ 1 16 Try.underlying41 hi hiz0 hiz1 hiz2 rfl (by decide) (.slice A5 ns.length c5) ns.length (txCells ns) rfl hown6 (w5.heap.size + 1) (some ⟨w5.heap.size, 0, none⟩) 1 1 [.string x.1.tag.s] rfl (by simp) rfl (lies_new w5 _ _) (by simp [Value.oneCell']) (by simp only [maxLen]; omega) (by omega) (by have := hbel5.size; simp; omega) ?_
              intro v' w7 hown7 hgr hv'
              obtain ⟨A7, d7, rfl, _, _, _⟩ := own_form hown7
              have hS7 := HSG.out _ _ _ hbel5 hgr
              have y7 : Whole w7 w.heap.size 41 #[.slice A5 ns.length c5] := ((HY3.out.below hbel5 HY3.out.lt).alloc _).grown hgr (fun h => by have := HBL.out _ h.symm; omega)
              have c7 : w7.cell? ⟨w.heap.size, 0, none⟩ = some (.slice A5 ns.length c5) := y7.at_ 0
              have f7 : w7.frozen? ⟨w.heap.size, 0, none⟩ = false := y7.free 0
              refine hK.out _ _ hS7 (fun _ => ?_)
              clear hK K hS hown6 c3 y7
              have hS := hS7
              try simp only [Act.put, List.setIfInBounds_toArray, List.set_cons_zero, List.set_cons_succ]
              refine wpAnyH_ready (rs := [7]) (by kernel_rfl) (by simp) ?_
              refine' AllReadyH.cons ?ho13 (fun K hK => ?step13) ?more13
              case ho13 => simp only [List.getElem?_toArray, List.getElem?_cons_succ, List.getElem?_cons_zero]; rfl
              case step13 =>
                go_simp
                refine hK.out _ _ (HSP.out _ _ hS) (fun _ => ?_)
                clear hK K
                try simp only [Act.put, List.setIfInBounds_toArray, List.set_cons_zero, List.set_cons_succ]
                refine wpAnyH_done (by kernel_rfl) ?_ _
                refine ⟨rfl, ?_⟩
                obtain ⟨K9, q1, q2, q3⟩ := HRND.out _ _ _ _ hbel5 hown7 hgr hv'
                exact ⟨K9, q1, fun b h => (q2 b h).imp id fun h => h.imp id fun h => ⟨h.1, by simpa [World.setCell] using h.2⟩, q3⟩
              exact AllReadyH.nil
            exact AllReadyH.nil
          exact AllReadyH.nil
        refine' AllReadyH.cons ?ho14 (fun K hK => ?step14) ?more14
        case ho14 => simp only [List.getElem?_toArray, List.getElem?_cons_succ, List.getElem?_cons_zero]; rfl
        case step14 =>
          go_simp
          have hbel6 : Below W3.heap.size W3 (w5.alloc (.cells #[.string x.1.tag.s] 9)) := hbel5.alloc hbel5.size _
          have hS6 := HSB.out _ hbel6
          have c3 : (w5.alloc (.cells #[.string x.1.tag.s] 9)).cell? ⟨w.heap.size, 0, none⟩ = some (.slice A5 ns.length c5) := HC3.out _ hbel6
          refine hK.out _ _ hS6 (fun _ => ?_)
          clear hK K hS
          have hS := hS6
          try simp only [Act.put, List.setIfInBounds_toArray, List.set_cons_zero, List.set_cons_succ]
          refine wpAnyH_ready (rs := [0]) (by kernel_rfl) (by simp) ?_
          refine' AllReadyH.cons ?ho15 (fun K hK => ?step15) ?more15
          case ho15 => simp only [List.getElem?_toArray, List.getElem?_cons_zero]; rfl
          case step15 =>
            go_simp
            refine hK.out _ _ hS (fun _ => ?_)
            clear hK K
            try simp only [Act.put, List.setIfInBounds_toArray, List.set_cons_zero, List.set_cons_succ]
            refine wpAnyH_ready (rs := [6]) (by kernel_rfl) (by simp) ?_
            refine' AllReadyH.cons ?ho16 (fun K hK => ?step16) ?more16
            case ho16 => simp only [List.getElem?_toArray, List.getElem?_cons_succ, List.getElem?_cons_zero]; rfl
            case step16 =>
              have hown6 := (own_keep (HOWN3.out) hbel5).alloc (.cells #[.string x.1.tag.s] 9)
              refine step_append_src _ rfl _ _ 41 rfl w4.heap.size 9 i0 _ 1 16 Try.underlying41 hi hiz0 hiz1 hiz2 rfl (by decide) (.slice A5 ns.length c5) ns.length (txCells ns) rfl hown6 (w5.heap.size + 1) (some ⟨w5.heap.size, 0, none⟩) 1 1 [.string x.1.tag.s] rfl (by simp) rfl (lies_new w5 _ _) (by simp [Value.oneCell']) (by simp only [maxLen]; omega) (by omega) (by have := hbel5.size; simp; omega) ?_
              intro v' w7 hown7 hgr hv'
              obtain ⟨A7, d7, rfl, _, _, _⟩ := own_form hown7
              have hS7 := HSG.out _ _ _ hbel5 hgr
              have y7 : Whole w7 w.heap.size 41 #[.slice A5 ns.length c5] := ((HY3.out.below hbel5 HY3.out.lt).alloc _).grown hgr (fun h => by have := HBL.out _ h.symm; omega)
              have c7 : w7.cell? ⟨w.heap.size, 0, none⟩ = some (.slice A5 ns.length c5) := y7.at_ 0
              have f7 : w7.frozen? ⟨w.heap.size, 0, none⟩ = false := y7.free 0
              refine hK.out _ _ hS7 (fun _ => ?_)
              clear hK K hS hown6 c3 y7
              have hS := hS7
              try simp only [Act.put, List.setIfInBounds_toArray, List.set_cons_zero, List.set_cons_succ]
              refine wpAnyH_ready (rs := [7]) (by kernel_rfl) (by simp) ?_
              refine' AllReadyH.cons ?ho17 (fun K hK => ?step17) ?more17
              case ho17 => simp only [List.getElem?_toArray, List.getElem?_cons_succ, List.getElem?_cons_zero]; rfl
              case step17 =>
                go_simp
                refine hK.out _ _ (HSP.out _ _ hS) (fun _ => ?_)
                clear hK K
                try simp only [Act.put, List.setIfInBounds_toArray, List.set_cons_zero, List.set_cons_succ]
                refine wpAnyH_done (by kernel_rfl) ?_ _
                refine ⟨rfl, ?_⟩
                obtain ⟨K9, q1, q2, q3⟩ := HRND.out _ _ _ _ hbel5 hown7 hgr hv'
                exact ⟨K9, q1, fun b h => (q2 b h).imp id fun h => h.imp id fun h => ⟨h.1, by simpa [World.setCell] using h.2⟩, q3⟩
              exact AllReadyH.nil
            exact AllReadyH.nil
          exact AllReadyH.nil
        exact AllReadyH.nil
      exact AllReadyH.nil
  case done =>
    rintro D xs K W1 hD hdx ⟨v, ns, hy, hown, hg, he, hkb, hkl, hm⟩ hKD hdef
    have hz41 : w4.heap.size ≤ W1.heap.size := hm.size
    obtain ⟨A5, c5, rfl, _, _, _⟩ := own_form hown
    have c3 : W1.cell? ⟨w.heap.size, 0, none⟩ = some (.slice A5 ns.length c5) := hy.at_ 0
    have HFIN : Hid (∃ A' c' ns', Ending.returned (.slice A5 ns.length c5) = .returned (.slice A' ns'.length c') ∧ (W1.putObj D (.deferred none)).ownsRow w.heap.size 9 1 (.slice A' ns'.length c') ns'.length (txCells ns') ∧ ns'.map (fun s => s.data.toList) = tagsL (mergeP (chL ts)) ∧ Below w.heap.size w (W1.putObj D (.deferred none))) := by
      refine ⟨A5, c5, ns, rfl, ?_, ?_, ?_⟩
      · exact own_mono (base := w4.heap.size) ((Moved.putObj W1 D (.deferred none)).own hown fun g h h2 => hKD (h2 ▸ hg g h)) (by omega)
      · rw [← flat_tags (mergeP (chL ts)) 0, ← show xs.map infoF = (flatL (mergeP (chL ts)) 0).filter isEl from hdx, he, List.map_map, List.map_map]
        refine List.map_congr_left fun x _ => ?_
        exact (LT.ch_fst _).symm
      · refine Moved.below (S := fun b => w.heap.size ≤ b) ?_ (Nat.le_refl _) (fun k hk h => by omega)
        exact ((Moved.of_below HB4.out).join hm fun i hi h => h).join (Moved.putObj _ _ _) fun i hi h => by omega
    have HD := Lib.hid hdef
    clear hown hy hg he hkb hkl hm hKD hdef hdx
    gi_wp2_with fail
    refine marks_out rfl HD.out ?_
    refine ⟨_, results_tmp (t := 2) rfl _ _ _, ?_⟩
    exact HFIN.out

end Go.Proofs.Ytdiifkmcbnhliaa.mk
