/-
  Words: all texts, in order.
-/
import Derived.Test.YtddgabjhligeeaaJoinX
import Derived.Maps.OwnIn
namespace Go.Proofs.Ytddgabjhligeeaa.mk
open Go.RowKit
attribute [local go_sem] Oper.semAt_some wide_fn wide_depth

/-- between two rounds: the texts so far, in a row of the caller's own -/
def WordsI (S : Nat → Prop) (bt : Nat) (w : World) (pre : List (TT × Nat)) (K : Nat → Prop) (W : World) : Prop :=
  ∃ v us, Whole W bt 77 #[v] ∧ W.ownsRow w.heap.size 30 2 v us.length (ltCells us) ∧ (∀ g, v.ownBlock = some g → K g) ∧ (∀ u ∈ us, u.inS (fun b => S b ∨ (K b ∧ b ≠ bt ∧ v.ownBlock ≠ some b)) W) ∧
    us.map LT.ch = pre.map (fun x => x.1.text.ch) ∧ K bt ∧ (∀ b, K b → bt ≤ b) ∧ Moved (fun i => bt ≤ i) w W
theorem wordsI_held {S : Nat → Prop} {bt : Nat} {w : World} (hS : ∀ b, S b → b < w.heap.size) : Held w.heap.size (WordsI S bt w) := by
  rintro pre K W W' ⟨v, us, hw, hown, hg, hus, he, hkb, hkl, hm⟩ hz hmv
  refine ⟨v, us, hmv.whole hw (fun h => h.2 hkb), hmv.own hown (fun g h h2 => h2.2 (hg g h)), hg, fun u hu => (hus u hu).keep (hmv.stays fun i _ h h2 => ?_), he, hkb, hkl, hm.join hmv fun i hi h => by have := h.1; omega⟩
  rcases h with h | h
  · have := hS i h; omega
  · exact h2.2 h.1

theorem words_round {S : Nat → Prop} {bt : Nat} {w W1 W3 w7 : World} {pre : List (TT × Nat)} {K G : Nat → Prop} {x : TT × Nat} {v v' : Value} {us : List LT} {o : Obj} (hb : bt < w.heap.size) (hS : ∀ b, S b → b < w.heap.size ∧ b ≠ bt)
    (hw : Whole W3 bt 77 #[v]) (hown : W3.ownsRow w.heap.size 30 2 v us.length (ltCells us)) (hg : ∀ g, v.ownBlock = some g → K g) (hus : ∀ u ∈ us, u.inS (fun b => S b ∨ (K b ∧ b ≠ bt ∧ v.ownBlock ≠ some b)) W3)
    (he : us.map LT.ch = pre.map (fun x => x.1.text.ch)) (hkb : K bt) (hkl : ∀ b, K b → bt ≤ b) (hm : Moved (fun i => bt ≤ i) w W3) (hG : ∀ b, G b → w.heap.size ≤ b ∧ b < W1.heap.size ∧ ¬ K b) (hz : W1.heap.size ≤ W3.heap.size) (hz1 : w.heap.size ≤ W1.heap.size) (hx : x.1.text.inS (fun b => S b ∨ G b) W3)
    (hown7 : w7.ownsRow w.heap.size 30 2 v' (us.length + 1) (ltCells us ++ [.string x.1.text.s, .slice x.1.text.A x.1.text.n x.1.text.c])) (hgr : (W3.alloc o).grownBy w7 v.ownBlock) (hv' : v'.ownBlock = v.ownBlock ∨ v'.ownBlock = some (W3.alloc o).heap.size) :
    ∃ K', WordsI S bt w (pre ++ [x]) K' (w7.setCell ⟨bt, 0, none⟩ v') ∧ (∀ b, K' b → K b ∨ G b ∨ (W1.heap.size ≤ b ∧ b < w7.heap.size)) ∧ Moved (fun b => K b ∨ G b ∨ W1.heap.size ≤ b) W3 (w7.setCell ⟨bt, 0, none⟩ v') := by
  have hz4 : (W3.alloc o).heap.size = W3.heap.size + 1 := by simp
  have hz7 := hgr.size
  have hm0 : Moved (fun b => v.ownBlock = some b) W3 (W3.alloc o) := Moved.of_below ((Below.refl _ _).alloc (Nat.le_refl _) _)
  have hm7 : Moved (fun b => v.ownBlock = some b) W3 w7 := hm0.join (Y := fun b => v.ownBlock = some b) ⟨hgr.os, hgr.tape, hgr.output, hgr.size, fun i hi hn => hgr.block i hi (fun e => hn e.symm)⟩ (fun i _ h => h)
  have hlt := hown.lt
  have hmv : Moved (fun b => b = bt ∨ v.ownBlock = some b) W3 (w7.setCell ⟨bt, 0, none⟩ v') :=
    (hm7.mono (fun i _ h => .inr h)).join (Moved.setCell (S := fun b => b = bt) (Moved.refl _ _) (p := ⟨bt, 0, none⟩) rfl v') fun i _ h => .inl h
  have hw7 : Whole w7 bt 77 #[v] := hm7.whole hw (fun h => by have := (hlt _ h).1; omega)
  have hv2 : ∀ g, v'.ownBlock = some g → v.ownBlock = some g ∨ g = W3.heap.size + 1 := fun g h => by
    rcases hv' with e | e
    · exact .inl (e ▸ h)
    · rw [e] at h; injection h with h; exact .inr (by omega)
  have hlt7 := hown7.lt
  refine ⟨fun b => K b ∨ G b ∨ (W1.heap.size ≤ b ∧ b < w7.heap.size), ⟨v', us ++ [x.1.text], hw7.put 0 v', ?_, ?_, ?_, ?_, .inl hkb, ?_, ?_⟩, fun b h => h, hmv.mono ?_⟩
  · rw [List.length_append, List.length_singleton, show ltCells (us ++ [x.1.text]) = _ from ltCells_snoc _ _]
    exact own_far hown7 _ (fun h => by have h3 : w.heap.size ≤ bt := (hlt7 _ h).1; omega) _
  · intro g h
    rcases hv2 g h with h | h
    · exact .inl (hg g h)
    · exact .inr (.inr ⟨by omega, (hlt7 g (by assumption)).2⟩)
  · intro u hu
    have key : ∀ (T : Nat → Prop), u.inS T W3 → (∀ b, T b → b < W3.heap.size → S b ∨ ((K b ∨ G b ∨ (W1.heap.size ≤ b ∧ b < w7.heap.size)) ∧ b ≠ bt ∧ v.ownBlock ≠ some b)) → (∀ b, S b → b ≠ bt ∧ v.ownBlock ≠ some b) → u.inS (fun b => S b ∨ ((K b ∨ G b ∨ (W1.heap.size ≤ b ∧ b < w7.heap.size)) ∧ b ≠ bt ∧ v'.ownBlock ≠ some b)) (w7.setCell ⟨bt, 0, none⟩ v') := by
      intro T hT h1 h2
      have hT' : u.inS (fun b => b < W3.heap.size ∧ (S b ∨ ((K b ∨ G b ∨ (W1.heap.size ≤ b ∧ b < w7.heap.size)) ∧ b ≠ bt ∧ v.ownBlock ≠ some b))) W3 := hT.mono fun b hb hl => ⟨hl, h1 b hb hl⟩
      refine (hT'.keep (hmv.stays fun i _ h h3 => ?_)).mono fun b h _ => ?_
      · rcases h.2 with h | h
        · rcases h3 with h3 | h3
          · exact (h2 i h).1 h3
          · exact (h2 i h).2 h3
        · rcases h3 with h3 | h3
          · exact h.2.1 h3
          · exact h.2.2 h3
      · refine h.2.imp id fun h4 => ⟨h4.1, h4.2.1, fun h5 => ?_⟩
        rcases hv2 b h5 with h6 | h6
        · exact h4.2.2 h6
        · have := h.1; omega
    have hSn : ∀ b, S b → b ≠ bt ∧ v.ownBlock ≠ some b := fun b h => ⟨(hS b h).2, fun h2 => by have := (hlt b h2).1; have := (hS b h).1; omega⟩
    rcases List.mem_append.1 hu with hu | hu
    · exact key _ (hus u hu) (fun b h _ => h.imp id fun h => ⟨.inl h.1, h.2⟩) hSn
    · obtain rfl := List.mem_singleton.1 hu
      refine key _ hx (fun b h _ => h.imp id fun h => ⟨.inr (.inl h), by have := (hG b h).1; omega, fun h2 => (hG b h).2.2 (hg b h2)⟩) hSn
  · rw [List.map_append, List.map_append, he]; rfl
  · rintro b (h | h | h)
    · exact hkl b h
    · have := (hG b h).1; omega
    · omega
  · exact hm.join hmv fun i hi h => by
      rcases h with h | h
      · exact (by omega : bt ≤ i)
      · have := (hlt i h).1; exact (by omega : bt ≤ i)
  · rintro i _ (h | h)
    · exact .inl (h ▸ hkb)
    · exact .inl (hg i h)

theorem found_text (Q : List PT) : ((flatL (mergeP Q) 0).filter isTx).flatMap (fun x => x.2.1) = wordsL (mergeP Q) := found_words Q
theorem words_small (Q : List PT) : (wordsL (mergeP Q)).length ≤ bkL Q := Nat.le_trans (bk_words _) (bk_merge _)
theorem flat_small (Q : List PT) (p : Found → Bool) : ((flatL (mergeP Q) 0).filter p).length ≤ bkL Q := by
  have h1 := List.length_filter_le p (flatL (mergeP Q) 0)
  rw [flat_wt] at h1
  exact Nat.le_trans h1 (wt_small Q)
theorem info_words (xs : List (TT × Nat)) : (xs.map fun x => x.1.text.ch).flatten = (xs.map infoF).flatMap (fun x => x.2.1) := by
  induction xs with
  | nil => rfl
  | cons x xs ih => rw [List.map_cons, List.flatten_cons, ih, List.map_cons, List.flatMap_cons]; rfl
theorem catCh_map (us : List LT) : catCh us = (us.map LT.ch).flatten := by unfold catCh; rw [List.flatMap_def]

end Go.Proofs.Ytddgabjhligeeaa.mk
