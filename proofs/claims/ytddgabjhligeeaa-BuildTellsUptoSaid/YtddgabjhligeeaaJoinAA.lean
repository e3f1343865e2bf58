/-
  Tags: all elements' tags, in order.
-/
import Derived.Test.YtddgabjhligeeaaJoinY
import Derived.Test.YtddgabjhligeeaaJoinR
import Derived.Test.YtddgabjhligeeaaJoinD
import Derived.Deep.RegionHeld3
namespace Go.Proofs.Ytddgabjhligeeaa.mk
open Go.RowKit
attribute [local go_sem] Oper.semAt_some wide_fn wide_depth

/-- between two rounds: the tags so far, in a row of the caller's own -/
def TagsI (bt : Nat) (w : World) (pre : List (TT × Nat)) (K : Nat → Prop) (W : World) : Prop :=
  ∃ v ns, Whole W bt 27 #[v] ∧ W.ownsRow w.heap.size 9 1 v ns.length (txCells ns) ∧ (∀ g, v.ownBlock = some g → K g) ∧ ns = pre.map (fun x => x.1.tag.s) ∧ K bt ∧ (∀ b, K b → bt ≤ b) ∧ Moved (fun i => bt ≤ i) w W
theorem tagsI_held {bt : Nat} {w : World} : Held w.heap.size (TagsI bt w) := by
  rintro pre K W W' ⟨v, ns, hw, hown, hg, he, hkb, hkl, hm⟩ hz hmv
  exact ⟨v, ns, hmv.whole hw (fun h => h.2 hkb), hmv.own hown (fun g h h2 => h2.2 (hg g h)), hg, he, hkb, hkl, hm.join hmv fun i hi h => by have := h.1; omega⟩
theorem txCells_snoc (ns : List ByteArray) (s : ByteArray) : txCells (ns ++ [s]) = txCells ns ++ [.string s] := by simp [txCells]

theorem tags_round {bt : Nat} {w W1 W3 w5 w7 : World} {pre : List (TT × Nat)} {K G : Nat → Prop} {x : TT × Nat} {v v' : Value} {ns : List ByteArray} {o : Obj} (hb : bt < w.heap.size)
    (hw : Whole W3 bt 27 #[v]) (hown : W3.ownsRow w.heap.size 9 1 v ns.length (txCells ns)) (hg : ∀ g, v.ownBlock = some g → K g)
    (he : ns = pre.map (fun x => x.1.tag.s)) (hkb : K bt) (hkl : ∀ b, K b → bt ≤ b) (hm : Moved (fun i => bt ≤ i) w W3) (hz : W1.heap.size ≤ W3.heap.size) (hz1 : w.heap.size ≤ W1.heap.size) (hb5 : Below W3.heap.size W3 w5)
    (hown7 : w7.ownsRow w.heap.size 9 1 v' (ns.length + 1) (txCells ns ++ [.string x.1.tag.s])) (hgr : (w5.alloc o).grownBy w7 v.ownBlock) (hv' : v'.ownBlock = v.ownBlock ∨ v'.ownBlock = some (w5.alloc o).heap.size) :
    ∃ K', TagsI bt w (pre ++ [x]) K' (w7.setCell ⟨bt, 0, none⟩ v') ∧ (∀ b, K' b → K b ∨ G b ∨ (W1.heap.size ≤ b ∧ b < w7.heap.size)) ∧ Moved (fun b => K b ∨ G b ∨ W1.heap.size ≤ b) W3 (w7.setCell ⟨bt, 0, none⟩ v') := by
  have hz4 : (w5.alloc o).heap.size = w5.heap.size + 1 := by simp
  have hz5 := hb5.size
  have hz7 := hgr.size
  have hm0 : Moved (fun b => v.ownBlock = some b) W3 (w5.alloc o) := Moved.of_below (hb5.alloc hz5 o)
  have hm7 : Moved (fun b => v.ownBlock = some b) W3 w7 := hm0.join (Y := fun b => v.ownBlock = some b) ⟨hgr.os, hgr.tape, hgr.output, hgr.size, fun i hi hn => hgr.block i hi (fun e => hn e.symm)⟩ (fun i _ h => h)
  have hlt := hown.lt
  have hmv : Moved (fun b => b = bt ∨ v.ownBlock = some b) W3 (w7.setCell ⟨bt, 0, none⟩ v') :=
    (hm7.mono (fun i _ h => .inr h)).join (Moved.setCell (S := fun b => b = bt) (Moved.refl _ _) (p := ⟨bt, 0, none⟩) rfl v') fun i _ h => .inl h
  have hw7 : Whole w7 bt 27 #[v] := hm7.whole hw (fun h => by have := (hlt _ h).1; omega)
  have hlt7 := hown7.lt
  refine ⟨fun b => K b ∨ (W1.heap.size ≤ b ∧ b < w7.heap.size), ⟨v', ns ++ [x.1.tag.s], hw7.put 0 v', ?_, ?_, ?_, .inl hkb, ?_, ?_⟩, fun b h => h.imp id .inr, hmv.mono ?_⟩
  · rw [List.length_append, List.length_singleton, txCells_snoc]
    exact own_far hown7 _ (fun h => by have h3 : w.heap.size ≤ bt := (hlt7 _ h).1; omega) _
  · intro g h
    rcases hv' with e | e
    · exact .inl (hg g (e ▸ h))
    · have h2 := h
      rw [e] at h; injection h with h
      exact .inr ⟨by omega, (hlt7 g h2).2⟩
  · rw [List.map_append, ← he]; rfl
  · rintro b (h | h)
    · exact hkl b h
    · omega
  · exact hm.join hmv fun i hi h => by
      rcases h with h | h
      · exact (by omega : bt ≤ i)
      · have := (hlt i h).1; exact (by omega : bt ≤ i)
  · rintro i _ (h | h)
    · exact .inl (h ▸ hkb)
    · exact .inl (hg i h)

theorem lies_new (w : World) (t : TypeId) (cs : List Value) : Lies (w.alloc (.cells cs.toArray t)) (w.heap.size + 1) (some ⟨w.heap.size, 0, none⟩) cs := fun j u h => ⟨_, rfl, Nat.lt_succ_self _, cells_new w t cs j u h⟩
theorem lets_inBlock {id : Nat} {Q : Exit → Act → World → Prop} (h : ∀ a w, ¬ Q .outgrown a w) : ¬ LetsOut (Exit.inBlock id Q) := by
  rintro ⟨a, w, h2⟩
  exact h a w h2

end Go.Proofs.Ytddgabjhligeeaa.mk
