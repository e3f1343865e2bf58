/-
  Trees, each labelled text told anew; merged trees in a row of the call's own.
-/
import Derived.Test.YtfebcnndehpklaaJoinV
import Derived.Test.YtfebcnndehpklaaJoinW
namespace Go.Proofs.Ytfebcnndehpklaa.mk
open Go.RowKit

mutual
def PT.mapT (g : Ch → Ch) : PT → PT
  | ⟨tag, attrs, kids, text⟩ => ⟨g tag, attrs.map (gA g), mapL g kids, g text⟩
def mapL (g : Ch → Ch) : List PT → List PT
  | [] => []
  | t :: ts => t.mapT g :: mapL g ts
end
theorem PT.mapT_eq (g : Ch → Ch) (t : PT) : t.mapT g = ⟨g t.tag, t.attrs.map (gA g), mapL g t.kids, g t.text⟩ := by cases t; rw [PT.mapT]
theorem mapL_map (g : Ch → Ch) (l : List PT) : mapL g l = l.map (PT.mapT g) := by
  induction l with
  | nil => rw [mapL]; rfl
  | cons t ts ih => rw [mapL, ih]; rfl
theorem mapL_id : ∀ l : List PT, mapL id l = l := by
  apply PT.ind
  intro L IH
  rw [mapL_map]
  have key : ∀ t ∈ L, PT.mapT id t = t := fun t ht => by
    rw [PT.mapT_eq, IH t ht]
    have e : t.attrs.map (gA id) = t.attrs := List.map_id' _
    rw [e]
    exact (PT.eta t).symm
  rw [List.map_congr_left key]
  exact List.map_id' _
/-- a tree as it is told, its kids merged -/
def mgG (g : Ch → Ch) (t : PT) : PT := (mgT t).mapT g
theorem merge_map (g : Ch → Ch) (Q : List PT) : mapL g (mergeP Q) = (sibs Q).map (mgG g) := by
  rw [mapL_map, merge_sibs, List.map_map]
  rfl
theorem mgG_tx {g : Ch → Ch} (g0 : g [] = []) (c : Ch) : mgG g (txT c) = txT (g c) := by
  unfold mgG
  rw [mgT_tx, PT.mapT_eq]
  show PT.mk (g []) [] (mapL g []) (g c) = _
  rw [g0, mapL]
  rfl
theorem mgG_el {g : Ch → Ch} (g0 : g [] = []) (t : PT) (h : t.text = []) : mgG g t = ⟨g t.tag, (onceA t.attrs).map (gA g), mapL g (mergeP t.kids), []⟩ := by
  unfold mgG mgT
  rw [PT.mapT_eq]
  show PT.mk (g t.tag) ((onceA t.attrs).map (gA g)) (mapL g (mergeP t.kids)) (g t.text) = _
  rw [h, g0]

/-- an element that is made anew -/
def newEl (t1 : LT) (A1 : Option Addr) (c1 : Nat) (us : List AT) (A2 : Option Addr) (c2 : Nat) (ks : List TT) : TT := ⟨t1, A1, us.length, c1, us, A2, ks.length, c2, ks, ⟨⟨#[]⟩, none, 0, 0, []⟩⟩
theorem newEl_ch (t1 : LT) (A1 : Option Addr) (c1 : Nat) (us : List AT) (A2 : Option Addr) (c2 : Nat) (ks : List TT) : (newEl t1 A1 c1 us A2 c2 ks).ch = ⟨t1.ch, us.map AT.ch, chL ks, []⟩ := by
  rw [TT.ch_eq]
  show PT.mk t1.ch (us.map AT.ch) (chL ks) (LT.ch ⟨⟨#[]⟩, none, 0, 0, []⟩) = _
  rw [lt_none_ch]

/-- between two rounds: the trees so far, in a row of the caller's own -/
def MergI (g : Ch → Ch) (bo : Nat) (w : World) (pre : List TT) (K : Nat → Prop) (W : World) : Prop :=
  ∃ v us, Whole W bo 22 #[v] ∧ W.ownsRow w.heap.size 45 6 v us.length (treeCells us) ∧ (∀ i, v.ownBlock = some i → K i) ∧ AllS (fun b => K b ∧ b ≠ bo ∧ v.ownBlock ≠ some b) W us ∧
    chL us = (chL pre).map (mgG g) ∧ K bo ∧ (∀ b, K b → bo ≤ b ∧ b < W.heap.size) ∧ Moved (fun i => bo ≤ i) w W
theorem mergI_held {g : Ch → Ch} {bo : Nat} {w : World} : Held w.heap.size (MergI g bo w) := by
  rintro pre K W W' ⟨v, us, hw, hown, hg, hus, he, hkb, hkl, hm⟩ hz hmv
  refine ⟨v, us, hmv.whole hw (fun h => h.2 hkb), hmv.own hown (fun g h h2 => h2.2 (hg g h)), hg, hus.keep (hmv.stays fun i _ h h2 => h2.2 h.1), he, hkb, fun b hb => ⟨(hkl b hb).1, Nat.lt_of_lt_of_le (hkl b hb).2 hmv.size⟩, hm.join hmv fun i hi h => by have := h.1; omega⟩

def zeroTT : TT := ⟨⟨⟨#[]⟩, none, 0, 0, []⟩, none, 0, 0, [], none, 0, 0, [], ⟨⟨#[]⟩, none, 0, 0, []⟩⟩

/-- a round's end: a tree more, behind those that are there -/
theorem merg_round {g : Ch → Ch} {bo : Nat} {w W1 W3 W6 w7 w9 : World} {pre : List TT} {K G : Nat → Prop} {x T : TT} {v v' : Value} {us : List TT} {o : Obj} (hb : bo < w.heap.size) (hz1 : w.heap.size ≤ W1.heap.size) (hz3 : W1.heap.size < W3.heap.size)
    (hown : W3.ownsRow w.heap.size 45 6 v us.length (treeCells us)) (hg : ∀ i, v.ownBlock = some i → K i) (hus : AllS (fun b => K b ∧ b ≠ bo ∧ v.ownBlock ≠ some b) W3 us)
    (he : chL us = (chL pre).map (mgG g)) (hkb : K bo) (hkl : ∀ b, K b → bo ≤ b ∧ b < W1.heap.size) (hm : Moved (fun i => bo ≤ i) w W3) (hm6 : Moved (fun b => b = W1.heap.size) W3 W6)
    (hT : T.inS (fun b => W1.heap.size < b) W6) (hTK : AllS (fun b => W1.heap.size < b) W6 T.kids) (hTC : T.ch = mgG g x.ch)
    (hgr : (W6.alloc o).grownBy w7 v.ownBlock) (hv' : v'.ownBlock = v.ownBlock ∨ v'.ownBlock = some (W6.alloc o).heap.size)
    (hw9 : Whole w9 bo 22 #[v']) (hown9 : w9.ownsRow w.heap.size 45 6 v' (us.length + 1) (treeCells (us ++ [T]))) (hm9 : Moved (fun b => b = bo ∨ v'.ownBlock = some b) w7 w9) :
    ∃ K', MergI g bo w (pre ++ [x]) K' w9 ∧ (∀ b, K' b → K b ∨ G b ∨ (W1.heap.size ≤ b ∧ b < w9.heap.size)) ∧ Moved (fun b => K b ∨ G b ∨ W1.heap.size ≤ b) W3 w9 := by
  have hz6 := hm6.size
  have hz6' : (W6.alloc o).heap.size = W6.heap.size + 1 := by simp
  have hz7 := hgr.size
  have hz9 := hm9.size
  have hvk : ∀ i, v.ownBlock = some i → w.heap.size ≤ i ∧ i < W1.heap.size := fun i h => ⟨(hown.lt i h).1, (hkl i (hg i h)).2⟩
  have hm67 : Moved (fun b => v.ownBlock = some b) W6 w7 :=
    (Moved.of_below (S := fun b => v.ownBlock = some b) ((Below.refl W6.heap.size W6).alloc (Nat.le_refl _) o)).join (Y := fun b => v.ownBlock = some b) ⟨hgr.os, hgr.tape, hgr.output, hgr.size, fun i hi hn => hgr.block i hi (fun e => hn e.symm)⟩ (fun i _ h => h)
  have hv2 : ∀ i, v'.ownBlock = some i → v.ownBlock = some i ∨ i = W6.heap.size + 1 := fun i h => by
    rcases hv' with e | e
    · exact .inl (e ▸ h)
    · rw [e] at h; injection h with h; exact .inr (by omega)
  have hm69 : Moved (fun b => b = bo ∨ v.ownBlock = some b) W6 w9 := (hm67.mono fun i _ h => .inr h).join hm9 fun i hi h => by
    rcases h with h | h
    · exact .inl h
    · rcases hv2 i h with h | h
      · exact .inr h
      · omega
  have hm39 : Moved (fun b => b = W1.heap.size ∨ b = bo ∨ v.ownBlock = some b) W3 w9 := (hm6.mono fun i _ h => .inl h).join hm69 fun i _ h => .inr h
  refine ⟨fun b => K b ∨ (W1.heap.size ≤ b ∧ b < w9.heap.size), ⟨v', us ++ [T], hw9, by rw [List.length_append, List.length_singleton]; exact hown9, ?_, ?_, ?_, .inl hkb, ?_, ?_⟩, fun b h => h.imp id .inr, hm39.mono ?_⟩
  · intro i h
    rcases hv2 i h with h2 | h2
    · exact .inl (hg i h2)
    · exact .inr ⟨by omega, (hown9.lt i h).2⟩
  · refine AllS.append ?_ ?_
    · have h1 : AllS (fun b => b < W3.heap.size ∧ K b ∧ b ≠ bo ∧ v.ownBlock ≠ some b) W3 us := hus.mono fun b h hl => ⟨hl, h⟩
      refine (h1.keep (hm39.stays fun i _ h h2 => ?_)).mono fun b h _ => ⟨.inl h.2.1, h.2.2.1, fun h2 => ?_⟩
      · rcases h2 with h2 | h2 | h2
        · have := (hkl i h.2.1).2; omega
        · exact h.2.2.1 h2
        · exact h.2.2.2 h2
      · rcases hv2 b h2 with h3 | h3
        · exact h.2.2.2 h3
        · have := (hkl b h.2.1).2; omega
    · have hst : Stays (fun b => W1.heap.size < b ∧ b < W6.heap.size) W6 w9 := hm69.stays fun i _ h h2 => by
        rcases h2 with h2 | h2
        · omega
        · have := (hvk i h2).2; omega
      have hsub : ∀ b, (W1.heap.size < b ∧ b < W6.heap.size) → b < w9.heap.size → (K b ∨ (W1.heap.size ≤ b ∧ b < w9.heap.size)) ∧ b ≠ bo ∧ v'.ownBlock ≠ some b := fun b h hl => ⟨.inr ⟨by omega, hl⟩, by omega, fun h2 => by
        rcases hv2 b h2 with h3 | h3
        · have := (hvk b h3).2; omega
        · omega⟩
      exact AllS.one (((hT.mono fun b h hl => ⟨h, hl⟩).keep hst).mono hsub) (((hTK.mono fun b h hl => ⟨h, hl⟩).keep hst).mono hsub)
  · rw [chL_append, he, chL_append, List.map_append, chL, chL, chL, chL, hTC]; rfl
  · rintro b (h | h)
    · exact ⟨(hkl b h).1, by have := (hkl b h).2; omega⟩
    · exact ⟨by omega, h.2⟩
  · exact hm.join hm39 fun i hi h => by
      rcases h with h | h | h
      · exact (by omega : bo ≤ i)
      · exact (by omega : bo ≤ i)
      · exact (hkl i (hg i h)).1
  · rintro i hi (h | h | h)
    · exact .inr (.inr (by omega))
    · exact .inl (h ▸ hkb)
    · exact .inl (hg i h)

/-- a tree made anew, in the round's own variable -/
def MadeT (g : Ch → Ch) (W1 W3 : World) (x T : TT) (W6 : World) : Prop :=
  Whole W6 W1.heap.size 45 #[.string T.tag.s, .slice T.tag.A T.tag.n T.tag.c, .slice T.A T.n T.c, .slice T.K T.kn T.kc, .string T.text.s, .slice T.text.A T.text.n T.text.c] ∧ Moved (fun b => b = W1.heap.size) W3 W6 ∧
    T.inS (fun b => W1.heap.size < b) W6 ∧ AllS (fun b => W1.heap.size < b) W6 T.kids ∧ T.ch = mgG g x.ch
theorem made_drew {g : Ch → Ch} {W1 W3 : World} {x T : TT} {W6 : World} (h : MadeT g W1 W3 x T W6) : MadeT g W1 W3 x T W6.drew := ⟨h.1, h.2.1.drew, h.2.2.1.keep ⟨Nat.le_refl _, fun _ _ _ => rfl⟩, h.2.2.2.1.keep ⟨Nat.le_refl _, fun _ _ _ => rfl⟩, h.2.2.2.2⟩
theorem own_some {w : World} {base n c : Nat} {e : TypeId} {size : Nat} {A : Option Addr} {xs : List Value} (h : w.ownsRow base e size (.slice A n c) n xs) (hn : 0 < n) : ∃ g, A = some ⟨g, 0, none⟩ := by
  rcases h.2 with ⟨hv, _⟩ | ⟨g, cap, cur, hv, _⟩
  · injection hv with _ hv _; omega
  · injection hv with hv _ _; exact ⟨g, hv⟩
/-- tree k of a row of the call's own: its six cells -/
theorem tree_at {w : World} {base n cap g k : Nat} {us : List TT} {t : TT} (ho : w.ownsRow base 45 6 (.slice (some ⟨g, 0, none⟩) n cap) n (treeCells us)) (hk : us[k]? = some t) (hn : us.length = n) :
    w.cell? ⟨g, k * 6, none⟩ = some (.string t.tag.s) ∧ w.cell? ⟨g, k * 6 + 1, none⟩ = some (.slice t.tag.A t.tag.n t.tag.c) ∧ w.cell? ⟨g, k * 6 + 2, none⟩ = some (.slice t.A t.n t.c) ∧ w.cell? ⟨g, k * 6 + 3, none⟩ = some (.slice t.K t.kn t.kc) ∧ w.cell? ⟨g, k * 6 + 4, none⟩ = some (.string t.text.s) ∧ w.cell? ⟨g, k * 6 + 5, none⟩ = some (.slice t.text.A t.text.n t.text.c) ∧
      w.frozen? ⟨g, k * 6, none⟩ = false ∧ w.frozen? ⟨g, k * 6 + 1, none⟩ = false ∧ w.frozen? ⟨g, k * 6 + 2, none⟩ = false ∧ w.frozen? ⟨g, k * 6 + 3, none⟩ = false ∧ w.frozen? ⟨g, k * 6 + 4, none⟩ = false ∧ w.frozen? ⟨g, k * 6 + 5, none⟩ = false := by
  have hlt := (List.getElem?_eq_some_iff.1 hk).1
  have key : ∀ j, j < 6 → w.cell? ⟨g, k * 6 + j, none⟩ = (treeRow t)[j]? := fun j hj => (ho.cellAt _ (by omega)).trans (treeCells_at us k t hk j hj)
  exact ⟨key 0 (by omega), key 1 (by omega), key 2 (by omega), key 3 (by omega), key 4 (by omega), key 5 (by omega), ho.frozenAt _, ho.frozenAt _, ho.frozenAt _, ho.frozenAt _, ho.frozenAt _, ho.frozenAt _⟩
/-- a tree in place of another in a row of the call's own -/
theorem tree_stored {w : World} {base n cap g k : Nat} {us : List TT} (T : TT) (ho : w.ownsRow base 45 6 (.slice (some ⟨g, 0, none⟩) n cap) n (treeCells us)) (hk : k < us.length) :
    let w' := (((((w.setCell ⟨g, k * 6, none⟩ (.string T.tag.s)).setCell ⟨g, k * 6 + 1, none⟩ (.slice T.tag.A T.tag.n T.tag.c)).setCell ⟨g, k * 6 + 2, none⟩ (.slice T.A T.n T.c)).setCell ⟨g, k * 6 + 3, none⟩ (.slice T.K T.kn T.kc)).setCell ⟨g, k * 6 + 4, none⟩ (.string T.text.s)).setCell ⟨g, k * 6 + 5, none⟩ (.slice T.text.A T.text.n T.text.c)
    w'.ownsRow base 45 6 (.slice (some ⟨g, 0, none⟩) n cap) n (treeCells (us.set k T)) ∧ Moved (fun b => b = g) w w' := by
  intro w'
  have o1 := (ho.stored (k * 6) (.string T.tag.s)).1
  have o2 := (o1.stored (k * 6 + 1) (.slice T.tag.A T.tag.n T.tag.c)).1
  have o3 := (o2.stored (k * 6 + 2) (.slice T.A T.n T.c)).1
  have o4 := (o3.stored (k * 6 + 3) (.slice T.K T.kn T.kc)).1
  have o5 := (o4.stored (k * 6 + 4) (.string T.text.s)).1
  have o6 := (o5.stored (k * 6 + 5) (.slice T.text.A T.text.n T.text.c)).1
  refine ⟨?_, ?_⟩
  · rw [← treeCells_set us k T hk]
    exact o6
  · exact ((((((Moved.refl (fun b => b = g) w).setCell (p := ⟨g, k * 6, none⟩) rfl _).setCell (p := ⟨g, k * 6 + 1, none⟩) rfl _).setCell (p := ⟨g, k * 6 + 2, none⟩) rfl _).setCell (p := ⟨g, k * 6 + 3, none⟩) rfl _).setCell (p := ⟨g, k * 6 + 4, none⟩) rfl _).setCell (p := ⟨g, k * 6 + 5, none⟩) rfl _

end Go.Proofs.Ytfebcnndehpklaa.mk
