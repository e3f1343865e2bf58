/-
  The reference's Tag: what its loops keep.
-/
import Derived.Test.YtdiifkmcbnhliaaGreatJoinAN
import Derived.Test.YtdiifkmcbnhliaaGreatJoinAK
import Derived.Test.YtdiifkmcbnhliaaGreatJoinAM
namespace Go.Proofs.YtdiifkmcbnhliaaGreat.mk
open Go.RowKit

/-! ### Pure -/
theorem takeW_at {α : Type} (p : α → Bool) : ∀ (l : List α) (k : Nat), k ≤ (l.takeWhile p).length →
    (∀ c, l[k]? = some c → p c = true → k + 1 ≤ (l.takeWhile p).length) ∧ ((∀ c, l[k]? = some c → p c = false) → k = (l.takeWhile p).length) := by
  intro l
  induction l with
  | nil =>
    intro k hk
    exact ⟨fun c h => by simp at h, fun _ => by simpa using hk⟩
  | cons a l ih =>
    intro k hk
    cases ha : p a with
    | false =>
      have e : (a :: l).takeWhile p = [] := by rw [List.takeWhile_cons, ha]; rfl
      rw [e] at hk ⊢
      obtain rfl : k = 0 := by simpa using hk
      refine ⟨fun c h hc => ?_, fun _ => rfl⟩
      rw [List.getElem?_cons_zero] at h
      injection h with h
      rw [← h, ha] at hc
      cases hc
    | true =>
      have e : (a :: l).takeWhile p = a :: l.takeWhile p := by rw [List.takeWhile_cons, ha]; rfl
      rw [e] at hk ⊢
      rw [List.length_cons] at hk ⊢
      cases k with
      | zero => exact ⟨fun c _ _ => by omega, fun h => by have := h a (List.getElem?_cons_zero ..); rw [ha] at this; cases this⟩
      | succ k =>
        have h := ih k (by omega)
        refine ⟨fun c hc hp => ?_, fun hh => ?_⟩
        · rw [List.getElem?_cons_succ] at hc
          have := h.1 c hc hp
          omega
        · have := h.2 (fun c hc => hh c (by rw [List.getElem?_cons_succ]; exact hc))
          omega
theorem nextT_cases (st : Nat) (c : UInt8) (b : Bool) :
    (nextT st c b).1 = 99 ∨ (st = 0 ∧ nextT st c b = (1, false, true)) ∨ (st = 1 ∧ nextT st c b = (1, true, false)) ∨ (∃ n, ¬ n = 1 ∧ ¬ n = 99 ∧ n ≤ 6 ∧ nextT st c b = (n, true, false)) ∨ (∃ n g, ¬ n = 99 ∧ n ≤ 6 ∧ ¬ (n = 1 ∧ st = 0) ∧ nextT st c b = (n, false, g)) := by
  unfold nextT
  by_cases h1 : st = 1
  · subst h1
    rw [if_pos rfl]
    split
    · exact Or.inr (Or.inr (Or.inr (Or.inr ⟨2, true, by omega, by omega, by omega, rfl⟩)))
    · split
      · exact Or.inr (Or.inr (Or.inr (Or.inr ⟨3, false, by omega, by omega, by omega, rfl⟩)))
      · exact Or.inr (Or.inr (Or.inl ⟨rfl, rfl⟩))
  rw [if_neg h1]
  by_cases h2 : st = 2
  · subst h2
    rw [if_pos rfl]
    split
    · exact Or.inr (Or.inr (Or.inr (Or.inr ⟨2, false, by omega, by omega, by omega, rfl⟩)))
    · split
      · exact Or.inr (Or.inr (Or.inr (Or.inr ⟨3, false, by omega, by omega, by omega, rfl⟩)))
      · exact Or.inr (Or.inr (Or.inr (Or.inr ⟨0, true, by omega, by omega, by omega, rfl⟩)))
  rw [if_neg h2]
  by_cases h3 : st = 3
  · subst h3
    rw [if_pos rfl]
    split
    · exact Or.inr (Or.inr (Or.inr (Or.inr ⟨3, false, by omega, by omega, by omega, rfl⟩)))
    · split
      · exact Or.inr (Or.inr (Or.inr (Or.inr ⟨4, false, by omega, by omega, by omega, rfl⟩)))
      · split
        · exact Or.inr (Or.inr (Or.inr (Or.inr ⟨5, false, by omega, by omega, by omega, rfl⟩)))
        · exact Or.inr (Or.inr (Or.inr (Or.inr ⟨6, true, by omega, by omega, by omega, rfl⟩)))
  rw [if_neg h3]
  by_cases h4 : st = 4 ∨ st = 5
  · rw [if_pos h4]
    split
    · exact Or.inr (Or.inr (Or.inr (Or.inr ⟨0, false, by omega, by omega, by omega, rfl⟩)))
    · exact Or.inr (Or.inr (Or.inr (Or.inl ⟨st, by omega, by omega, by omega, rfl⟩)))
  rw [if_neg h4]
  by_cases h6 : st = 6
  · subst h6
    rw [if_pos rfl]
    split
    · exact Or.inr (Or.inr (Or.inr (Or.inr ⟨0, true, by omega, by omega, by omega, rfl⟩)))
    · exact Or.inr (Or.inr (Or.inr (Or.inl ⟨6, by omega, by omega, by omega, rfl⟩)))
  rw [if_neg h6]
  split
  · exact Or.inl rfl
  · split
    · exact Or.inr (Or.inr (Or.inr (Or.inr ⟨0, false, by omega, by omega, by omega, rfl⟩)))
    · by_cases h0 : st = 0
      · exact Or.inr (Or.inl ⟨h0, rfl⟩)
      · exact Or.inr (Or.inr (Or.inr (Or.inr ⟨1, true, by omega, by omega, by omega, rfl⟩)))
theorem stepT_reset {s : TkS} {c : UInt8 × Int} (h : s.st = 0) : stepT s c (1, false, true) = ⟨1, [], [], doneT s.al (s.nm, s.vl)⟩ := by unfold stepT; simp [h]
theorem stepT_name {s : TkS} {c : UInt8 × Int} (h : s.st = 1) : stepT s c (1, true, false) = ⟨1, s.nm ++ [c], s.vl, s.al⟩ := by unfold stepT; simp [h]
theorem stepT_value {s : TkS} {c : UInt8 × Int} {n : Nat} (h : ¬ n = 1) : stepT s c (n, true, false) = ⟨n, s.nm, s.vl ++ [c], s.al⟩ := by unfold stepT; simp [h]
theorem stepT_none {s : TkS} {c : UInt8 × Int} {n : Nat} {g : Bool} (h : ¬ (n = 1 ∧ s.st = 0)) : stepT s c (n, false, g) = ⟨n, s.nm, s.vl, s.al⟩ := by unfold stepT; simp [h]

/-! ### In memory -/
theorem lies_wholeR {W : World} {g : Nat} {t : TypeId} {cs : Array Value} {l : List Value} (h : Whole W g t cs) (hl : cs.toList = l) : Lies W W.heap.size (some ⟨g, 0, none⟩) l := by
  intro j u hu
  refine ⟨_, rfl, h.lt, ?_⟩
  subst hl
  have h1 := h.at_ j
  rw [← Array.getElem?_toList, hu] at h1
  have e : (⟨g, 0, none⟩ : Addr).add j = ⟨g, j, none⟩ := by
    cases j with
    | zero => rfl
    | succ j => simp [Addr.add]
  rw [e]; exact h1
/-- the block of a row's own -/
def RW.blk (r : RW) : Option Nat := (Value.slice r.A r.n r.c).ownBlock
theorem RW.own.keep {w w' : World} {base : Nat} {r : RW} (h : r.own w base) (hk : ∀ b, r.blk = some b → w'.heap[b]? = w.heap[b]?) : r.own w' base := ⟨h.1, h.2.1, own_same h.2.2 hk⟩
theorem RW.own.mono {w : World} {base base' : Nat} {r : RW} (h : r.own w base) (hb : base' ≤ base) : r.own w base' := ⟨h.1, h.2.1, own_mono h.2.2 hb⟩
theorem RA.own.mono {w : World} {base base' : Nat} {a : RA} (h : a.own w base) (hb : base' ≤ base) : a.own w base' := ⟨h.1.mono hb, h.2.mono hb⟩
theorem RW.own.lt {w : World} {base b : Nat} {r : RW} (h : r.own w base) (hb : r.blk = some b) : base ≤ b ∧ b < w.heap.size := h.2.2.lt b hb
/-- a row's block is not one of another type -/
theorem own_not {w : World} {base n size g : Nat} {e t : TypeId} {v : Value} {xs : List Value} {cs : Array Value} (h : w.ownsRow base e size v n xs) (hW : Whole w g t cs) (he : e ≠ t) : v.ownBlock ≠ some g := by
  intro hb
  obtain ⟨cur, hc⟩ := own_kind h hb
  rw [show w.heap[g]? = _ from hW] at hc
  injection hc with hc
  injection hc with _ hc _
  exact he hc.symm
theorem own_apart {w : World} {base base' n n' size size' b : Nat} {e e' : TypeId} {v v' : Value} {xs xs' : List Value} (h : w.ownsRow base e size v n xs) (h' : w.ownsRow base' e' size' v' n' xs') (he : e ≠ e') (hb : v.ownBlock = some b) : v'.ownBlock ≠ some b := by
  intro hb'
  obtain ⟨c1, h1⟩ := own_kind h hb
  obtain ⟨c2, h2⟩ := own_kind h' hb'
  rw [h1] at h2
  injection h2 with h2
  injection h2 with _ h2 _
  exact he h2
/-- the rows of the attributes that are done, of the name, and of the attribute that is read, share no block -/
def Part (B : Nat) (nm x y : RW) (rs : List RA) : Prop :=
  (∀ b, nm.blk = some b → b < B) ∧ (∀ r ∈ rs, ∀ b, (r.nm.blk = some b ∨ r.vl.blk = some b) → b < B) ∧ (∀ b, x.blk = some b → B ≤ b) ∧ (∀ b, y.blk = some b → B ≤ b) ∧ (∀ b, x.blk = some b → y.blk ≠ some b)
/-- the two locals, while a tag's name is read -/
structure NmS (w : World) (kind : Int) (x : RW) (wr : World) : Prop where
  below : Below w.heap.size w wr
  res : Whole wr w.heap.size 39 #[.int .i64 0, .slice none 0 0, .slice none 0 0, .bool false, .slice none 0 0]
  tok : Whole wr (w.heap.size + 1) 39 #[.int .i64 kind, .slice x.A x.n x.c, .slice none 0 0, .bool false, .slice none 0 0]
  xo : x.own wr (w.heap.size + 2)
theorem NmS.next {w wr wr' : World} {kind : Int} {x : RW} (h : NmS w kind x wr) (hb : Below wr.heap.size wr wr') : NmS w kind x wr' :=
  ⟨h.below.trans (hb.mono h.below.size), h.res.below hb h.res.lt, h.tok.below hb h.tok.lt, h.xo.below hb⟩
theorem NmS.add {w wr w1 w2 : World} {kind : Int} {x : RW} {c : UInt8 × Int} {A2 : Option Addr} {c2 : Nat} (h : NmS w kind x wr) (hb : Below wr.heap.size wr w1) (hz : x.n < 268435456) (hg : w1.grownBy w2 (Value.slice x.A x.n x.c).ownBlock)
    (ho : w2.ownsRow (w.heap.size + 2) 65 2 (.slice A2 (x.n + 1) c2) (x.n + 1) (chCells x.ch ++ [.int .u8 c.1.toNat, .int .i64 c.2])) :
    NmS w kind ⟨A2, x.n + 1, c2, x.ch ++ [c]⟩ (w2.setCell ⟨w.heap.size + 1, 1, none⟩ (.slice A2 (x.n + 1) c2)) := by
  have h1 := h.next hb
  have hx : ∀ b, (Value.slice x.A x.n x.c).ownBlock = some b → w.heap.size + 2 ≤ b := fun b e => (h1.xo.lt e).1
  refine ⟨?_, ?_, ?_, ?_, ?_, ?_⟩
  · exact (h1.below.grown hg h1.below.size (fun k hk => by have := hx k hk; omega)).setCell (p := ⟨w.heap.size + 1, 1, none⟩) (Nat.le_succ _) _
  · exact (h1.res.grown hg (fun e => by have := hx _ e.symm; omega)).far _ (by show w.heap.size ≠ w.heap.size + 1; omega) _
  · exact (h1.tok.grown hg (fun e => by have := hx _ e.symm; omega)).put 1 _
  · rw [List.length_append, h1.xo.1]; rfl
  · show x.n + 1 ≤ 268435456; omega
  · show World.ownsRow _ _ _ _ (.slice A2 (x.n + 1) c2) (x.n + 1) (chCells (x.ch ++ [c]))
    rw [chCells_snoc]
    exact own_far ho _ (fun e => by have h9 : w.heap.size + 2 ≤ w.heap.size + 1 := (ho.lt _ e).1; omega) _
/-- the two locals and the answer, while a tag's attributes are read -/
structure TgS (w : World) (g7 : Nat) (kind : Int) (nm x y : RW) (rs : List RA) (v : Value) (cl : Bool) (wr : World) : Prop where
  below : Below w.heap.size w wr
  res : Whole wr w.heap.size 39 #[.int .i64 0, .slice none 0 0, .slice none 0 0, .bool false, .slice none 0 0]
  tok : Whole wr (w.heap.size + 1) 39 #[.int .i64 kind, .slice nm.A nm.n nm.c, v, .bool cl, .slice none 0 0]
  att : Whole wr g7 75 #[.slice x.A x.n x.c, .slice y.A y.n y.c]
  hi7 : w.heap.size + 2 ≤ g7
  nmo : nm.own wr (w.heap.size + 2)
  row : wr.ownsRow (g7 + 1) 75 2 v rs.length (raCells rs)
  ras : ∀ r ∈ rs, r.own wr (g7 + 1)
  xo : x.own wr (g7 + 1)
  yo : y.own wr (g7 + 1)
  part : ∃ B, B ≤ wr.heap.size ∧ Part B nm x y rs
section
variable {w wr wr' w1 w2 : World} {g7 : Nat} {kind : Int} {nm x y : RW} {rs rs' : List RA} {v v' : Value} {cl : Bool}
theorem TgS.next (h : TgS w g7 kind nm x y rs v cl wr) (hb : Below wr.heap.size wr wr') : TgS w g7 kind nm x y rs v cl wr' := by
  have hz := h.below.size
  obtain ⟨B, hB, hp⟩ := h.part
  exact ⟨h.below.trans (hb.mono hz), h.res.below hb h.res.lt, h.tok.below hb h.tok.lt, h.att.below hb h.att.lt, h.hi7, h.nmo.below hb, own_keep h.row hb, fun r hr => (h.ras r hr).below hb, h.xo.below hb, h.yo.below hb, B, Nat.le_trans hB hb.size, hp⟩
theorem TgS.drew (h : TgS w g7 kind nm x y rs v cl wr) : TgS w g7 kind nm x y rs v cl wr.drew := h.next (Below.drew (Below.refl _ _))
theorem TgS.drewN (h : TgS w g7 kind nm x y rs v cl wr) (n : Nat) : TgS w g7 kind nm x y rs v cl (wr.drewN n) := h.next (Below.drewN (Below.refl _ _) n)
/-- one byte more behind the attribute's name -/
theorem TgS.addX {c : UInt8 × Int} {A2 : Option Addr} {c2 : Nat} (h : TgS w g7 kind nm x y rs v cl wr) (hb : Below wr.heap.size wr w1) (hz : x.n < 268435456) (hg : w1.grownBy w2 (Value.slice x.A x.n x.c).ownBlock)
    (ho : w2.ownsRow (g7 + 1) 65 2 (.slice A2 (x.n + 1) c2) (x.n + 1) (chCells x.ch ++ [.int .u8 c.1.toNat, .int .i64 c.2]))
    (hbl : (Value.slice A2 (x.n + 1) c2).ownBlock = (Value.slice x.A x.n x.c).ownBlock ∨ (Value.slice A2 (x.n + 1) c2).ownBlock = some w1.heap.size) :
    TgS w g7 kind nm ⟨A2, x.n + 1, c2, x.ch ++ [c]⟩ y rs v cl (w2.setCell ⟨g7, 0, none⟩ (.slice A2 (x.n + 1) c2)) := by
  have h1 := h.next hb
  obtain ⟨B, hB, hp1, hp2, hp3, hp4, hp5⟩ := h.part
  have hB1 : B ≤ w1.heap.size := Nat.le_trans hB hb.size
  have hx : ∀ b, x.blk = some b → g7 + 1 ≤ b ∧ b < w1.heap.size := fun b e => h1.xo.lt e
  have K : ∀ k, k < w1.heap.size → x.blk ≠ some k → k ≠ g7 → (w2.setCell ⟨g7, 0, none⟩ (.slice A2 (x.n + 1) c2)).heap[k]? = w1.heap[k]? := fun k hk h1 h2 =>
    (Below.heap_setCell w2 ⟨g7, 0, none⟩ _ k h2).trans (hg.block k hk (fun e => h1 e.symm))
  have hg7 := h.hi7
  have nC : ∀ {base : Nat} {r : RW} {b : Nat}, r.own w1 base → r.blk = some b → b ≠ g7 := fun hr hb e => own_not hr.2.2 h1.att (by decide) (by rw [← e]; exact hb)
  have hfr : ∀ {base : Nat} {r : RW}, r.own w1 base → (∀ b, r.blk = some b → b < B) → r.own (w2.setCell ⟨g7, 0, none⟩ (.slice A2 (x.n + 1) c2)) base := fun {base r} hr hlt =>
    hr.keep fun b e => K b (hr.lt e).2 (fun e2 => by have := hlt b e; have := hp3 b e2; omega) (nC hr e)
  refine ⟨?_, ?_, ?_, ?_, hg7, ?_, ?_, ?_, ?_, ?_, B, ?_, hp1, hp2, ?_, ?_, ?_⟩
  · exact (h1.below.grown hg h1.below.size (fun k hk => by have := (hx k hk).1; omega)).setCell (p := ⟨g7, 0, none⟩) (by show w.heap.size ≤ g7; omega) _
  · exact h1.res.same (K _ h1.res.lt (fun e => by have := (hx _ e).1; omega) (by omega))
  · exact h1.tok.same (K _ h1.tok.lt (fun e => by have := (hx _ e).1; omega) (by omega))
  · exact (h1.att.grown hg (fun e => by have := (hx _ e.symm).1; omega)).put 0 _
  · exact hfr h1.nmo hp1
  · exact own_same h1.row fun b e => K b (h1.row.lt b e).2 (fun e2 => own_apart h1.xo.2.2 h1.row (by decide) e2 e) (by have := (h1.row.lt b e).1; omega)
  · intro r hr
    exact ⟨hfr (h1.ras r hr).1 (fun b e => hp2 r hr b (Or.inl e)), hfr (h1.ras r hr).2 (fun b e => hp2 r hr b (Or.inr e))⟩
  · refine ⟨?_, by show x.n + 1 ≤ 268435456; omega, ?_⟩
    · rw [List.length_append, h1.xo.1]; rfl
    · show World.ownsRow _ _ _ _ (.slice A2 (x.n + 1) c2) (x.n + 1) (chCells (x.ch ++ [c]))
      rw [chCells_snoc]
      exact own_far ho _ (fun e => by have h9 : g7 + 1 ≤ g7 := (ho.lt _ e).1; omega) _
  · exact h1.yo.keep fun b e => K b (h1.yo.lt e).2 (fun e2 => hp5 b e2 e) (nC h1.yo e)
  · have := hg.size
    show B ≤ (World.setCell _ _ _).heap.size
    rw [World.size_setCell]
    omega
  · intro b e
    rcases hbl with e2 | e2
    · exact hp3 b (e2.symm.trans e)
    · have e3 : b = w1.heap.size := by have := e2.symm.trans e; injection this with this; exact this.symm
      omega
  · exact hp4
  · intro b e e3
    rcases hbl with e2 | e2
    · exact hp5 b (e2.symm.trans e) e3
    · have e4 : b = w1.heap.size := by have := e2.symm.trans e; injection this with this; exact this.symm
      have := (h1.yo.lt e3).2
      omega
/-- one byte more behind the attribute's value -/
theorem TgS.addY {c : UInt8 × Int} {A2 : Option Addr} {c2 : Nat} (h : TgS w g7 kind nm x y rs v cl wr) (hb : Below wr.heap.size wr w1) (hz : y.n < 268435456) (hg : w1.grownBy w2 (Value.slice y.A y.n y.c).ownBlock)
    (ho : w2.ownsRow (g7 + 1) 65 2 (.slice A2 (y.n + 1) c2) (y.n + 1) (chCells y.ch ++ [.int .u8 c.1.toNat, .int .i64 c.2]))
    (hbl : (Value.slice A2 (y.n + 1) c2).ownBlock = (Value.slice y.A y.n y.c).ownBlock ∨ (Value.slice A2 (y.n + 1) c2).ownBlock = some w1.heap.size) :
    TgS w g7 kind nm x ⟨A2, y.n + 1, c2, y.ch ++ [c]⟩ rs v cl (w2.setCell ⟨g7, 1, none⟩ (.slice A2 (y.n + 1) c2)) := by
  have h1 := h.next hb
  obtain ⟨B, hB, hp1, hp2, hp3, hp4, hp5⟩ := h.part
  have hB1 : B ≤ w1.heap.size := Nat.le_trans hB hb.size
  have hx : ∀ b, y.blk = some b → g7 + 1 ≤ b ∧ b < w1.heap.size := fun b e => h1.yo.lt e
  have K : ∀ k, k < w1.heap.size → y.blk ≠ some k → k ≠ g7 → (w2.setCell ⟨g7, 1, none⟩ (.slice A2 (y.n + 1) c2)).heap[k]? = w1.heap[k]? := fun k hk h1 h2 =>
    (Below.heap_setCell w2 ⟨g7, 1, none⟩ _ k h2).trans (hg.block k hk (fun e => h1 e.symm))
  have hg7 := h.hi7
  have nC : ∀ {base : Nat} {r : RW} {b : Nat}, r.own w1 base → r.blk = some b → b ≠ g7 := fun hr hb e => own_not hr.2.2 h1.att (by decide) (by rw [← e]; exact hb)
  have hfr : ∀ {base : Nat} {r : RW}, r.own w1 base → (∀ b, r.blk = some b → b < B) → r.own (w2.setCell ⟨g7, 1, none⟩ (.slice A2 (y.n + 1) c2)) base := fun {base r} hr hlt =>
    hr.keep fun b e => K b (hr.lt e).2 (fun e2 => by have := hlt b e; have := hp4 b e2; omega) (nC hr e)
  refine ⟨?_, ?_, ?_, ?_, hg7, ?_, ?_, ?_, ?_, ?_, B, ?_, hp1, hp2, ?_, ?_, ?_⟩
  · exact (h1.below.grown hg h1.below.size (fun k hk => by have := (hx k hk).1; omega)).setCell (p := ⟨g7, 1, none⟩) (by show w.heap.size ≤ g7; omega) _
  · exact h1.res.same (K _ h1.res.lt (fun e => by have := (hx _ e).1; omega) (by omega))
  · exact h1.tok.same (K _ h1.tok.lt (fun e => by have := (hx _ e).1; omega) (by omega))
  · exact (h1.att.grown hg (fun e => by have := (hx _ e.symm).1; omega)).put 1 _
  · exact hfr h1.nmo hp1
  · exact own_same h1.row fun b e => K b (h1.row.lt b e).2 (fun e2 => own_apart h1.yo.2.2 h1.row (by decide) e2 e) (by have := (h1.row.lt b e).1; omega)
  · intro r hr
    exact ⟨hfr (h1.ras r hr).1 (fun b e => hp2 r hr b (Or.inl e)), hfr (h1.ras r hr).2 (fun b e => hp2 r hr b (Or.inr e))⟩
  · exact h1.xo.keep fun b e => K b (h1.xo.lt e).2 (fun e2 => hp5 b e e2) (nC h1.xo e)
  · refine ⟨?_, by show y.n + 1 ≤ 268435456; omega, ?_⟩
    · rw [List.length_append, h1.yo.1]; rfl
    · show World.ownsRow _ _ _ _ (.slice A2 (y.n + 1) c2) (y.n + 1) (chCells (y.ch ++ [c]))
      rw [chCells_snoc]
      exact own_far ho _ (fun e => by have h9 : g7 + 1 ≤ g7 := (ho.lt _ e).1; omega) _
  · have := hg.size
    show B ≤ (World.setCell _ _ _).heap.size
    rw [World.size_setCell]
    omega
  · exact hp3
  · intro b e
    rcases hbl with e2 | e2
    · exact hp4 b (e2.symm.trans e)
    · have e3 : b = w1.heap.size := by have := e2.symm.trans e; injection this with this; exact this.symm
      omega
  · intro b e e3
    rcases hbl with e2 | e2
    · exact hp5 b e (e2.symm.trans e3)
    · have e4 : b = w1.heap.size := by have := e2.symm.trans e3; injection this with this; exact this.symm
      have := (h1.xo.lt e).2
      omega
/-- the close is told -/
theorem TgS.close (h : TgS w g7 kind nm x y rs v cl wr) (q : Bool) : TgS w g7 kind nm x y rs v q (wr.setCell ⟨w.heap.size + 1, 3, none⟩ (.bool q)) := by
  have hg7 := h.hi7
  have K : ∀ k, k ≠ w.heap.size + 1 → (wr.setCell ⟨w.heap.size + 1, 3, none⟩ (.bool q)).heap[k]? = wr.heap[k]? := fun k hk => Below.heap_setCell wr ⟨w.heap.size + 1, 3, none⟩ _ k hk
  have hk : ∀ {base : Nat} {r : RW}, w.heap.size + 2 ≤ base → r.own wr base → r.own (wr.setCell ⟨w.heap.size + 1, 3, none⟩ (.bool q)) base := fun hb hr => hr.keep fun b e => K b (by have := (hr.lt e).1; omega)
  obtain ⟨B, hB, hp⟩ := h.part
  refine ⟨h.below.setCell (p := ⟨w.heap.size + 1, 3, none⟩) (Nat.le_succ _) _, h.res.same (K _ (by omega)), h.tok.put 3 _, h.att.same (K _ (by omega)), hg7, hk (Nat.le_refl _) h.nmo, ?_, fun r hr => ⟨hk (by omega) (h.ras r hr).1, hk (by omega) (h.ras r hr).2⟩, hk (by omega) h.xo, hk (by omega) h.yo, B, ?_, hp⟩
  · exact own_same h.row fun b e => K b (by have := (h.row.lt b e).1; omega)
  · rw [World.size_setCell]; exact hB
/-- what done tells is stored: the rest stays -/
structure TgD (w : World) (g7 : Nat) (kind : Int) (nm : RW) (rs : List RA) (v : Value) (cl : Bool) (wr : World) : Prop where
  below : Below w.heap.size w wr
  res : Whole wr w.heap.size 39 #[.int .i64 0, .slice none 0 0, .slice none 0 0, .bool false, .slice none 0 0]
  tok : Whole wr (w.heap.size + 1) 39 #[.int .i64 kind, .slice nm.A nm.n nm.c, v, .bool cl, .slice none 0 0]
  att : ∃ a b, Whole wr g7 75 #[a, b]
  hi7 : w.heap.size + 2 ≤ g7
  nmo : nm.own wr (w.heap.size + 2)
  row : wr.ownsRow (g7 + 1) 75 2 v rs.length (raCells rs)
  ras : ∀ r ∈ rs, r.own wr (g7 + 1)
theorem TgS.done (h : TgS w g7 kind nm x y rs v cl wr) (hg : Grows wr w1 v v') (hrow : w1.ownsRow (g7 + 1) 75 2 v' rs'.length (raCells rs')) (hras : ∀ r ∈ rs', r.own w1 (g7 + 1)) :
    TgD w g7 kind nm rs' v' cl (w1.setCell ⟨w.heap.size + 1, 2, none⟩ v') := by
  have hg7 := h.hi7
  have hv : ∀ b, v.ownBlock = some b → g7 + 1 ≤ b := fun b e => (h.row.lt b e).1
  have K : ∀ k, k ≠ w.heap.size + 1 → (w1.setCell ⟨w.heap.size + 1, 2, none⟩ v').heap[k]? = w1.heap[k]? := fun k hk => Below.heap_setCell w1 ⟨w.heap.size + 1, 2, none⟩ _ k hk
  refine ⟨?_, ?_, ?_, ⟨.slice x.A x.n x.c, .slice y.A y.n y.c, ?_⟩, hg7, ?_, ?_, ?_⟩
  · exact (h.below.trans (hg.1.below h.below.size fun k hk e => by have := hv k e; omega)).setCell (p := ⟨w.heap.size + 1, 2, none⟩) (Nat.le_succ _) _
  · exact (hg.1.whole h.res (fun e => by have := hv _ e; omega)).same (K _ (by omega))
  · exact (hg.1.whole h.tok (fun e => by have := hv _ e; omega)).put 2 _
  · exact (hg.1.whole h.att (fun e => by have := hv _ e; omega)).same (K _ (by omega))
  · have h1 : nm.own w1 (w.heap.size + 2) := ⟨h.nmo.1, h.nmo.2.1, hg.1.own h.nmo.2.2 fun b e e2 => own_apart h.nmo.2.2 h.row (by decide) e e2⟩
    exact h1.keep fun b e => K b (by have := (h1.lt e).1; omega)
  · exact own_same hrow fun b e => K b (by have := (hrow.lt b e).1; omega)
  · intro r hr
    exact ⟨(hras r hr).1.keep fun b e => K b (by have := ((hras r hr).1.lt e).1; omega), (hras r hr).2.keep fun b e => K b (by have := ((hras r hr).2.lt e).1; omega)⟩
/-- a new attribute -/
theorem TgD.fresh (h : TgD w g7 kind nm rs v cl wr) : TgS w g7 kind nm noRW noRW rs v cl ((wr.setCell ⟨g7, 0, none⟩ (.slice none 0 0)).setCell ⟨g7, 1, none⟩ (.slice none 0 0)) := by
  have hg7 := h.hi7
  obtain ⟨a, b, hat⟩ := h.att
  have K : ∀ k, k ≠ g7 → ((wr.setCell ⟨g7, 0, none⟩ (.slice none 0 0)).setCell ⟨g7, 1, none⟩ (.slice none 0 0)).heap[k]? = wr.heap[k]? := fun k hk => (Below.heap_setCell _ ⟨g7, 1, none⟩ _ k hk).trans (Below.heap_setCell wr ⟨g7, 0, none⟩ _ k hk)
  have hz : ((wr.setCell ⟨g7, 0, none⟩ (.slice none 0 0)).setCell ⟨g7, 1, none⟩ (.slice none 0 0)).heap.size = wr.heap.size := by rw [World.size_setCell, World.size_setCell]
  refine ⟨(h.below.setCell (p := ⟨g7, 0, none⟩) (by show _ ≤ g7; omega) _).setCell (p := ⟨g7, 1, none⟩) (by show _ ≤ g7; omega) _, h.res.same (K _ (by omega)), h.tok.same (K _ (by omega)), (hat.put 0 _).put 1 _, hg7, ?_, ?_, ?_, noRW_own _ _, noRW_own _ _, wr.heap.size, by rw [hz]; exact Nat.le_refl _, ?_, ?_, ?_, ?_, ?_⟩
  · exact h.nmo.keep fun k e => K k (fun e2 => own_not h.nmo.2.2 hat (by decide) (by rw [← e2]; exact e))
  · exact own_same h.row fun k e => K k (by have := (h.row.lt k e).1; omega)
  · intro r hr
    exact ⟨(h.ras r hr).1.keep fun k e => K k (by have := ((h.ras r hr).1.lt e).1; omega), (h.ras r hr).2.keep fun k e => K k (by have := ((h.ras r hr).2.lt e).1; omega)⟩
  · intro k e; exact (h.nmo.lt e).2
  · intro r hr k e
    rcases e with e | e
    · exact ((h.ras r hr).1.lt e).2
    · exact ((h.ras r hr).2.lt e).2
  · intro k e; cases e
  · intro k e; cases e
  · intro k e; cases e
/-- no attribute is told -/
theorem TgS.drop (h : TgS w g7 kind nm x y rs v cl wr) : TgD w g7 kind nm [] (.slice none 0 0) cl (wr.setCell ⟨w.heap.size + 1, 2, none⟩ (.slice none 0 0)) := by
  have hg7 := h.hi7
  have K : ∀ k, k ≠ w.heap.size + 1 → (wr.setCell ⟨w.heap.size + 1, 2, none⟩ (.slice none 0 0)).heap[k]? = wr.heap[k]? := fun k hk => Below.heap_setCell wr ⟨w.heap.size + 1, 2, none⟩ _ k hk
  exact ⟨h.below.setCell (p := ⟨w.heap.size + 1, 2, none⟩) (Nat.le_succ _) _, h.res.same (K _ (by omega)), h.tok.put 2 _, ⟨_, _, h.att.same (K _ (by omega))⟩, hg7, h.nmo.keep fun k e => K k (by have := (h.nmo.lt e).1; omega), World.ownsRow_nil _ _ _ _, fun r hr => by cases hr⟩
/-- the token is told -/
theorem TgD.told (h : TgD w g7 kind nm rs v cl wr) (q0 q1 q2 q3 q4 : Value) :
    let w' := ((((wr.setCell ⟨w.heap.size, 0, none⟩ q0).setCell ⟨w.heap.size, 1, none⟩ q1).setCell ⟨w.heap.size, 2, none⟩ q2).setCell ⟨w.heap.size, 3, none⟩ q3).setCell ⟨w.heap.size, 4, none⟩ q4
    Below w.heap.size w w' ∧ nm.own w' w.heap.size ∧ w'.ownsRow w.heap.size 75 2 v rs.length (raCells rs) ∧ ∀ r ∈ rs, r.own w' w.heap.size := by
  intro w'
  have hg7 := h.hi7
  have K : ∀ k, k ≠ w.heap.size → w'.heap[k]? = wr.heap[k]? := fun k hk =>
    ((((Below.heap_setCell _ ⟨w.heap.size, 4, none⟩ _ k hk).trans (Below.heap_setCell _ ⟨w.heap.size, 3, none⟩ _ k hk)).trans (Below.heap_setCell _ ⟨w.heap.size, 2, none⟩ _ k hk)).trans (Below.heap_setCell _ ⟨w.heap.size, 1, none⟩ _ k hk)).trans (Below.heap_setCell _ ⟨w.heap.size, 0, none⟩ _ k hk)
  refine ⟨?_, ?_, ?_, ?_⟩
  · exact ((((h.below.setCell (p := ⟨w.heap.size, 0, none⟩) (Nat.le_refl _) _).setCell (p := ⟨w.heap.size, 1, none⟩) (Nat.le_refl _) _).setCell (p := ⟨w.heap.size, 2, none⟩) (Nat.le_refl _) _).setCell (p := ⟨w.heap.size, 3, none⟩) (Nat.le_refl _) _).setCell (p := ⟨w.heap.size, 4, none⟩) (Nat.le_refl _) _
  · exact (h.nmo.keep fun k e => K k (by have := (h.nmo.lt e).1; omega)).mono (by omega)
  · exact own_mono (own_same h.row fun k e => K k (by have := (h.row.lt k e).1; omega)) (by omega)
  · intro r hr
    exact RA.own.mono (base := g7 + 1) ⟨(h.ras r hr).1.keep fun k e => K k (by have := ((h.ras r hr).1.lt e).1; omega), (h.ras r hr).2.keep fun k e => K k (by have := ((h.ras r hr).2.lt e).1; omega)⟩ (by omega)
end
/-- the name is told, the attributes begin -/
theorem NmS.start {w w3 : World} {kind : Int} {x nm : RW} (h : NmS w kind x w3) (hno : nm.own w3 (w.heap.size + 2)) :
    TgS w w3.heap.size kind nm noRW noRW [] (.slice none 0 0) false ((w3.setCell ⟨w.heap.size + 1, 1, none⟩ (.slice nm.A nm.n nm.c)).alloc (.cells #[.slice none 0 0, .slice none 0 0] 75)) := by
  have hb : Below w3.heap.size w3 w3 := Below.refl _ _
  have hz := h.tok.lt
  have hs : (w3.setCell ⟨w.heap.size + 1, 1, none⟩ (.slice nm.A nm.n nm.c)).heap.size = w3.heap.size := World.size_setCell _ _ _
  have hn1 : nm.own (w3.setCell ⟨w.heap.size + 1, 1, none⟩ (.slice nm.A nm.n nm.c)) (w.heap.size + 2) := hno.keep fun b e => Below.heap_setCell _ ⟨w.heap.size + 1, 1, none⟩ _ b (by have := (hno.lt e).1; show b ≠ w.heap.size + 1; omega)
  refine ⟨?_, ?_, ?_, ?_, by omega, ?_, World.ownsRow_nil _ _ _ _, (fun r hr => by cases hr), noRW_own _ _, noRW_own _ _, w3.heap.size, ?_, ?_, (fun r hr => by cases hr), (fun b e => by cases e), (fun b e => by cases e), (fun b e => by cases e)⟩
  · exact (h.below.setCell (p := ⟨w.heap.size + 1, 1, none⟩) (Nat.le_succ _) _).alloc (by rw [hs]; exact h.below.size) _
  · exact (h.res.far ⟨w.heap.size + 1, 1, none⟩ (by show w.heap.size ≠ w.heap.size + 1; omega) _).alloc _
  · exact (h.tok.put 1 _).alloc _
  · have h1 := Whole.made (w3.setCell ⟨w.heap.size + 1, 1, none⟩ (.slice nm.A nm.n nm.c)) 75 #[.slice none 0 0, .slice none 0 0]
    rw [hs] at h1
    exact h1
  · exact hn1.below ((Below.refl _ _).alloc (Nat.le_refl _) _)
  · rw [World.size_alloc, hs]; omega
  · intro b e; exact (hno.lt e).2

end Go.Proofs.YtdiifkmcbnhliaaGreat.mk
