/-
  The reference's Tokens: what begins no tag. (Written by gen_tok_rtok.py.)
-/
import Derived.Test.YtdiifkmcbnhliaaGreatJoinAN
import Derived.Test.YtdiifkmcbnhliaaGreatJoinAK
import Derived.Test.YtdiifkmcbnhliaaGreatJoinAM
import Derived.Test.YtdiifkmcbnhliaaGreatJoinAI
import Derived.Deep.DeepCutAuto
namespace Go.Proofs.YtdiifkmcbnhliaaGreat.mk
open Go.RowKit

/-! ### Pure -/
theorem takeW_at {α : Type} (p : α → Bool) : ∀ (l : List α) (k : Nat), k ≤ (l.takeWhile p).length →
    (∀ c, l[k]? = some c → p c = true → k + 1 ≤ (l.takeWhile p).length) ∧ ((∀ c, l[k]? = some c → p c = false) → k = (l.takeWhile p).length) := by
  intro l
  induction l with
  | nil =>
    intro k hk
    exact ⟨fun c h => by simp at h, fun _ => by simpa using hk⟩
  | cons a l ih =>
    intro k hk
    cases ha : p a with
    | false =>
      have e : (a :: l).takeWhile p = [] := by rw [List.takeWhile_cons, ha]; rfl
      rw [e] at hk ⊢
      obtain rfl : k = 0 := by simpa using hk
      refine ⟨fun c h hc => ?_, fun _ => rfl⟩
      rw [List.getElem?_cons_zero] at h
      injection h with h
      rw [← h, ha] at hc
      cases hc
    | true =>
      have e : (a :: l).takeWhile p = a :: l.takeWhile p := by rw [List.takeWhile_cons, ha]; rfl
      rw [e] at hk ⊢
      rw [List.length_cons] at hk ⊢
      cases k with
      | zero => exact ⟨fun c _ _ => by omega, fun h => by have := h a (List.getElem?_cons_zero ..); rw [ha] at this; cases this⟩
      | succ k =>
        have h := ih k (by omega)
        refine ⟨fun c hc hp => ?_, fun hh => ?_⟩
        · rw [List.getElem?_cons_succ] at hc
          have := h.1 c hc hp
          omega
        · have := h.2 (fun c hc => hh c (by rw [List.getElem?_cons_succ]; exact hc))
          omega
theorem nextT_cases (st : Nat) (c : UInt8) (b : Bool) :
    (nextT st c b).1 = 99 ∨ (st = 0 ∧ nextT st c b = (1, false, true)) ∨ (st = 1 ∧ nextT st c b = (1, true, false)) ∨ (∃ n, ¬ n = 1 ∧ ¬ n = 99 ∧ n ≤ 6 ∧ nextT st c b = (n, true, false)) ∨ (∃ n g, ¬ n = 99 ∧ n ≤ 6 ∧ ¬ (n = 1 ∧ st = 0) ∧ nextT st c b = (n, false, g)) := by
  unfold nextT
  by_cases h1 : st = 1
  · subst h1
    rw [if_pos rfl]
    split
    · exact Or.inr (Or.inr (Or.inr (Or.inr ⟨2, true, by omega, by omega, by omega, rfl⟩)))
    · split
      · exact Or.inr (Or.inr (Or.inr (Or.inr ⟨3, false, by omega, by omega, by omega, rfl⟩)))
      · exact Or.inr (Or.inr (Or.inl ⟨rfl, rfl⟩))
  rw [if_neg h1]
  by_cases h2 : st = 2
  · subst h2
    rw [if_pos rfl]
    split
    · exact Or.inr (Or.inr (Or.inr (Or.inr ⟨2, false, by omega, by omega, by omega, rfl⟩)))
    · split
      · exact Or.inr (Or.inr (Or.inr (Or.inr ⟨3, false, by omega, by omega, by omega, rfl⟩)))
      · exact Or.inr (Or.inr (Or.inr (Or.inr ⟨0, true, by omega, by omega, by omega, rfl⟩)))
  rw [if_neg h2]
  by_cases h3 : st = 3
  · subst h3
    rw [if_pos rfl]
    split
    · exact Or.inr (Or.inr (Or.inr (Or.inr ⟨3, false, by omega, by omega, by omega, rfl⟩)))
    · split
      · exact Or.inr (Or.inr (Or.inr (Or.inr ⟨4, false, by omega, by omega, by omega, rfl⟩)))
      · split
        · exact Or.inr (Or.inr (Or.inr (Or.inr ⟨5, false, by omega, by omega, by omega, rfl⟩)))
        · exact Or.inr (Or.inr (Or.inr (Or.inr ⟨6, true, by omega, by omega, by omega, rfl⟩)))
  rw [if_neg h3]
  by_cases h4 : st = 4 ∨ st = 5
  · rw [if_pos h4]
    split
    · exact Or.inr (Or.inr (Or.inr (Or.inr ⟨0, false, by omega, by omega, by omega, rfl⟩)))
    · exact Or.inr (Or.inr (Or.inr (Or.inl ⟨st, by omega, by omega, by omega, rfl⟩)))
  rw [if_neg h4]
  by_cases h6 : st = 6
  · subst h6
    rw [if_pos rfl]
    split
    · exact Or.inr (Or.inr (Or.inr (Or.inr ⟨0, true, by omega, by omega, by omega, rfl⟩)))
    · exact Or.inr (Or.inr (Or.inr (Or.inl ⟨6, by omega, by omega, by omega, rfl⟩)))
  rw [if_neg h6]
  split
  · exact Or.inl rfl
  · split
    · exact Or.inr (Or.inr (Or.inr (Or.inr ⟨0, false, by omega, by omega, by omega, rfl⟩)))
    · by_cases h0 : st = 0
      · exact Or.inr (Or.inl ⟨h0, rfl⟩)
      · exact Or.inr (Or.inr (Or.inr (Or.inr ⟨1, true, by omega, by omega, by omega, rfl⟩)))
theorem stepT_reset {s : TkS} {c : UInt8 × Int} (h : s.st = 0) : stepT s c (1, false, true) = ⟨1, [], [], doneT s.al (s.nm, s.vl)⟩ := by unfold stepT; simp [h]
theorem stepT_name {s : TkS} {c : UInt8 × Int} (h : s.st = 1) : stepT s c (1, true, false) = ⟨1, s.nm ++ [c], s.vl, s.al⟩ := by unfold stepT; simp [h]
theorem stepT_value {s : TkS} {c : UInt8 × Int} {n : Nat} (h : ¬ n = 1) : stepT s c (n, true, false) = ⟨n, s.nm, s.vl ++ [c], s.al⟩ := by unfold stepT; simp [h]
theorem stepT_none {s : TkS} {c : UInt8 × Int} {n : Nat} {g : Bool} (h : ¬ (n = 1 ∧ s.st = 0)) : stepT s c (n, false, g) = ⟨n, s.nm, s.vl, s.al⟩ := by unfold stepT; simp [h]

/-! ### In memory -/
theorem lies_wholeR {W : World} {g : Nat} {t : TypeId} {cs : Array Value} {l : List Value} (h : Whole W g t cs) (hl : cs.toList = l) : Lies W W.heap.size (some ⟨g, 0, none⟩) l := by
  intro j u hu
  refine ⟨_, rfl, h.lt, ?_⟩
  subst hl
  have h1 := h.at_ j
  rw [← Array.getElem?_toList, hu] at h1
  have e : (⟨g, 0, none⟩ : Addr).add j = ⟨g, j, none⟩ := by
    cases j with
    | zero => rfl
    | succ j => simp [Addr.add]
  rw [e]; exact h1
/-- the block of a row's own -/
def RW.blk (r : RW) : Option Nat := (Value.slice r.A r.n r.c).ownBlock
theorem RW.own.keep {w w' : World} {base : Nat} {r : RW} (h : r.own w base) (hk : ∀ b, r.blk = some b → w'.heap[b]? = w.heap[b]?) : r.own w' base := ⟨h.1, h.2.1, own_same h.2.2 hk⟩
theorem RW.own.mono {w : World} {base base' : Nat} {r : RW} (h : r.own w base) (hb : base' ≤ base) : r.own w base' := ⟨h.1, h.2.1, own_mono h.2.2 hb⟩
theorem RA.own.mono {w : World} {base base' : Nat} {a : RA} (h : a.own w base) (hb : base' ≤ base) : a.own w base' := ⟨h.1.mono hb, h.2.mono hb⟩
theorem RW.own.lt {w : World} {base b : Nat} {r : RW} (h : r.own w base) (hb : r.blk = some b) : base ≤ b ∧ b < w.heap.size := h.2.2.lt b hb
/-- a row's block is not one of another type -/
theorem own_not {w : World} {base n size g : Nat} {e t : TypeId} {v : Value} {xs : List Value} {cs : Array Value} (h : w.ownsRow base e size v n xs) (hW : Whole w g t cs) (he : e ≠ t) : v.ownBlock ≠ some g := by
  intro hb
  obtain ⟨cur, hc⟩ := own_kind h hb
  rw [show w.heap[g]? = _ from hW] at hc
  injection hc with hc
  injection hc with _ hc _
  exact he hc.symm
theorem own_apart {w : World} {base base' n n' size size' b : Nat} {e e' : TypeId} {v v' : Value} {xs xs' : List Value} (h : w.ownsRow base e size v n xs) (h' : w.ownsRow base' e' size' v' n' xs') (he : e ≠ e') (hb : v.ownBlock = some b) : v'.ownBlock ≠ some b := by
  intro hb'
  obtain ⟨c1, h1⟩ := own_kind h hb
  obtain ⟨c2, h2⟩ := own_kind h' hb'
  rw [h1] at h2
  injection h2 with h2
  injection h2 with _ h2 _
  exact he h2
/-- the rows of the attributes that are done, of the name, and of the attribute that is read, share no block -/
def Part (B : Nat) (nm x y : RW) (rs : List RA) : Prop :=
  (∀ b, nm.blk = some b → b < B) ∧ (∀ r ∈ rs, ∀ b, (r.nm.blk = some b ∨ r.vl.blk = some b) → b < B) ∧ (∀ b, x.blk = some b → B ≤ b) ∧ (∀ b, y.blk = some b → B ≤ b) ∧ (∀ b, x.blk = some b → y.blk ≠ some b)
/-- the two locals, while a tag's name is read -/
structure NmS (w : World) (kind : Int) (x : RW) (wr : World) : Prop where
  below : Below w.heap.size w wr
  res : Whole wr w.heap.size 39 #[.int .i64 0, .slice none 0 0, .slice none 0 0, .bool false, .slice none 0 0]
  tok : Whole wr (w.heap.size + 1) 39 #[.int .i64 kind, .slice x.A x.n x.c, .slice none 0 0, .bool false, .slice none 0 0]
  xo : x.own wr (w.heap.size + 2)
theorem NmS.next {w wr wr' : World} {kind : Int} {x : RW} (h : NmS w kind x wr) (hb : Below wr.heap.size wr wr') : NmS w kind x wr' :=
  ⟨h.below.trans (hb.mono h.below.size), h.res.below hb h.res.lt, h.tok.below hb h.tok.lt, h.xo.below hb⟩
theorem NmS.add {w wr w1 w2 : World} {kind : Int} {x : RW} {c : UInt8 × Int} {A2 : Option Addr} {c2 : Nat} (h : NmS w kind x wr) (hb : Below wr.heap.size wr w1) (hz : x.n < 268435456) (hg : w1.grownBy w2 (Value.slice x.A x.n x.c).ownBlock)
    (ho : w2.ownsRow (w.heap.size + 2) 65 2 (.slice A2 (x.n + 1) c2) (x.n + 1) (chCells x.ch ++ [.int .u8 c.1.toNat, .int .i64 c.2])) :
    NmS w kind ⟨A2, x.n + 1, c2, x.ch ++ [c]⟩ (w2.setCell ⟨w.heap.size + 1, 1, none⟩ (.slice A2 (x.n + 1) c2)) := by
  have h1 := h.next hb
  have hx : ∀ b, (Value.slice x.A x.n x.c).ownBlock = some b → w.heap.size + 2 ≤ b := fun b e => (h1.xo.lt e).1
  refine ⟨?_, ?_, ?_, ?_, ?_, ?_⟩
  · exact (h1.below.grown hg h1.below.size (fun k hk => by have := hx k hk; omega)).setCell (p := ⟨w.heap.size + 1, 1, none⟩) (Nat.le_succ _) _
  · exact (h1.res.grown hg (fun e => by have := hx _ e.symm; omega)).far _ (by show w.heap.size ≠ w.heap.size + 1; omega) _
  · exact (h1.tok.grown hg (fun e => by have := hx _ e.symm; omega)).put 1 _
  · rw [List.length_append, h1.xo.1]; rfl
  · show x.n + 1 ≤ 268435456; omega
  · show World.ownsRow _ _ _ _ (.slice A2 (x.n + 1) c2) (x.n + 1) (chCells (x.ch ++ [c]))
    rw [chCells_snoc]
    exact own_far ho _ (fun e => by have h9 : w.heap.size + 2 ≤ w.heap.size + 1 := (ho.lt _ e).1; omega) _
/-- the two locals and the answer, while a tag's attributes are read -/
structure TgS (w : World) (g7 : Nat) (kind : Int) (nm x y : RW) (rs : List RA) (v : Value) (cl : Bool) (wr : World) : Prop where
  below : Below w.heap.size w wr
  res : Whole wr w.heap.size 39 #[.int .i64 0, .slice none 0 0, .slice none 0 0, .bool false, .slice none 0 0]
  tok : Whole wr (w.heap.size + 1) 39 #[.int .i64 kind, .slice nm.A nm.n nm.c, v, .bool cl, .slice none 0 0]
  att : Whole wr g7 75 #[.slice x.A x.n x.c, .slice y.A y.n y.c]
  hi7 : w.heap.size + 2 ≤ g7
  nmo : nm.own wr (w.heap.size + 2)
  row : wr.ownsRow (g7 + 1) 75 2 v rs.length (raCells rs)
  ras : ∀ r ∈ rs, r.own wr (g7 + 1)
  xo : x.own wr (g7 + 1)
  yo : y.own wr (g7 + 1)
  part : ∃ B, B ≤ wr.heap.size ∧ Part B nm x y rs
section
variable {w wr wr' w1 w2 : World} {g7 : Nat} {kind : Int} {nm x y : RW} {rs rs' : List RA} {v v' : Value} {cl : Bool}
theorem TgS.next (h : TgS w g7 kind nm x y rs v cl wr) (hb : Below wr.heap.size wr wr') : TgS w g7 kind nm x y rs v cl wr' := by
  have hz := h.below.size
  obtain ⟨B, hB, hp⟩ := h.part
  exact ⟨h.below.trans (hb.mono hz), h.res.below hb h.res.lt, h.tok.below hb h.tok.lt, h.att.below hb h.att.lt, h.hi7, h.nmo.below hb, own_keep h.row hb, fun r hr => (h.ras r hr).below hb, h.xo.below hb, h.yo.below hb, B, Nat.le_trans hB hb.size, hp⟩
theorem TgS.drew (h : TgS w g7 kind nm x y rs v cl wr) : TgS w g7 kind nm x y rs v cl wr.drew := h.next (Below.drew (Below.refl _ _))
theorem TgS.drewN (h : TgS w g7 kind nm x y rs v cl wr) (n : Nat) : TgS w g7 kind nm x y rs v cl (wr.drewN n) := h.next (Below.drewN (Below.refl _ _) n)
/-- one byte more behind the attribute's name -/
theorem TgS.addX {c : UInt8 × Int} {A2 : Option Addr} {c2 : Nat} (h : TgS w g7 kind nm x y rs v cl wr) (hb : Below wr.heap.size wr w1) (hz : x.n < 268435456) (hg : w1.grownBy w2 (Value.slice x.A x.n x.c).ownBlock)
    (ho : w2.ownsRow (g7 + 1) 65 2 (.slice A2 (x.n + 1) c2) (x.n + 1) (chCells x.ch ++ [.int .u8 c.1.toNat, .int .i64 c.2]))
    (hbl : (Value.slice A2 (x.n + 1) c2).ownBlock = (Value.slice x.A x.n x.c).ownBlock ∨ (Value.slice A2 (x.n + 1) c2).ownBlock = some w1.heap.size) :
    TgS w g7 kind nm ⟨A2, x.n + 1, c2, x.ch ++ [c]⟩ y rs v cl (w2.setCell ⟨g7, 0, none⟩ (.slice A2 (x.n + 1) c2)) := by
  have h1 := h.next hb
  obtain ⟨B, hB, hp1, hp2, hp3, hp4, hp5⟩ := h.part
  have hB1 : B ≤ w1.heap.size := Nat.le_trans hB hb.size
  have hx : ∀ b, x.blk = some b → g7 + 1 ≤ b ∧ b < w1.heap.size := fun b e => h1.xo.lt e
  have K : ∀ k, k < w1.heap.size → x.blk ≠ some k → k ≠ g7 → (w2.setCell ⟨g7, 0, none⟩ (.slice A2 (x.n + 1) c2)).heap[k]? = w1.heap[k]? := fun k hk h1 h2 =>
    (Below.heap_setCell w2 ⟨g7, 0, none⟩ _ k h2).trans (hg.block k hk (fun e => h1 e.symm))
  have hg7 := h.hi7
  have nC : ∀ {base : Nat} {r : RW} {b : Nat}, r.own w1 base → r.blk = some b → b ≠ g7 := fun hr hb e => own_not hr.2.2 h1.att (by decide) (by rw [← e]; exact hb)
  have hfr : ∀ {base : Nat} {r : RW}, r.own w1 base → (∀ b, r.blk = some b → b < B) → r.own (w2.setCell ⟨g7, 0, none⟩ (.slice A2 (x.n + 1) c2)) base := fun {base r} hr hlt =>
    hr.keep fun b e => K b (hr.lt e).2 (fun e2 => by have := hlt b e; have := hp3 b e2; omega) (nC hr e)
  refine ⟨?_, ?_, ?_, ?_, hg7, ?_, ?_, ?_, ?_, ?_, B, ?_, hp1, hp2, ?_, ?_, ?_⟩
  · exact (h1.below.grown hg h1.below.size (fun k hk => by have := (hx k hk).1; omega)).setCell (p := ⟨g7, 0, none⟩) (by show w.heap.size ≤ g7; omega) _
  · exact h1.res.same (K _ h1.res.lt (fun e => by have := (hx _ e).1; omega) (by omega))
  · exact h1.tok.same (K _ h1.tok.lt (fun e => by have := (hx _ e).1; omega) (by omega))
  · exact (h1.att.grown hg (fun e => by have := (hx _ e.symm).1; omega)).put 0 _
  · exact hfr h1.nmo hp1
  · exact own_same h1.row fun b e => K b (h1.row.lt b e).2 (fun e2 => own_apart h1.xo.2.2 h1.row (by decide) e2 e) (by have := (h1.row.lt b e).1; omega)
  · intro r hr
    exact ⟨hfr (h1.ras r hr).1 (fun b e => hp2 r hr b (Or.inl e)), hfr (h1.ras r hr).2 (fun b e => hp2 r hr b (Or.inr e))⟩
  · refine ⟨?_, by show x.n + 1 ≤ 268435456; omega, ?_⟩
    · rw [List.length_append, h1.xo.1]; rfl
    · show World.ownsRow _ _ _ _ (.slice A2 (x.n + 1) c2) (x.n + 1) (chCells (x.ch ++ [c]))
      rw [chCells_snoc]
      exact own_far ho _ (fun e => by have h9 : g7 + 1 ≤ g7 := (ho.lt _ e).1; omega) _
  · exact h1.yo.keep fun b e => K b (h1.yo.lt e).2 (fun e2 => hp5 b e2 e) (nC h1.yo e)
  · have := hg.size
    show B ≤ (World.setCell _ _ _).heap.size
    rw [World.size_setCell]
    omega
  · intro b e
    rcases hbl with e2 | e2
    · exact hp3 b (e2.symm.trans e)
    · have e3 : b = w1.heap.size := by have := e2.symm.trans e; injection this with this; exact this.symm
      omega
  · exact hp4
  · intro b e e3
    rcases hbl with e2 | e2
    · exact hp5 b (e2.symm.trans e) e3
    · have e4 : b = w1.heap.size := by have := e2.symm.trans e; injection this with this; exact this.symm
      have := (h1.yo.lt e3).2
      omega
/-- one byte more behind the attribute's value -/
theorem TgS.addY {c : UInt8 × Int} {A2 : Option Addr} {c2 : Nat} (h : TgS w g7 kind nm x y rs v cl wr) (hb : Below wr.heap.size wr w1) (hz : y.n < 268435456) (hg : w1.grownBy w2 (Value.slice y.A y.n y.c).ownBlock)
    (ho : w2.ownsRow (g7 + 1) 65 2 (.slice A2 (y.n + 1) c2) (y.n + 1) (chCells y.ch ++ [.int .u8 c.1.toNat, .int .i64 c.2]))
    (hbl : (Value.slice A2 (y.n + 1) c2).ownBlock = (Value.slice y.A y.n y.c).ownBlock ∨ (Value.slice A2 (y.n + 1) c2).ownBlock = some w1.heap.size) :
    TgS w g7 kind nm x ⟨A2, y.n + 1, c2, y.ch ++ [c]⟩ rs v cl (w2.setCell ⟨g7, 1, none⟩ (.slice A2 (y.n + 1) c2)) := by
  have h1 := h.next hb
  obtain ⟨B, hB, hp1, hp2, hp3, hp4, hp5⟩ := h.part
  have hB1 : B ≤ w1.heap.size := Nat.le_trans hB hb.size
  have hx : ∀ b, y.blk = some b → g7 + 1 ≤ b ∧ b < w1.heap.size := fun b e => h1.yo.lt e
  have K : ∀ k, k < w1.heap.size → y.blk ≠ some k → k ≠ g7 → (w2.setCell ⟨g7, 1, none⟩ (.slice A2 (y.n + 1) c2)).heap[k]? = w1.heap[k]? := fun k hk h1 h2 =>
    (Below.heap_setCell w2 ⟨g7, 1, none⟩ _ k h2).trans (hg.block k hk (fun e => h1 e.symm))
  have hg7 := h.hi7
  have nC : ∀ {base : Nat} {r : RW} {b : Nat}, r.own w1 base → r.blk = some b → b ≠ g7 := fun hr hb e => own_not hr.2.2 h1.att (by decide) (by rw [← e]; exact hb)
  have hfr : ∀ {base : Nat} {r : RW}, r.own w1 base → (∀ b, r.blk = some b → b < B) → r.own (w2.setCell ⟨g7, 1, none⟩ (.slice A2 (y.n + 1) c2)) base := fun {base r} hr hlt =>
    hr.keep fun b e => K b (hr.lt e).2 (fun e2 => by have := hlt b e; have := hp4 b e2; omega) (nC hr e)
  refine ⟨?_, ?_, ?_, ?_, hg7, ?_, ?_, ?_, ?_, ?_, B, ?_, hp1, hp2, ?_, ?_, ?_⟩
  · exact (h1.below.grown hg h1.below.size (fun k hk => by have := (hx k hk).1; omega)).setCell (p := ⟨g7, 1, none⟩) (by show w.heap.size ≤ g7; omega) _
  · exact h1.res.same (K _ h1.res.lt (fun e => by have := (hx _ e).1; omega) (by omega))
  · exact h1.tok.same (K _ h1.tok.lt (fun e => by have := (hx _ e).1; omega) (by omega))
  · exact (h1.att.grown hg (fun e => by have := (hx _ e.symm).1; omega)).put 1 _
  · exact hfr h1.nmo hp1
  · exact own_same h1.row fun b e => K b (h1.row.lt b e).2 (fun e2 => own_apart h1.yo.2.2 h1.row (by decide) e2 e) (by have := (h1.row.lt b e).1; omega)
  · intro r hr
    exact ⟨hfr (h1.ras r hr).1 (fun b e => hp2 r hr b (Or.inl e)), hfr (h1.ras r hr).2 (fun b e => hp2 r hr b (Or.inr e))⟩
  · exact h1.xo.keep fun b e => K b (h1.xo.lt e).2 (fun e2 => hp5 b e e2) (nC h1.xo e)
  · refine ⟨?_, by show y.n + 1 ≤ 268435456; omega, ?_⟩
    · rw [List.length_append, h1.yo.1]; rfl
    · show World.ownsRow _ _ _ _ (.slice A2 (y.n + 1) c2) (y.n + 1) (chCells (y.ch ++ [c]))
      rw [chCells_snoc]
      exact own_far ho _ (fun e => by have h9 : g7 + 1 ≤ g7 := (ho.lt _ e).1; omega) _
  · have := hg.size
    show B ≤ (World.setCell _ _ _).heap.size
    rw [World.size_setCell]
    omega
  · exact hp3
  · intro b e
    rcases hbl with e2 | e2
    · exact hp4 b (e2.symm.trans e)
    · have e3 : b = w1.heap.size := by have := e2.symm.trans e; injection this with this; exact this.symm
      omega
  · intro b e e3
    rcases hbl with e2 | e2
    · exact hp5 b e (e2.symm.trans e3)
    · have e4 : b = w1.heap.size := by have := e2.symm.trans e3; injection this with this; exact this.symm
      have := (h1.xo.lt e).2
      omega
/-- the close is told -/
theorem TgS.close (h : TgS w g7 kind nm x y rs v cl wr) (q : Bool) : TgS w g7 kind nm x y rs v q (wr.setCell ⟨w.heap.size + 1, 3, none⟩ (.bool q)) := by
  have hg7 := h.hi7
  have K : ∀ k, k ≠ w.heap.size + 1 → (wr.setCell ⟨w.heap.size + 1, 3, none⟩ (.bool q)).heap[k]? = wr.heap[k]? := fun k hk => Below.heap_setCell wr ⟨w.heap.size + 1, 3, none⟩ _ k hk
  have hk : ∀ {base : Nat} {r : RW}, w.heap.size + 2 ≤ base → r.own wr base → r.own (wr.setCell ⟨w.heap.size + 1, 3, none⟩ (.bool q)) base := fun hb hr => hr.keep fun b e => K b (by have := (hr.lt e).1; omega)
  obtain ⟨B, hB, hp⟩ := h.part
  refine ⟨h.below.setCell (p := ⟨w.heap.size + 1, 3, none⟩) (Nat.le_succ _) _, h.res.same (K _ (by omega)), h.tok.put 3 _, h.att.same (K _ (by omega)), hg7, hk (Nat.le_refl _) h.nmo, ?_, fun r hr => ⟨hk (by omega) (h.ras r hr).1, hk (by omega) (h.ras r hr).2⟩, hk (by omega) h.xo, hk (by omega) h.yo, B, ?_, hp⟩
  · exact own_same h.row fun b e => K b (by have := (h.row.lt b e).1; omega)
  · rw [World.size_setCell]; exact hB
/-- what done tells is stored: the rest stays -/
structure TgD (w : World) (g7 : Nat) (kind : Int) (nm : RW) (rs : List RA) (v : Value) (cl : Bool) (wr : World) : Prop where
  below : Below w.heap.size w wr
  res : Whole wr w.heap.size 39 #[.int .i64 0, .slice none 0 0, .slice none 0 0, .bool false, .slice none 0 0]
  tok : Whole wr (w.heap.size + 1) 39 #[.int .i64 kind, .slice nm.A nm.n nm.c, v, .bool cl, .slice none 0 0]
  att : ∃ a b, Whole wr g7 75 #[a, b]
  hi7 : w.heap.size + 2 ≤ g7
  nmo : nm.own wr (w.heap.size + 2)
  row : wr.ownsRow (g7 + 1) 75 2 v rs.length (raCells rs)
  ras : ∀ r ∈ rs, r.own wr (g7 + 1)
theorem TgS.done (h : TgS w g7 kind nm x y rs v cl wr) (hg : Grows wr w1 v v') (hrow : w1.ownsRow (g7 + 1) 75 2 v' rs'.length (raCells rs')) (hras : ∀ r ∈ rs', r.own w1 (g7 + 1)) :
    TgD w g7 kind nm rs' v' cl (w1.setCell ⟨w.heap.size + 1, 2, none⟩ v') := by
  have hg7 := h.hi7
  have hv : ∀ b, v.ownBlock = some b → g7 + 1 ≤ b := fun b e => (h.row.lt b e).1
  have K : ∀ k, k ≠ w.heap.size + 1 → (w1.setCell ⟨w.heap.size + 1, 2, none⟩ v').heap[k]? = w1.heap[k]? := fun k hk => Below.heap_setCell w1 ⟨w.heap.size + 1, 2, none⟩ _ k hk
  refine ⟨?_, ?_, ?_, ⟨.slice x.A x.n x.c, .slice y.A y.n y.c, ?_⟩, hg7, ?_, ?_, ?_⟩
  · exact (h.below.trans (hg.1.below h.below.size fun k hk e => by have := hv k e; omega)).setCell (p := ⟨w.heap.size + 1, 2, none⟩) (Nat.le_succ _) _
  · exact (hg.1.whole h.res (fun e => by have := hv _ e; omega)).same (K _ (by omega))
  · exact (hg.1.whole h.tok (fun e => by have := hv _ e; omega)).put 2 _
  · exact (hg.1.whole h.att (fun e => by have := hv _ e; omega)).same (K _ (by omega))
  · have h1 : nm.own w1 (w.heap.size + 2) := ⟨h.nmo.1, h.nmo.2.1, hg.1.own h.nmo.2.2 fun b e e2 => own_apart h.nmo.2.2 h.row (by decide) e e2⟩
    exact h1.keep fun b e => K b (by have := (h1.lt e).1; omega)
  · exact own_same hrow fun b e => K b (by have := (hrow.lt b e).1; omega)
  · intro r hr
    exact ⟨(hras r hr).1.keep fun b e => K b (by have := ((hras r hr).1.lt e).1; omega), (hras r hr).2.keep fun b e => K b (by have := ((hras r hr).2.lt e).1; omega)⟩
/-- a new attribute -/
theorem TgD.fresh (h : TgD w g7 kind nm rs v cl wr) : TgS w g7 kind nm noRW noRW rs v cl ((wr.setCell ⟨g7, 0, none⟩ (.slice none 0 0)).setCell ⟨g7, 1, none⟩ (.slice none 0 0)) := by
  have hg7 := h.hi7
  obtain ⟨a, b, hat⟩ := h.att
  have K : ∀ k, k ≠ g7 → ((wr.setCell ⟨g7, 0, none⟩ (.slice none 0 0)).setCell ⟨g7, 1, none⟩ (.slice none 0 0)).heap[k]? = wr.heap[k]? := fun k hk => (Below.heap_setCell _ ⟨g7, 1, none⟩ _ k hk).trans (Below.heap_setCell wr ⟨g7, 0, none⟩ _ k hk)
  have hz : ((wr.setCell ⟨g7, 0, none⟩ (.slice none 0 0)).setCell ⟨g7, 1, none⟩ (.slice none 0 0)).heap.size = wr.heap.size := by rw [World.size_setCell, World.size_setCell]
  refine ⟨(h.below.setCell (p := ⟨g7, 0, none⟩) (by show _ ≤ g7; omega) _).setCell (p := ⟨g7, 1, none⟩) (by show _ ≤ g7; omega) _, h.res.same (K _ (by omega)), h.tok.same (K _ (by omega)), (hat.put 0 _).put 1 _, hg7, ?_, ?_, ?_, noRW_own _ _, noRW_own _ _, wr.heap.size, by rw [hz]; exact Nat.le_refl _, ?_, ?_, ?_, ?_, ?_⟩
  · exact h.nmo.keep fun k e => K k (fun e2 => own_not h.nmo.2.2 hat (by decide) (by rw [← e2]; exact e))
  · exact own_same h.row fun k e => K k (by have := (h.row.lt k e).1; omega)
  · intro r hr
    exact ⟨(h.ras r hr).1.keep fun k e => K k (by have := ((h.ras r hr).1.lt e).1; omega), (h.ras r hr).2.keep fun k e => K k (by have := ((h.ras r hr).2.lt e).1; omega)⟩
  · intro k e; exact (h.nmo.lt e).2
  · intro r hr k e
    rcases e with e | e
    · exact ((h.ras r hr).1.lt e).2
    · exact ((h.ras r hr).2.lt e).2
  · intro k e; cases e
  · intro k e; cases e
  · intro k e; cases e
/-- no attribute is told -/
theorem TgS.drop (h : TgS w g7 kind nm x y rs v cl wr) : TgD w g7 kind nm [] (.slice none 0 0) cl (wr.setCell ⟨w.heap.size + 1, 2, none⟩ (.slice none 0 0)) := by
  have hg7 := h.hi7
  have K : ∀ k, k ≠ w.heap.size + 1 → (wr.setCell ⟨w.heap.size + 1, 2, none⟩ (.slice none 0 0)).heap[k]? = wr.heap[k]? := fun k hk => Below.heap_setCell wr ⟨w.heap.size + 1, 2, none⟩ _ k hk
  exact ⟨h.below.setCell (p := ⟨w.heap.size + 1, 2, none⟩) (Nat.le_succ _) _, h.res.same (K _ (by omega)), h.tok.put 2 _, ⟨_, _, h.att.same (K _ (by omega))⟩, hg7, h.nmo.keep fun k e => K k (by have := (h.nmo.lt e).1; omega), World.ownsRow_nil _ _ _ _, fun r hr => by cases hr⟩
/-- the token is told -/
theorem TgD.told (h : TgD w g7 kind nm rs v cl wr) (q0 q1 q2 q3 q4 : Value) :
    let w' := ((((wr.setCell ⟨w.heap.size, 0, none⟩ q0).setCell ⟨w.heap.size, 1, none⟩ q1).setCell ⟨w.heap.size, 2, none⟩ q2).setCell ⟨w.heap.size, 3, none⟩ q3).setCell ⟨w.heap.size, 4, none⟩ q4
    Below w.heap.size w w' ∧ nm.own w' w.heap.size ∧ w'.ownsRow w.heap.size 75 2 v rs.length (raCells rs) ∧ ∀ r ∈ rs, r.own w' w.heap.size := by
  intro w'
  have hg7 := h.hi7
  have K : ∀ k, k ≠ w.heap.size → w'.heap[k]? = wr.heap[k]? := fun k hk =>
    ((((Below.heap_setCell _ ⟨w.heap.size, 4, none⟩ _ k hk).trans (Below.heap_setCell _ ⟨w.heap.size, 3, none⟩ _ k hk)).trans (Below.heap_setCell _ ⟨w.heap.size, 2, none⟩ _ k hk)).trans (Below.heap_setCell _ ⟨w.heap.size, 1, none⟩ _ k hk)).trans (Below.heap_setCell _ ⟨w.heap.size, 0, none⟩ _ k hk)
  refine ⟨?_, ?_, ?_, ?_⟩
  · exact ((((h.below.setCell (p := ⟨w.heap.size, 0, none⟩) (Nat.le_refl _) _).setCell (p := ⟨w.heap.size, 1, none⟩) (Nat.le_refl _) _).setCell (p := ⟨w.heap.size, 2, none⟩) (Nat.le_refl _) _).setCell (p := ⟨w.heap.size, 3, none⟩) (Nat.le_refl _) _).setCell (p := ⟨w.heap.size, 4, none⟩) (Nat.le_refl _) _
  · exact (h.nmo.keep fun k e => K k (by have := (h.nmo.lt e).1; omega)).mono (by omega)
  · exact own_mono (own_same h.row fun k e => K k (by have := (h.row.lt k e).1; omega)) (by omega)
  · intro r hr
    exact RA.own.mono (base := g7 + 1) ⟨(h.ras r hr).1.keep fun k e => K k (by have := ((h.ras r hr).1.lt e).1; omega), (h.ras r hr).2.keep fun k e => K k (by have := ((h.ras r hr).2.lt e).1; omega)⟩ (by omega)
end
/-- the name is told, the attributes begin -/
theorem NmS.start {w w3 : World} {kind : Int} {x nm : RW} (h : NmS w kind x w3) (hno : nm.own w3 (w.heap.size + 2)) :
    TgS w w3.heap.size kind nm noRW noRW [] (.slice none 0 0) false ((w3.setCell ⟨w.heap.size + 1, 1, none⟩ (.slice nm.A nm.n nm.c)).alloc (.cells #[.slice none 0 0, .slice none 0 0] 75)) := by
  have hb : Below w3.heap.size w3 w3 := Below.refl _ _
  have hz := h.tok.lt
  have hs : (w3.setCell ⟨w.heap.size + 1, 1, none⟩ (.slice nm.A nm.n nm.c)).heap.size = w3.heap.size := World.size_setCell _ _ _
  have hn1 : nm.own (w3.setCell ⟨w.heap.size + 1, 1, none⟩ (.slice nm.A nm.n nm.c)) (w.heap.size + 2) := hno.keep fun b e => Below.heap_setCell _ ⟨w.heap.size + 1, 1, none⟩ _ b (by have := (hno.lt e).1; show b ≠ w.heap.size + 1; omega)
  refine ⟨?_, ?_, ?_, ?_, by omega, ?_, World.ownsRow_nil _ _ _ _, (fun r hr => by cases hr), noRW_own _ _, noRW_own _ _, w3.heap.size, ?_, ?_, (fun r hr => by cases hr), (fun b e => by cases e), (fun b e => by cases e), (fun b e => by cases e)⟩
  · exact (h.below.setCell (p := ⟨w.heap.size + 1, 1, none⟩) (Nat.le_succ _) _).alloc (by rw [hs]; exact h.below.size) _
  · exact (h.res.far ⟨w.heap.size + 1, 1, none⟩ (by show w.heap.size ≠ w.heap.size + 1; omega) _).alloc _
  · exact (h.tok.put 1 _).alloc _
  · have h1 := Whole.made (w3.setCell ⟨w.heap.size + 1, 1, none⟩ (.slice nm.A nm.n nm.c)) 75 #[.slice none 0 0, .slice none 0 0]
    rw [hs] at h1
    exact h1
  · exact hn1.below ((Below.refl _ _).alloc (Nat.le_refl _) _)
  · rw [World.size_alloc, hs]; omega
  · intro b e; exact (hno.lt e).2

end Go.Proofs.YtdiifkmcbnhliaaGreat.mk

namespace Go.Proofs.YtdiifkmcbnhliaaGreat.mk
open Go.RowKit

/-- so many bytes are left: each token has its own byte ahead, and no text is longer than what was read -/
def HdT (N : Nat) (toks : List PTok) (m : Nat) : Prop := toks.length + m ≤ N ∧ ∀ p ∈ toks, p.text.length + m ≤ N
theorem HdT.mono {N m m' : Nat} {toks : List PTok} (h : HdT N toks m) (hm : m' ≤ m) : HdT N toks m' := ⟨by have := h.1; omega, fun p hp => by have := h.2 p hp; omega⟩
theorem HdT.more {N m k : Nat} {toks : List PTok} {t : PTok} (h : HdT N toks (m + k)) (hk : 1 ≤ k) (ht : t.text.length ≤ k) : HdT N (toks ++ [t]) m := by
  obtain ⟨h1, h2⟩ := h
  refine ⟨by rw [List.length_append]; show _ + 1 + _ ≤ _; omega, fun p hp => ?_⟩
  rcases List.mem_append.1 hp with hp | hp
  · have := h2 p hp; omega
  · simp at hp
    subst hp
    omega
theorem HdT.data {N m : Nat} {toks : List PTok} {x : Ch} (h : HdT N toks (m + x.length)) : HdT N (dataT toks x) m := by
  by_cases hx : x = []
  · unfold dataT
    rw [if_pos hx]
    exact h.mono (by omega)
  · have h1 : 1 ≤ x.length := by
      cases x with
      | nil => exact absurd rfl hx
      | cons a x => rw [List.length_cons]; omega
    unfold dataT
    rw [if_neg hx]
    rcases toks.eq_nil_or_concat with e | ⟨ts, t, e⟩
    · subst e
      exact HdT.more (toks := []) h h1 (Nat.le_refl _)
    · rw [List.concat_eq_append] at e
      subst e
      rw [List.getLast?_concat]
      show HdT N (if t.kind = 3 then _ else _) m
      split
      · obtain ⟨h2, h3⟩ := h
        rw [List.dropLast_concat]
        rw [List.length_append] at h2
        refine ⟨by rw [List.length_append]; show _ + 1 + _ ≤ _; have : [t].length = 1 := rfl; omega, fun p hp => ?_⟩
        rcases List.mem_append.1 hp with hp | hp
        · have := h3 p (List.mem_append_left _ hp); omega
        · simp at hp
          subst hp
          have := h3 t (by simp)
          show (t.text ++ x).length + m ≤ N
          rw [List.length_append]
          omega
      · exact HdT.more h h1 (Nat.le_refl _)

theorem ltT_at {l : Ch} {k : Nat} (hk : k ≤ ltT l) : (∀ b o, l[k]? = some (b, o) → b ≠ 60 → k + 1 ≤ ltT l) ∧ ((∀ b o, l[k]? = some (b, o) → b = 60) → k = ltT l) := by
  obtain ⟨h1, h2⟩ := takeW_at (fun c : UInt8 × Int => !(c.1 == 60)) l k hk
  refine ⟨fun b o hb hn => h1 _ hb (by simpa using hn), fun h => h2 fun c hc => ?_⟩
  have := h c.1 c.2 hc
  simp [this]
theorem rawT_cons (name : List UInt8) (c : UInt8 × Int) (l : Ch) : rawT name (c :: l) = if endsT (c :: l) name then 0 else rawT name l + 1 := by rw [rawT]
theorem rawT_stepR (name : List UInt8) : ∀ (l : Ch) (k : Nat), k ≤ rawT name l → (l.length ≤ k → k = rawT name l) ∧ (endsT (l.drop k) name = true → k < l.length → k = rawT name l) ∧ (endsT (l.drop k) name = false → k < l.length → k + 1 ≤ rawT name l) := by
  intro l
  induction l with
  | nil =>
    intro k hk
    have h0 : rawT name [] = 0 := rfl
    exact ⟨fun _ => by omega, fun _ h => by simp at h, fun _ h => by simp at h⟩
  | cons c l ih =>
    intro k hk
    rw [rawT_cons] at hk ⊢
    cases k with
    | zero =>
      refine ⟨fun h => by simp at h, fun h _ => ?_, fun h _ => ?_⟩
      · rw [List.drop_zero] at h; rw [if_pos h]
      · rw [List.drop_zero] at h; rw [if_neg (by rw [h]; decide)]; omega
    | succ k =>
      split at hk
      · omega
      · rename_i hc
        obtain ⟨h1, h2, h3⟩ := ih k (by omega)
        rw [if_neg hc]
        rw [List.length_cons, List.drop_succ_cons]
        exact ⟨fun h => by have := h1 (by omega); omega, fun h h' => by have := h2 h (by omega); omega, fun h h' => by have := h3 h (by omega); omega⟩

theorem byteT_some {l : Ch} {i : Nat} {b : UInt8} {o : Int} (h : l[i]? = some (b, o)) : byteT l i = b := by unfold byteT; rw [h]; rfl
theorem byteT_none {l : Ch} {i : Nat} (h : l.length ≤ i) : byteT l i = 0 := by unfold byteT; rw [List.getElem?_eq_none h]; rfl
theorem byteT_lt {l : Ch} {i : Nat} (h : byteT l i ≠ 0) : i < l.length := by
  rcases Nat.lt_or_ge i l.length with h2 | h2
  · exact h2
  · exact absurd (byteT_none h2) h

/-- a tag's text has no bytes -/
theorem tagP_text {l : Ch} {t : PTok} {k : Nat} (h : tagP l = some (t, k)) : t.text = [] := by
  unfold tagP at h
  cases hb : l[fromT l]? with
  | none => rw [hb] at h; cases h
  | some b =>
    rw [hb] at h
    simp only at h
    split at h
    · cases hr : runT l (4 * l.length + 9) (fromT l + nameT (l.drop (fromT l))) ⟨0, [], [], []⟩ with
      | none => rw [hr] at h; cases h
      | some p =>
        obtain ⟨j, s⟩ := p
        rw [hr] at h
        injection h with h
        injection h with h _
        rw [← h]
    · cases h
theorem commT_text (l : Ch) (k : Nat) (e : List UInt8) : (commT l k e).1.length ≤ (commT l k e).2 := by
  unfold commT
  split
  · show (l.drop k).length ≤ l.length
    rw [List.length_drop]; omega
  · show ((l.take _).drop k).length ≤ (_ : Nat)
    rw [List.length_drop, List.length_take]; omega

/-! ### a round -/
theorem tokR_end {f : Nat} {out : List PTok} (hf : 0 < f) : tokR f out [] = out := by
  cases f with
  | zero => omega
  | succ f => rw [tokR, if_pos rfl]
theorem tokR_far {f : Nat} {out : List PTok} {l : Ch} (hf : l.length < f) (hl : l ≠ []) (h : l.drop (ltT l) = []) : tokR f out l = dataT out (decE (l.take (ltT l))) := by
  cases f with
  | zero => omega
  | succ f => rw [tokR, if_neg hl, if_pos h]
theorem tokR_none {f : Nat} {out : List PTok} {l : Ch} (hf : l.length < f) (hl : l ≠ []) (h : l.drop (ltT l) ≠ []) (hm : markT (dataT out (decE (l.take (ltT l)))) (l.drop (ltT l)) = none) : tokR f out l = dataT out (decE (l.take (ltT l))) := by
  cases f with
  | zero => omega
  | succ f => rw [tokR, if_neg hl, if_neg h, hm]
/-- what is told at last, from here on -/
def TokTo (L : Ch) (toks : List PTok) (l : Ch) : Prop := ∃ f, l.length < f ∧ tokR f toks l = toksP L
theorem TokTo.start (L : Ch) : TokTo L [] L := ⟨_, Nat.lt_succ_self _, rfl⟩
theorem TokTo.done {L : Ch} {toks : List PTok} (h : TokTo L toks []) : toks = toksP L := by
  obtain ⟨f, hf, h⟩ := h
  rw [← h, tokR_end (by omega)]
theorem TokTo.far {L l : Ch} {toks : List PTok} (h : TokTo L toks l) (hl : l ≠ []) (hd : l.drop (ltT l) = []) : dataT toks (decE (l.take (ltT l))) = toksP L := by
  obtain ⟨f, hf, h⟩ := h
  rw [← h, tokR_far hf hl hd]
theorem TokTo.none {L l : Ch} {toks : List PTok} (h : TokTo L toks l) (hl : l ≠ []) (hd : l.drop (ltT l) ≠ []) (hm : markT (dataT toks (decE (l.take (ltT l)))) (l.drop (ltT l)) = none) : dataT toks (decE (l.take (ltT l))) = toksP L := by
  obtain ⟨f, hf, h⟩ := h
  rw [← h, tokR_none hf hl hd hm]
theorem TokTo.next {L l l' : Ch} {toks out' : List PTok} (h : TokTo L toks l) (hl : l ≠ []) (hd : l.drop (ltT l) ≠ []) (hm : markT (dataT toks (decE (l.take (ltT l)))) (l.drop (ltT l)) = some (out', l')) (hlt : l'.length < l.length) : TokTo L out' l' := by
  obtain ⟨f, hf, h⟩ := h
  cases f with
  | zero => omega
  | succ f =>
    refine ⟨f, by omega, ?_⟩
    rw [← h, tokR, if_neg hl, if_neg hd, hm]

/-! ### what a < begins -/
theorem markT_tag {out : List PTok} {l : Ch} (h : (letB (byteT l 1) || (byteT l 1 == 47 && letB (byteT l 2))) = true) : markT out l = match tagP l with
    | none => none
    | some (t, k) =>
      if t.kind = 1 ∧ (t.name.map (·.1) = [115, 99, 114, 105, 112, 116] ∨ t.name.map (·.1) = [115, 116, 121, 108, 101]) then
        some (dataT (out ++ [t]) ((l.drop k).take (rawT (t.name.map (·.1)) (l.drop k))), (l.drop k).drop (rawT (t.name.map (·.1)) (l.drop k)))
      else some (out ++ [t], l.drop k) := by unfold markT; rw [if_pos h]; rfl
theorem markT_no {out : List PTok} {l : Ch} (h : (letB (byteT l 1) || (byteT l 1 == 47 && letB (byteT l 2))) = true) (ht : tagP l = none) : markT out l = none := by rw [markT_tag h, ht]
theorem markT_raw {out : List PTok} {l : Ch} {t : PTok} {k : Nat} (h : (letB (byteT l 1) || (byteT l 1 == 47 && letB (byteT l 2))) = true) (ht : tagP l = some (t, k)) (hr : t.kind = 1 ∧ (t.name.map (·.1) = [115, 99, 114, 105, 112, 116] ∨ t.name.map (·.1) = [115, 116, 121, 108, 101])) :
    markT out l = some (dataT (out ++ [t]) ((l.drop k).take (rawT (t.name.map (·.1)) (l.drop k))), (l.drop k).drop (rawT (t.name.map (·.1)) (l.drop k))) := by rw [markT_tag h, ht]; exact if_pos hr
theorem markT_plain {out : List PTok} {l : Ch} {t : PTok} {k : Nat} (h : (letB (byteT l 1) || (byteT l 1 == 47 && letB (byteT l 2))) = true) (ht : tagP l = some (t, k)) (hr : ¬ (t.kind = 1 ∧ (t.name.map (·.1) = [115, 99, 114, 105, 112, 116] ∨ t.name.map (·.1) = [115, 116, 121, 108, 101]))) :
    markT out l = some (out ++ [t], l.drop k) := by rw [markT_tag h, ht]; exact if_neg hr
theorem markT_gt {out : List PTok} {l : Ch} (h : (letB (byteT l 1) || (byteT l 1 == 47 && letB (byteT l 2))) = false) (h1 : byteT l 1 = 47) (h2 : byteT l 2 = 62) : markT out l = some (out, l.drop 3) := by
  unfold markT; rw [if_neg (by rw [h]; decide), if_pos ⟨h1, h2⟩]
theorem markT_comm {out : List PTok} {l : Ch} (h : (letB (byteT l 1) || (byteT l 1 == 47 && letB (byteT l 2))) = false) (h3 : 3 < l.length) (h1 : byteT l 1 = 33) (h2 : byteT l 2 = 45) (h4 : byteT l 3 = 45) :
    markT out l = some (out ++ [⟨4, [], [], false, (commT l 4 [45, 45, 62]).1⟩], l.drop (commT l 4 [45, 45, 62]).2) := by
  unfold markT; rw [if_neg (by rw [h]; decide), if_neg (fun hh => by rw [h1] at hh; exact absurd hh.1 (by decide)), if_pos ⟨h3, h1, h2, h4⟩]
theorem markT_other {out : List PTok} {l : Ch} (h : (letB (byteT l 1) || (byteT l 1 == 47 && letB (byteT l 2))) = false) (h1 : ¬ (byteT l 1 = 47 ∧ byteT l 2 = 62)) (h2 : ¬ (3 < l.length ∧ byteT l 1 = 33 ∧ byteT l 2 = 45 ∧ byteT l 3 = 45))
    (h3 : (byteT l 1 = 47 ∧ 2 < l.length) ∨ byteT l 1 = 33 ∨ byteT l 1 = 63) : markT out l = some (out ++ [⟨4, [], [], false, (commT l 2 [62]).1⟩], l.drop (commT l 2 [62]).2) := by
  unfold markT; rw [if_neg (by rw [h]; decide), if_neg h1, if_neg h2, if_pos h3]
theorem markT_data {out : List PTok} {l : Ch} (h : (letB (byteT l 1) || (byteT l 1 == 47 && letB (byteT l 2))) = false) (h1 : ¬ (byteT l 1 = 47 ∧ byteT l 2 = 62)) (h2 : ¬ (3 < l.length ∧ byteT l 1 = 33 ∧ byteT l 2 = 45 ∧ byteT l 3 = 45))
    (h3 : ¬ ((byteT l 1 = 47 ∧ 2 < l.length) ∨ byteT l 1 = 33 ∨ byteT l 1 = 63)) : markT out l = some (dataT out (l.take 1), l.drop 1) := by
  unfold markT; rw [if_neg (by rw [h]; decide), if_neg h1, if_neg h2, if_neg h3]

end Go.Proofs.YtdiifkmcbnhliaaGreat.mk

namespace Go.Proofs.YtdiifkmcbnhliaaGreat.mk
open Go.RowKit

/-- what is left, as a slice -/
def SlT (w : World) (B : Nat) (l : Ch) (v : Value) : Prop := ∃ A c, v = .slice A l.length c ∧ Lies w B A (chCells l) ∧ l.length ≤ c ∧ (A = none → c = 0)
theorem SlT.keep {w w' : World} {B : Nat} {l : Ch} {v : Value} (h : SlT w B l v) (hb : Below B w w') : SlT w' B l v := by
  obtain ⟨A, c, e, h1, h2, h3⟩ := h
  exact ⟨A, c, e, h1.below hb, h2, h3⟩
/-- behind k of its bytes -/
theorem SlT.off {w : World} {B k n c : Nat} {A' : Option Addr} {ad : Addr} {l : Ch} (hl : Lies w B (some ad) (chCells l)) (hn : l.length = n) (hnc : n ≤ c) (hk : k ≤ n) (hA : A' = if c = k then some ad else some (ad.add (k * 2))) : SlT w B (l.drop k) (.slice A' (n - k) (c - k)) := by
  subst hA
  by_cases hc : c = k
  · have e : l.drop k = [] := List.drop_of_length_le (by omega)
    have en : n - k = 0 := by omega
    rw [if_pos hc, e, en]
    exact ⟨some ad, c - k, rfl, Lies.empty _ _ _, Nat.zero_le _, fun h => by cases h⟩
  · rw [if_neg hc]
    exact ⟨some (ad.add (k * 2)), c - k, by rw [List.length_drop, hn], by rw [chCells_drop]; exact hl.drop _, by rw [List.length_drop, hn]; omega, fun h => by cases h⟩
/-- the tokens so far -/
def RTk (w : World) (base : Nat) (toks : List PTok) (v : Value) : Prop := ∃ A c ts, v = .slice A ts.length c ∧ w.ownsRow base 39 5 (.slice A ts.length c) ts.length (rtCells ts) ∧ ts.map RT.pt = toks ∧ ∀ t ∈ ts, t.ok w base
theorem RTk.keep {w w' : World} {base : Nat} {toks : List PTok} {v : Value} (h : RTk w base toks v) (hB : base ≤ w.heap.size) (hb : Below w.heap.size w w') : RTk w' base toks v := by
  obtain ⟨A, c, ts, e, h1, h2, h3⟩ := h
  exact ⟨A, c, ts, e, own_keep h1 hb, h2, fun t ht => (h3 t ht).below hB hb⟩
theorem RT.ok.tn {w : World} {base : Nat} {t : RT} (h : t.ok w base) : t.tx.ch.length = t.tx.n := by
  rcases h.2.1 with h | h
  · exact h.2.1
  · exact h.1
theorem RTk.sizes {w : World} {base N m : Nat} {toks : List PTok} {ts : List RT} (hp : ts.map RT.pt = toks) (hok : ∀ t ∈ ts, t.ok w base) (h : HdT N toks m) : ts.length + m ≤ N ∧ ∀ t ∈ ts, t.tx.n + m ≤ N := by
  refine ⟨by have := h.1; rw [← hp, List.length_map] at this; exact this, fun t ht => ?_⟩
  have := h.2 t.pt (by rw [← hp]; exact List.mem_map.2 ⟨t, ht, rfl⟩)
  have h2 : t.pt.text.length = t.tx.n := (hok t ht).tn
  omega
theorem RT.ok.mono {w : World} {base base' : Nat} {t : RT} (h : t.ok w base) (hn : t.nm.own w base) (hx : t.tx.own w base) (hB : base' ≤ base) : t.ok w base' :=
  ⟨Or.inr ⟨hn.1, hn.2.1, own_mono hn.2.2 hB⟩, Or.inr ⟨hx.1, hx.2.1, own_mono hx.2.2 hB⟩, own_mono h.2.2.1 hB, h.2.2.2.1, fun r hr => ⟨⟨(h.2.2.2.2 r hr).1.1, (h.2.2.2.2 r hr).1.2.1, own_mono (h.2.2.2.2 r hr).1.2.2 hB⟩, ⟨(h.2.2.2.2 r hr).2.1, (h.2.2.2.2 r hr).2.2.1, own_mono (h.2.2.2.2 r hr).2.2.2 hB⟩⟩⟩
/-- text's answer, as the tokens so far -/
def TextPost (base : Nat) (toks : List PTok) (w : World) (e : Ending) (w' : World) : Prop := ∃ A c n, e = .returned (.slice A n c) ∧ RTk w' base toks (.slice A n c) ∧ Below base w w'
theorem refTextK_any (base : Nat) (A : Option Addr) (n c : Nat) (toks : List PTok) (x : RW) (N : Nat) (w : World) (hB : base ≤ w.heap.size) (h : RTk w base toks (.slice A n c)) (hx : x.far w base) (hN : HdT N toks x.n) (hN2 : N ≤ 1000000) :
    Calls Tryz.prog 26 #[.slice A n c, .slice x.A x.n x.c] w (TextPost base (dataT toks x.ch) w) := by
  obtain ⟨A', c', ts, e, h1, h2, h3⟩ := h
  injection e with e1 e2 e3
  subst e1 e2 e3
  obtain ⟨h4, h5⟩ := RTk.sizes h2 h3 hN
  refine (refTextD_any base ts.length _ ts x w hB h1 rfl (by omega) h3 hx (fun t ht => by have := h5 t ht; omega)).mono ?_
  rintro e w' ⟨v', ts', rfl, ho, hp, hk, hg⟩
  obtain ⟨A2, c2, rfl, _, _, _⟩ := own_form ho
  refine ⟨A2, c2, ts'.length, rfl, ⟨A2, c2, ts', rfl, ho, by rw [hp, h2], hk⟩, hg.1.below hB fun b hb hs => ?_⟩
  have := (h1.lt b hs).1
  omega
/-- a token more -/
theorem RTk.more {w w2 : World} {base : Nat} {A A' : Option Addr} {c c' : Nat} {ts : List RT} {t : RT} {toks : List PTok} (hB : base ≤ w.heap.size) (ho : w.ownsRow base 39 5 (.slice A ts.length c) ts.length (rtCells ts)) (hp : ts.map RT.pt = toks) (hk : ∀ t ∈ ts, t.ok w base) (ht : t.ok w base)
    (hg : w.grownBy w2 (Value.slice A ts.length c).ownBlock) (h2 : w2.ownsRow base 39 5 (.slice A' (ts.length + 1) c') (ts.length + 1) (rtCells ts ++ rtRow t)) : RTk w2 base (toks ++ [t.pt]) (.slice A' (ts.length + 1) c') ∧ Below base w w2 := by
  have hM : Moved (fun g => (Value.slice A ts.length c).ownBlock = some g) w w2 := ⟨hg.os, hg.tape, hg.output, hg.size, fun g hl hs => hg.block g hl (fun e => hs e.symm)⟩
  refine ⟨⟨A', c', ts ++ [t], by rw [List.length_append]; rfl, by rw [List.length_append, rtCells_snoc]; exact h2, by rw [List.map_append, hp]; rfl, fun u hu => ?_⟩, hM.below hB fun b hb hs => ?_⟩
  · rcases List.mem_append.1 hu with hu | hu
    · exact (hk u hu).moved hB hM ho
    · simp at hu
      subst hu
      exact ht.moved hB hM ho
  · have := (ho.lt b hs).1
    omega
theorem RTk.more2 {w w2 : World} {base : Nat} {A : Option Addr} {c : Nat} {ts : List RT} {t : RT} (hB : base ≤ w.heap.size) (ho : w.ownsRow base 39 5 (.slice A ts.length c) ts.length (rtCells ts)) (ht : t.ok w base) (hg : w.grownBy w2 (Value.slice A ts.length c).ownBlock) : t.ok w2 base :=
  ht.moved hB ⟨hg.os, hg.tape, hg.output, hg.size, fun g hl hs => hg.block g hl (fun e => hs e.symm)⟩ ho
def lenV : Value → Nat
  | .slice _ n _ => n
  | _ => 0
def RTokRel (L : Ch) (w : World) (s0 s3 : Value) (wr : World) : Prop :=
  ∃ l toks, SlT wr w.heap.size l s0 ∧ RTk wr w.heap.size toks s3 ∧ Hid (InR l ∧ HdT L.length toks l.length ∧ TokTo L toks l) ∧ Below w.heap.size w wr
/-- all tokens of the reference are told -/
def TellsRTs (toks : List PTok) (w : World) (e : Ending) (w' : World) : Prop := ∃ A c n, e = .returned (.slice A n c) ∧ RTk w' w.heap.size toks (.slice A n c) ∧ Below w.heap.size w w'
theorem SlT.stop {w : World} {B k z c' : Nat} {A : Option Addr} {l : Ch} (hk : l.length ≤ k) (hz : z = 0) (hc : c' = 0) : SlT w B (l.drop k) (.slice A z c') := by
  subst hz hc
  have e : l.drop k = [] := List.drop_of_length_le hk
  rw [e]
  exact ⟨A, 0, rfl, Lies.empty _ _ _, Nat.le_refl _, fun _ => rfl⟩
/-- a comment's answer -/
def CommPost (B : Nat) (x : Ch × Nat) (w : World) (e : Ending) (w' : World) : Prop := ∃ y : RW, e = .returned (.tuple #[.slice y.A y.n y.c, .int .i64 (x.2 : Int)]) ∧ Hid (y.ch = x.1 ∧ y.ok w' B) ∧ Below w.heap.size w w'
theorem comm_len (l : Ch) (k : Nat) (e : List UInt8) : (commT l k e).1.length ≤ l.length := by
  unfold commT
  split
  · show (l.drop k).length ≤ _; rw [List.length_drop]; omega
  · show ((l.take _).drop k).length ≤ _; rw [List.length_drop, List.length_take]; omega
theorem refComm_any (ad : Addr) (n c k : Nat) (l : Ch) (s : ByteArray) (p : List UInt8) (hp : s.data.toList = p) (B : Nat) (w : World) (hB : B ≤ w.heap.size) (hl : Lies w B (some ad) (chCells l)) (hn : l.length = n) (hnc : n ≤ c) (hn2 : n ≤ 1000000) (hk : k ≤ n) (hs : s.size ≤ 10) :
    Calls Tryz.prog 31 #[.slice (some ad) n c, .int .i64 (k : Int), .string s] w (CommPost B (commT l k p) w) := by
  refine (refComment_any ad n c k l s B w hB hl hn hnc (by omega) hk (by omega)).mono ?_
  rintro e w' ⟨A1, n1, c1, rfl, h1, h2, h3, h4, hb⟩
  rw [hp] at h1 h2 ⊢
  have := comm_len l k p
  exact ⟨⟨A1, n1, c1, (commT l k p).1⟩, rfl, ⟨rfl, h1, h2, h3, h4, by show n1 ≤ _; omega⟩, hb⟩
def commR (y : RW) : RT := ⟨4, noRW, none, 0, 0, [], false, y⟩
theorem commR_ok {w : World} {base : Nat} {y : RW} (h : y.ok w base) : (commR y).ok w base := ⟨Or.inr (noRW_own _ _), Or.inl h, World.ownsRow_nil _ _ _ _, rfl, fun r hr => by simp [commR] at hr⟩
theorem name_list (l : Ch) : (⟨(l.map (·.1)).toArray⟩ : ByteArray).toList = l.map (·.1) := by rw [ByteArray.toList_eq]
theorem tok_sub {x y : Ch} (h : InR y) (hs : ∀ p ∈ x, p ∈ y) : InR x := h.sub hs


/-! ### parts of the code -/
inductive Way where
  | sl | sr | bl | lo | th | el
def nav : List Way → Code → Code
  | [], c => c
  | .sl :: p, .seq a _ => nav p a
  | .sr :: p, .seq _ b => nav p b
  | .bl :: p, .block _ b => nav p b
  | .lo :: p, .loop b => nav p b
  | .th :: p, .cond _ a _ => nav p a
  | .el :: p, .cond _ _ b => nav p b
  | _, c => c
/-- what is asked of a round's end -/
def EndT (L : Ch) (w : World) (n : Nat) (X : Exit → Act → World → Prop) : Prop :=
  ∀ (u0 u2 u3 u4 u5 u6 u7 u8 u9 u10 u11 u12 u13 u14 u15 u16 u17 u18 u19 u20 u21 u22 u23 u24 u25 u26 u27 u28 u29 u30 u31 u32 u33 u34 u35 u36 u37 u38 u39 u40 u41 u42 u43 u44 u45 u46 u47 u48 u49 u50 u51 u52 u53 u54 u55 u56 u57 u58 u59 u60 u61 u62 u63 u64 u65 u66 u67 u68 u69 u70 u71 u72 u73 u74 u75 u76 u77 u78 u79 u80 u81 u82 u83 u84 u85 u86 u87 u88 u89 u90 u91 u92 u93 u94 u95 u96 u97 u98 u99 u100 u101 u102 u103 u104 u105 u106 u107 u108 u109 u110 u111 u112 u113 u114 u115 u116 u117 u118 u119 u120 u121 u122 u123 u124 u125 u126 u127 u128 u129 u130 u131 u132 u133 u134 u135 u136 u137 u138 u139 u140 u141 u142 u143 u144 u145 u146 u147 u148 u149 u150 u151 u152 u153 u154 u155 u156 u157 u158 u159 u160 u161 u162 u163 u164 u165 u166 u167 u168 u169 u170 u171 u172 u173 u174 u175 u176 u177 u178 u179 u180 u181 u182 u183 u184 u185 u186 u187 u188 u189 : Value) (w' : World), RTokRel L w u0 u3 w' → lenV u0 < n → X .normal ⟨#[u0, undef, u2, u3, u4, u5, u6, u7, u8, u9, u10, u11, u12, u13, u14, u15, u16, u17, u18, u19, u20, u21, u22, u23, u24, u25, u26, u27, u28, u29, u30, u31, u32, u33, u34, u35, u36, u37, u38, u39, u40, u41, u42, u43, u44, u45, u46, u47, u48, u49, u50, u51, u52, u53, u54, u55, u56, u57, u58, u59, u60, u61, u62, u63, u64, u65, u66, u67, u68, u69, u70, u71, u72, u73, u74, u75, u76, u77, u78, u79, u80, u81, u82, u83, u84, u85, u86, u87, u88, u89, u90, u91, u92, u93, u94, u95, u96, u97, u98, u99, u100, u101, u102, u103, u104, u105, u106, u107, u108, u109, u110, u111, u112, u113, u114, u115, u116, u117, u118, u119, u120, u121, u122, u123, u124, u125, u126, u127, u128, u129, u130, u131, u132, u133, u134, u135, u136, u137, u138, u139, u140, u141, u142, u143, u144, u145, u146, u147, u148, u149, u150, u151, u152, u153, u154, u155, u156, u157, u158, u159, u160, u161, u162, u163, u164, u165, u166, u167, u168, u169, u170, u171, u172, u173, u174, u175, u176, u177, u178, u179, u180, u181, u182, u183, u184, u185, u186, u187, u188, u189, undef], []⟩ w'
/-- what is asked where the tokens are told -/
def RetT (L : Ch) (w : World) (X : Exit → Act → World → Prop) : Prop :=
  ∀ (u0 u3 u4 u5 u6 u7 u8 u9 u10 u11 u12 u13 u14 u15 u16 u17 u18 u19 u20 u21 u22 u23 u24 u25 u26 u27 u28 u29 u30 u31 u32 u33 u34 u35 u36 u37 u38 u39 u40 u41 u42 u43 u44 u45 u46 u47 u48 u49 u50 u51 u52 u53 u54 u55 u56 u57 u58 u59 u60 u61 u62 u63 u64 u65 u66 u67 u68 u69 u70 u71 u72 u73 u74 u75 u76 u77 u78 u79 u80 u81 u82 u83 u84 u85 u86 u87 u88 u89 u90 u91 u92 u93 u94 u95 u96 u97 u98 u99 u100 u101 u102 u103 u104 u105 u106 u107 u108 u109 u110 u111 u112 u113 u114 u115 u116 u117 u118 u119 u120 u121 u122 u123 u124 u125 u126 u127 u128 u129 u130 u131 u132 u133 u134 u135 u136 u137 u138 u139 u140 u141 u142 u143 u144 u145 u146 u147 u148 u149 u150 u151 u152 u153 u154 u155 u156 u157 u158 u159 u160 u161 u162 u163 u164 u165 u166 u167 u168 u169 u170 u171 u172 u173 u174 u175 u176 u177 u178 u179 u180 u181 u182 u183 u184 u185 u186 u187 u188 u189 : Value) (A : Option Addr) (n c : Nat) (w' : World), RTk w' w.heap.size (toksP L) (.slice A n c) → Below w.heap.size w w' → X .ret ⟨#[u0, undef, .slice A n c, u3, u4, u5, u6, u7, u8, u9, u10, u11, u12, u13, u14, u15, u16, u17, u18, u19, u20, u21, u22, u23, u24, u25, u26, u27, u28, u29, u30, u31, u32, u33, u34, u35, u36, u37, u38, u39, u40, u41, u42, u43, u44, u45, u46, u47, u48, u49, u50, u51, u52, u53, u54, u55, u56, u57, u58, u59, u60, u61, u62, u63, u64, u65, u66, u67, u68, u69, u70, u71, u72, u73, u74, u75, u76, u77, u78, u79, u80, u81, u82, u83, u84, u85, u86, u87, u88, u89, u90, u91, u92, u93, u94, u95, u96, u97, u98, u99, u100, u101, u102, u103, u104, u105, u106, u107, u108, u109, u110, u111, u112, u113, u114, u115, u116, u117, u118, u119, u120, u121, u122, u123, u124, u125, u126, u127, u128, u129, u130, u131, u132, u133, u134, u135, u136, u137, u138, u139, u140, u141, u142, u143, u144, u145, u146, u147, u148, u149, u150, u151, u152, u153, u154, u155, u156, u157, u158, u159, u160, u161, u162, u163, u164, u165, u166, u167, u168, u169, u170, u171, u172, u173, u174, u175, u176, u177, u178, u179, u180, u181, u182, u183, u184, u185, u186, u187, u188, u189, undef], []⟩ w'

end Go.Proofs.YtdiifkmcbnhliaaGreat.mk

namespace Go.Proofs.YtdiifkmcbnhliaaGreat.mk
open Go.RowKit

set_option maxHeartbeats 8000000 in
set_option maxRecDepth 100000 in
theorem refTokOther (L : Ch) (w : World) (n : Nat) (X : Exit → Act → World → Prop) (K : Act → World → Prop) (hend : EndT L w n X)
    (toks1 : List PTok) (l1 : Ch) (ad1 : Addr) (A2 : Option Addr) (n1 c1' n2 c2 : Nat) (wc : World) (hLZ : L.length ≤ 1000000) (hB : Below w.heap.size w wc) (hl1 : Lies wc w.heap.size (some ad1) (chCells l1)) (hin1 : InR l1) (hn1' : l1.length = n1) (hn1p : 0 < n1) (hnc1 : n1 ≤ c1') (hn1z : n1 ≤ 1000000) (hn1n : n1 ≤ n)
    (hr2 : RTk wc w.heap.size toks1 (.slice A2 n2 c2)) (hh : HdT L.length toks1 n1) (hnx : ∀ o' l', markT toks1 l1 = some (o', l') → l'.length < n → TokTo L o' l')
    (b1 b2 : UInt8) (hy1 : byteT l1 1 = b1) (hy2 : byteT l1 2 = b2) (hq : (letB (byteT l1 1) || (byteT l1 1 == 47 && letB (byteT l1 2))) = false) (u2 u4 u7 u8 u9 u10 u11 u12 u13 u14 u15 u16 u17 u18 u19 u20 u21 u22 u23 u24 u25 u26 u27 u28 u29 u30 u31 u32 u33 u34 u35 u36 u37 u38 u39 u40 u41 u42 u43 u44 u45 u46 u47 u48 u49 u50 u51 u52 u53 u54 u55 u56 u57 u58 u59 u60 u61 u62 u63 u64 u65 u66 u67 u68 u69 u70 u71 u72 u73 u74 u75 u76 u77 u78 u79 u80 u81 u82 u83 u84 u85 u86 u87 u88 u89 u90 u91 u92 u93 u94 u95 u96 u97 u98 u99 u100 u101 u102 u103 u104 u105 u106 u107 u108 u109 u110 u111 u112 u113 u114 u115 u116 u117 u118 u119 u120 u121 u122 u123 u124 u125 u126 u127 u128 u129 u130 u131 u132 u133 u134 u135 u136 u137 u138 u139 u140 u141 u142 u143 u144 u145 u146 u147 u148 u149 u150 u151 u152 u153 u154 u155 u156 u157 u158 u159 u160 u161 u162 u163 u164 u165 u166 u167 u168 u169 u170 u171 u172 u173 u174 u175 u176 u177 u178 u179 u180 u181 u182 u183 u184 u185 u186 u187 u188 u189 : Value)
    (hK : ∀ a wx, Code.wp Tryz.prog (nav [.sr, .sr, .sl, .bl, .lo, .sr, .bl, .sr, .sr, .sr, .sr, .sr, .sr, .sr, .sr, .bl, .sr, .el, .sr] (Tryz.f8.body.getD .skip)) X a wx → K a wx) :
    Code.wp Tryz.prog (nav [.sr, .sr, .sl, .bl, .lo, .sr, .bl, .sr, .sr, .sr, .sr, .sr, .sr, .sr, .sr, .bl, .sr, .el, .sl] (Tryz.f8.body.getD .skip)) (Exit.then K X) ⟨#[.slice (some ad1) n1 c1', undef, u2, .slice A2 n2 c2, u4, .int .u8 (b1.toNat : Int), .int .u8 (b2.toNat : Int), u7, u8, u9, u10, u11, u12, u13, u14, u15, u16, u17, u18, u19, u20, u21, u22, u23, u24, u25, u26, u27, u28, u29, u30, u31, u32, u33, u34, u35, u36, u37, u38, u39, u40, u41, u42, u43, u44, u45, u46, u47, u48, u49, u50, u51, u52, u53, u54, u55, u56, u57, u58, u59, u60, u61, u62, u63, u64, u65, u66, u67, u68, u69, u70, u71, u72, u73, u74, u75, u76, u77, u78, u79, u80, u81, u82, u83, u84, u85, u86, u87, u88, u89, u90, u91, u92, u93, u94, u95, u96, u97, u98, u99, u100, u101, u102, u103, u104, u105, u106, u107, u108, u109, u110, u111, u112, u113, u114, u115, u116, u117, u118, u119, u120, u121, u122, u123, u124, u125, u126, u127, u128, u129, u130, u131, u132, u133, u134, u135, u136, u137, u138, u139, u140, u141, u142, u143, u144, u145, u146, u147, u148, u149, u150, u151, u152, u153, u154, u155, u156, u157, u158, u159, u160, u161, u162, u163, u164, u165, u166, u167, u168, u169, u170, u171, u172, u173, u174, u175, u176, u177, u178, u179, u180, u181, u182, u183, u184, u185, u186, u187, u188, u189, undef], []⟩ wc := by
  obtain ⟨i0, hi, hz0, hz1, hz2⟩ := info_parts rt_info
  have HLZ := Lib.hid hLZ
  have HB2 := Lib.hid hB
  have HL1 := Lib.hid hl1
  have HIN1 := Lib.hid hin1
  have HN1 := Lib.hid hn1'
  have HR2 := Lib.hid hr2
  have HH := Lib.hid hh
  have HNX := Lib.hid hnx
  have HEND := Lib.hid hend
  let _bp := bodyPost Tryz.prog Tryz.f8 (TellsRTs (toksP L) w)
  have hzc : w.heap.size ≤ wc.heap.size := hB.size
  have HY1 := Lib.hid hy1
  have HY2 := Lib.hid hy2
  have HM0 := Lib.hid hq
  clear hy1 hy2 hq
  clear hLZ hB hl1 hin1 hn1' hr2 hh hnx hend
  dsimp only [nav, Tryz.f8, Option.getD] at hK ⊢
  obtain ⟨b3, hy3⟩ : ∃ b3, byteT l1 3 = b3 := ⟨_, rfl⟩
  have HY3 := Lib.hid hy3
  obtain ⟨p47, hp47⟩ : ∃ p47, (b1 == 47) = p47 := ⟨_, rfl⟩
  have ep47 : ((b1.toNat : Int) == 47) = p47 := by rw [← hp47]; exact byte_beq b1 47
  have Hp47 := Lib.hid hp47
  obtain ⟨p62, hp62⟩ : ∃ p62, (b2 == 62) = p62 := ⟨_, rfl⟩
  have ep62 : ((b2.toNat : Int) == 62) = p62 := by rw [← hp62]; exact byte_beq b2 62
  have Hp62 := Lib.hid hp62
  obtain ⟨p33, hp33⟩ : ∃ p33, (b1 == 33) = p33 := ⟨_, rfl⟩
  have ep33 : ((b1.toNat : Int) == 33) = p33 := by rw [← hp33]; exact byte_beq b1 33
  have Hp33 := Lib.hid hp33
  obtain ⟨p45, hp45⟩ : ∃ p45, (b2 == 45) = p45 := ⟨_, rfl⟩
  have ep45 : ((b2.toNat : Int) == 45) = p45 := by rw [← hp45]; exact byte_beq b2 45
  have Hp45 := Lib.hid hp45
  obtain ⟨p63, hp63⟩ : ∃ p63, (b1 == 63) = p63 := ⟨_, rfl⟩
  have ep63 : ((b1.toNat : Int) == 63) = p63 := by rw [← hp63]; exact byte_beq b1 63
  have Hp63 := Lib.hid hp63
  obtain ⟨q45, hq45⟩ : ∃ q45, (b3 == 45) = q45 := ⟨_, rfl⟩
  have eq45 : ((b3.toNat : Int) == 45) = q45 := by rw [← hq45]; exact byte_beq b3 45
  have Hq45 := Lib.hid hq45
  clear hp47 hp62 hp33 hp45 hp63 hq45 hy3
  obtain ⟨d1, hd1⟩ : ∃ d1, (p47 && p62) = d1 := ⟨_, rfl⟩
  have Hd1 := Lib.hid hd1
  obtain ⟨d2, hd2⟩ : ∃ d2, (decide (3 < n1) && (p33 && (p45 && q45))) = d2 := ⟨_, rfl⟩
  have Hd2 := Lib.hid hd2
  obtain ⟨d3, hd3⟩ : ∃ d3, (p47 && decide (2 < n1)) = d3 := ⟨_, rfl⟩
  have Hd3 := Lib.hid hd3
  obtain ⟨d4, hd4⟩ : ∃ d4, (d3 || (p33 || p63)) = d4 := ⟨_, rfl⟩
  have Hd4 := Lib.hid hd4
  clear hd1 hd2 hd3 hd4
  go_upto_region 31 with fail
  go_cut [124] (fun sx wx => sx = .bool d1 ∧ wx = wc)
  case first =>
    cases p47
    · go_wp2_with fail
      go_meet
      exact ⟨by rw [← Hd1.out]; rfl, rfl⟩
    · go_wp2_with fail
      go_meet
      exact ⟨by rw [← Hd1.out]; rfl, rfl⟩
  case rest =>
    obtain ⟨rfl, rfl⟩ := hcut
    cases d1
    · have N1 : Hid (¬ (byteT l1 1 = 47 ∧ byteT l1 2 = 62)) := by
        show ¬ _
        rw [HY1.out, HY2.out]
        rintro ⟨h1, h2⟩
        have h := Hd1.out
        rw [← Hp47.out, ← Hp62.out, h1, h2] at h
        exact absurd h (by decide)
      go_upto_region 33 with fail
      go_cut [133] (fun sx wx => sx = .bool d2 ∧ wx = wc)
      case first =>
        by_cases h3n : 3 < n1
        · have h3i : (3 : Int) < (n1 : Int) := by omega
          obtain ⟨ad', bx, ox, ex, _, dx, _, HRX⟩ := HL1.out.ch (k := 3) (by rw [HN1.out]; omega)
          injection ex with ex
          subst ex
          have dx2 : wc.cell? ⟨ad1.block, ad1.off + 6, none⟩ = some (.int .u8 bx.toNat) := by rw [← dx]; unfold Addr.add; rfl
          obtain rfl : bx = b3 := (byteT_some HRX.out).symm.trans HY3.out
          have HD3 : Hid (decide (3 < n1) = true) := decide_eq_true h3n
          clear dx
          cases p33
          · go_wp2_with fail
            go_meet
            exact ⟨by rw [← Hd2.out, HD3.out]; rfl, rfl⟩
          · cases p45
            · go_wp2_with fail
              go_meet
              exact ⟨by rw [← Hd2.out, HD3.out]; rfl, rfl⟩
            · go_wp2_with fail
              go_meet
              exact ⟨by rw [← Hd2.out, HD3.out]; rfl, rfl⟩
        · have h3i : ¬ (3 : Int) < (n1 : Int) := by omega
          have HD3 : Hid (decide (3 < n1) = false) := decide_eq_false h3n
          go_wp2_with fail
          go_meet
          exact ⟨by rw [← Hd2.out, HD3.out]; rfl, rfl⟩
      case rest =>
        obtain ⟨rfl, rfl⟩ := hcut
        cases d2
        · have N2 : Hid (¬ (3 < l1.length ∧ byteT l1 1 = 33 ∧ byteT l1 2 = 45 ∧ byteT l1 3 = 45)) := by
            show ¬ _
            rw [HY1.out, HY2.out, HY3.out, HN1.out]
            rintro ⟨h0, h1, h2, h3⟩
            have h := Hd2.out
            rw [← Hp33.out, ← Hp45.out, ← Hq45.out, h1, h2, h3, decide_eq_true h0] at h
            exact absurd h (by decide)
          go_upto_region 37 with fail
          go_cut [165] (fun sx wx => sx = .bool d3 ∧ wx = wc)
          case first =>
            by_cases h2n : 2 < n1
            · have h2i : (2 : Int) < (n1 : Int) := by omega
              have HD3 : Hid (decide (2 < n1) = true) := decide_eq_true h2n
              cases p47
              · go_wp2_with fail
                go_meet
                exact ⟨by rw [← Hd3.out, HD3.out]; rfl, rfl⟩
              · go_wp2_with fail
                go_meet
                exact ⟨by rw [← Hd3.out, HD3.out]; rfl, rfl⟩
            · have h2i : ¬ (2 : Int) < (n1 : Int) := by omega
              have HD3 : Hid (decide (2 < n1) = false) := decide_eq_false h2n
              cases p47
              · go_wp2_with fail
                go_meet
                exact ⟨by rw [← Hd3.out, HD3.out]; rfl, rfl⟩
              · go_wp2_with fail
                go_meet
                exact ⟨by rw [← Hd3.out, HD3.out]; rfl, rfl⟩
          case rest =>
            obtain ⟨rfl, rfl⟩ := hcut
            go_upto_if 165 with fail
            go_cut [165] (fun sx wx => sx = .bool d4 ∧ wx = wc)
            case first =>
              cases d3
              · cases p33
                · go_wp2_with fail
                  go_meet
                  exact ⟨by rw [← Hd4.out]; rfl, rfl⟩
                · go_wp2_with fail
                  go_meet
                  exact ⟨by rw [← Hd4.out]; rfl, rfl⟩
              · go_wp2_with fail
                go_meet
                exact ⟨by rw [← Hd4.out]; rfl, rfl⟩
            case rest =>
              obtain ⟨rfl, rfl⟩ := hcut
              cases d4
              · have N3 : Hid (¬ ((byteT l1 1 = 47 ∧ 2 < l1.length) ∨ byteT l1 1 = 33 ∨ byteT l1 1 = 63)) := by
                  show ¬ _
                  rw [HY1.out, HN1.out]
                  intro h0
                  have h := Hd4.out
                  rw [← Hd3.out, ← Hp47.out, ← Hp33.out, ← Hp63.out] at h
                  rcases h0 with h0 | h0 | h0
                  · rw [h0.1, decide_eq_true h0.2] at h; exact absurd h (by decide)
                  · rw [h0] at h; simp at h
                  · rw [h0] at h; simp at h
                clear ep47 ep62 ep33 ep45 ep63 eq45
                have HMK := Lib.hid (markT_data (out := toks1) HM0.out N1.out N2.out N3.out)
                have h10 : (1 : Int) ≤ (c1' : Int) := by omega
                have HTX := Lib.hid (refTextK_any w.heap.size A2 n2 c2 toks1 ⟨some ad1, 1, c1', l1.take 1⟩ L.length wc hzc HR2.out (Or.inl ⟨by rw [chCells_take]; exact HL1.out.take _, by show (l1.take 1).length = 1; rw [List.length_take, HN1.out]; omega, by show 1 ≤ c1'; omega, (fun h => by cases h), by show 1 ≤ _; omega⟩) (HH.out.mono (by show 1 ≤ _; omega)) HLZ.out)
                go_wp2_with fail
                refine HTX.out.mono ?_
                rintro e w5 ⟨A5, c5, n5, rfl, hr5, hb5⟩
                have HR5 := Lib.hid hr5
                have HB5 : Hid (Below w.heap.size w w5) := HB2.out.trans hb5
                have HL5 : Hid (Lies w5 w.heap.size (some ad1) (chCells l1)) := HL1.out.below hb5
                have HQ5 : Hid (InR (l1.drop 1) ∧ HdT L.length (dataT toks1 (l1.take 1)) (l1.drop 1).length ∧ TokTo L (dataT toks1 (l1.take 1)) (l1.drop 1)) := by
                  refine ⟨HIN1.out.sub (fun x hx => List.mem_of_mem_drop hx), ?_, HNX.out _ _ HMK.out (by rw [List.length_drop, HN1.out]; omega)⟩
                  rw [List.length_drop, HN1.out]
                  exact HdT.data (HH.out.mono (by rw [List.length_take, HN1.out]; omega))
                clear hr5 hb5 HTX
                have HE := HEND.out
                unfold EndT at HE
                (go_wp2_with fail) <;> (
                  apply HE
                  · refine ⟨_, _, ?_, HR5.out, HQ5.out, HB5.out⟩
                    first
                    | exact SlT.stop (by rw [HN1.out]; omega) (by omega) (by omega)
                    | (refine SlT.off (A' := _) HL5.out HN1.out hnc1 (by omega) ?_
                       first | rfl | (rw [if_neg (by omega)]; rfl) | (rw [if_neg (by omega)]))
                  · simp only [lenV]; omega)
              · have N3 : Hid ((byteT l1 1 = 47 ∧ 2 < l1.length) ∨ byteT l1 1 = 33 ∨ byteT l1 1 = 63) := by
                  show _ ∨ _
                  rw [HY1.out, HN1.out]
                  have h := Hd4.out
                  rw [← Hd3.out, ← Hp47.out, ← Hp33.out, ← Hp63.out] at h
                  simpa only [Bool.or_eq_true, Bool.and_eq_true, beq_iff_eq, decide_eq_true_eq] using h
                have h2n : 2 ≤ n1 := by
                  have h : 1 < l1.length := byteT_lt (by rcases N3.out with h | h | h; rw [h.1]; decide; rw [h]; decide; rw [h]; decide)
                  rw [HN1.out] at h
                  omega
                clear ep47 ep62 ep33 ep45 ep63 eq45
                have HCM := Lib.hid (refComm_any ad1 n1 c1' 2 l1 ⟨#[62]⟩ [62] rfl w.heap.size wc hzc HL1.out HN1.out hnc1 hn1z (by omega) (by decide))
                have HMK := Lib.hid (markT_other (out := toks1) HM0.out N1.out N2.out N3.out)
                have HTL := Lib.hid (commT_text l1 2 [62])
                have HKL := Lib.hid (commT_le (l := l1) (k := 2) (e := [62]) (by rw [HN1.out]; omega))
                generalize hcmt : commT l1 2 [62] = cm at *
                obtain ⟨ctx, ck⟩ := cm
                have hk1 : 2 ≤ ck := HKL.out.2
                have hk2 : ck ≤ n1 := by have := HKL.out.1; rw [HN1.out] at this; exact this
                clear hcmt HKL
                go_wp2_with fail
                refine HCM.out.mono ?_
                rintro e w3 ⟨y, rfl, hy, hb3⟩
                have HYC := Lib.hid hy.out
                obtain ⟨_, _, ts, ex, ho, hp, hkk⟩ := HR2.out.keep hzc hb3
                injection ex with e1 e2 e3
                subst e1 e2 e3
                have HKK := Lib.hid hkk
                have HP := Lib.hid hp
                have hz3 := hb3.size
                have hts := (RTk.sizes hp hkk HH.out).1
                have HO := Lib.hid ho
                have hlz := HLZ.out
                have HB3 : Hid (Below w.heap.size w w3) := HB2.out.trans (hb3.mono hzc)
                have HL3 : Hid (Lies w3 w.heap.size (some ad1) (chCells l1)) := HL1.out.below (hb3.mono hzc)
                clear hy hb3 hp hkk HCM
                go_wp2_with (at_builtin; refine wpList_append_own_at _ rfl _ _ 29 rfl w.heap.size 39 i0 _ 5 88 Tryz.underlying29 hi hz0 hz1 hz2 rfl (by decide) (.slice A2 ts.length c2) ts.length _ rfl (ho.alloc _) ⟨w3.heap.size, 0, none⟩ 1 1 (rtRow (commR y)) rfl rfl (cells_new w3 _ _) (by simp [Value.oneCell', rtRow, commR, noRW]) (by simp only [maxLen]; omega) (by omega) (by simp; omega) ?_)
                intro v5 w5 hown5 hg5 _ hblk
                obtain ⟨A5, c5, rfl, _, _, _⟩ := own_form hown5
                have hba := Below.alloc (Below.refl w3.heap.size w3) (Nat.le_refl _) (.cells (rtRow (commR y)).toArray 39)
                obtain ⟨hr5, hb5⟩ := RTk.more (t := commR y) (Nat.le_trans (Nat.le_trans hzc hz3) hba.size) (HO.out.alloc _) HP.out (fun t ht => (HKK.out t ht).below (Nat.le_trans hzc hz3) hba) ((commR_ok HYC.out.2).below (Nat.le_trans hzc hz3) hba) hg5 hown5
                have hp5 : (commR y).pt = ⟨4, [], [], false, ctx⟩ := by rw [← HYC.out.1]; rfl
                rw [hp5] at hr5
                have HR5 := Lib.hid hr5
                have HW5 : Hid (Below w.heap.size w3 w5) := (hba.mono (Nat.le_trans hzc hz3)).trans hb5
                have HB5 : Hid (Below w.heap.size w w5) := HB3.out.trans HW5.out
                have HQ5 : Hid (InR (l1.drop ck) ∧ HdT L.length (toks1 ++ [⟨4, [], [], false, ctx⟩]) (l1.drop ck).length ∧ TokTo L (toks1 ++ [⟨4, [], [], false, ctx⟩]) (l1.drop ck)) := by
                  refine ⟨HIN1.out.sub (fun x hx => List.mem_of_mem_drop hx), ?_, HNX.out _ _ HMK.out (by rw [List.length_drop, HN1.out]; omega)⟩
                  rw [List.length_drop, HN1.out]
                  exact HdT.more (k := ck) (HH.out.mono (by omega)) (by omega) HTL.out
                clear hr5 hb5 hba hg5 hown5 hblk ho hp5
                have HE := HEND.out
                unfold EndT at HE
                (go_wp2_with fail) <;> (
                  apply HE
                  · refine ⟨_, _, ?_, HR5.out, HQ5.out, HB5.out⟩
                    first
                    | exact SlT.stop (by rw [HN1.out]; omega) (by omega) (by omega)
                    | (refine SlT.off (A' := _) (HL3.out.below HW5.out) HN1.out hnc1 hk2 ?_
                       first | rfl | (rw [if_neg (by omega)]; rfl) | (rw [if_neg (by omega)]))
                  · simp only [lenV]; omega)
        · have N2 : Hid (3 < l1.length ∧ byteT l1 1 = 33 ∧ byteT l1 2 = 45 ∧ byteT l1 3 = 45) := by
            show _ ∧ _
            rw [HY1.out, HY2.out, HY3.out, HN1.out]
            have h := Hd2.out
            rw [← Hp33.out, ← Hp45.out, ← Hq45.out] at h
            simpa only [Bool.and_eq_true, beq_iff_eq, decide_eq_true_eq] using h
          have h3n : 3 < n1 := by have := N2.out.1; rw [HN1.out] at this; exact this
          clear ep47 ep62 ep33 ep45 ep63 eq45
          have HCM := Lib.hid (refComm_any ad1 n1 c1' 4 l1 ⟨#[45, 45, 62]⟩ [45, 45, 62] rfl w.heap.size wc hzc HL1.out HN1.out hnc1 hn1z (by omega) (by decide))
          have HMK := Lib.hid (markT_comm (out := toks1) HM0.out N2.out.1 N2.out.2.1 N2.out.2.2.1 N2.out.2.2.2)
          have HTL := Lib.hid (commT_text l1 4 [45, 45, 62])
          have HKL := Lib.hid (commT_le (l := l1) (k := 4) (e := [45, 45, 62]) (by rw [HN1.out]; omega))
          generalize hcmt : commT l1 4 [45, 45, 62] = cm at *
          obtain ⟨ctx, ck⟩ := cm
          have hk1 : 4 ≤ ck := HKL.out.2
          have hk2 : ck ≤ n1 := by have := HKL.out.1; rw [HN1.out] at this; exact this
          clear hcmt HKL
          go_wp2_with fail
          refine HCM.out.mono ?_
          rintro e w3 ⟨y, rfl, hy, hb3⟩
          have HYC := Lib.hid hy.out
          obtain ⟨_, _, ts, ex, ho, hp, hkk⟩ := HR2.out.keep hzc hb3
          injection ex with e1 e2 e3
          subst e1 e2 e3
          have HKK := Lib.hid hkk
          have HP := Lib.hid hp
          have hz3 := hb3.size
          have hts := (RTk.sizes hp hkk HH.out).1
          have HO := Lib.hid ho
          have hlz := HLZ.out
          have HB3 : Hid (Below w.heap.size w w3) := HB2.out.trans (hb3.mono hzc)
          have HL3 : Hid (Lies w3 w.heap.size (some ad1) (chCells l1)) := HL1.out.below (hb3.mono hzc)
          clear hy hb3 hp hkk HCM
          go_wp2_with (at_builtin; refine wpList_append_own_at _ rfl _ _ 29 rfl w.heap.size 39 i0 _ 5 88 Tryz.underlying29 hi hz0 hz1 hz2 rfl (by decide) (.slice A2 ts.length c2) ts.length _ rfl (ho.alloc _) ⟨w3.heap.size, 0, none⟩ 1 1 (rtRow (commR y)) rfl rfl (cells_new w3 _ _) (by simp [Value.oneCell', rtRow, commR, noRW]) (by simp only [maxLen]; omega) (by omega) (by simp; omega) ?_)
          intro v5 w5 hown5 hg5 _ hblk
          obtain ⟨A5, c5, rfl, _, _, _⟩ := own_form hown5
          have hba := Below.alloc (Below.refl w3.heap.size w3) (Nat.le_refl _) (.cells (rtRow (commR y)).toArray 39)
          obtain ⟨hr5, hb5⟩ := RTk.more (t := commR y) (Nat.le_trans (Nat.le_trans hzc hz3) hba.size) (HO.out.alloc _) HP.out (fun t ht => (HKK.out t ht).below (Nat.le_trans hzc hz3) hba) ((commR_ok HYC.out.2).below (Nat.le_trans hzc hz3) hba) hg5 hown5
          have hp5 : (commR y).pt = ⟨4, [], [], false, ctx⟩ := by rw [← HYC.out.1]; rfl
          rw [hp5] at hr5
          have HR5 := Lib.hid hr5
          have HW5 : Hid (Below w.heap.size w3 w5) := (hba.mono (Nat.le_trans hzc hz3)).trans hb5
          have HB5 : Hid (Below w.heap.size w w5) := HB3.out.trans HW5.out
          have HQ5 : Hid (InR (l1.drop ck) ∧ HdT L.length (toks1 ++ [⟨4, [], [], false, ctx⟩]) (l1.drop ck).length ∧ TokTo L (toks1 ++ [⟨4, [], [], false, ctx⟩]) (l1.drop ck)) := by
            refine ⟨HIN1.out.sub (fun x hx => List.mem_of_mem_drop hx), ?_, HNX.out _ _ HMK.out (by rw [List.length_drop, HN1.out]; omega)⟩
            rw [List.length_drop, HN1.out]
            exact HdT.more (k := ck) (HH.out.mono (by omega)) (by omega) HTL.out
          clear hr5 hb5 hba hg5 hown5 hblk ho hp5
          have HE := HEND.out
          unfold EndT at HE
          (go_wp2_with fail) <;> (
            apply HE
            · refine ⟨_, _, ?_, HR5.out, HQ5.out, HB5.out⟩
              first
              | exact SlT.stop (by rw [HN1.out]; omega) (by omega) (by omega)
              | (refine SlT.off (A' := _) (HL3.out.below HW5.out) HN1.out hnc1 hk2 ?_
                 first | rfl | (rw [if_neg (by omega)]; rfl) | (rw [if_neg (by omega)]))
            · simp only [lenV]; omega)
    · have N1 : Hid (b1 = 47 ∧ b2 = 62) := by
        show _ ∧ _
        have h := Hd1.out
        rw [← Hp47.out, ← Hp62.out] at h
        simpa only [Bool.and_eq_true, beq_iff_eq] using h
      obtain ⟨hb47, hb62⟩ := N1.out
      clear ep47 ep62 ep33 ep45 ep63 eq45
      have HMK := Lib.hid (markT_gt (out := toks1) HM0.out (HY1.out.trans hb47) (HY2.out.trans hb62))
      have HL0 := Lib.hid (byteT_lt (l := l1) (i := 2) (by rw [HY2.out, hb62]; decide))
      have h3n : 3 ≤ n1 := by have := HL0.out; rw [HN1.out] at this; omega
      have h3c : (3 : Int) ≤ (c1' : Int) := by omega
      have h3n' : (3 : Int) ≤ (n1 : Int) := by omega
      have HQ5 : Hid (InR (l1.drop 3) ∧ HdT L.length toks1 (l1.drop 3).length ∧ TokTo L toks1 (l1.drop 3)) := by
        refine ⟨HIN1.out.sub (fun x hx => List.mem_of_mem_drop hx), ?_, HNX.out _ _ HMK.out (by rw [List.length_drop, HN1.out]; omega)⟩
        rw [List.length_drop, HN1.out]
        exact HH.out.mono (by omega)
      clear hb47 hb62
      have HE := HEND.out
      unfold EndT at HE
      (go_wp2_with fail) <;> (
        apply HE
        · refine ⟨_, _, ?_, HR2.out, HQ5.out, HB2.out⟩
          first
          | exact SlT.stop (by rw [HN1.out]; omega) (by omega) (by omega)
          | (refine SlT.off (A' := _) HL1.out HN1.out hnc1 h3n ?_
             first | rfl | (rw [if_neg (by omega)]; rfl) | (rw [if_neg (by omega)]))
        · simp only [lenV]; omega)


end Go.Proofs.YtdiifkmcbnhliaaGreat.mk
