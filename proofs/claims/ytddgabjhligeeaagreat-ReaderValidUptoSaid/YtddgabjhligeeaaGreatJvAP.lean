/-
  Tokens that come in: how they lie in memory, and how large they are.
-/
import Derived.Test.YtddgabjhligeeaaGreatJvY
import Derived.Test.YtddgabjhligeeaaGreatJvAF
import Derived.ChangeArms
namespace Go.Proofs.YtddgabjhligeeaaGreat.mk
open Go.ChangeShapes Go.WideShapes Go.RowKit Go.Deep Go.Joins

section
variable {H : Type} {enc : TypeId × Value → H} {W : World}

end

end Go.Proofs.YtddgabjhligeeaaGreat.mk

namespace Go.Proofs.YtddgabjhligeeaaGreat.mk
open Go.ChangeShapes Go.WideShapes Go.RowKit Go.Deep Go.Joins

section
variable {H : Type} {enc : TypeId × Value → H} {W : World}

end

end Go.Proofs.YtddgabjhligeeaaGreat.mk

namespace Go.Proofs.YtddgabjhligeeaaGreat.mk
open Go.ChangeShapes Go.WideShapes Go.RowKit Go.Deep Go.Joins

/-- a token as it comes in -/
structure KT where
  kind : Int
  nm : LT
  A : Option Addr
  n : Nat
  c : Nat
  ats : List AT
  close : Bool
  tx : LT
def KT.ch (t : KT) : KP := ⟨t.kind, t.nm.ch, t.ats.map AT.ch, t.tx.ch⟩
def ktRow (t : KT) : List Value := [.int .i64 t.kind, .string t.nm.s, .slice t.nm.A t.nm.n t.nm.c, .slice t.A t.n t.c, .bool t.close, .string t.tx.s, .slice t.tx.A t.tx.n t.tx.c]
def ktCells (ts : List KT) : List Value := ts.flatMap ktRow
/-- what one token names lies in blocks of S -/
structure KT.inS (S : Nat → Prop) (w : World) (t : KT) : Prop where
  nm : t.nm.inS S w
  tx : t.tx.inS S w
  att : LiesS S w t.A (atCells t.ats)
  an : t.ats.length = t.n
  ac : t.A = none → t.c = 0
  am : t.n ≤ 1048576
  atts : ∀ a ∈ t.ats, a.inS S w
theorem KT.inS.keep {S : Nat → Prop} {w w' : World} {t : KT} (h : t.inS S w) (hk : Stays S w w') : t.inS S w' :=
  ⟨h.nm.keep hk, h.tx.keep hk, h.att.keep hk, h.an, h.ac, h.am, fun a ha => (h.atts a ha).keep hk⟩
theorem ktCells_at (ts : List KT) : ∀ (k : Nat) (t : KT), ts[k]? = some t → ∀ j, j < 7 → (ktCells ts)[k * 7 + j]? = (ktRow t)[j]? := by
  induction ts with
  | nil => intro k t h; simp at h
  | cons b ts ih =>
    intro k t h j hj
    show (ktRow b ++ ktCells ts)[k * 7 + j]? = _
    cases k with
    | zero =>
      simp at h
      subst h
      rw [List.getElem?_append_left (by show 0 * 7 + j < 7; omega), Nat.zero_mul, Nat.zero_add]
    | succ k =>
      rw [List.getElem?_append_right (by show 7 ≤ _; omega), show (k + 1) * 7 + j - (ktRow b).length = k * 7 + j by show _ - 7 = _; omega]
      exact ih k t (by simpa using h) j hj
theorem addr_offK (ad : Addr) (k j : Nat) (hj : 0 < j) : ad.add (k + j) = ⟨(ad.add k).block, (ad.add k).off + j, none⟩ := by
  rw [← addr_add]
  generalize ad.add k = b
  unfold Addr.add
  rw [if_neg (by omega)]
/-- token k of a row: its seven cells, as the walk spells them -/
theorem Lies.kt {w : World} {B : Nat} {A : Option Addr} {ts : List KT} (h : Lies w B A (ktCells ts)) {k : Nat} (hk : k < ts.length) :
    ∃ ad t, A = some ad ∧ ad.block < B ∧ w.cell? (ad.add (k * 7)) = some (.int .i64 t.kind) ∧ w.cell? ⟨(ad.add (k * 7)).block, (ad.add (k * 7)).off + 1, none⟩ = some (.string t.nm.s) ∧ w.cell? ⟨(ad.add (k * 7)).block, (ad.add (k * 7)).off + 2, none⟩ = some (.slice t.nm.A t.nm.n t.nm.c) ∧ w.cell? ⟨(ad.add (k * 7)).block, (ad.add (k * 7)).off + 3, none⟩ = some (.slice t.A t.n t.c) ∧ w.cell? ⟨(ad.add (k * 7)).block, (ad.add (k * 7)).off + 4, none⟩ = some (.bool t.close) ∧ w.cell? ⟨(ad.add (k * 7)).block, (ad.add (k * 7)).off + 5, none⟩ = some (.string t.tx.s) ∧ w.cell? ⟨(ad.add (k * 7)).block, (ad.add (k * 7)).off + 6, none⟩ = some (.slice t.tx.A t.tx.n t.tx.c) ∧ Hid (ts[k]? = some t) := by
  have ht : ts[k]? = some ts[k] := List.getElem?_eq_getElem hk
  generalize ts[k] = t at ht
  have key : ∀ j u, j < 7 → (ktRow t)[j]? = some u → ∃ ad, A = some ad ∧ ad.block < B ∧ w.cell? (ad.add (k * 7 + j)) = some u := fun j u hj hu => h _ _ ((ktCells_at ts k t ht j hj).trans hu)
  obtain ⟨ad, e, hb, h0⟩ := key 0 _ (by omega) rfl
  subst e
  have key2 : ∀ j u, 0 < j → j < 7 → (ktRow t)[j]? = some u → w.cell? ⟨(ad.add (k * 7)).block, (ad.add (k * 7)).off + j, none⟩ = some u := fun j u h0 hj hu => by
    obtain ⟨ad', e, _, hc⟩ := key j u hj hu
    injection e with e
    subst e
    rw [← addr_offK _ _ _ h0]
    exact hc
  exact ⟨ad, t, rfl, hb, h0, key2 1 _ (by omega) (by omega) rfl, key2 2 _ (by omega) (by omega) rfl, key2 3 _ (by omega) (by omega) rfl, key2 4 _ (by omega) (by omega) rfl, key2 5 _ (by omega) (by omega) rfl, key2 6 _ (by omega) (by omega) rfl, ht⟩

section
variable {H : Type} {enc : TypeId × Value → H} {W : World}
end

end Go.Proofs.YtddgabjhligeeaaGreat.mk
