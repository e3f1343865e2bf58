/-
  What a region keeps that reads variables of the call's own and stores its answers: the variables, rows of its own, where the answers go, and what lies below.
-/
import Derived.Test.YtdfpoinnajahiaaMarkFix
namespace Go.Proofs.Ytdfpoinnajahiaa.mk
open Go.RowKit

structure Keeps (B0 B : Nat) (vars : List (Nat × Value × Value)) (rows : List (Value × Nat × List Value)) (gs : List Nat) (w0 w : World) : Prop where
  var : ∀ x ∈ vars, Whole w x.1 24 #[x.2.1, x.2.2]
  own : ∀ x ∈ rows, w.ownsRow B 44 2 x.1 x.2.1 x.2.2
  res : ∀ g ∈ gs, ∃ x y, Whole w g 24 #[x, y]
  bel : Below B0 w0 w
section
variable {B0 B : Nat} {vars : List (Nat × Value × Value)} {rows : List (Value × Nat × List Value)} {gs : List Nat} {w0 w w' : World}
theorem Keeps.drew (h : Keeps B0 B vars rows gs w0 w) : Keeps B0 B vars rows gs w0 w.drew := ⟨fun x hx => (h.var x hx).drew, h.own, h.res, h.bel.drew⟩
theorem Keeps.below (h : Keeps B0 B vars rows gs w0 w) (hz : B0 ≤ w0.heap.size) (hb : Below w.heap.size w w') : Keeps B0 B vars rows gs w0 w' :=
  ⟨fun x hx => (h.var x hx).below hb (h.var x hx).lt, fun x hx => own_keep (h.own x hx) hb, fun g hg => by obtain ⟨x, y, hr⟩ := h.res g hg; exact ⟨x, y, hr.below hb hr.lt⟩, below_next h.bel hz hb⟩
theorem own_put_far {base gR n sz : Nat} {ty : TypeId} {v : Value} {xs : List Value} (h : w.ownsRow base ty sz v n xs) (hg : gR < base) (u u' : Value) : ((w.setCell ⟨gR, 0, none⟩ u).setCell ⟨gR, 1, none⟩ u').ownsRow base ty sz v n xs := by
  have hx : ∀ p : Addr, p.block = gR → v.ownBlock ≠ some p.block := fun p hp e => by
    have := (h.lt _ e).1
    omega
  exact own_far (own_far h _ (hx _ rfl) _) _ (hx _ rfl) _
theorem Keeps.put (h : Keeps B0 B vars rows gs w0 w) {g : Nat} (hg : g ∈ gs) (h0 : B0 ≤ g) (hB : g < B) (hv : ∀ x ∈ vars, x.1 ≠ g) (u v : Value) : Keeps B0 B vars rows gs w0 ((w.setCell ⟨g, 0, none⟩ u).setCell ⟨g, 1, none⟩ v) := by
  refine ⟨fun x hx => ((h.var x hx).far _ (hv x hx) _).far _ (hv x hx) _, fun x hx => own_put_far (h.own x hx) hB _ _, fun k hk => ?_, (h.bel.setCell (p := ⟨g, 0, none⟩) h0 _).setCell (p := ⟨g, 1, none⟩) h0 _⟩
  obtain ⟨x, y, hr⟩ := h.res k hk
  by_cases e : k = g
  · subst e; exact ⟨u, v, (hr.put 0 _).put 1 _⟩
  · exact ⟨x, y, (hr.far _ e _).far _ e _⟩
theorem Keeps.base {n : Nat} (h : Keeps B0 B vars rows gs w0 w) (hz : n ≤ w0.heap.size) : n ≤ w.heap.size := Nat.le_trans hz h.bel.size
end

end Go.Proofs.Ytdfpoinnajahiaa.mk
