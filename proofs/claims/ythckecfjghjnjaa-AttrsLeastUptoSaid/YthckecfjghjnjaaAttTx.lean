/-
  Texts in a row, and the place of a name by what is got.
-/
import Derived.Test.YthckecfjghjnjaaAttChg
namespace Go.Proofs.Ythckecfjghjnjaa.mk
open Go.RowKit Go.Maps

/-- text k of a row of texts -/
theorem Lies.tx {w : World} {B : Nat} {A : Option Addr} {ns : List ByteArray} (h : Lies w B A (txCells ns)) {k : Nat} (hk : k < ns.length) :
    ∃ ad s, A = some ad ∧ ad.block < B ∧ w.cell? (ad.add k) = some (.string s) ∧ Hid (ns[k]? = some s) := by
  have ht : ns[k]? = some ns[k] := List.getElem?_eq_getElem hk
  generalize ns[k] = s at ht
  obtain ⟨ad, e, hb, h0⟩ := h k (.string s) (by unfold txCells; rw [List.getElem?_map, ht]; rfl)
  exact ⟨ad, s, e, hb, h0, ht⟩
theorem plI_some {L : List PA} {nm : List UInt8} {x : PA} (h : getA L nm = some x) : ∃ j : Nat, plI L nm = (j : Int) ∧ j < L.length ∧ L[j]? = some x := by
  have h1 := (List.getElem?_eq_some_iff.1 h).1
  exact ⟨placeN L nm, by unfold plI; rw [if_pos h1], h1, h⟩
theorem plI_none {L : List PA} {nm : List UInt8} (h : getA L nm = none) : plI L nm = -1 := by
  have h1 := List.getElem?_eq_none_iff.1 h
  unfold plI
  rw [if_neg (by omega)]

end Go.Proofs.Ythckecfjghjnjaa.mk
