/-
  Texts in a row.
-/
import Derived.Test.YthanclhnncaapaaMarkMem
import Derived.OwnWalk
namespace Go.Proofs.Ythanclhnncaapaa.mk
open Go.RowKit

/-- texts in a row -/
def txCells (ns : List ByteArray) : List Value := ns.map Value.string
theorem string_info : (Try.prog.info? 9).map (fun i => (i.zero, i.size, i.bytes)) = some (some (.string ⟨#[]⟩), 1, 16) := by kernel_rfl
/-- text k of a row of texts -/
theorem Lies.tx {w : World} {B : Nat} {A : Option Addr} {ns : List ByteArray} (h : Lies w B A (txCells ns)) {k : Nat} (hk : k < ns.length) :
    ∃ ad s, A = some ad ∧ ad.block < B ∧ w.cell? (ad.add k) = some (.string s) ∧ Hid (ns[k]? = some s) := by
  have ht : ns[k]? = some ns[k] := List.getElem?_eq_getElem hk
  generalize ns[k] = s at ht
  obtain ⟨ad, e, hb, h0⟩ := h k (.string s) (by unfold txCells; rw [List.getElem?_map, ht]; rfl)
  exact ⟨ad, s, e, hb, h0, ht⟩

end Go.Proofs.Ythanclhnncaapaa.mk
