/-
  The rows of names (stage 16), purely.
-/
import Derived.Test.YtnbdldapmllegaaGreatJtG
import Derived.OwnWalk
namespace Go.Proofs.YtnbdldapmllegaaGreat.mk
open Go.RowKit

/-- texts in a row -/
def txCells (ns : List ByteArray) : List Value := ns.map Value.string
/-- text k of a row of texts -/
theorem Lies.tx {w : World} {B : Nat} {A : Option Addr} {ns : List ByteArray} (h : Lies w B A (txCells ns)) {k : Nat} (hk : k < ns.length) :
    ∃ ad s, A = some ad ∧ ad.block < B ∧ w.cell? (ad.add k) = some (.string s) ∧ Hid (ns[k]? = some s) := by
  have ht : ns[k]? = some ns[k] := List.getElem?_eq_getElem hk
  generalize ns[k] = s at ht
  obtain ⟨ad, e, hb, h0⟩ := h k (.string s) (by unfold txCells; rw [List.getElem?_map, ht]; rfl)
  exact ⟨ad, s, e, hb, h0, ht⟩

end Go.Proofs.YtnbdldapmllegaaGreat.mk

namespace Go.Proofs.YtnbdldapmllegaaGreat.mk
open Go.RowKit

def tagL : List ByteArray := [⟨#[100, 105, 118]⟩, ⟨#[115, 112, 97, 110]⟩, ⟨#[112]⟩, ⟨#[97]⟩, ⟨#[117, 108]⟩, ⟨#[108, 105]⟩, ⟨#[98]⟩, ⟨#[105]⟩, ⟨#[101, 109]⟩, ⟨#[115, 116, 114, 111, 110, 103]⟩, ⟨#[104, 49]⟩, ⟨#[104, 50]⟩, ⟨#[98, 114]⟩, ⟨#[104, 114]⟩, ⟨#[105, 109, 103]⟩, ⟨#[115, 99, 114, 105, 112, 116]⟩, ⟨#[115, 116, 121, 108, 101]⟩]
def attrL : List ByteArray := [⟨#[99, 108, 97, 115, 115]⟩, ⟨#[105, 100]⟩, ⟨#[116, 105, 116, 108, 101]⟩, ⟨#[97, 108, 116]⟩, ⟨#[110, 97, 109, 101]⟩]
def addrL : List ByteArray := [⟨#[104, 114, 101, 102]⟩, ⟨#[115, 114, 99]⟩]
def handL : List ByteArray := [⟨#[111, 110, 99, 108, 105, 99, 107]⟩, ⟨#[111, 110, 105, 110, 112, 117, 116]⟩, ⟨#[111, 110, 107, 101, 121]⟩]
def rawL : List ByteArray := [⟨#[115, 99, 114, 105, 112, 116]⟩, ⟨#[115, 116, 121, 108, 101]⟩]
def voidL : List ByteArray := [⟨#[98, 114]⟩, ⟨#[104, 114]⟩, ⟨#[105, 109, 103]⟩]

/-- is it one of these? -/
def hasT (ns : List ByteArray) (x : ByteArray) : Bool := ns.any fun y => x.toList == y.toList
theorem hasT_next {ns : List ByteArray} {k : Nat} {x y : ByteArray} (h : ns[k]? = some y) : hasT (ns.drop k) x = (x.toList == y.toList || hasT (ns.drop (k + 1)) x) := by
  obtain ⟨hk, rfl⟩ := List.getElem?_eq_some_iff.1 h
  unfold hasT
  rw [List.drop_eq_getElem_cons hk, List.any_cons]
theorem hasT_end {ns : List ByteArray} {k : Nat} {x : ByteArray} (h : ns.length ≤ k) : hasT (ns.drop k) x = false := by
  unfold hasT
  rw [List.drop_eq_nil_of_le h]; rfl

end Go.Proofs.YtnbdldapmllegaaGreat.mk
