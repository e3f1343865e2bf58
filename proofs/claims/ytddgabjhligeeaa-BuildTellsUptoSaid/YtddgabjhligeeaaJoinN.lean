/-
  Contracts of the reference's All, and of Ints.
-/
import Derived.Test.YtddgabjhligeeaaJoinK
import Derived.Test.YtddgabjhligeeaaJoinM
namespace Go.Proofs.Ytddgabjhligeeaa.mk
open Go.RowKit

/-- bytes of one origin -/
def allCh (bs : List UInt8) (o : Int) : List (UInt8 × Int) := bs.map fun b => (b, nearO o)
theorem allCh_fst (bs : List UInt8) (o : Int) : (allCh bs o).map (·.1) = bs := by unfold allCh; rw [List.map_map]; exact List.map_id' _
theorem allCh_snd (bs : List UInt8) (o : Int) : (allCh bs o).map (·.2) = List.replicate bs.length (nearO o) := by
  unfold allCh; rw [List.map_map]
  induction bs with
  | nil => rfl
  | cons x bs ih => rw [List.map_cons, ih]; rfl

def AllRel (s : ByteArray) (o : Int) (w0 : World) (v i : Value) (wr : World) : Prop :=
  ∃ k : Nat, k ≤ s.size ∧ i = .int .i64 k ∧ wr.ownsRow w0.heap.size 74 2 v k (chCells ((allCh s.data.toList o).take k)) ∧ Below w0.heap.size w0 wr

/-- the cells of ints -/
def intCells (l : List Int) : List Value := l.map (Value.int .i64)
theorem Lies.int {w : World} {B : Nat} {A : Option Addr} {l : List Int} (h : Lies w B A (intCells l)) {k : Nat} (hk : k < l.length) :
    ∃ ad x, A = some ad ∧ ad.block < B ∧ w.cell? (ad.add k) = some (.int .i64 x) ∧ Hid (l[k]? = some x) := by
  obtain ⟨ad, e, hb, hc⟩ := h k (.int .i64 l[k]) (by simp [intCells, List.getElem?_eq_getElem hk])
  exact ⟨ad, l[k], e, hb, hc, List.getElem?_eq_getElem hk⟩

end Go.Proofs.Ytddgabjhligeeaa.mk
