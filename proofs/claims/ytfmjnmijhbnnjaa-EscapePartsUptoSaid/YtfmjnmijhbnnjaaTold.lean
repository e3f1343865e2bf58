/-
  What a call tells, in the words of bytes with their origins.
-/
import Derived.Test.YtfmjnmijhbnnjaaMarkAll
import Derived.Test.YtfmjnmijhbnnjaaMarkRefIs
namespace Go.Proofs.Ytfmjnmijhbnnjaa.mk
open Go.RowKit

def txtOf (l : List (UInt8 × Int)) : ByteArray := ⟨(l.map (·.1)).toArray⟩
def runN (l : List (UInt8 × Int)) : Nat := (comp (l.map (·.2))).length
def TellsL (l : List (UInt8 × Int)) (W : World) (e : Ending) (w' : World) : Prop :=
  ∃ D k, e = .returned (.agg #[.string (txtOf l), .slice D (runN l) k]) ∧ Lies w' w'.heap.size D (runCells (comp (l.map (·.2)))) ∧ Below W.heap.size W w'
def RowL (l : List (UInt8 × Int)) (n : Nat) (W : World) (e : Ending) (w' : World) : Prop :=
  ∃ D k, e = .returned (.slice D n k) ∧ Lies w' w'.heap.size D (chCells l) ∧ Below W.heap.size W w'
def SaysB (V : Value) (W : World) (e : Ending) (w' : World) : Prop := e = .returned V ∧ Below W.heap.size W w'
theorem tellsL_of {l : List (UInt8 × Int)} {W : World} {e : Ending} {w' : World} (h : Tells ⟨(l.map (·.1)).toArray⟩ (comp (l.map (·.2))) W e w') : TellsL l W e w' := by
  obtain ⟨v, rfl, ho, hb⟩ := h
  obtain ⟨D, k, rfl, _, _, _⟩ := own_form ho
  exact ⟨D, k, rfl, Lies.own ho, hb⟩
theorem rowL_of {l : List (UInt8 × Int)} {W : World} {e : Ending} {w' : World} (h : ∃ v, e = .returned v ∧ w'.ownsRow W.heap.size 33 2 v l.length (chCells l) ∧ Below W.heap.size W w') : RowL l l.length W e w' := by
  obtain ⟨v, rfl, ho, hb⟩ := h
  obtain ⟨D, k, rfl, _, _, _⟩ := own_form ho
  exact ⟨D, k, rfl, Lies.own ho, hb⟩

theorem isL_true (l : List (UInt8 × Int)) (hr : runN l ≤ 4294967296) (hn : l.length ≤ 1099511627776) (W : World) (D : Option Addr) (k : Nat) (E : Option Addr) (d : Nat) (h1 : Lies W W.heap.size D (runCells (comp (l.map (·.2))))) (h2 : Lies W W.heap.size E (chCells l)) :
    Calls Try.prog 12 #[.agg #[.string (txtOf l), .slice D (runN l) k], .slice E l.length d] W (SaysB (.bool true) W) := by
  refine (refIs_any (txtOf l) D (runN l) k (comp (l.map (·.2))) E l.length d l W h1 rfl hr h2 rfl hn).mono ?_
  rintro e w' ⟨rfl, hb⟩
  refine ⟨ret_bool ?_, hb⟩
  unfold isB
  rw [decide_eq_true_iff]
  exact ⟨rfl, rfl⟩
theorem runN_le (l : List (UInt8 × Int)) : runN l ≤ l.length := by
  have := comp_length_le (l.map (·.2))
  rw [List.length_map] at this
  exact this
end Go.Proofs.Ytfmjnmijhbnnjaa.mk
