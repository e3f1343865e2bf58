/-
  A labelled text as bytes with their origins; one that was told.
-/
import Derived.Test.YthckecfjghjnjaaMarkCat
import Derived.Test.YthckecfjghjnjaaTold
import Derived.Test.YthckecfjghjnjaaInR
namespace Go.Proofs.Ythckecfjghjnjaa.mk
open Go.RowKit

def LT.ch (t : LT) : List (UInt8 × Int) := chars t.bs t.rs
theorem LT.ch_length (t : LT) : t.ch.length = t.s.size := by unfold LT.ch; rw [chars_length, LT.bs_length]
theorem LT.ch_fst (t : LT) : t.ch.map (·.1) = t.bs := chars_fst _ _
theorem LT.ch_snd (t : LT) : t.ch.map (·.2) = t.os := by unfold LT.ch; rw [chars_snd, LT.bs_length]; rfl
theorem txtOf_size (l : List (UInt8 × Int)) : (txtOf l).size = l.length := by show (l.map (·.1)).toArray.size = _; simp
theorem txtOf_chars {l : List (UInt8 × Int)} (h : InR l) : chars (txtOf l).data.toList (comp (l.map (·.2))) = l := chars_told h

/-- a labelled text that was told -/
def toldT (l : List (UInt8 × Int)) (D : Option Addr) (k : Nat) : LT := ⟨txtOf l, D, runN l, k, comp (l.map (·.2))⟩
theorem toldT_ch {l : List (UInt8 × Int)} (h : InR l) (D : Option Addr) (k : Nat) : (toldT l D k).ch = l := txtOf_chars h
theorem toldT_ok {l : List (UInt8 × Int)} {D : Option Addr} {W : World} (k : Nat) (h : Lies W W.heap.size D (runCells (comp (l.map (·.2))))) (hn : l.length ≤ 4294967296) : (toldT l D k).ok W W.heap.size :=
  ⟨h, rfl, Nat.le_trans (runN_le l) hn, by show (txtOf l).size ≤ _; rw [txtOf_size]; exact hn⟩
theorem LT.ch_in (t : LT) : InR t.ch := InR.chars _ _
end Go.Proofs.Ythckecfjghjnjaa.mk
