/-
  A labelled text that was told twice is the same.
-/
import Derived.Test.YtagpdcgcjallhaaLtCh
import Derived.Test.YtagpdcgcjallhaaMarkSame
namespace Go.Proofs.Ytagpdcgcjallhaa.mk
open Go.RowKit

theorem same_told (l : List (UInt8 × Int)) (hn : l.length ≤ 1048576) (W : World) (D : Option Addr) (k : Nat) (E : Option Addr) (d : Nat) (h1 : Lies W W.heap.size D (runCells (comp (l.map (·.2))))) (h2 : Lies W W.heap.size E (runCells (comp (l.map (·.2))))) :
    Calls Try.prog 17 #[.agg #[.string (txtOf l), .slice D (runN l) k], .agg #[.string (txtOf l), .slice E (runN l) d]] W (SaysB (.bool true) W) := by
  refine (same_any (toldT l D k) (toldT l E d) W (toldT_ok k h1 (by omega)) (toldT_ok d h2 (by omega))).mono ?_
  rintro e w' ⟨rfl, hb⟩
  refine ⟨ret_bool ?_, hb⟩
  unfold sameB
  rw [decide_eq_true_iff]
  exact ⟨rfl, rfl⟩

end Go.Proofs.Ytagpdcgcjallhaa.mk
