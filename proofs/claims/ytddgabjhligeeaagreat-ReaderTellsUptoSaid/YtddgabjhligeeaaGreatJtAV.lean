/-
  Tags: all elements' tags, in order.
-/
import Derived.Test.YtddgabjhligeeaaGreatJtAS
import Derived.Test.YtddgabjhligeeaaGreatJtAD
import Derived.Test.YtddgabjhligeeaaGreatJtF
import Derived.Deep.RegionHeld3
namespace Go.Proofs.YtddgabjhligeeaaGreat.mk
open Go.RowKit
attribute [local go_sem] Oper.semAt_some wide_fn wide_depth

theorem lies_new (w : World) (t : TypeId) (cs : List Value) : Lies (w.alloc (.cells cs.toArray t)) (w.heap.size + 1) (some ⟨w.heap.size, 0, none⟩) cs := fun j u h => ⟨_, rfl, Nat.lt_succ_self _, cells_new w t cs j u h⟩
theorem lets_inBlock {id : Nat} {Q : Exit → Act → World → Prop} (h : ∀ a w, ¬ Q .outgrown a w) : ¬ LetsOut (Exit.inBlock id Q) := by
  rintro ⟨a, w, h2⟩
  exact h a w h2

end Go.Proofs.YtddgabjhligeeaaGreat.mk
