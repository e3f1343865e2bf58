/-
  A labelled text, cut.
-/
import Derived.Test.YtagpdcgcjallhaaMarkCut
import Derived.Test.YtagpdcgcjallhaaLtCh
namespace Go.Proofs.Ytagpdcgcjallhaa.mk
open Go.RowKit

/-- a labelled text, cut -/
theorem cut_t (a : LT) (f t : Int) (x y : Nat) (w : World) (ha : a.ok w w.heap.size) (hx : min (max f 0) (a.s.size : Int) = x) (hy : min (max t 0) (a.s.size : Int) = y) :
    Calls Try.prog 18 #[a.v, .int .i64 f, .int .i64 t] w (Tells (txtOf ((a.ch.take y).drop x)) (comp (((a.ch.take y).drop x).map (·.2))) w) := by
  have h := cut_any a.s a.A a.n a.c a.rs f t x y w ha.1 ha.2.1 ha.2.2.2 ha.2.2.1 hx hy
  have e1 : ((a.ch.take y).drop x).map (·.1) = (a.s.data.toList.take y).drop x := by
    rw [List.map_drop, List.map_take, LT.ch_fst]; rfl
  have e2 : ((a.ch.take y).drop x).map (·.2) = ((origins a.s.size a.rs).take y).drop x := by
    rw [List.map_drop, List.map_take, LT.ch_snd]; rfl
  unfold txtOf
  rw [e1, e2]
  exact h

end Go.Proofs.Ytagpdcgcjallhaa.mk
