/-
  The law's attr: what is left of an attribute. (Written by gen_cln_attr.py out of clnattr.skel.)
-/
import Derived.Test.YtnbdldapmllegaaGreatJtAP
import Derived.Test.YtnbdldapmllegaaGreatJtAC
import Derived.Test.YtnbdldapmllegaaGreatJtAA
import Derived.RegionTactic
import Derived.Deep.DeepCutAuto
namespace Go.Proofs.YtnbdldapmllegaaGreat.mk
open Go.RowKit

def CaRes (l4 l5 : Ch) (w1 : World) (s4 s5 : Value) (wx : World) : Prop :=
  Below w1.heap.size w1 wx ∧ s4 ≠ s5 ∧ InVarO l4 w1.heap.size wx s4 ∧ InVarO l5 w1.heap.size wx s5
/-- what the law tells of an attribute -/
def LawAttr (a : PA) (w : World) (e : Ending) (w' : World) : Prop :=
  ∃ (t : AT) (b : Bool), e = .returned (.tuple #[.agg #[.string t.nm.s, .slice t.nm.A t.nm.n t.nm.c, .string t.vl.s, .slice t.vl.A t.vl.n t.vl.c], .bool b]) ∧ Hid (b = (cleanA a).isSome ∧ (∀ p, cleanA a = some p → t.ch = p) ∧ OwnA w' w.heap.size t) ∧ Below w.heap.size w w'

theorem OwnL.set {w : World} {base g j : Nat} {n : LT} {cs : Array Value} {t : TypeId} (h : OwnL w base n) (hR : Whole w g t cs) (ht : 79 ≠ t) (u : Value) : OwnL (w.setCell ⟨g, j, none⟩ u) base n := by
  refine h.keep fun k c _ hc => Below.heap_setCell _ _ _ _ ?_
  exact kind2_ne hc hR ht
/-- an attribute is stored where it is told -/
theorem attr_end {w W : World} {g base : Nat} {n v : LT} {c0 c1 c2 c3 : Value} (hg : w.heap.size ≤ g) (hR : Whole W g 30 #[c0, c1, c2, c3]) (hn : OwnL W base n) (hv : OwnL W base v) (hbase : w.heap.size ≤ base) (hb : Below w.heap.size w W) (u0 u1 u2 u3 : Value) :
    OwnA ((((W.setCell ⟨g, 0, none⟩ u0).setCell ⟨g, 1, none⟩ u1).setCell ⟨g, 2, none⟩ u2).setCell ⟨g, 3, none⟩ u3) w.heap.size ⟨n, v⟩ ∧ Below w.heap.size w ((((W.setCell ⟨g, 0, none⟩ u0).setCell ⟨g, 1, none⟩ u1).setCell ⟨g, 2, none⟩ u2).setCell ⟨g, 3, none⟩ u3) := by
  have ht : 79 ≠ 30 := by decide
  refine ⟨⟨(((hn.set hR ht u0).set (hR.put 0 u0) ht u1).set ((hR.put 0 u0).put 1 u1) ht u2).set (((hR.put 0 u0).put 1 u1).put 2 u2) ht u3 |>.mono hbase, (((hv.set hR ht u0).set (hR.put 0 u0) ht u1).set ((hR.put 0 u0).put 1 u1) ht u2).set (((hR.put 0 u0).put 1 u1).put 2 u2) ht u3 |>.mono hbase⟩,
    (((hb.setCell (p := ⟨g, 0, none⟩) hg _).setCell (p := ⟨g, 1, none⟩) hg _).setCell (p := ⟨g, 2, none⟩) hg _).setCell (p := ⟨g, 3, none⟩) hg _⟩

end Go.Proofs.YtnbdldapmllegaaGreat.mk
