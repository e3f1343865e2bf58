/-
  Trees that come in: how they lie in memory, and how large they are.
-/
import Derived.Test.YtnbdldapmllegaaGreatJrAA
import Derived.Test.YtnbdldapmllegaaGreatJrAI
namespace Go.Proofs.YtnbdldapmllegaaGreat.mk
open Go.ChangeShapes Go.WideShapes Go.RowKit Go.Deep Go.Joins

section
variable {H : Type} {enc : TypeId × Value → H} {W : World}

theorem cells_attr : Tryz.prog.cellsOf 30 = 4 := by kernel_rfl

end

end Go.Proofs.YtnbdldapmllegaaGreat.mk

namespace Go.Proofs.YtnbdldapmllegaaGreat.mk
open Go.ChangeShapes Go.WideShapes Go.RowKit Go.Deep Go.Joins

section
variable {H : Type} {enc : TypeId × Value → H} {W : World}

theorem cells_attrs : Tryz.prog.cellsOf 23 = 1 := by kernel_rfl
set_option maxRecDepth 100000 in
/-- a labelled text's two cells within a struct, and how large it is -/
theorem trod_ltS {n : Nat} {c0 c1 : Value} {y : DataW H × List MemPlace} (h : DataW.trod enc Tryz.prog W 0 (fun _ => true) true n 28 [c0, c1] = some y) (hbk : Rows.uptoBulk y.1 ≤ 1048576) :
    ∃ t : LT, c0 = .string t.s ∧ c1 = .slice t.A t.n t.c ∧ t.ok W W.heap.size ∧ t.s.size + 3 ≤ Rows.uptoBulk y.1 := by
  obtain ⟨y0, y1, n', hx, _, h0, h1⟩ := trod_struct2 Tryz.underlying28 h
  have hD : y.1 = .agg [y0.1, y1.1] := congrArg Prod.fst hx
  rw [hD] at hbk ⊢
  simp only [cells_string, cells_runs, List.drop_zero, List.drop_succ_cons, List.take_succ_cons, List.take_zero] at h0 h1
  obtain ⟨t, rfl, rfl, hok, _, _, h4⟩ := open_lt h0 h1 hbk
  exact ⟨t, rfl, rfl, hok, by omega⟩

end

end Go.Proofs.YtnbdldapmllegaaGreat.mk
