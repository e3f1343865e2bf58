/-
  The arrays of names and of forms of numbers, as functions tell them; their places.
-/
import Derived.Test.YtagpdcgcjallhaaEntForm
import Derived.Test.YtagpdcgcjallhaaMarkMem
namespace Go.Proofs.Ytagpdcgcjallhaa.mk
open Go.RowKit

def charV : Array Value := #[.string ⟨#[97, 109, 112]⟩, .int .i64 38, .string ⟨#[108, 116]⟩, .int .i64 60, .string ⟨#[103, 116]⟩, .int .i64 62, .string ⟨#[113, 117, 111, 116]⟩, .int .i64 34, .string ⟨#[97, 112, 111, 115]⟩, .int .i64 39, .string ⟨#[110, 98, 115, 112]⟩, .int .i64 160]
def formV : Array Value := #[.string ⟨#[35]⟩, .int .i64 10, .string ⟨#[35, 120]⟩, .int .i64 16, .string ⟨#[35, 88]⟩, .int .i64 16]

set_option maxHeartbeats 400000 in
set_option maxRecDepth 100000 in
theorem characters_any (w : World) : Calls Try.prog 22 #[] w fun e w' => e = .returned (.agg charV) ∧ Below w.heap.size w w' := by
  go_enter Try.func22, Try.ntmps22
  go_wp2_with fail
  exact bodyPost_ret (results_cell_row Try.results22 _ _ w.heap.size 52 charV (0, 0) _ rfl (Whole.made w _ charV) Try.underlying52 rfl (by as_aux_lemma => kernel_rfl)) rfl ⟨rfl, (Below.refl _ _).alloc (Nat.le_refl _) _⟩
set_option maxHeartbeats 400000 in
set_option maxRecDepth 100000 in
theorem forms_any (w : World) : Calls Try.prog 24 #[] w fun e w' => e = .returned (.agg formV) ∧ Below w.heap.size w w' := by
  go_enter Try.func24, Try.ntmps24
  go_wp2_with fail
  exact bodyPost_ret (results_cell_row Try.results24 _ _ w.heap.size 57 formV (0, 0) _ rfl (Whole.made w _ formV) Try.underlying57 rfl (by as_aux_lemma => kernel_rfl)) rfl ⟨rfl, (Below.refl _ _).alloc (Nat.le_refl _) _⟩

theorem char_0 (w : World) : (Instr.index 52 (.agg charV) (.int .i64 0)).run Try.prog w = .ok (.agg #[.string ⟨#[97, 109, 112]⟩, .int .i64 38]) w := by kernel_rfl
theorem char_1 (w : World) : (Instr.index 52 (.agg charV) (.int .i64 1)).run Try.prog w = .ok (.agg #[.string ⟨#[108, 116]⟩, .int .i64 60]) w := by kernel_rfl
theorem char_2 (w : World) : (Instr.index 52 (.agg charV) (.int .i64 2)).run Try.prog w = .ok (.agg #[.string ⟨#[103, 116]⟩, .int .i64 62]) w := by kernel_rfl
theorem char_3 (w : World) : (Instr.index 52 (.agg charV) (.int .i64 3)).run Try.prog w = .ok (.agg #[.string ⟨#[113, 117, 111, 116]⟩, .int .i64 34]) w := by kernel_rfl
theorem char_4 (w : World) : (Instr.index 52 (.agg charV) (.int .i64 4)).run Try.prog w = .ok (.agg #[.string ⟨#[97, 112, 111, 115]⟩, .int .i64 39]) w := by kernel_rfl
theorem char_5 (w : World) : (Instr.index 52 (.agg charV) (.int .i64 5)).run Try.prog w = .ok (.agg #[.string ⟨#[110, 98, 115, 112]⟩, .int .i64 160]) w := by kernel_rfl
theorem form_0 (w : World) : (Instr.index 57 (.agg formV) (.int .i64 0)).run Try.prog w = .ok (.agg #[.string ⟨#[35]⟩, .int .i64 10]) w := by kernel_rfl
theorem form_1 (w : World) : (Instr.index 57 (.agg formV) (.int .i64 1)).run Try.prog w = .ok (.agg #[.string ⟨#[35, 120]⟩, .int .i64 16]) w := by kernel_rfl
theorem form_2 (w : World) : (Instr.index 57 (.agg formV) (.int .i64 2)).run Try.prog w = .ok (.agg #[.string ⟨#[35, 88]⟩, .int .i64 16]) w := by kernel_rfl

theorem char_at (k : Nat) (h : k < 6) : ∃ (nb : ByteArray) (c : Int), nameL[k]? = some (nb.data.toList, c) ∧ nb.size ≤ 4 ∧ ∀ w : World, (Instr.index 52 (.agg charV) (.int .i64 (k : Int))).run Try.prog w = .ok (.agg #[.string nb, .int .i64 c]) w := by
  obtain rfl | rfl | rfl | rfl | rfl | rfl : k = 0 ∨ k = 1 ∨ k = 2 ∨ k = 3 ∨ k = 4 ∨ k = 5 := by omega
  · exact ⟨_, _, rfl, by decide, char_0⟩
  · exact ⟨_, _, rfl, by decide, char_1⟩
  · exact ⟨_, _, rfl, by decide, char_2⟩
  · exact ⟨_, _, rfl, by decide, char_3⟩
  · exact ⟨_, _, rfl, by decide, char_4⟩
  · exact ⟨_, _, rfl, by decide, char_5⟩
theorem form_at (k : Nat) (h : k < 3) : ∃ (nb : ByteArray) (c : Int), formL[k]? = some (nb.data.toList, c) ∧ nb.size ≤ 2 ∧ ∀ w : World, (Instr.index 57 (.agg formV) (.int .i64 (k : Int))).run Try.prog w = .ok (.agg #[.string nb, .int .i64 c]) w := by
  obtain rfl | rfl | rfl : k = 0 ∨ k = 1 ∨ k = 2 := by omega
  · exact ⟨_, _, rfl, by decide, form_0⟩
  · exact ⟨_, _, rfl, by decide, form_1⟩
  · exact ⟨_, _, rfl, by decide, form_2⟩

end Go.Proofs.Ytagpdcgcjallhaa.mk
