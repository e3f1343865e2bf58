/-
  The contract of the statements' own test of fold: the page's example.
-/
import Derived.Test.YtcaehaikjgcamaaFoldLines
namespace Go.Proofs.Ytcaehaikjgcamaa.mk
open Go.RowKit

theorem alive3_lines : (linesR (chars [97, 13, 10, 13, 98] (comp (List.replicate 5 (nearO 0))))).map (·.1) = [97, 10, 10, 98] := by decide

set_option maxHeartbeats 1000000 in
set_option maxRecDepth 100000 in
theorem alive3_any (w : World) : Calls Try.prog 6 #[] w fun e w' => e = .returned (.bool true) ∧ Below w.heap.size w w' := by
  go_enter Try.func6, Try.ntmps6
  go_wp2_with fail
  refine (of_any ⟨#[97, 13, 10, 13, 98]⟩ 0 _ (by show (5 : Nat) ≤ _; omega)).mono ?_
  rintro e w1 ⟨v1, rfl, ho1, hb1⟩
  obtain ⟨A1, c1, rfl, _, _, _⟩ := own_form ho1
  have hlen : (comp (List.replicate (ByteArray.mk #[97, 13, 10, 13, 98]).size (nearO 0))).length ≤ 5 := by
    have := comp_length_le (List.replicate (ByteArray.mk #[97, 13, 10, 13, 98]).size (nearO 0))
    rw [List.length_replicate] at this
    exact this
  have HLI : Hid ((linesR (chars (ByteArray.mk #[97, 13, 10, 13, 98]).data.toList (comp (List.replicate (ByteArray.mk #[97, 13, 10, 13, 98]).size (nearO 0))))).map (·.1) = [97, 10, 10, 98]) := alive3_lines
  generalize hq : comp (List.replicate (ByteArray.mk #[97, 13, 10, 13, 98]).size (nearO 0)) = q at *
  clear hq
  go_wp2_with fail
  refine (lines_any ⟨#[97, 13, 10, 13, 98]⟩ A1 q.length c1 q _ (Lies.own ho1) rfl (by show (5 : Nat) ≤ _; omega) (by omega)).mono ?_
  rw [HLI.out]
  generalize comp ((linesR (chars (ByteArray.mk #[97, 13, 10, 13, 98]).data.toList q)).map (·.2)) = q2
  rintro e w2 ⟨v2, rfl, ho2, hb2⟩
  obtain ⟨A2, c2, rfl, _, _, _⟩ := own_form ho2
  have ft := fun w' => field_text ⟨[97, 10, 10, 98].toArray⟩ A2 q2.length c2 w'
  go_wp2_with fail
  go_ret
  exact ⟨rfl, below_next hb1 (Nat.le_refl _) hb2⟩

end Go.Proofs.Ytcaehaikjgcamaa.mk
