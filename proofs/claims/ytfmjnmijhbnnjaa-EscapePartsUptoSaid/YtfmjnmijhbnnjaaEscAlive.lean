/-
  The contract of the statements' own test of escape: the page's example.
-/
import Derived.Test.YtfmjnmijhbnnjaaEscWords
namespace Go.Proofs.Ytfmjnmijhbnnjaa.mk
open Go.RowKit

theorem escL_fst (v : Bool) (l : List (UInt8 × Int)) : (escL v l).map (·.1) = (l.map (·.1)).flatMap (escB v) := by
  induction l with
  | nil => rfl
  | cons x l ih =>
    rw [escL_cons, List.map_append, ih, List.map_cons, List.flatMap_cons]
    congr 1
    exact putE_fst _ _

set_option maxHeartbeats 1000000 in
set_option maxRecDepth 100000 in
theorem alive9_any (w : World) : Calls Try.prog 6 #[] w fun e w' => e = .returned (.bool true) ∧ Below w.heap.size w w' := by
  go_enter Try.func6, Try.ntmps6
  go_wp2_with fail
  refine (of_any ⟨#[97, 60, 98]⟩ 0 _ (by show (3 : Nat) ≤ _; omega)).mono ?_
  rintro e w1 ⟨v1, rfl, ho1, hb1⟩
  obtain ⟨A1, c1, rfl, _, _, _⟩ := own_form ho1
  have hlen : (comp (List.replicate (ByteArray.mk #[97, 60, 98]).size (nearO 0))).length ≤ 3 := by
    have := comp_length_le (List.replicate (ByteArray.mk #[97, 60, 98]).size (nearO 0))
    rw [List.length_replicate] at this
    exact this
  generalize hq : comp (List.replicate (ByteArray.mk #[97, 60, 98]).size (nearO 0)) = q at *
  clear hq
  have HLI : Hid (txtOf (escL false (LT.ch ⟨⟨#[97, 60, 98]⟩, A1, q.length, c1, q⟩)) = ⟨#[97, 38, 108, 116, 59, 98]⟩) := by
    show txtOf _ = _
    unfold txtOf
    rw [escL_fst, LT.ch_fst]
    show (⟨(([97, 60, 98] : List UInt8).flatMap (escB false)).toArray⟩ : ByteArray) = _
    decide
  go_wp2_with fail
  refine (words_any ⟨⟨#[97, 60, 98]⟩, A1, q.length, c1, q⟩ _ ⟨Lies.own ho1, rfl, by show q.length ≤ _; omega, by show (3 : Nat) ≤ _; omega⟩ (by show (3 : Nat) ≤ _; omega)).mono ?_
  rw [HLI.out]
  generalize comp ((escL false (LT.ch ⟨⟨#[97, 60, 98]⟩, A1, q.length, c1, q⟩)).map (·.2)) = q2
  rintro e w2 ⟨v2, rfl, ho2, hb2⟩
  obtain ⟨A2, c2, rfl, _, _, _⟩ := own_form ho2
  have ft := fun w' => field_text ⟨#[97, 38, 108, 116, 59, 98]⟩ A2 q2.length c2 w'
  go_wp2_with fail
  go_ret
  exact ⟨rfl, below_next hb1 (Nat.le_refl _) hb2⟩

end Go.Proofs.Ytfmjnmijhbnnjaa.mk
