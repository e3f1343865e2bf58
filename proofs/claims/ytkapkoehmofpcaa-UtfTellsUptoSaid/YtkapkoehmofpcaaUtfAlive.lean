/-
  The contract of the statements' own test: the page's example.
-/
import Derived.Test.YtkapkoehmofpcaaUtfRepair
import Derived.Test.YtkapkoehmofpcaaUtfRune
namespace Go.Proofs.Ytkapkoehmofpcaa.mk
open Go.RowKit

theorem alive_chars : chars [226, 130, 65] (comp (List.replicate 3 (nearO 3))) = [(226, 3), (130, 3), (65, 3)] := by decide
theorem alive_rep : (rep [(226, 3), (130, 3), (65, 3)]).map (·.1) = [239, 191, 189, 65] := by
  rw [rep_bad (by simp) (by decide), show (nx ([((226 : UInt8), (3 : Int)), (130, 3), (65, 3)].map (fun x => x.1))).1 = 2 by decide]
  show (badCh _ ++ rep [(65, 3)]).map (·.1) = _
  rw [rep_right (by simp) (by decide), show (nx ([((65 : UInt8), (3 : Int))].map (fun x => x.1))).1 = 1 by decide]
  show (badCh _ ++ ([(65, 3)] ++ rep [])).map (fun x : UInt8 × Int => x.1) = _
  rw [rep_nil]
  rfl
theorem alive_valid : validB [97] = true := by
  rw [validB_next (by simp), show soughtB [97] = false by decide, show (nx [97]).1 = 1 by decide]
  show (true && validB []) = true
  rw [validB_nil]
  rfl
theorem alive_rune : runeB 65 = ⟨#[65]⟩ := by
  unfold runeB
  rw [show runeN 65 = 65 by decide]
  rfl

set_option maxHeartbeats 1000000 in
set_option maxRecDepth 100000 in
theorem alive2_any (w : World) :
    Calls Try.prog 13 #[] w fun e w' => e = .returned (.bool true) ∧ Below w.heap.size w w' := by
  go_enter Try.func13, Try.ntmps13
  go_wp2_with fail
  refine (of_any ⟨#[226, 130, 65]⟩ 3 _ (by decide)).mono ?_
  rintro e w1 ⟨v1, rfl, h1, hb1⟩
  obtain ⟨A1, c1, rfl, _, _, _⟩ := own_form h1
  go_wp2_with fail
  refine (repair_any _ A1 _ c1 _ _ (Lies.own h1) rfl (by decide) (by decide)).mono ?_
  rintro e w2 ⟨v2, rfl, h2, hb2⟩
  obtain ⟨A2, c2, rfl, _, _, _⟩ := own_form h2
  have e2 : (rep (chars (⟨#[226, 130, 65]⟩ : ByteArray).data.toList (comp (List.replicate (⟨#[226, 130, 65]⟩ : ByteArray).size (nearO 3))))).map (·.1) = [239, 191, 189, 65] := by
    show (rep (chars [226, 130, 65] (comp (List.replicate 3 (nearO 3))))).map (·.1) = _
    rw [alive_chars]
    exact alive_rep
  rw [e2]
  clear e2 h2
  generalize comp ((rep (chars (⟨#[226, 130, 65]⟩ : ByteArray).data.toList (comp (List.replicate (⟨#[226, 130, 65]⟩ : ByteArray).size (nearO 3))))).map (·.2)) = q at *
  have ft := fun w' => field_text ⟨[239, 191, 189, 65].toArray⟩ A2 q.length c2 w'
  go_wp2_with fail
  refine (valid_any ⟨#[97]⟩ _ (by decide)).mono ?_
  rintro e w' ⟨rfl, rfl⟩
  rw [show validB (⟨#[97]⟩ : ByteArray).data.toList = true from alive_valid]
  go_wp2_with fail
  refine (rune_any 65 _).mono ?_
  rintro e w' ⟨rfl, rfl⟩
  rw [alive_rune]
  go_wp2_with fail
  go_ret
  exact ⟨rfl, below_next (below_next (Below.refl _ _) (Nat.le_refl _) hb1) (Nat.le_refl _) hb2⟩

end Go.Proofs.Ytkapkoehmofpcaa.mk
