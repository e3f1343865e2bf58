/-
  The contract of the statements' own test of entity: the page's example.
-/
import Derived.Test.YtagpdcgcjallhaaEntDec
import Derived.Test.YtagpdcgcjallhaaEntOne
namespace Go.Proofs.Ytagpdcgcjallhaa.mk
open Go.RowKit

theorem numB_euro : (numB 128).data.toList = [226, 130, 172] := by decide +kernel
theorem refer_euro : refer [38, 35, 120, 56, 48, 59] = some (128, 6) := by
  have h := refer_of (b := [35, 120, 56, 48]) (r := []) (n := 128) (by decide) (by decide +kernel)
  exact h
theorem alive8_dec (rs : List (Int × Int)) : (decE (chars [38, 35, 120, 56, 48, 59] rs)).map (·.1) = [226, 130, 172] := by
  rw [decE_whole (n := 128), numB_euro]
  rw [chars_fst, chars_length]
  exact refer_euro

set_option maxHeartbeats 1000000 in
set_option maxRecDepth 100000 in
theorem alive8_any (w : World) : Calls Try.prog 6 #[] w fun e w' => e = .returned (.bool true) ∧ Below w.heap.size w w' := by
  go_enter Try.func6, Try.ntmps6
  go_wp2_with fail
  refine (of_any ⟨#[38, 35, 120, 56, 48, 59]⟩ 0 _ (by show (6 : Nat) ≤ _; omega)).mono ?_
  rintro e w1 ⟨v1, rfl, ho1, hb1⟩
  obtain ⟨A1, c1, rfl, _, _, _⟩ := own_form ho1
  have hlen : (comp (List.replicate (ByteArray.mk #[38, 35, 120, 56, 48, 59]).size (nearO 0))).length ≤ 6 := by
    have := comp_length_le (List.replicate (ByteArray.mk #[38, 35, 120, 56, 48, 59]).size (nearO 0))
    rw [List.length_replicate] at this
    exact this
  have HLI : Hid ((decE (chars (ByteArray.mk #[38, 35, 120, 56, 48, 59]).data.toList (comp (List.replicate (ByteArray.mk #[38, 35, 120, 56, 48, 59]).size (nearO 0))))).map (·.1) = [226, 130, 172]) := alive8_dec _
  generalize hq : comp (List.replicate (ByteArray.mk #[38, 35, 120, 56, 48, 59]).size (nearO 0)) = q at *
  clear hq
  go_wp2_with fail
  refine (entDecode_any ⟨#[38, 35, 120, 56, 48, 59]⟩ A1 q.length c1 q _ (Lies.own ho1) rfl (by show (6 : Nat) ≤ _; omega) (by omega)).mono ?_
  rw [HLI.out]
  generalize comp ((decE (chars (ByteArray.mk #[38, 35, 120, 56, 48, 59]).data.toList q)).map (·.2)) = q2
  rintro e w2 ⟨v2, rfl, ho2, hb2⟩
  obtain ⟨A2, c2, rfl, _, _, _⟩ := own_form ho2
  have ft := fun w' => field_text ⟨[226, 130, 172].toArray⟩ A2 q2.length c2 w'
  go_wp2_with fail
  go_ret
  exact ⟨rfl, below_next hb1 (Nat.le_refl _) hb2⟩

end Go.Proofs.Ytagpdcgcjallhaa.mk
