/-
  The contract of the statements' own test of percent: the page's example.
-/
import Derived.Test.YtpjbhjebjebbjaaPctDec
namespace Go.Proofs.Ytpjbhjebjebbjaa.mk
open Go.RowKit

theorem alive5_enc : (encL (chars [32] (comp (List.replicate 1 (nearO 0))))).map (·.1) = [37, 50, 48] := by decide +kernel
theorem alive5_hex : hexB 102 = 15 := by decide +kernel

set_option maxHeartbeats 1000000 in
set_option maxRecDepth 100000 in
theorem alive5_any (w : World) : Calls Try.prog 6 #[] w fun e w' => e = .returned (.bool true) ∧ Below w.heap.size w w' := by
  go_enter Try.func6, Try.ntmps6
  go_wp2_with fail
  refine (of_any ⟨#[32]⟩ 0 _ (by show (1 : Nat) ≤ _; omega)).mono ?_
  rintro e w1 ⟨v1, rfl, ho1, hb1⟩
  obtain ⟨A1, c1, rfl, _, _, _⟩ := own_form ho1
  have hlen : (comp (List.replicate (ByteArray.mk #[32]).size (nearO 0))).length ≤ 1 := by
    have := comp_length_le (List.replicate (ByteArray.mk #[32]).size (nearO 0))
    rw [List.length_replicate] at this
    exact this
  have HLI : Hid ((encL (chars (ByteArray.mk #[32]).data.toList (comp (List.replicate (ByteArray.mk #[32]).size (nearO 0))))).map (·.1) = [37, 50, 48]) := alive5_enc
  generalize hq : comp (List.replicate (ByteArray.mk #[32]).size (nearO 0)) = q at *
  clear hq
  go_wp2_with fail
  refine (encode_any ⟨#[32]⟩ A1 q.length c1 q _ (Lies.own ho1) rfl (by show (1 : Nat) ≤ _; omega) (by omega)).mono ?_
  rw [HLI.out]
  generalize comp ((encL (chars (ByteArray.mk #[32]).data.toList q)).map (·.2)) = q2
  rintro e w2 ⟨v2, rfl, ho2, hb2⟩
  obtain ⟨A2, c2, rfl, _, _, _⟩ := own_form ho2
  have ft := fun w' => field_text ⟨[37, 50, 48].toArray⟩ A2 q2.length c2 w'
  go_wp2_with fail
  refine (hex_any 102 _).mono ?_
  rintro e w' ⟨rfl, rfl⟩
  rw [alive5_hex]
  go_wp2_with fail
  go_ret
  exact ⟨rfl, below_next hb1 (Nat.le_refl _) hb2⟩

end Go.Proofs.Ytpjbhjebjebbjaa.mk
