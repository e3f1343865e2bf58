/-
  The contract of the statements' own test of url: the page's example.
-/
import Derived.Test.YtdfpoinnajahiaaUrlScheme
namespace Go.Proofs.Ytdfpoinnajahiaa.mk
open Go.RowKit

def exampleB : List UInt8 := [32, 106, 97, 9, 118, 97, 115, 99, 114, 105, 112, 116, 58, 120]
theorem alive6_scheme : (schemeL (readyL (chars exampleB (comp (List.replicate 14 (nearO 0)))))).map (·.1) = [106, 97, 118, 97, 115, 99, 114, 105, 112, 116] := by decide +kernel
theorem alive6_colon : decide (0 ≤ colonI (readyL (chars exampleB (comp (List.replicate 14 (nearO 0)))))) = true := by decide +kernel

set_option maxHeartbeats 1000000 in
set_option maxRecDepth 100000 in
theorem alive6_any (w : World) : Calls Try.prog 6 #[] w fun e w' => e = .returned (.bool true) ∧ Below w.heap.size w w' := by
  go_enter Try.func6, Try.ntmps6
  go_wp2_with fail
  refine (of_any ⟨#[32, 106, 97, 9, 118, 97, 115, 99, 114, 105, 112, 116, 58, 120]⟩ 0 _ (by show (14 : Nat) ≤ _; omega)).mono ?_
  rintro e w1 ⟨v1, rfl, ho1, hb1⟩
  obtain ⟨A1, c1, rfl, _, _, _⟩ := own_form ho1
  have hlen : (comp (List.replicate (ByteArray.mk #[32, 106, 97, 9, 118, 97, 115, 99, 114, 105, 112, 116, 58, 120]).size (nearO 0))).length ≤ 14 := by
    have := comp_length_le (List.replicate (ByteArray.mk #[32, 106, 97, 9, 118, 97, 115, 99, 114, 105, 112, 116, 58, 120]).size (nearO 0))
    rw [List.length_replicate] at this
    exact this
  have HT : Hid (txtOf (schemeL (readyL (chars (ByteArray.mk #[32, 106, 97, 9, 118, 97, 115, 99, 114, 105, 112, 116, 58, 120]).data.toList (comp (List.replicate (ByteArray.mk #[32, 106, 97, 9, 118, 97, 115, 99, 114, 105, 112, 116, 58, 120]).size (nearO 0)))))) = ⟨#[106, 97, 118, 97, 115, 99, 114, 105, 112, 116]⟩) := by
    show _ = _
    unfold txtOf
    have h := alive6_scheme
    unfold exampleB at h
    exact congrArg (fun l : List UInt8 => ByteArray.mk l.toArray) h
  have HB : Hid (decide (0 ≤ colonI (readyL (chars (ByteArray.mk #[32, 106, 97, 9, 118, 97, 115, 99, 114, 105, 112, 116, 58, 120]).data.toList (comp (List.replicate (ByteArray.mk #[32, 106, 97, 9, 118, 97, 115, 99, 114, 105, 112, 116, 58, 120]).size (nearO 0)))))) = true) := alive6_colon
  generalize hq : comp (List.replicate (ByteArray.mk #[32, 106, 97, 9, 118, 97, 115, 99, 114, 105, 112, 116, 58, 120]).size (nearO 0)) = q at *
  clear hq
  have HL1 := Lib.hid (Lies.own ho1)
  have hz1 := hb1.size
  clear ho1
  have HSC : Hid (Calls Try.prog 11 #[.agg #[.string ⟨#[32, 106, 97, 9, 118, 97, 115, 99, 114, 105, 112, 116, 58, 120]⟩, .slice A1 q.length c1]] w1 fun e w' => ∃ D k n, e = .returned (.tuple #[.agg #[.string ⟨#[106, 97, 118, 97, 115, 99, 114, 105, 112, 116]⟩, .slice D n k], .bool true]) ∧ Below w1.heap.size w1 w') := by
    refine (scheme_any ⟨⟨#[32, 106, 97, 9, 118, 97, 115, 99, 114, 105, 112, 116, 58, 120]⟩, A1, q.length, c1, q⟩ w1 ⟨HL1.out, rfl, by show q.length ≤ _; omega, by show (14 : Nat) ≤ _; omega⟩).mono ?_
    rintro e w2 ⟨D, k, he, _, hb2⟩
    have h1 : txtOf (schemeL (readyL (LT.ch ⟨⟨#[32, 106, 97, 9, 118, 97, 115, 99, 114, 105, 112, 116, 58, 120]⟩, A1, q.length, c1, q⟩))) = ⟨#[106, 97, 118, 97, 115, 99, 114, 105, 112, 116]⟩ := HT.out
    have h2 : decide (0 ≤ colonI (readyL (LT.ch ⟨⟨#[32, 106, 97, 9, 118, 97, 115, 99, 114, 105, 112, 116, 58, 120]⟩, A1, q.length, c1, q⟩))) = true := HB.out
    rw [h1, h2] at he
    exact ⟨D, k, _, he, hb2⟩
  go_wp2_with fail
  refine HSC.out.mono ?_
  rintro e w2 ⟨D, k, n, rfl, hb2⟩
  go_wp2_with fail
  go_ret
  exact ⟨rfl, (below_next hb1 (Nat.le_refl _) hb2).alloc (Nat.le_trans hz1 hb2.size) _⟩

end Go.Proofs.Ytdfpoinnajahiaa.mk
