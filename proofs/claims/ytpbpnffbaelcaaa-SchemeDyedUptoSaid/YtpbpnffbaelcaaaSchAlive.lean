/-
  The contract of the statements' own test of scheme.
-/
import Derived.Test.YtpbpnffbaelcaaaSchSafe
import Derived.Test.YtpbpnffbaelcaaaSchNames
namespace Go.Proofs.Ytpbpnffbaelcaaa.mk
open Go.RowKit

def badB : List UInt8 := [106, 97, 118, 97, 115, 99, 114, 105, 112, 116, 58, 120]
def goodB : List UInt8 := [104, 116, 116, 112, 58, 120]
theorem bad_colon : decide (0 ≤ colonI (readyL (chars badB (comp (List.replicate 12 (nearO 0)))))) = true := by decide +kernel
theorem bad_name : (schemeL (readyL (chars badB (comp (List.replicate 12 (nearO 0)))))).map (·.1) = [106, 97, 118, 97, 115, 99, 114, 105, 112, 116] := by decide +kernel
theorem good_name : (schemeL (readyL (chars goodB (comp (List.replicate 6 (nearO 0)))))).map (·.1) = [104, 116, 116, 112] := by decide +kernel
theorem good_trust : trustB (readyL (chars goodB (comp (List.replicate 6 (nearO 0))))) = true := by decide +kernel
theorem good_colon : decide (0 ≤ colonI (readyL (chars goodB (comp (List.replicate 6 (nearO 0)))))) = true := by decide +kernel
theorem bad_safe : safeB (readyL (chars badB (comp (List.replicate 12 (nearO 0))))) = false := by
  rw [safeB_some (of_decide_eq_true bad_colon)]
  have h : txtOf (schemeL (readyL (chars badB (comp (List.replicate 12 (nearO 0)))))) = ⟨#[106, 97, 118, 97, 115, 99, 114, 105, 112, 116]⟩ := by
    unfold txtOf
    exact congrArg (fun l : List UInt8 => ByteArray.mk l.toArray) bad_name
  rw [h]
  have h2 : knownB ⟨#[106, 97, 118, 97, 115, 99, 114, 105, 112, 116]⟩ = false := by decide +kernel
  rw [h2, Bool.false_and]
theorem good_safe : safeB (readyL (chars goodB (comp (List.replicate 6 (nearO 0))))) = true := by
  rw [safeB_some (of_decide_eq_true good_colon), good_trust]
  have h : txtOf (schemeL (readyL (chars goodB (comp (List.replicate 6 (nearO 0)))))) = ⟨#[104, 116, 116, 112]⟩ := by
    unfold txtOf
    exact congrArg (fun l : List UInt8 => ByteArray.mk l.toArray) good_name
  rw [h]
  have h2 : knownB ⟨#[104, 116, 116, 112]⟩ = true := by decide +kernel
  rw [h2]; rfl

/-- an example, made and asked -/
theorem safe_of (t : ByteArray) (b : Bool) (n : Nat) (hn : t.size = n) (hn2 : n ≤ 4294967280) (hs : safeB (readyL (chars t.data.toList (comp (List.replicate n (nearO 0))))) = b) (m : Int) (w : World) (hm : w.cell? ⟨0, 0, none⟩ = some (.int .i64 m)) :
    Calls Try.prog 15 #[.string t, .int .i64 0] w fun e w' => (∃ A k c, e = .returned (.agg #[.string t, .slice A k c]) ∧ Calls Try.prog 12 #[.agg #[.string t, .slice A k c]] w' (SaysB (.bool b) w')) ∧ Below w.heap.size w w' := by
  subst hn
  refine (of_any t 0 w (by omega)).mono ?_
  rintro e w1 ⟨v1, rfl, ho1, hb1⟩
  obtain ⟨A1, c1, rfl, _, _, _⟩ := own_form ho1
  have hlen : (comp (List.replicate t.size (nearO 0))).length ≤ t.size := by
    have := comp_length_le (List.replicate t.size (nearO 0))
    rw [List.length_replicate] at this
    exact this
  refine ⟨⟨A1, _, c1, rfl, ?_⟩, hb1⟩
  have h2 := safe_any ⟨t, A1, (comp (List.replicate t.size (nearO 0))).length, c1, comp (List.replicate t.size (nearO 0))⟩ m w1 ((hb1.cell (block_zero _ _ _ hm)).trans hm) ⟨Lies.own ho1, rfl, by show (comp _).length ≤ _; omega, by show t.size ≤ _; omega⟩ (by show t.size ≤ _; omega)
  have h3 : safeB (readyL (LT.ch ⟨t, A1, (comp (List.replicate t.size (nearO 0))).length, c1, comp (List.replicate t.size (nearO 0))⟩)) = b := hs
  rw [h3] at h2
  exact h2
theorem safe_bad (m : Int) (w : World) (hm : w.cell? ⟨0, 0, none⟩ = some (.int .i64 m)) :
    Calls Try.prog 15 #[.string ⟨#[106, 97, 118, 97, 115, 99, 114, 105, 112, 116, 58, 120]⟩, .int .i64 0] w fun e w' => (∃ A k c, e = .returned (.agg #[.string ⟨#[106, 97, 118, 97, 115, 99, 114, 105, 112, 116, 58, 120]⟩, .slice A k c]) ∧ Calls Try.prog 12 #[.agg #[.string ⟨#[106, 97, 118, 97, 115, 99, 114, 105, 112, 116, 58, 120]⟩, .slice A k c]] w' (SaysB (.bool false) w')) ∧ Below w.heap.size w w' :=
  safe_of ⟨#[106, 97, 118, 97, 115, 99, 114, 105, 112, 116, 58, 120]⟩ false 12 (by rfl) (by omega) (by have h := bad_safe; unfold badB at h; exact h) m w hm
theorem safe_good (m : Int) (w : World) (hm : w.cell? ⟨0, 0, none⟩ = some (.int .i64 m)) :
    Calls Try.prog 15 #[.string ⟨#[104, 116, 116, 112, 58, 120]⟩, .int .i64 0] w fun e w' => (∃ A k c, e = .returned (.agg #[.string ⟨#[104, 116, 116, 112, 58, 120]⟩, .slice A k c]) ∧ Calls Try.prog 12 #[.agg #[.string ⟨#[104, 116, 116, 112, 58, 120]⟩, .slice A k c]] w' (SaysB (.bool true) w')) ∧ Below w.heap.size w w' :=
  safe_of ⟨#[104, 116, 116, 112, 58, 120]⟩ true 6 (by rfl) (by omega) (by have h := good_safe; unfold goodB at h; exact h) m w hm

set_option maxHeartbeats 1000000 in
set_option maxRecDepth 100000 in
theorem alive7_any (m : Int) (w : World) (hm : w.cell? ⟨0, 0, none⟩ = some (.int .i64 m)) : Calls Try.prog 6 #[] w fun e w' => e = .returned (.bool true) ∧ Below w.heap.size w w' := by
  have HB : Hid (∀ W, Below w.heap.size w W → Calls Try.prog 15 #[.string ⟨#[106, 97, 118, 97, 115, 99, 114, 105, 112, 116, 58, 120]⟩, .int .i64 0] W fun e w' => (∃ A k c, e = .returned (.agg #[.string ⟨#[106, 97, 118, 97, 115, 99, 114, 105, 112, 116, 58, 120]⟩, .slice A k c]) ∧ Calls Try.prog 12 #[.agg #[.string ⟨#[106, 97, 118, 97, 115, 99, 114, 105, 112, 116, 58, 120]⟩, .slice A k c]] w' (SaysB (.bool false) w')) ∧ Below W.heap.size W w') := fun W hb =>
    safe_bad m W ((hb.cell (block_zero _ _ _ hm)).trans hm)
  have HG : Hid (∀ W, Below w.heap.size w W → Calls Try.prog 15 #[.string ⟨#[104, 116, 116, 112, 58, 120]⟩, .int .i64 0] W fun e w' => (∃ A k c, e = .returned (.agg #[.string ⟨#[104, 116, 116, 112, 58, 120]⟩, .slice A k c]) ∧ Calls Try.prog 12 #[.agg #[.string ⟨#[104, 116, 116, 112, 58, 120]⟩, .slice A k c]] w' (SaysB (.bool true) w')) ∧ Below W.heap.size W w') := fun W hb =>
    safe_good m W ((hb.cell (block_zero _ _ _ hm)).trans hm)
  clear hm
  go_enter Try.func6, Try.ntmps6
  go_wp2_with fail
  refine (HB.out _ (Below.refl _ _)).mono ?_
  rintro e w1 ⟨⟨A1, k1, c1, rfl, HS1⟩, hb1⟩
  have HS1' := Lib.hid HS1
  clear HS1
  go_wp2_with fail
  refine HS1'.out.mono ?_
  rintro e w2 ⟨rfl, hb2⟩
  have hbw2 : Below w.heap.size w w2 := below_next hb1 (Nat.le_refl _) hb2
  go_wp2_with fail
  refine (HG.out _ hbw2).mono ?_
  rintro e w3 ⟨⟨A3, k3, c3, rfl, HS3⟩, hb3⟩
  have HS3' := Lib.hid HS3
  clear HS3
  go_wp2_with fail
  refine HS3'.out.mono ?_
  rintro e w4 ⟨rfl, hb4⟩
  have hbw4 : Below w.heap.size w w4 := below_next (below_next hbw2 (Nat.le_refl _) hb3) (Nat.le_refl _) hb4
  go_wp2_with fail
  refine (names_any _).mono ?_
  rintro e w5 ⟨⟨A5, c5, rfl, _⟩, hb5⟩
  go_wp2_with fail
  go_ret
  exact ⟨rfl, below_next hbw4 (Nat.le_refl _) hb5⟩

end Go.Proofs.Ytpbpnffbaelcaaa.mk
