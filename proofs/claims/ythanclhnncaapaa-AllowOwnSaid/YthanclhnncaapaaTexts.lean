/-
  The statements' own look at two lists of texts that are one.
-/
import Derived.Test.YthanclhnncaapaaTx
import Derived.Deep.RegionHeld3
import Derived.Lib.Hide
namespace Go.Proofs.Ythanclhnncaapaa.mk
open Go.RowKit

def UpTo (n : Nat) (w0 : World) (i : Value) (wr : World) : Prop := ∃ k : Nat, k ≤ n ∧ i = .int .i64 (k : Int) ∧ Below w0.heap.size w0 wr

set_option maxHeartbeats 2000000 in
set_option maxRecDepth 100000 in
theorem texts_true (A : Option Addr) (n c : Nat) (ns : List ByteArray) (B : Option Addr) (d : Nat) (w : World) (hl : Lies w w.heap.size A (txCells ns)) (hl' : Lies w w.heap.size B (txCells ns)) (hn : ns.length = n) (hn2 : n ≤ 4294967296) :
    Calls Try.prog 6 #[.slice A n c, .slice B n d] w fun e w' => e = .returned (.bool true) ∧ Below w.heap.size w w' := by
  have HN := Lib.hid hn
  have HL := Lib.hid hl
  have HL' := Lib.hid hl'
  clear hn hl hl'
  go_enter Try.func6, Try.ntmps6
  go_wp2_with fail
  go_loopw [5] (UpTo n w) (fun i _ => n - (intOf i).toNat)
  case atStart => exact ⟨0, Nat.zero_le _, rfl, Below.refl _ _⟩
  case round =>
    obtain ⟨k, hk, rfl, hb⟩ := hrel
    by_cases hlt : k < n
    · obtain ⟨ad, s, rfl, hbA, d0, HR⟩ := (HL.out.below hb).tx (k := k) (by rw [HN.out]; exact hlt)
      obtain ⟨ad', s', rfl, hbB, e0, HR'⟩ := (HL'.out.below hb).tx (k := k) (by rw [HN.out]; exact hlt)
      obtain rfl : s = s' := by have h1 := HR.out; rw [HR'.out] at h1; injection h1 with h1; exact h1.symm
      have hk0 : (0 : Int) ≤ (k : Int) := Int.natCast_nonneg _
      have hk1 : (k : Int) < (n : Int) := by omega
      go_wp2_with fail
      go_region_held3 (fun w' => w'.cell? (ad.add k) = some (.string s) ∧ w'.cell? (ad'.add k) = some (.string s)) (exact ⟨d0, e0⟩) (fail)
      go_wp2_with fail
      go_roundw
      case rel => exact ⟨k + 1, by omega, by go_num, hb.drew⟩
      case measure => simp [intOf]; omega
    · go_wp2_with fail
      go_ret
      exact ⟨rfl, hb⟩

end Go.Proofs.Ythanclhnncaapaa.mk
