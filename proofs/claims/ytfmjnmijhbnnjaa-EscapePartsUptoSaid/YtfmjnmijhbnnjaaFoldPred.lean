/-
  Contracts of fold's functions that tell whether a byte is sought, and of upper.
-/
import Derived.Test.YtfmjnmijhbnnjaaMarkRefIs
import Derived.Test.YtfmjnmijhbnnjaaMarkFix
namespace Go.Proofs.Ytfmjnmijhbnnjaa.mk
open Go.RowKit

def upperB (b : UInt8) : Bool := decide (65 ≤ b.toNat) && decide (b.toNat ≤ 90)
def lowB (b : UInt8) : UInt8 := if upperB b then b + 32 else b

set_option maxHeartbeats 400000 in
theorem swapF_any (b x : UInt8) (g : Nat) (w : World) (h : w.cell? ⟨g, 0, none⟩ = some (.int .u8 x.toNat)) :
    Calls Try.prog 54 #[.int .u8 b.toNat, .pointer (some ⟨g, 0, none⟩)] w fun e w' => e = .returned (.bool (b == x)) ∧ w = w' := by
  go_enter Try.func54, Try.ntmps54
  go_wp2
  go_ret
  refine ⟨ret_bool ?_, rfl⟩
  rw [Bool.eq_iff_iff]
  simp [← UInt8.toNat_inj]
  try omega

theorem zero_given (w : World) : Sem.run Try.prog (zeroValue 85) w = Result.ok (.agg (Array.replicate 256 (.bool false))) w := by kernel_rfl

def AmongRel (l : List UInt8) (g : Nat) (w0 : World) (i : Value) (wr : World) : Prop :=
  ∃ k : Nat, k ≤ l.length ∧ i = .int .i64 (k : Int) ∧ (∃ cs, cs.size = 256 ∧ Whole wr g 85 cs ∧ ∀ b : UInt8, cs[b.toNat]? = some (.bool ((l.take k).contains b))) ∧ Below g w0 wr

end Go.Proofs.Ytfmjnmijhbnnjaa.mk
