/-
  Contracts of fold's functions that tell whether a byte is sought, and of upper.
-/
import Derived.Test.YtboenjmhmlfmcaaMarkRefIs
import Derived.Test.YtboenjmhmlfmcaaMarkFix
namespace Go.Proofs.Ytboenjmhmlfmcaa.mk
open Go.RowKit

def upperB (b : UInt8) : Bool := decide (65 ≤ b.toNat) && decide (b.toNat ≤ 90)
def lowB (b : UInt8) : UInt8 := if upperB b then b + 32 else b

set_option maxHeartbeats 400000 in
theorem upper_any (b : UInt8) (w : World) :
    Calls Try.prog 48 #[.int .u8 b.toNat] w fun e w' => e = .returned (.bool (upperB b)) ∧ w = w' := by
  go_enter Try.func48, Try.ntmps48
  go_wp2
  all_goals
    go_ret
    refine ⟨ret_bool ?_, rfl⟩
    unfold upperB
    rw [Bool.eq_iff_iff]
    simp
    try omega

theorem zero_given (w : World) : Sem.run Try.prog (zeroValue 58) w = Result.ok (.agg (Array.replicate 256 (.bool false))) w := by kernel_rfl

def AmongRel (l : List UInt8) (g : Nat) (w0 : World) (i : Value) (wr : World) : Prop :=
  ∃ k : Nat, k ≤ l.length ∧ i = .int .i64 (k : Int) ∧ (∃ cs, cs.size = 256 ∧ Whole wr g 58 cs ∧ ∀ b : UInt8, cs[b.toNat]? = some (.bool ((l.take k).contains b))) ∧ Below g w0 wr

end Go.Proofs.Ytboenjmhmlfmcaa.mk
