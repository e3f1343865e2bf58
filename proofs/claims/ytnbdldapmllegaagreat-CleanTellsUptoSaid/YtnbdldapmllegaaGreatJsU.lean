/-
  Contracts of scheme's schemes and Known.
-/
import Derived.Test.YtnbdldapmllegaaGreatJsR
import Derived.Test.YtnbdldapmllegaaGreatJsG
import Derived.Deep.RegionHeld3
import Derived.Deep.RegionLaw
import Derived.Deep.AppendLies
import Derived.StillTactics
import Derived.WalkSpells
import Derived.Laws.IdiomStrings
import Derived.Test.YtnbdldapmllegaaGreatJsT
namespace Go.Proofs.YtnbdldapmllegaaGreat.mk
open Go.RowKit

end Go.Proofs.YtnbdldapmllegaaGreat.mk

namespace Go.Proofs.YtnbdldapmllegaaGreat.mk
open Go.RowKit

end Go.Proofs.YtnbdldapmllegaaGreat.mk

namespace Go.Proofs.YtnbdldapmllegaaGreat.mk
open Go.RowKit

/-- is it one of them? -/
def isIn (l : List UInt8) (x : UInt8) : Bool := l.contains x

end Go.Proofs.YtnbdldapmllegaaGreat.mk

namespace Go.Proofs.YtnbdldapmllegaaGreat.mk
open Go.RowKit

def httpT : ByteArray := ⟨#[104, 116, 116, 112]⟩
def httpsT : ByteArray := ⟨#[104, 116, 116, 112, 115]⟩
def mailtoT : ByteArray := ⟨#[109, 97, 105, 108, 116, 111]⟩
/-- one of the schemes that may be -/
def knownB (t : ByteArray) : Bool := [httpT, httpsT, mailtoT].any fun x => t.toList == x.toList

def SchemesPost (W : World) (e : Ending) (w' : World) : Prop := e = .returned (.agg #[.string httpT, .string httpsT, .string mailtoT]) ∧ Below W.heap.size W w'

set_option maxHeartbeats 400000 in
set_option maxRecDepth 100000 in
theorem schemes_any (w : World) : Calls Tryz.prog 83 #[] w (SchemesPost w) := by
  go_enter Tryz.func83, Tryz.ntmps83
  go_wp2_with fail
  have hW := Whole.made w 88 #[.string ⟨#[104, 116, 116, 112]⟩, .string ⟨#[104, 116, 116, 112, 115]⟩, .string ⟨#[109, 97, 105, 108, 116, 111]⟩]
  have d0 := hW.at_ 0
  have d1 := hW.at_ 1
  have d2 := hW.at_ 2
  refine bodyPost_ret (v := .agg #[.string httpT, .string httpsT, .string mailtoT]) ?_ rfl ?_
  · simp [results, Tryz.results83, go_sem, d0, d1, d2, httpT, httpsT, mailtoT]
  · exact ⟨rfl, (Below.refl _ _).alloc (Nat.le_refl _) _⟩

theorem index_http (a b c : ByteArray) (w : World) : (Instr.index 88 (.agg #[.string a, .string b, .string c]) (.int .i64 0)).run Tryz.prog w = .ok (.string a) w := by kernel_rfl
theorem index_https (a b c : ByteArray) (w : World) : (Instr.index 88 (.agg #[.string a, .string b, .string c]) (.int .i64 1)).run Tryz.prog w = .ok (.string b) w := by kernel_rfl
theorem index_mailto (a b c : ByteArray) (w : World) : (Instr.index 88 (.agg #[.string a, .string b, .string c]) (.int .i64 2)).run Tryz.prog w = .ok (.string c) w := by kernel_rfl

def KnownRel (t : ByteArray) (i : Value) : Prop :=
  ∃ k : Nat, k ≤ 3 ∧ i = .int .i64 (k : Int) ∧ knownB t = (([httpT, httpsT, mailtoT].drop k).any fun x => t.toList == x.toList)

set_option maxHeartbeats 400000 in
set_option maxRecDepth 100000 in
theorem known_any (t : ByteArray) (w : World) : Calls Tryz.prog 67 #[.string t] w fun e w' => e = .returned (.bool (knownB t)) ∧ Below w.heap.size w w' := by
  go_enter Tryz.func67, Tryz.ntmps67
  go_wp2_with fail
  refine (schemes_any w).mono ?_
  rintro e w1 ⟨rfl, hb1⟩
  go_wp2_with fail
  go_loop [6] (KnownRel t) (fun i => 3 - (intOf i).toNat)
  case atStart => exact ⟨0, by omega, rfl, rfl⟩
  case round =>
    obtain ⟨k, hk, rfl, hkn⟩ := hrel
    have HK := Lib.hid hkn
    clear hkn
    obtain rfl | rfl | rfl | rfl : k = 0 ∨ k = 1 ∨ k = 2 ∨ k = 3 := by omega
    · have ft := fun w' => index_http httpT httpsT mailtoT w'
      cases hh : t.toList == httpT.toList with
      | true =>
        have HH := Lib.hid hh
        go_wp2_with fail
        go_ret
        exact ⟨ret_bool (by rw [HK.out]; simp [HH.out]), hb1⟩
      | false =>
        have HH := Lib.hid hh
        go_wp2_with fail
        go_round
        case rel => exact ⟨1, by omega, rfl, by rw [HK.out]; simp [HH.out]⟩
        case measure => simp [intOf]
    · have ft := fun w' => index_https httpT httpsT mailtoT w'
      cases hh : t.toList == httpsT.toList with
      | true =>
        have HH := Lib.hid hh
        go_wp2_with fail
        go_ret
        exact ⟨ret_bool (by rw [HK.out]; simp [HH.out]), hb1⟩
      | false =>
        have HH := Lib.hid hh
        go_wp2_with fail
        go_round
        case rel => exact ⟨2, by omega, rfl, by rw [HK.out]; simp [HH.out]⟩
        case measure => simp [intOf]
    · have ft := fun w' => index_mailto httpT httpsT mailtoT w'
      cases hh : t.toList == mailtoT.toList with
      | true =>
        have HH := Lib.hid hh
        go_wp2_with fail
        go_ret
        exact ⟨ret_bool (by rw [HK.out]; simp [HH.out]), hb1⟩
      | false =>
        have HH := Lib.hid hh
        go_wp2_with fail
        go_round
        case rel => exact ⟨3, by omega, rfl, by rw [HK.out]; simp [HH.out]⟩
        case measure => simp [intOf]
    · go_wp2_with fail
      go_ret
      exact ⟨ret_bool (by rw [HK.out]; rfl), hb1⟩

end Go.Proofs.YtnbdldapmllegaaGreat.mk
