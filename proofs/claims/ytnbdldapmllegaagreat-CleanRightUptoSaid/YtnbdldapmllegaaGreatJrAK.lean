/-
  The contract of escape's Raw.
-/
import Derived.Test.YtnbdldapmllegaaGreatJrN
import Derived.Test.YtnbdldapmllegaaGreatJrV
import Derived.Test.YtnbdldapmllegaaGreatJrW
namespace Go.Proofs.YtnbdldapmllegaaGreat.mk
open Go.RowKit

def rawB (l : List UInt8) : Bool := (!l.any fun b => [60, 13].contains b) && validB l

set_option maxHeartbeats 1000000 in
set_option maxRecDepth 100000 in
theorem raw_anyL (s : ByteArray) (A : Option Addr) (n c : Nat) (w : World) (hs : s.size ≤ 67108864) :
    Calls Tryz.prog 60 #[.agg #[.string s, .slice A n c]] w fun e w' => e = .returned (.bool (rawB s.data.toList)) ∧ Below w.heap.size w w' := by
  have HC : Hid (∀ w', Calls Tryz.prog 80 #[.string s, .string ⟨#[60, 13]⟩] w' fun e w'' => e = .returned (.bool (s.data.toList.any fun b => [60, 13].contains b)) ∧ Below w'.heap.size w' w'') := fun w' =>
    Tryz.strings_ContainsAny_two s ⟨#[60, 13]⟩ w' (by omega) rfl (by decide)
  have HV : Hid (∀ w', Calls Tryz.prog 35 #[.string s] w' fun e w'' => e = .returned (.bool (validB s.data.toList)) ∧ w' = w'') := fun w' => valid_any s w' (by omega)
  go_enter Tryz.func60, Tryz.ntmps60
  go_wp2_with fail
  generalize hw0 : w.alloc (.cells #[.string s, .slice A n c] 28) = w0
  have y0 : Whole w0 w.heap.size 28 #[.string s, .slice A n c] := by rw [← hw0]; exact Whole.made w _ _
  have hb0 : Below w.heap.size w w0 := by rw [← hw0]; exact (Below.refl _ _).alloc (Nat.le_refl _) _
  clear hw0
  refine (HC.out w0).mono ?_
  rintro e w1 ⟨rfl, hb1⟩
  have y1 := y0.below hb1 y0.lt
  have d0 : w1.cell? ⟨w.heap.size, 0, none⟩ = some (.string s) := y1.at_ 0
  have HR : Hid (rawB s.data.toList = ((!s.data.toList.any fun b => [60, 13].contains b) && validB s.data.toList)) := rfl
  generalize (s.data.toList.any fun b => [60, 13].contains b) = q at *
  cases q with
  | true =>
    go_wp2_with fail
    go_ret
    exact ⟨by rw [HR.out]; rfl, below_next hb0 (Nat.le_refl _) hb1⟩
  | false =>
    go_wp2_with fail
    refine (HV.out _).mono ?_
    rintro e w2 ⟨rfl, rfl⟩
    go_wp2_with fail
    go_ret
    exact ⟨by rw [HR.out]; rfl, below_next hb0 (Nat.le_refl _) hb1⟩
end Go.Proofs.YtnbdldapmllegaaGreat.mk
