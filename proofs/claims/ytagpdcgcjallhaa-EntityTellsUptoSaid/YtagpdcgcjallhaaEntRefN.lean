/-
  Contracts of the reference's Named and stands.
-/
import Derived.Test.YtagpdcgcjallhaaEntNext
import Derived.Test.YtagpdcgcjallhaaEntDig
import Derived.Test.YtagpdcgcjallhaaEntWin
import Derived.Deep.DeepCutAuto
namespace Go.Proofs.Ytagpdcgcjallhaa.mk
open Go.RowKit

/-! names -/
def rnV : Array Value := #[.string ⟨#[97, 109, 112]⟩, .string ⟨#[108, 116]⟩, .string ⟨#[103, 116]⟩, .string ⟨#[113, 117, 111, 116]⟩, .string ⟨#[97, 112, 111, 115]⟩, .string ⟨#[110, 98, 115, 112]⟩]
def rbV : Array Value := #[.string ⟨#[38]⟩, .string ⟨#[60]⟩, .string ⟨#[62]⟩, .string ⟨#[34]⟩, .string ⟨#[39]⟩, .string ⟨#[194, 160]⟩]
theorem rn_at (k : Nat) (h : k < 6) : ∃ (nb : ByteArray) (c : Int), nameL[k]? = some (nb.data.toList, c) ∧ rnV[k]? = some (.string nb) ∧ rbV[k]? = some (.string (numB c)) := by
  obtain rfl | rfl | rfl | rfl | rfl | rfl : k = 0 ∨ k = 1 ∨ k = 2 ∨ k = 3 ∨ k = 4 ∨ k = 5 := by omega
  · exact ⟨_, _, rfl, rfl, rfl⟩
  · exact ⟨_, _, rfl, rfl, rfl⟩
  · exact ⟨_, _, rfl, rfl, rfl⟩
  · exact ⟨_, _, rfl, rfl, rfl⟩
  · exact ⟨_, _, rfl, rfl, rfl⟩
  · exact ⟨_, _, rfl, rfl, rfl⟩
def RnRel (s : ByteArray) (i : Value) : Prop :=
  ∃ k : Nat, k ≤ 6 ∧ i = .int .i64 (k : Int) ∧ (∀ (j : Nat) (nm : List UInt8) (c : Int), j < k → nameL[j]? = some (nm, c) → nm ≠ s.data.toList)

set_option maxHeartbeats 1000000 in
set_option maxRecDepth 100000 in
theorem refNamed_any (s : ByteArray) (w : World) :
    Calls Try.prog 14 #[.string s] w fun e w' => e = .returned (.string (namedB s.data.toList)) ∧ Below w.heap.size w w' := by
  go_enter Try.func14, Try.ntmps14
  go_wp2_with fail
  have hbl : Below w.heap.size w ((w.alloc (.cells rnV 9)).alloc (.cells rbV 9)) := ((Below.refl _ _).alloc (Nat.le_refl _) _).alloc (by simp) _
  have y1 : Whole ((w.alloc (.cells rnV 9)).alloc (.cells rbV 9)) w.heap.size 9 rnV := (Whole.made w _ _).alloc _
  have y2 : Whole ((w.alloc (.cells rnV 9)).alloc (.cells rbV 9)) (w.heap.size + 1) 9 rbV := by
    have h := Whole.made (w.alloc (.cells rnV 9)) 9 rbV
    simp only [World.size_alloc] at h
    exact h
  have HY1 := Lib.hid y1
  have HY2 := Lib.hid y2
  have HBL := Lib.hid hbl
  clear y1 y2 hbl
  unfold rnV rbV at HY1 HY2 HBL
  generalize (w.alloc (.cells _ 9)).alloc (.cells _ 9) = w2 at *
  go_loop [5] (RnRel s) (fun i => 6 - (intOf i).toNat)
  case atStart => exact ⟨0, Nat.zero_le _, rfl, fun j _ _ h => by omega⟩
  case round =>
    obtain ⟨k, hk, rfl, hno⟩ := hrel
    have HNO := Lib.hid hno
    clear hno
    by_cases hlt : k < 6
    · obtain ⟨nb, c, hn, h1, h2⟩ := rn_at k hlt
      have hk3 : (k : Int) < 6 := by omega
      have hk0 : (0 : Int) ≤ (k : Int) := Int.natCast_nonneg _
      have HN := Lib.hid hn
      have c1 : w2.cell? ⟨w.heap.size, k, none⟩ = some (.string nb) := (HY1.out.at_ k).trans h1
      have c2 : w2.cell? ⟨w.heap.size + 1, k, none⟩ = some (.string (numB c)) := (HY2.out.at_ k).trans h2
      clear hn h1 h2
      have HBT : Hid ((nb.toList == s.toList) = (nb.data.toList == s.data.toList)) := by show _ = _; rw [ByteArray.toList_eq, ByteArray.toList_eq]
      cases hm : (nb.toList == s.toList) with
      | false =>
        have hne : nb.data.toList ≠ s.data.toList := by
          rw [HBT.out] at hm
          exact beq_eq_false_iff_ne.1 hm
        have HNX : Hid (∀ (j : Nat) (nm : List UInt8) (d : Int), j < k + 1 → nameL[j]? = some (nm, d) → nm ≠ s.data.toList) := by
          intro j nm d hj hjn
          rcases Nat.lt_or_ge j k with h | h
          · exact HNO.out j nm d h hjn
          · obtain rfl : j = k := by omega
            have := HN.out.symm.trans hjn
            injection this with this
            injection this with h1 h2
            rw [← h1]; exact hne
        clear hne
        go_wp2_with fail
        go_round
        case rel => exact ⟨k + 1, by omega, by go_num, HNX.out⟩
        case measure => simp [intOf]; omega
      | true =>
        have HR : Hid (namedB s.data.toList = numB c) := by
          rw [HBT.out] at hm
          show _ = _
          rw [← beq_iff_eq.1 hm]
          exact namedB_hit HN.out
        generalize numB c = r at *
        go_wp2_with fail
        go_ret
        exact ⟨by rw [HR.out]; rfl, HBL.out⟩
    · have HR : Hid (namedB s.data.toList = ⟨#[]⟩) := namedB_miss (fun j nm c h => HNO.out j nm c (by have h6 : j < 6 := (List.getElem?_eq_some_iff.1 h).1; omega) h)
      go_wp2_with fail
      go_ret
      exact ⟨by rw [HR.out]; rfl, HBL.out⟩

end Go.Proofs.Ytagpdcgcjallhaa.mk
