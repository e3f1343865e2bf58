/-
  Is it one? (slices.Contains at texts, the six questions of stage 16, and the law's own).
-/
import Derived.Test.YthanclhnncaapaaAlwRows
import Derived.Lib.Hide
namespace Go.Proofs.Ythanclhnncaapaa.mk
open Go.RowKit

def HasRel (ns : List ByteArray) (x : ByteArray) (w0 : World) (i : Value) (wr : World) : Prop :=
  ∃ k : Nat, k ≤ ns.length ∧ i = .int .i64 (k : Int) ∧ hasT ns x = hasT (ns.drop k) x ∧ Below w0.heap.size w0 wr

set_option maxHeartbeats 1000000 in
set_option maxRecDepth 100000 in
theorem strIndex_any (A : Option Addr) (n c : Nat) (ns : List ByteArray) (x : ByteArray) (w : World) (hl : Lies w w.heap.size A (txCells ns)) (hn : ns.length = n) (hn2 : n ≤ 4294967296) :
    Calls Try.prog 27 #[.slice A n c, .string x] w fun e w' => (∃ k : Int, e = .returned (.int .i64 k) ∧ decide (k ≥ 0) = hasT ns x) ∧ Below w.heap.size w w' := by
  have HN := Lib.hid hn
  have HL := Lib.hid hl
  clear hn hl
  go_enter Try.func27, Try.ntmps27
  go_wp2_with fail
  go_loopw [8] (HasRel ns x w) (fun i _ => n - (intOf i).toNat)
  case atStart => exact ⟨0, Nat.zero_le _, rfl, rfl, Below.refl _ _⟩
  case round =>
    obtain ⟨k, hk, rfl, hh, hb⟩ := hrel
    have HH := Lib.hid hh
    clear hh
    rw [HN.out] at hk
    by_cases hlt : k < n
    · obtain ⟨ad, y, rfl, hbA, d0, HR⟩ := (HL.out.below hb).tx (k := k) (by rw [HN.out]; exact hlt)
      have hk0 : (0 : Int) ≤ (k : Int) := Int.natCast_nonneg _
      have hk1 : (k : Int) < (n : Int) := by omega
      have HX := Lib.hid (hasT_next (x := x) HR.out)
      cases he : x.toList == y.toList with
      | true =>
        have HE := Lib.hid he
        go_wp2_with fail
        go_ret
        exact ⟨⟨(k : Int), rfl, by rw [HH.out, HX.out, HE.out]; simp⟩, hb⟩
      | false =>
        have HE := Lib.hid he
        go_wp2_with fail
        go_roundw
        case rel => exact ⟨k + 1, by rw [HN.out]; omega, by go_num, by rw [HH.out, HX.out, HE.out]; rfl, hb⟩
        case measure => simp [intOf]; omega
    · have hk1 : ¬ (k : Int) < (n : Int) := by omega
      go_wp2_with fail
      go_ret
      exact ⟨⟨-1, rfl, by rw [HH.out, hasT_end (by rw [HN.out]; omega)]; rfl⟩, hb⟩

set_option maxHeartbeats 1000000 in
set_option maxRecDepth 100000 in
theorem strContains_any (A : Option Addr) (n c : Nat) (ns : List ByteArray) (x : ByteArray) (w : World) (hl : Lies w w.heap.size A (txCells ns)) (hn : ns.length = n) (hn2 : n ≤ 4294967296) :
    Calls Try.prog 21 #[.slice A n c, .string x] w fun e w' => e = .returned (.bool (hasT ns x)) ∧ Below w.heap.size w w' := by
  have HI := Lib.hid (strIndex_any A n c ns x w hl hn hn2)
  clear hl hn
  go_enter Try.func21, Try.ntmps21
  go_wp2_with fail
  refine HI.out.mono ?_
  rintro e w1 ⟨⟨k, rfl, hk⟩, hb⟩
  have HK := Lib.hid hk
  clear hk HI
  go_wp2_with fail
  go_ret
  exact ⟨ret_bool HK.out, hb⟩

set_option maxHeartbeats 1000000 in
set_option maxRecDepth 100000 in
theorem in16_any (x : ByteArray) (A : Option Addr) (n c : Nat) (ns : List ByteArray) (w : World) (hl : Lies w w.heap.size A (txCells ns)) (hn : ns.length = n) (hn2 : n ≤ 4294967296) :
    Calls Try.prog 9 #[.string x, .slice A n c] w fun e w' => e = .returned (.bool (hasT ns x)) ∧ Below w.heap.size w w' := by
  have HN := Lib.hid hn
  have HL := Lib.hid hl
  clear hn hl
  go_enter Try.func9, Try.ntmps9
  go_wp2_with fail
  go_loopw [5] (HasRel ns x w) (fun i _ => n - (intOf i).toNat)
  case atStart => exact ⟨0, Nat.zero_le _, rfl, rfl, Below.refl _ _⟩
  case round =>
    obtain ⟨k, hk, rfl, hh, hb⟩ := hrel
    have HH := Lib.hid hh
    clear hh
    rw [HN.out] at hk
    by_cases hlt : k < n
    · obtain ⟨ad, y, rfl, hbA, d0, HR⟩ := (HL.out.below hb).tx (k := k) (by rw [HN.out]; exact hlt)
      have hk0 : (0 : Int) ≤ (k : Int) := Int.natCast_nonneg _
      have hk1 : (k : Int) < (n : Int) := by omega
      have HX := Lib.hid (hasT_next (x := x) HR.out)
      cases he : y.toList == x.toList with
      | true =>
        have HE : Hid ((x.toList == y.toList) = true) := beq_iff_eq.2 (beq_iff_eq.1 he).symm
        go_wp2_with fail
        go_ret
        exact ⟨ret_bool (by rw [HH.out, HX.out, HE.out]; rfl), hb⟩
      | false =>
        have HE : Hid ((x.toList == y.toList) = false) := beq_eq_false_iff_ne.2 fun h => beq_eq_false_iff_ne.1 he h.symm
        go_wp2_with fail
        go_roundw
        case rel => exact ⟨k + 1, by rw [HN.out]; omega, by go_num, by rw [HH.out, HX.out, HE.out]; rfl, hb⟩
        case measure => simp [intOf]; omega
    · have hk1 : ¬ (k : Int) < (n : Int) := by omega
      go_wp2_with fail
      go_ret
      exact ⟨ret_bool (by rw [HH.out, hasT_end (by rw [HN.out]; omega)]), hb⟩

set_option maxHeartbeats 1000000 in
set_option maxRecDepth 100000 in
theorem tagIs_any (x : ByteArray) (w : World) : Calls Try.prog 8 #[.string x] w fun e w' => e = .returned (.bool (hasT tagL x)) ∧ Below w.heap.size w w' := by
  go_enter Try.func8, Try.ntmps8
  go_wp2_with fail
  refine (tagRow_any w).mono ?_
  rintro e w1 ⟨rfl, hb1⟩
  go_wp2_with fail
  refine (strContains_any _ 17 17 tagL x _ ((lies_new w1 36 (txCells tagL)).mono (by simp)) rfl (by decide)).mono ?_
  rintro e w2 ⟨rfl, hb2⟩
  have HB2 := Lib.hid (below_next (hb1.alloc hb1.size (.cells (txCells tagL).toArray 36)) (Nat.le_refl _) hb2)
  clear hb2
  go_wp2_with fail
  go_ret
  exact ⟨rfl, HB2.out⟩

set_option maxHeartbeats 1000000 in
set_option maxRecDepth 100000 in
theorem attrIs_any (x : ByteArray) (w : World) : Calls Try.prog 10 #[.string x] w fun e w' => e = .returned (.bool (hasT attrL x)) ∧ Below w.heap.size w w' := by
  go_enter Try.func10, Try.ntmps10
  go_wp2_with fail
  refine (attrRow_any w).mono ?_
  rintro e w1 ⟨rfl, hb1⟩
  go_wp2_with fail
  refine (strContains_any _ 5 5 attrL x _ ((lies_new w1 30 (txCells attrL)).mono (by simp)) rfl (by decide)).mono ?_
  rintro e w2 ⟨rfl, hb2⟩
  have HB2 := Lib.hid (below_next (hb1.alloc hb1.size (.cells (txCells attrL).toArray 30)) (Nat.le_refl _) hb2)
  clear hb2
  go_wp2_with fail
  go_ret
  exact ⟨rfl, HB2.out⟩

set_option maxHeartbeats 1000000 in
set_option maxRecDepth 100000 in
theorem addrIs_any (x : ByteArray) (w : World) : Calls Try.prog 11 #[.string x] w fun e w' => e = .returned (.bool (hasT addrL x)) ∧ Below w.heap.size w w' := by
  go_enter Try.func11, Try.ntmps11
  go_wp2_with fail
  refine (addrRow_any w).mono ?_
  rintro e w1 ⟨rfl, hb1⟩
  go_wp2_with fail
  refine (strContains_any _ 2 2 addrL x _ ((lies_new w1 32 (txCells addrL)).mono (by simp)) rfl (by decide)).mono ?_
  rintro e w2 ⟨rfl, hb2⟩
  have HB2 := Lib.hid (below_next (hb1.alloc hb1.size (.cells (txCells addrL).toArray 32)) (Nat.le_refl _) hb2)
  clear hb2
  go_wp2_with fail
  go_ret
  exact ⟨rfl, HB2.out⟩

set_option maxHeartbeats 1000000 in
set_option maxRecDepth 100000 in
theorem handIs_any (x : ByteArray) (w : World) : Calls Try.prog 12 #[.string x] w fun e w' => e = .returned (.bool (hasT handL x)) ∧ Below w.heap.size w w' := by
  go_enter Try.func12, Try.ntmps12
  go_wp2_with fail
  refine (handRow_any w).mono ?_
  rintro e w1 ⟨rfl, hb1⟩
  go_wp2_with fail
  refine (strContains_any _ 3 3 handL x _ ((lies_new w1 39 (txCells handL)).mono (by simp)) rfl (by decide)).mono ?_
  rintro e w2 ⟨rfl, hb2⟩
  have HB2 := Lib.hid (below_next (hb1.alloc hb1.size (.cells (txCells handL).toArray 39)) (Nat.le_refl _) hb2)
  clear hb2
  go_wp2_with fail
  go_ret
  exact ⟨rfl, HB2.out⟩

set_option maxHeartbeats 1000000 in
set_option maxRecDepth 100000 in
theorem rawIs_any (x : ByteArray) (w : World) : Calls Try.prog 13 #[.string x] w fun e w' => e = .returned (.bool (hasT rawL x)) ∧ Below w.heap.size w w' := by
  go_enter Try.func13, Try.ntmps13
  go_wp2_with fail
  refine (rawRow_any w).mono ?_
  rintro e w1 ⟨rfl, hb1⟩
  go_wp2_with fail
  refine (strContains_any _ 2 2 rawL x _ ((lies_new w1 32 (txCells rawL)).mono (by simp)) rfl (by decide)).mono ?_
  rintro e w2 ⟨rfl, hb2⟩
  have HB2 := Lib.hid (below_next (hb1.alloc hb1.size (.cells (txCells rawL).toArray 32)) (Nat.le_refl _) hb2)
  clear hb2
  go_wp2_with fail
  go_ret
  exact ⟨rfl, HB2.out⟩

set_option maxHeartbeats 1000000 in
set_option maxRecDepth 100000 in
theorem voidIs_any (x : ByteArray) (w : World) : Calls Try.prog 14 #[.string x] w fun e w' => e = .returned (.bool (hasT voidL x)) ∧ Below w.heap.size w w' := by
  go_enter Try.func14, Try.ntmps14
  go_wp2_with fail
  refine (voidRow_any w).mono ?_
  rintro e w1 ⟨rfl, hb1⟩
  go_wp2_with fail
  refine (strContains_any _ 3 3 voidL x _ ((lies_new w1 39 (txCells voidL)).mono (by simp)) rfl (by decide)).mono ?_
  rintro e w2 ⟨rfl, hb2⟩
  have HB2 := Lib.hid (below_next (hb1.alloc hb1.size (.cells (txCells voidL).toArray 39)) (Nat.le_refl _) hb2)
  clear hb2
  go_wp2_with fail
  go_ret
  exact ⟨rfl, HB2.out⟩

end Go.Proofs.Ythanclhnncaapaa.mk
