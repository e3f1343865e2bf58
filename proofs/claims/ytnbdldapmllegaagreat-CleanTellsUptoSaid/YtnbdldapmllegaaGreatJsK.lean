/-
  Is it one? (slices.Contains at texts, the six questions of stage 16, and the law's own).
-/
import Derived.Test.YtnbdldapmllegaaGreatJsI
import Derived.Lib.Hide
namespace Go.Proofs.YtnbdldapmllegaaGreat.mk
open Go.RowKit

set_option maxHeartbeats 2000000 in
set_option maxRecDepth 100000 in
theorem tagRow_any (w : World) : Calls Tryz.prog 63 #[] w fun e w' => e = .returned (.agg #[.string ⟨#[100, 105, 118]⟩, .string ⟨#[115, 112, 97, 110]⟩, .string ⟨#[112]⟩, .string ⟨#[97]⟩, .string ⟨#[117, 108]⟩, .string ⟨#[108, 105]⟩, .string ⟨#[98]⟩, .string ⟨#[105]⟩, .string ⟨#[101, 109]⟩, .string ⟨#[115, 116, 114, 111, 110, 103]⟩, .string ⟨#[104, 49]⟩, .string ⟨#[104, 50]⟩, .string ⟨#[98, 114]⟩, .string ⟨#[104, 114]⟩, .string ⟨#[105, 109, 103]⟩, .string ⟨#[115, 99, 114, 105, 112, 116]⟩, .string ⟨#[115, 116, 121, 108, 101]⟩]) ∧ Below w.heap.size w w' := by
  go_enter Tryz.func63, Tryz.ntmps63
  go_wp2_with fail
  have hW := Whole.made w 97 #[.string ⟨#[100, 105, 118]⟩, .string ⟨#[115, 112, 97, 110]⟩, .string ⟨#[112]⟩, .string ⟨#[97]⟩, .string ⟨#[117, 108]⟩, .string ⟨#[108, 105]⟩, .string ⟨#[98]⟩, .string ⟨#[105]⟩, .string ⟨#[101, 109]⟩, .string ⟨#[115, 116, 114, 111, 110, 103]⟩, .string ⟨#[104, 49]⟩, .string ⟨#[104, 50]⟩, .string ⟨#[98, 114]⟩, .string ⟨#[104, 114]⟩, .string ⟨#[105, 109, 103]⟩, .string ⟨#[115, 99, 114, 105, 112, 116]⟩, .string ⟨#[115, 116, 121, 108, 101]⟩]
  have d0 := hW.at_ 0
  have d1 := hW.at_ 1
  have d2 := hW.at_ 2
  have d3 := hW.at_ 3
  have d4 := hW.at_ 4
  have d5 := hW.at_ 5
  have d6 := hW.at_ 6
  have d7 := hW.at_ 7
  have d8 := hW.at_ 8
  have d9 := hW.at_ 9
  have d10 := hW.at_ 10
  have d11 := hW.at_ 11
  have d12 := hW.at_ 12
  have d13 := hW.at_ 13
  have d14 := hW.at_ 14
  have d15 := hW.at_ 15
  have d16 := hW.at_ 16
  refine bodyPost_ret (v := .agg #[.string ⟨#[100, 105, 118]⟩, .string ⟨#[115, 112, 97, 110]⟩, .string ⟨#[112]⟩, .string ⟨#[97]⟩, .string ⟨#[117, 108]⟩, .string ⟨#[108, 105]⟩, .string ⟨#[98]⟩, .string ⟨#[105]⟩, .string ⟨#[101, 109]⟩, .string ⟨#[115, 116, 114, 111, 110, 103]⟩, .string ⟨#[104, 49]⟩, .string ⟨#[104, 50]⟩, .string ⟨#[98, 114]⟩, .string ⟨#[104, 114]⟩, .string ⟨#[105, 109, 103]⟩, .string ⟨#[115, 99, 114, 105, 112, 116]⟩, .string ⟨#[115, 116, 121, 108, 101]⟩]) ?_ rfl ?_
  · simp [results, Tryz.results63, go_sem, d0, d1, d2, d3, d4, d5, d6, d7, d8, d9, d10, d11, d12, d13, d14, d15, d16]
  · exact ⟨rfl, (Below.refl _ _).alloc (Nat.le_refl _) _⟩

set_option maxHeartbeats 2000000 in
set_option maxRecDepth 100000 in
theorem attrRow_any (w : World) : Calls Tryz.prog 51 #[] w fun e w' => e = .returned (.agg #[.string ⟨#[99, 108, 97, 115, 115]⟩, .string ⟨#[105, 100]⟩, .string ⟨#[116, 105, 116, 108, 101]⟩, .string ⟨#[97, 108, 116]⟩, .string ⟨#[110, 97, 109, 101]⟩]) ∧ Below w.heap.size w w' := by
  go_enter Tryz.func51, Tryz.ntmps51
  go_wp2_with fail
  have hW := Whole.made w 82 #[.string ⟨#[99, 108, 97, 115, 115]⟩, .string ⟨#[105, 100]⟩, .string ⟨#[116, 105, 116, 108, 101]⟩, .string ⟨#[97, 108, 116]⟩, .string ⟨#[110, 97, 109, 101]⟩]
  have d0 := hW.at_ 0
  have d1 := hW.at_ 1
  have d2 := hW.at_ 2
  have d3 := hW.at_ 3
  have d4 := hW.at_ 4
  refine bodyPost_ret (v := .agg #[.string ⟨#[99, 108, 97, 115, 115]⟩, .string ⟨#[105, 100]⟩, .string ⟨#[116, 105, 116, 108, 101]⟩, .string ⟨#[97, 108, 116]⟩, .string ⟨#[110, 97, 109, 101]⟩]) ?_ rfl ?_
  · simp [results, Tryz.results51, go_sem, d0, d1, d2, d3, d4]
  · exact ⟨rfl, (Below.refl _ _).alloc (Nat.le_refl _) _⟩

set_option maxHeartbeats 2000000 in
set_option maxRecDepth 100000 in
theorem addrRow_any (w : World) : Calls Tryz.prog 53 #[] w fun e w' => e = .returned (.agg #[.string ⟨#[104, 114, 101, 102]⟩, .string ⟨#[115, 114, 99]⟩]) ∧ Below w.heap.size w w' := by
  go_enter Tryz.func53, Tryz.ntmps53
  go_wp2_with fail
  have hW := Whole.made w 86 #[.string ⟨#[104, 114, 101, 102]⟩, .string ⟨#[115, 114, 99]⟩]
  have d0 := hW.at_ 0
  have d1 := hW.at_ 1
  refine bodyPost_ret (v := .agg #[.string ⟨#[104, 114, 101, 102]⟩, .string ⟨#[115, 114, 99]⟩]) ?_ rfl ?_
  · simp [results, Tryz.results53, go_sem, d0, d1]
  · exact ⟨rfl, (Below.refl _ _).alloc (Nat.le_refl _) _⟩

set_option maxHeartbeats 2000000 in
set_option maxRecDepth 100000 in
theorem handRow_any (w : World) : Calls Tryz.prog 55 #[] w fun e w' => e = .returned (.agg #[.string ⟨#[111, 110, 99, 108, 105, 99, 107]⟩, .string ⟨#[111, 110, 105, 110, 112, 117, 116]⟩, .string ⟨#[111, 110, 107, 101, 121]⟩]) ∧ Below w.heap.size w w' := by
  go_enter Tryz.func55, Tryz.ntmps55
  go_wp2_with fail
  have hW := Whole.made w 88 #[.string ⟨#[111, 110, 99, 108, 105, 99, 107]⟩, .string ⟨#[111, 110, 105, 110, 112, 117, 116]⟩, .string ⟨#[111, 110, 107, 101, 121]⟩]
  have d0 := hW.at_ 0
  have d1 := hW.at_ 1
  have d2 := hW.at_ 2
  refine bodyPost_ret (v := .agg #[.string ⟨#[111, 110, 99, 108, 105, 99, 107]⟩, .string ⟨#[111, 110, 105, 110, 112, 117, 116]⟩, .string ⟨#[111, 110, 107, 101, 121]⟩]) ?_ rfl ?_
  · simp [results, Tryz.results55, go_sem, d0, d1, d2]
  · exact ⟨rfl, (Below.refl _ _).alloc (Nat.le_refl _) _⟩

set_option maxHeartbeats 2000000 in
set_option maxRecDepth 100000 in
theorem rawRow_any (w : World) : Calls Tryz.prog 64 #[] w fun e w' => e = .returned (.agg #[.string ⟨#[115, 99, 114, 105, 112, 116]⟩, .string ⟨#[115, 116, 121, 108, 101]⟩]) ∧ Below w.heap.size w w' := by
  go_enter Tryz.func64, Tryz.ntmps64
  go_wp2_with fail
  have hW := Whole.made w 86 #[.string ⟨#[115, 99, 114, 105, 112, 116]⟩, .string ⟨#[115, 116, 121, 108, 101]⟩]
  have d0 := hW.at_ 0
  have d1 := hW.at_ 1
  refine bodyPost_ret (v := .agg #[.string ⟨#[115, 99, 114, 105, 112, 116]⟩, .string ⟨#[115, 116, 121, 108, 101]⟩]) ?_ rfl ?_
  · simp [results, Tryz.results64, go_sem, d0, d1]
  · exact ⟨rfl, (Below.refl _ _).alloc (Nat.le_refl _) _⟩

set_option maxHeartbeats 2000000 in
set_option maxRecDepth 100000 in
theorem voidRow_any (w : World) : Calls Tryz.prog 79 #[] w fun e w' => e = .returned (.agg #[.string ⟨#[98, 114]⟩, .string ⟨#[104, 114]⟩, .string ⟨#[105, 109, 103]⟩]) ∧ Below w.heap.size w w' := by
  go_enter Tryz.func79, Tryz.ntmps79
  go_wp2_with fail
  have hW := Whole.made w 88 #[.string ⟨#[98, 114]⟩, .string ⟨#[104, 114]⟩, .string ⟨#[105, 109, 103]⟩]
  have d0 := hW.at_ 0
  have d1 := hW.at_ 1
  have d2 := hW.at_ 2
  refine bodyPost_ret (v := .agg #[.string ⟨#[98, 114]⟩, .string ⟨#[104, 114]⟩, .string ⟨#[105, 109, 103]⟩]) ?_ rfl ?_
  · simp [results, Tryz.results79, go_sem, d0, d1, d2]
  · exact ⟨rfl, (Below.refl _ _).alloc (Nat.le_refl _) _⟩

end Go.Proofs.YtnbdldapmllegaaGreat.mk

namespace Go.Proofs.YtnbdldapmllegaaGreat.mk
open Go.RowKit

def HasRel (ns : List ByteArray) (x : ByteArray) (w0 : World) (i : Value) (wr : World) : Prop :=
  ∃ k : Nat, k ≤ ns.length ∧ i = .int .i64 (k : Int) ∧ hasT ns x = hasT (ns.drop k) x ∧ Below w0.heap.size w0 wr

set_option maxHeartbeats 1000000 in
set_option maxRecDepth 100000 in
theorem strIndex_any (A : Option Addr) (n c : Nat) (ns : List ByteArray) (x : ByteArray) (w : World) (hl : Lies w w.heap.size A (txCells ns)) (hn : ns.length = n) (hn2 : n ≤ 4294967296) :
    Calls Tryz.prog 73 #[.slice A n c, .string x] w fun e w' => (∃ k : Int, e = .returned (.int .i64 k) ∧ decide (k ≥ 0) = hasT ns x) ∧ Below w.heap.size w w' := by
  have HN := Lib.hid hn
  have HL := Lib.hid hl
  clear hn hl
  go_enter Tryz.func73, Tryz.ntmps73
  go_wp2_with fail
  go_loopw [8] (HasRel ns x w) (fun i _ => n - (intOf i).toNat)
  case atStart => exact ⟨0, Nat.zero_le _, rfl, rfl, Below.refl _ _⟩
  case round =>
    obtain ⟨k, hk, rfl, hh, hb⟩ := hrel
    have HH := Lib.hid hh
    clear hh
    rw [HN.out] at hk
    by_cases hlt : k < n
    · obtain ⟨ad, y, rfl, hbA, d0, HR⟩ := (HL.out.below hb).tx (k := k) (by rw [HN.out]; exact hlt)
      have hk0 : (0 : Int) ≤ (k : Int) := Int.natCast_nonneg _
      have hk1 : (k : Int) < (n : Int) := by omega
      have HX := Lib.hid (hasT_next (x := x) HR.out)
      cases he : x.toList == y.toList with
      | true =>
        have HE := Lib.hid he
        go_wp2_with fail
        go_ret
        exact ⟨⟨(k : Int), rfl, by rw [HH.out, HX.out, HE.out]; simp⟩, hb⟩
      | false =>
        have HE := Lib.hid he
        go_wp2_with fail
        go_roundw
        case rel => exact ⟨k + 1, by rw [HN.out]; omega, by go_num, by rw [HH.out, HX.out, HE.out]; rfl, hb⟩
        case measure => simp [intOf]; omega
    · have hk1 : ¬ (k : Int) < (n : Int) := by omega
      go_wp2_with fail
      go_ret
      exact ⟨⟨-1, rfl, by rw [HH.out, hasT_end (by rw [HN.out]; omega)]; rfl⟩, hb⟩

set_option maxHeartbeats 1000000 in
set_option maxRecDepth 100000 in
theorem strContains_any (A : Option Addr) (n c : Nat) (ns : List ByteArray) (x : ByteArray) (w : World) (hl : Lies w w.heap.size A (txCells ns)) (hn : ns.length = n) (hn2 : n ≤ 4294967296) :
    Calls Tryz.prog 52 #[.slice A n c, .string x] w fun e w' => e = .returned (.bool (hasT ns x)) ∧ Below w.heap.size w w' := by
  have HI := Lib.hid (strIndex_any A n c ns x w hl hn hn2)
  clear hl hn
  go_enter Tryz.func52, Tryz.ntmps52
  go_wp2_with fail
  refine HI.out.mono ?_
  rintro e w1 ⟨⟨k, rfl, hk⟩, hb⟩
  have HK := Lib.hid hk
  clear hk HI
  go_wp2_with fail
  go_ret
  exact ⟨ret_bool HK.out, hb⟩

set_option maxHeartbeats 1000000 in
set_option maxRecDepth 100000 in
theorem tagIs_any (x : ByteArray) (w : World) : Calls Tryz.prog 37 #[.string x] w fun e w' => e = .returned (.bool (hasT tagL x)) ∧ Below w.heap.size w w' := by
  go_enter Tryz.func37, Tryz.ntmps37
  go_wp2_with fail
  refine (tagRow_any w).mono ?_
  rintro e w1 ⟨rfl, hb1⟩
  go_wp2_with fail
  refine (strContains_any _ 17 17 tagL x _ ((lies_new w1 97 (txCells tagL)).mono (by simp)) rfl (by decide)).mono ?_
  rintro e w2 ⟨rfl, hb2⟩
  have HB2 := Lib.hid (below_next (hb1.alloc hb1.size (.cells (txCells tagL).toArray 97)) (Nat.le_refl _) hb2)
  clear hb2
  go_wp2_with fail
  go_ret
  exact ⟨rfl, HB2.out⟩

set_option maxHeartbeats 1000000 in
set_option maxRecDepth 100000 in
theorem attrIs_any (x : ByteArray) (w : World) : Calls Tryz.prog 22 #[.string x] w fun e w' => e = .returned (.bool (hasT attrL x)) ∧ Below w.heap.size w w' := by
  go_enter Tryz.func22, Tryz.ntmps22
  go_wp2_with fail
  refine (attrRow_any w).mono ?_
  rintro e w1 ⟨rfl, hb1⟩
  go_wp2_with fail
  refine (strContains_any _ 5 5 attrL x _ ((lies_new w1 82 (txCells attrL)).mono (by simp)) rfl (by decide)).mono ?_
  rintro e w2 ⟨rfl, hb2⟩
  have HB2 := Lib.hid (below_next (hb1.alloc hb1.size (.cells (txCells attrL).toArray 82)) (Nat.le_refl _) hb2)
  clear hb2
  go_wp2_with fail
  go_ret
  exact ⟨rfl, HB2.out⟩

set_option maxHeartbeats 1000000 in
set_option maxRecDepth 100000 in
theorem addrIs_any (x : ByteArray) (w : World) : Calls Tryz.prog 23 #[.string x] w fun e w' => e = .returned (.bool (hasT addrL x)) ∧ Below w.heap.size w w' := by
  go_enter Tryz.func23, Tryz.ntmps23
  go_wp2_with fail
  refine (addrRow_any w).mono ?_
  rintro e w1 ⟨rfl, hb1⟩
  go_wp2_with fail
  refine (strContains_any _ 2 2 addrL x _ ((lies_new w1 86 (txCells addrL)).mono (by simp)) rfl (by decide)).mono ?_
  rintro e w2 ⟨rfl, hb2⟩
  have HB2 := Lib.hid (below_next (hb1.alloc hb1.size (.cells (txCells addrL).toArray 86)) (Nat.le_refl _) hb2)
  clear hb2
  go_wp2_with fail
  go_ret
  exact ⟨rfl, HB2.out⟩

set_option maxHeartbeats 1000000 in
set_option maxRecDepth 100000 in
theorem handIs_any (x : ByteArray) (w : World) : Calls Tryz.prog 25 #[.string x] w fun e w' => e = .returned (.bool (hasT handL x)) ∧ Below w.heap.size w w' := by
  go_enter Tryz.func25, Tryz.ntmps25
  go_wp2_with fail
  refine (handRow_any w).mono ?_
  rintro e w1 ⟨rfl, hb1⟩
  go_wp2_with fail
  refine (strContains_any _ 3 3 handL x _ ((lies_new w1 88 (txCells handL)).mono (by simp)) rfl (by decide)).mono ?_
  rintro e w2 ⟨rfl, hb2⟩
  have HB2 := Lib.hid (below_next (hb1.alloc hb1.size (.cells (txCells handL).toArray 88)) (Nat.le_refl _) hb2)
  clear hb2
  go_wp2_with fail
  go_ret
  exact ⟨rfl, HB2.out⟩

set_option maxHeartbeats 1000000 in
set_option maxRecDepth 100000 in
theorem rawIs_any (x : ByteArray) (w : World) : Calls Tryz.prog 38 #[.string x] w fun e w' => e = .returned (.bool (hasT rawL x)) ∧ Below w.heap.size w w' := by
  go_enter Tryz.func38, Tryz.ntmps38
  go_wp2_with fail
  refine (rawRow_any w).mono ?_
  rintro e w1 ⟨rfl, hb1⟩
  go_wp2_with fail
  refine (strContains_any _ 2 2 rawL x _ ((lies_new w1 86 (txCells rawL)).mono (by simp)) rfl (by decide)).mono ?_
  rintro e w2 ⟨rfl, hb2⟩
  have HB2 := Lib.hid (below_next (hb1.alloc hb1.size (.cells (txCells rawL).toArray 86)) (Nat.le_refl _) hb2)
  clear hb2
  go_wp2_with fail
  go_ret
  exact ⟨rfl, HB2.out⟩

set_option maxHeartbeats 1000000 in
set_option maxRecDepth 100000 in
theorem voidIs_any (x : ByteArray) (w : World) : Calls Tryz.prog 59 #[.string x] w fun e w' => e = .returned (.bool (hasT voidL x)) ∧ Below w.heap.size w w' := by
  go_enter Tryz.func59, Tryz.ntmps59
  go_wp2_with fail
  refine (voidRow_any w).mono ?_
  rintro e w1 ⟨rfl, hb1⟩
  go_wp2_with fail
  refine (strContains_any _ 3 3 voidL x _ ((lies_new w1 88 (txCells voidL)).mono (by simp)) rfl (by decide)).mono ?_
  rintro e w2 ⟨rfl, hb2⟩
  have HB2 := Lib.hid (below_next (hb1.alloc hb1.size (.cells (txCells voidL).toArray 88)) (Nat.le_refl _) hb2)
  clear hb2
  go_wp2_with fail
  go_ret
  exact ⟨rfl, HB2.out⟩

end Go.Proofs.YtnbdldapmllegaaGreat.mk
