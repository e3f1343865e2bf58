/-
  What the functions of rows of names answer (stage 16).
-/
import Derived.Test.YthanclhnncaapaaAlwPure
import Derived.Lib.Hide
namespace Go.Proofs.Ythanclhnncaapaa.mk
open Go.RowKit

set_option maxHeartbeats 2000000 in
set_option maxRecDepth 100000 in
theorem tagRow_any (w : World) : Calls Try.prog 20 #[] w fun e w' => e = .returned (.agg #[.string ⟨#[100, 105, 118]⟩, .string ⟨#[115, 112, 97, 110]⟩, .string ⟨#[112]⟩, .string ⟨#[97]⟩, .string ⟨#[117, 108]⟩, .string ⟨#[108, 105]⟩, .string ⟨#[98]⟩, .string ⟨#[105]⟩, .string ⟨#[101, 109]⟩, .string ⟨#[115, 116, 114, 111, 110, 103]⟩, .string ⟨#[104, 49]⟩, .string ⟨#[104, 50]⟩, .string ⟨#[98, 114]⟩, .string ⟨#[104, 114]⟩, .string ⟨#[105, 109, 103]⟩, .string ⟨#[115, 99, 114, 105, 112, 116]⟩, .string ⟨#[115, 116, 121, 108, 101]⟩]) ∧ Below w.heap.size w w' := by
  go_enter Try.func20, Try.ntmps20
  go_wp2_with fail
  have hW := Whole.made w 36 #[.string ⟨#[100, 105, 118]⟩, .string ⟨#[115, 112, 97, 110]⟩, .string ⟨#[112]⟩, .string ⟨#[97]⟩, .string ⟨#[117, 108]⟩, .string ⟨#[108, 105]⟩, .string ⟨#[98]⟩, .string ⟨#[105]⟩, .string ⟨#[101, 109]⟩, .string ⟨#[115, 116, 114, 111, 110, 103]⟩, .string ⟨#[104, 49]⟩, .string ⟨#[104, 50]⟩, .string ⟨#[98, 114]⟩, .string ⟨#[104, 114]⟩, .string ⟨#[105, 109, 103]⟩, .string ⟨#[115, 99, 114, 105, 112, 116]⟩, .string ⟨#[115, 116, 121, 108, 101]⟩]
  have d0 := hW.at_ 0
  have d1 := hW.at_ 1
  have d2 := hW.at_ 2
  have d3 := hW.at_ 3
  have d4 := hW.at_ 4
  have d5 := hW.at_ 5
  have d6 := hW.at_ 6
  have d7 := hW.at_ 7
  have d8 := hW.at_ 8
  have d9 := hW.at_ 9
  have d10 := hW.at_ 10
  have d11 := hW.at_ 11
  have d12 := hW.at_ 12
  have d13 := hW.at_ 13
  have d14 := hW.at_ 14
  have d15 := hW.at_ 15
  have d16 := hW.at_ 16
  refine bodyPost_ret (v := .agg #[.string ⟨#[100, 105, 118]⟩, .string ⟨#[115, 112, 97, 110]⟩, .string ⟨#[112]⟩, .string ⟨#[97]⟩, .string ⟨#[117, 108]⟩, .string ⟨#[108, 105]⟩, .string ⟨#[98]⟩, .string ⟨#[105]⟩, .string ⟨#[101, 109]⟩, .string ⟨#[115, 116, 114, 111, 110, 103]⟩, .string ⟨#[104, 49]⟩, .string ⟨#[104, 50]⟩, .string ⟨#[98, 114]⟩, .string ⟨#[104, 114]⟩, .string ⟨#[105, 109, 103]⟩, .string ⟨#[115, 99, 114, 105, 112, 116]⟩, .string ⟨#[115, 116, 121, 108, 101]⟩]) ?_ rfl ?_
  · simp [results, Try.results20, go_sem, d0, d1, d2, d3, d4, d5, d6, d7, d8, d9, d10, d11, d12, d13, d14, d15, d16]
  · exact ⟨rfl, (Below.refl _ _).alloc (Nat.le_refl _) _⟩

set_option maxHeartbeats 2000000 in
set_option maxRecDepth 100000 in
theorem attrRow_any (w : World) : Calls Try.prog 16 #[] w fun e w' => e = .returned (.agg #[.string ⟨#[99, 108, 97, 115, 115]⟩, .string ⟨#[105, 100]⟩, .string ⟨#[116, 105, 116, 108, 101]⟩, .string ⟨#[97, 108, 116]⟩, .string ⟨#[110, 97, 109, 101]⟩]) ∧ Below w.heap.size w w' := by
  go_enter Try.func16, Try.ntmps16
  go_wp2_with fail
  have hW := Whole.made w 30 #[.string ⟨#[99, 108, 97, 115, 115]⟩, .string ⟨#[105, 100]⟩, .string ⟨#[116, 105, 116, 108, 101]⟩, .string ⟨#[97, 108, 116]⟩, .string ⟨#[110, 97, 109, 101]⟩]
  have d0 := hW.at_ 0
  have d1 := hW.at_ 1
  have d2 := hW.at_ 2
  have d3 := hW.at_ 3
  have d4 := hW.at_ 4
  refine bodyPost_ret (v := .agg #[.string ⟨#[99, 108, 97, 115, 115]⟩, .string ⟨#[105, 100]⟩, .string ⟨#[116, 105, 116, 108, 101]⟩, .string ⟨#[97, 108, 116]⟩, .string ⟨#[110, 97, 109, 101]⟩]) ?_ rfl ?_
  · simp [results, Try.results16, go_sem, d0, d1, d2, d3, d4]
  · exact ⟨rfl, (Below.refl _ _).alloc (Nat.le_refl _) _⟩

set_option maxHeartbeats 2000000 in
set_option maxRecDepth 100000 in
theorem addrRow_any (w : World) : Calls Try.prog 17 #[] w fun e w' => e = .returned (.agg #[.string ⟨#[104, 114, 101, 102]⟩, .string ⟨#[115, 114, 99]⟩]) ∧ Below w.heap.size w w' := by
  go_enter Try.func17, Try.ntmps17
  go_wp2_with fail
  have hW := Whole.made w 32 #[.string ⟨#[104, 114, 101, 102]⟩, .string ⟨#[115, 114, 99]⟩]
  have d0 := hW.at_ 0
  have d1 := hW.at_ 1
  refine bodyPost_ret (v := .agg #[.string ⟨#[104, 114, 101, 102]⟩, .string ⟨#[115, 114, 99]⟩]) ?_ rfl ?_
  · simp [results, Try.results17, go_sem, d0, d1]
  · exact ⟨rfl, (Below.refl _ _).alloc (Nat.le_refl _) _⟩

set_option maxHeartbeats 2000000 in
set_option maxRecDepth 100000 in
theorem handRow_any (w : World) : Calls Try.prog 22 #[] w fun e w' => e = .returned (.agg #[.string ⟨#[111, 110, 99, 108, 105, 99, 107]⟩, .string ⟨#[111, 110, 105, 110, 112, 117, 116]⟩, .string ⟨#[111, 110, 107, 101, 121]⟩]) ∧ Below w.heap.size w w' := by
  go_enter Try.func22, Try.ntmps22
  go_wp2_with fail
  have hW := Whole.made w 39 #[.string ⟨#[111, 110, 99, 108, 105, 99, 107]⟩, .string ⟨#[111, 110, 105, 110, 112, 117, 116]⟩, .string ⟨#[111, 110, 107, 101, 121]⟩]
  have d0 := hW.at_ 0
  have d1 := hW.at_ 1
  have d2 := hW.at_ 2
  refine bodyPost_ret (v := .agg #[.string ⟨#[111, 110, 99, 108, 105, 99, 107]⟩, .string ⟨#[111, 110, 105, 110, 112, 117, 116]⟩, .string ⟨#[111, 110, 107, 101, 121]⟩]) ?_ rfl ?_
  · simp [results, Try.results22, go_sem, d0, d1, d2]
  · exact ⟨rfl, (Below.refl _ _).alloc (Nat.le_refl _) _⟩

set_option maxHeartbeats 2000000 in
set_option maxRecDepth 100000 in
theorem rawRow_any (w : World) : Calls Try.prog 23 #[] w fun e w' => e = .returned (.agg #[.string ⟨#[115, 99, 114, 105, 112, 116]⟩, .string ⟨#[115, 116, 121, 108, 101]⟩]) ∧ Below w.heap.size w w' := by
  go_enter Try.func23, Try.ntmps23
  go_wp2_with fail
  have hW := Whole.made w 32 #[.string ⟨#[115, 99, 114, 105, 112, 116]⟩, .string ⟨#[115, 116, 121, 108, 101]⟩]
  have d0 := hW.at_ 0
  have d1 := hW.at_ 1
  refine bodyPost_ret (v := .agg #[.string ⟨#[115, 99, 114, 105, 112, 116]⟩, .string ⟨#[115, 116, 121, 108, 101]⟩]) ?_ rfl ?_
  · simp [results, Try.results23, go_sem, d0, d1]
  · exact ⟨rfl, (Below.refl _ _).alloc (Nat.le_refl _) _⟩

set_option maxHeartbeats 2000000 in
set_option maxRecDepth 100000 in
theorem voidRow_any (w : World) : Calls Try.prog 24 #[] w fun e w' => e = .returned (.agg #[.string ⟨#[98, 114]⟩, .string ⟨#[104, 114]⟩, .string ⟨#[105, 109, 103]⟩]) ∧ Below w.heap.size w w' := by
  go_enter Try.func24, Try.ntmps24
  go_wp2_with fail
  have hW := Whole.made w 39 #[.string ⟨#[98, 114]⟩, .string ⟨#[104, 114]⟩, .string ⟨#[105, 109, 103]⟩]
  have d0 := hW.at_ 0
  have d1 := hW.at_ 1
  have d2 := hW.at_ 2
  refine bodyPost_ret (v := .agg #[.string ⟨#[98, 114]⟩, .string ⟨#[104, 114]⟩, .string ⟨#[105, 109, 103]⟩]) ?_ rfl ?_
  · simp [results, Try.results24, go_sem, d0, d1, d2]
  · exact ⟨rfl, (Below.refl _ _).alloc (Nat.le_refl _) _⟩

end Go.Proofs.Ythanclhnncaapaa.mk
