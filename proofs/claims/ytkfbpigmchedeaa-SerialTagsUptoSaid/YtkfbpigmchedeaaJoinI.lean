/-
  The contract of strings.ContainsAny at this program, laid by the numbers of its own functions and types.
-/
import Derived.Test.YtkfbpigmchedeaaJoinF
import Derived.Test.YtkfbpigmchedeaaProg
namespace Go.Proofs
open Go.Shelf
def Try.lays150_ren : Go.Shelf.Ren := ⟨fun | 150 => 77 | 153 => 82 | 152 => 85 | 137 => 89 | 119 => 90 | 217 => 93 | 224 => 91 | 225 => 92 | 226 => 86 | 227 => 87 | 228 => 88 | 266 => 94 | n => n, fun | 9 => 9 | 3 => 3 | 4 => 4 | 5 => 5 | 21 => 21 | 46 => 115 | 116 => 111 | 117 => 112 | 124 => 116 | n => n, fun | n => n⟩
theorem Try.lays150 : Go.Proofs.Lays.n150 Try.prog Try.lays150_ren := {
  mixed := by kernel_rfl
  f119 := Try.func90.trans (congrArg some (by kernel_rfl))
  f137 := Try.func89.trans (congrArg some (by kernel_rfl))
  f150 := Try.func77.trans (congrArg some (by kernel_rfl))
  f152 := Try.func85.trans (congrArg some (by kernel_rfl))
  f153 := Try.func82.trans (congrArg some (by kernel_rfl))
  f217 := Try.func93.trans (congrArg some (by kernel_rfl))
  f224 := Try.func91.trans (congrArg some (by kernel_rfl))
  f225 := Try.func92.trans (congrArg some (by kernel_rfl))
  f226 := Try.func86.trans (congrArg some (by kernel_rfl))
  f227 := Try.func87.trans (congrArg some (by kernel_rfl))
  f228 := Try.func88.trans (congrArg some (by kernel_rfl))
  f266 := Try.func94.trans (congrArg some (by kernel_rfl))
  t0 := by kernel_rfl
  a0 := fun w => by kernel_rfl
  z0 := fun w => by kernel_rfl
  v0 := fun w => by kernel_rfl
  t3 := Try.underlying3
  a3 := Try.isAgg3
  z3 := Try.sizeOf3
  v3 := Try.zeroValue3
  t4 := Try.underlying4
  a4 := Try.isAgg4
  z4 := Try.sizeOf4
  v4 := Try.zeroValue4
  t5 := Try.underlying5
  a5 := Try.isAgg5
  z5 := Try.sizeOf5
  v5 := Try.zeroValue5
  t9 := Try.underlying9
  a9 := Try.isAgg9
  z9 := Try.sizeOf9
  v9 := Try.zeroValue9
  t21 := Try.underlying21
  a21 := Try.isAgg21
  z21 := Try.sizeOf21
  v21 := Try.zeroValue21
  t46 := Try.underlying115
  a46 := Try.isAgg115
  z46 := Try.sizeOf115
  v46 := Try.zeroValue115
  t116 := by kernel_rfl
  a116 := fun w => by kernel_rfl
  z116 := fun w => by kernel_rfl
  t117 := by kernel_rfl
  a117 := fun w => by kernel_rfl
  z117 := fun w => by kernel_rfl
  v117 := fun w => by kernel_rfl
  t124 := by kernel_rfl
  a124 := fun w => by kernel_rfl
  z124 := fun w => by kernel_rfl
  v124 := fun w => by kernel_rfl }
theorem Try.set150 : (Try.prog.info? (Try.lays150_ren.t 116)).map (fun i => (i.zero, i.size)) = some (some (.agg (Array.replicate 256 (.bool false))), 256) := by kernel_rfl
open Go.RowKit Go.Lib in
theorem Try.strings_ContainsAny_two (s chars : ByteArray) (w : World) (hs : s.size < 4294967281) (h2 : chars.size = 2) (hl : ∀ (i : Nat) (h : i < chars.size), (chars[i]'h).toNat < 128) :
    Calls Try.prog 77 #[.string s, .string chars] w fun e w' => e = .returned (.bool (s.data.toList.any (fun b => chars.data.toList.contains b))) ∧ Below w.heap.size w w' := by
  rw [← Ytkfbpigmchedeaa.containsAny_any]
  exact Ytkfbpigmchedeaa.containsAny_two Try.lays150 Try.set150 s chars w hs h2 hl
end Go.Proofs
