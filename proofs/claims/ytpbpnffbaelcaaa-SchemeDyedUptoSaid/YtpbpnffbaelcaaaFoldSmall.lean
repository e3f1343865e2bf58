/-
  Small facts of what fold puts and takes off.
-/
import Derived.Test.YtpbpnffbaelcaaaFoldReplace
import Derived.Test.YtpbpnffbaelcaaaRefIn
import Derived.Test.YtpbpnffbaelcaaaTold
namespace Go.Proofs.Ytpbpnffbaelcaaa.mk
open Go.RowKit

theorem replL_filter (f : UInt8 → Bool) (l : List (UInt8 × Int)) : replL f [] l = l.filter (fun x => !f x.1) := by
  induction l with
  | nil => rfl
  | cons x l ih =>
    have e : replL f [] (x :: l) = (if f x.1 then [] else [x]) ++ replL f [] l := by simp [replL]
    rw [e, ih, List.filter_cons]
    cases f x.1 <;> rfl
theorem trimL_length {α : Type} (p : α → Bool) (l : List α) : (trimL p l).length ≤ l.length := by
  unfold trimL
  rw [List.length_reverse]
  refine Nat.le_trans (List.dropWhile_sublist _).length_le ?_
  rw [List.length_reverse]
  exact (List.dropWhile_sublist _).length_le
/-- the number of runs of what is put for bytes is at most the number of bytes -/
theorem replL_runs (f : UInt8 → Bool) (by_ : List UInt8) (l : List (UInt8 × Int)) : runN (replL f by_ l) ≤ l.length := by
  induction l using snocInd with
  | nil => exact Nat.le_refl _
  | append_singleton l x ih =>
    unfold runN at ih ⊢
    have e : replL f by_ (l ++ [x]) = replL f by_ l ++ (if f x.1 then by_ else [x.1]).map (fun y => (y, x.2)) := by
      unfold replL
      rw [List.flatMap_append, List.flatMap_singleton]
      congr 1
      split <;> rfl
    rw [e, List.map_append, List.map_map]
    have e2 : ((if f x.1 then by_ else [x.1]).map ((fun z : UInt8 × Int => z.2) ∘ fun y => (y, x.2))) = List.replicate (if f x.1 then by_ else [x.1]).length x.2 := List.map_const'
    rw [e2, comp_replicate, List.length_append]
    have := joinR_len (comp ((replL f by_ l).map (·.2))) ((if f x.1 then by_ else [x.1]).length : Nat) x.2
    simp only [List.length_singleton]
    omega
theorem endsB_eq (b : UInt8) : isIn ((List.range 33).map UInt8.ofNat) b = decide (b.toNat ≤ 32) := by
  unfold isIn
  rw [Bool.eq_iff_iff, List.contains_iff_mem, decide_eq_true_iff, List.mem_map]
  constructor
  · rintro ⟨n, hn, rfl⟩
    rw [List.mem_range] at hn
    simp
    omega
  · intro h
    exact ⟨b.toNat, List.mem_range.2 (by omega), by simp⟩

end Go.Proofs.Ytpbpnffbaelcaaa.mk
