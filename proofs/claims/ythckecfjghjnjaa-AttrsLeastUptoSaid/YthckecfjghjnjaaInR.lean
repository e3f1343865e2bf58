/-
  Bytes with origins that may be; what is told of them gives them back.
-/
import Derived.Test.YthckecfjghjnjaaMarkTold
namespace Go.Proofs.Ythckecfjghjnjaa.mk
open Go.RowKit

/-- origins that may be -/
def InR (l : List (UInt8 × Int)) : Prop := ∀ o ∈ l.map (·.2), 0 ≤ o ∧ o ≤ 65536
theorem InR.take {l : List (UInt8 × Int)} (h : InR l) (n : Nat) : InR (l.take n) := fun o ho => h o (by rw [List.map_take] at ho; exact List.mem_of_mem_take ho)
theorem InR.drop {l : List (UInt8 × Int)} (h : InR l) (n : Nat) : InR (l.drop n) := fun o ho => h o (by rw [List.map_drop] at ho; exact List.mem_of_mem_drop ho)
theorem InR.append {a b : List (UInt8 × Int)} (h : InR a) (k : InR b) : InR (a ++ b) := by
  intro o ho
  rw [List.map_append] at ho
  rcases List.mem_append.1 ho with ho | ho
  · exact h o ho
  · exact k o ho
theorem chars_told {l : List (UInt8 × Int)} (h : InR l) : chars (l.map (·.1)) (comp (l.map (·.2))) = l := by
  refine chars_ext ?_ ?_
  · rw [chars_fst]
  · rw [chars_snd, List.length_map]
    have := origins_told h
    rw [List.length_map] at this
    exact this
theorem InR.chars (s : List UInt8) (rs : List (Int × Int)) : InR (mk.chars s rs) := by
  intro o ho
  rw [chars_snd] at ho
  exact origins_in _ _ o ho
theorem InR.sub {a b : List (UInt8 × Int)} (h : InR b) (hs : ∀ x ∈ a, x ∈ b) : InR a := by
  intro o ho
  obtain ⟨x, hx, rfl⟩ := List.mem_map.1 ho
  exact h _ (List.mem_map.2 ⟨x, hs x hx, rfl⟩)

end Go.Proofs.Ythckecfjghjnjaa.mk
