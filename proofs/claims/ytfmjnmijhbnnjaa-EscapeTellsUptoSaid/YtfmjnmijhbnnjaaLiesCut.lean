/-
  A part of a row of bytes with their origins.
-/
import Derived.Test.YtfmjnmijhbnnjaaMarkMem
namespace Go.Proofs.Ytfmjnmijhbnnjaa.mk
open Go.RowKit

theorem Lies.drop {w : World} {B : Nat} {ad : Addr} {xs : List Value} (h : Lies w B (some ad) xs) (n : Nat) : Lies w B (some (ad.add n)) (xs.drop n) := by
  intro j u hu
  rw [List.getElem?_drop] at hu
  obtain ⟨ad', e, hb, hc⟩ := h _ _ hu
  injection e with e
  subst e
  exact ⟨_, rfl, by rw [addr_block]; exact hb, by rw [addr_add]; exact hc⟩
theorem Lies.take {w : World} {B : Nat} {A : Option Addr} {xs : List Value} (h : Lies w B A xs) (n : Nat) : Lies w B A (xs.take n) := by
  intro j u hu
  rw [List.getElem?_take] at hu
  split at hu
  · exact h _ _ hu
  · cases hu
theorem chCells_drop (l : List (UInt8 × Int)) (n : Nat) : chCells (l.drop n) = (chCells l).drop (n * 2) := by
  by_cases h : n ≤ l.length
  · have e : chCells l = chCells (l.take n) ++ chCells (l.drop n) := by rw [← chCells_append, List.take_append_drop]
    rw [e, List.drop_left' (by rw [chCells_length, List.length_take]; omega)]
  · rw [List.drop_of_length_le (by omega), List.drop_of_length_le (by rw [chCells_length]; omega)]; rfl
theorem chCells_take (l : List (UInt8 × Int)) (n : Nat) : chCells (l.take n) = (chCells l).take (n * 2) := by
  by_cases h : n ≤ l.length
  · have e : chCells l = chCells (l.take n) ++ chCells (l.drop n) := by rw [← chCells_append, List.take_append_drop]
    rw [e, List.take_left' (by rw [chCells_length, List.length_take]; omega)]
  · rw [List.take_of_length_le (by omega), List.take_of_length_le (by rw [chCells_length]; omega)]

end Go.Proofs.Ytfmjnmijhbnnjaa.mk
