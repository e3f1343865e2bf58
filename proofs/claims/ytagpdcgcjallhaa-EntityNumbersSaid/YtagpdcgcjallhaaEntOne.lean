/-
  What is decoded, from the first byte on; a text that is one reference.
-/
import Derived.Test.YtagpdcgcjallhaaEntPure
namespace Go.Proofs.Ytagpdcgcjallhaa.mk
open Go.RowKit

theorem decE_one {l : List (UInt8 × Int)} {b : UInt8} {o : Int} (hl : l[0]? = some (b, o)) (ho : 0 ≤ o) (hr : refer (l.map (·.1)) = none) : decE l = [(b, o)] ++ decE (l.drop 1) := by
  cases l with
  | nil => cases hl
  | cons x r =>
    injection hl with hl
    subst hl
    rw [decE_next (by simp)]
    have h : nxE ((b, o) :: r) = ([b], 1) := nextE_none hr
    rw [h]
    show putE [b] (worT ((b, o) :: r) (0 + 1)) ++ _ = _
    rw [worT_next (l := (b, o) :: r) (n := 0) (c := (b, o)) rfl, worT_zero, show max (0 : Int) (b, o).2 = o from Int.max_eq_right ho]
    rfl
theorem decE_ref {l : List (UInt8 × Int)} {n : Int} {k : Nat} (hr : refer (l.map (·.1)) = some (n, k)) : decE l = putE (numB n).data.toList (worstO ((l.take k).map (·.2))) ++ decE (l.drop k) := by
  have hne : l ≠ [] := by
    intro e
    subst e
    cases hr
  rw [decE_next hne]
  have h : nxE l = ((numB n).data.toList, k) := nextE_some hr
  rw [h]
  rfl

/-- a text that is one reference -/
theorem decE_whole {L : List (UInt8 × Int)} {n : Int} (hr : refer (L.map (·.1)) = some (n, L.length)) : (decE L).map (·.1) = (numB n).data.toList := by
  rw [decE_ref hr, List.drop_length, decE_nil, List.append_nil, putE_fst]

end Go.Proofs.Ytagpdcgcjallhaa.mk
