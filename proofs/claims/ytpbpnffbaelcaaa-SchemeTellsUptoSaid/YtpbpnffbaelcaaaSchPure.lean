/-
  Plain mathematics of schemes: which addresses are safe. No call is named here.
-/
import Derived.Test.YtpbpnffbaelcaaaUrlPure
import Derived.Test.YtpbpnffbaelcaaaSchKnown
import Derived.Test.YtpbpnffbaelcaaaMarkWorst
import Derived.Test.YtpbpnffbaelcaaaLtCh
namespace Go.Proofs.Ytpbpnffbaelcaaa.mk
open Go.RowKit

theorem colon_not : letterB 58 = false ∧ laterB 58 = false := by decide
theorem colonF_first (l : List UInt8) (k : Nat) (h : 0 ≤ colonF l k) :
    ∃ i : Nat, colonF l k = ((k + i : Nat) : Int) ∧ l[i]? = some 58 ∧ ∀ j, j < i → l[j]? ≠ some 58 := by
  induction l generalizing k with
  | nil => exact absurd h (by show ¬ (0 : Int) ≤ -1; decide)
  | cons b l ih =>
    unfold colonF at h ⊢
    split
    · rename_i hb
      exact ⟨0, rfl, by simp [hb.1], fun j hj => absurd hj (Nat.not_lt_zero _)⟩
    · rename_i hb
      rw [if_neg hb] at h
      split
      · rename_i hl
        rw [if_pos hl] at h
        obtain ⟨i, hi, hat, hno⟩ := ih (k + 1) h
        refine ⟨i + 1, by rw [hi]; congr 1; omega, by simpa using hat, fun j hj => ?_⟩
        rcases j with _ | j
        · intro e
          simp only [List.getElem?_cons_zero, Option.some.injEq] at e
          subst e
          rw [colon_not.1, colon_not.2] at hl
          simp at hl
        · simpa using hno j (by omega)
      · rename_i hl
        rw [if_neg hl] at h
        exact absurd h (by decide)
/-- of an address with a scheme the first colon is the scheme's -/
theorem findI_colon {R : List (UInt8 × Int)} (h : 0 ≤ colonI R) : findI (R.map (·.1)) [58] 0 = colonI R := by
  obtain ⟨i, hi, hat, hno⟩ := colonF_first (R.map fun x : UInt8 × Int => x.1) 0 h
  unfold colonI
  rw [hi, Nat.zero_add]
  have hlt : i < (R.map (·.1)).length := (List.getElem?_eq_some_iff.1 hat).1
  refine findI_first (a := 0) (by unfold atN; omega) (Nat.zero_le _) (Nat.le_of_lt hlt) (by rw [occ_one, hat]; simp) (fun j _ hj => ?_)
  rw [occ_one, beq_eq_false_iff_ne]
  exact hno j hj

/-- whether the scheme and its colon are trusted -/
def trustB (R : List (UInt8 × Int)) : Bool := worstO ((R.take (colonI R + 1).toNat).map (·.2)) == 0
/-- whether what is ready is safe -/
def safeB (R : List (UInt8 × Int)) : Bool := if colonI R < 0 then true else knownB (txtOf (schemeL R)) && trustB R
theorem safeB_none {R : List (UInt8 × Int)} (h : colonI R < 0) : safeB R = true := by unfold safeB; rw [if_pos h]
theorem safeB_some {R : List (UInt8 × Int)} (h : 0 ≤ colonI R) : safeB R = (knownB (txtOf (schemeL R)) && trustB R) := by unfold safeB; rw [if_neg (by omega)]
theorem scheme_size {R : List (UInt8 × Int)} (h : 0 ≤ colonI R) : ((txtOf (schemeL R)).size : Int) = colonI R := by
  have hb := colonI_bd R
  rw [txtOf_size]
  unfold schemeL
  rw [List.length_map, List.length_take]
  omega
theorem known_none : knownB (txtOf []) = false := by decide +kernel
/-- what is told: ready, if it is safe -/
def filterL (R : List (UInt8 × Int)) : List (UInt8 × Int) := if safeB R then R else []
theorem filterL_length (R : List (UInt8 × Int)) : (filterL R).length ≤ R.length := by
  unfold filterL; split
  · exact Nat.le_refl _
  · exact Nat.zero_le _
theorem filterL_true {R : List (UInt8 × Int)} (h : safeB R = true) : filterL R = R := by unfold filterL; rw [if_pos h]
theorem filterL_false {R : List (UInt8 × Int)} (h : safeB R = false) : filterL R = [] := by unfold filterL; rw [if_neg (by simp [h])]

theorem worstO_ge (l : List Int) (a : Int) : a ≤ l.foldl max a ∧ ∀ o ∈ l, o ≤ l.foldl max a := by
  induction l generalizing a with
  | nil => exact ⟨Int.le_refl _, fun o h => by cases h⟩
  | cons x l ih =>
    rw [List.foldl_cons]
    obtain ⟨h1, h2⟩ := ih (max a x)
    refine ⟨by omega, fun o h => ?_⟩
    rcases List.mem_cons.1 h with rfl | h
    · omega
    · exact h2 o h
/-- with origins that are not trusted only what has no scheme is safe -/
theorem safeB_dyed {R : List (UInt8 × Int)} (h : ∀ x ∈ R, x.2 ≠ 0 ∧ 0 ≤ x.2) : safeB R = !decide (0 ≤ colonI R) := by
  by_cases hc : colonI R < 0
  · rw [safeB_none hc, decide_eq_false (by omega)]; rfl
  · have hb := colonI_bd R
    have h0 : 0 ≤ colonI R := by omega
    rw [safeB_some h0, decide_eq_true h0]
    have ht : trustB R = false := by
      unfold trustB
      rw [beq_eq_false_iff_ne]
      have hlt : 0 < R.length := by omega
      have hm : R[0]'hlt ∈ R.take (colonI R + 1).toNat := by
        rw [List.mem_take_iff_getElem]
        exact ⟨0, by omega, rfl⟩
      have hx := h _ (List.getElem_mem hlt)
      have hg := (worstO_ge ((R.take (colonI R + 1).toNat).map (·.2)) 0).2 _ (List.mem_map.2 ⟨_, hm, rfl⟩)
      unfold worstO
      omega
    rw [ht, Bool.and_false]; rfl

end Go.Proofs.Ytpbpnffbaelcaaa.mk
