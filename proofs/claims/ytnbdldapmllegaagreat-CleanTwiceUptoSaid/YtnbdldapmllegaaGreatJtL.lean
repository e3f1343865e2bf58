/-
  A region that draws its order, by an invariant over what has been done.
-/
import Derived.Test.YtnbdldapmllegaaGreatJtH
import Derived.Orders
namespace Go.Proofs.YtnbdldapmllegaaGreat.mk
open Go.RowKit

theorem ready_mem {md : Region.Mode} {ops : Array Oper} {listed : Array Bool} {i : Nat} (h : i ∈ Region.ready md ops listed) : i < ops.size ∧ listed.getD i true = false ∧ ((ops[i]?).map (·.after.all fun e => !Region.binds md e || listed.getD e.on false)).getD false = true := by
  unfold Region.ready at h
  rw [List.mem_filter, List.mem_range] at h
  simpa using h
theorem count_set {l : List Bool} {i : Nat} (h : l[i]? = some false) : ((l.set i true).filter (fun b => !b)).length + 1 = (l.filter (fun b => !b)).length := by
  induction l generalizing i with
  | nil => simp at h
  | cons b l ih =>
    cases i with
    | zero => simp at h; subst h; simp
    | succ i =>
      have := ih (i := i) (by simpa using h)
      rw [List.set_cons_succ]
      cases b <;> simp <;> omega
theorem getD_false {listed : Array Bool} {i n : Nat} (hs : listed.size = n) (hi : i < n) (h : listed.getD i true = false) : listed.toList[i]? = some false := by
  subst hs
  simp [Array.getD, hi] at h
  simp [hi, h]

theorem wpAny_inv {P : Program} {ops : Array Oper} {Q : Exit → Act → World → Prop} {md : Region.Mode} (I : Array Bool → Act → World → Prop)
    (hend : ∀ listed a w, I listed a w → Region.ready md ops listed = [] → Q .normal a w)
    (hstep : ∀ listed a w i, I listed a w → i ∈ Region.ready md ops listed → wpOp P ops Q i (I (listed.setIfInBounds i true)) a w) :
    ∀ (fuel : Nat) (listed : Array Bool) (a : Act) (w : World), listed.size = ops.size → (listed.toList.filter (fun b => !b)).length ≤ fuel → I listed a w → wpAny P md ops Q fuel listed a w := by
  intro fuel
  induction fuel with
  | zero =>
    intro listed a w hs hc hI
    have hr : Region.ready md ops listed = [] := by
      cases hq : Region.ready md ops listed with
      | nil => rfl
      | cons x xs =>
        obtain ⟨h1, h2, _⟩ := ready_mem (i := x) (by rw [hq]; simp : x ∈ Region.ready md ops listed)
        have := count_set (getD_false hs h1 h2)
        omega
    exact ⟨hr, hend listed a w hI hr⟩
  | succ fuel ih =>
    intro listed a w hs hc hI
    refine ⟨hend listed a w hI, fun i hi => ?_⟩
    obtain ⟨h1, h2, _⟩ := ready_mem hi
    have h3 := count_set (getD_false hs h1 h2)
    refine wpOp_mono (fun a' w' h => ih _ a' w' (by simpa using hs) ?_ h) (hstep listed a w i hI hi)
    rw [Array.toList_setIfInBounds]
    omega
theorem ready_nil {md : Region.Mode} {ops : Array Oper} {listed : Array Bool} (hs : listed.size = ops.size) (hac : ((List.range ops.size).all fun i => ((ops[i]?).map fun o => o.after.all fun e => decide (e.on < i)).getD true) = true) (h : Region.ready md ops listed = []) :
    ∀ i, i < ops.size → listed.getD i false = true := by
  intro i
  induction i using Nat.strongRecOn with
  | _ i ih =>
    intro hi
    cases hx : listed.getD i false with
    | true => rfl
    | false =>
      exfalso
      have hm : i ∈ Region.ready md ops listed := by
        unfold Region.ready
        rw [List.mem_filter, List.mem_range]
        refine ⟨hi, ?_⟩
        have h1 := List.all_eq_true.1 hac i (List.mem_range.2 hi)
        have h2 : listed.getD i true = false := by simp [Array.getD, hs, hi] at hx ⊢; exact hx
        rw [h2]
        simp only [Array.getElem?_eq_getElem hi, Option.map_some, Option.getD_some, Bool.not_false, Bool.true_and] at h1 ⊢
        rw [Array.all_eq_true] at h1 ⊢
        intro j hj
        have := h1 j hj
        simp only [decide_eq_true_eq] at this
        rw [ih _ this (by omega)]
        simp
      rw [h] at hm
      cases hm

end Go.Proofs.YtnbdldapmllegaaGreat.mk
