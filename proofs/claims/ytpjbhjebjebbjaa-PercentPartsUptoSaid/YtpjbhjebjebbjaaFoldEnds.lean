/-
  What the last sentence of FoldTells calls, in the words of one labelled text.
-/
import Derived.Test.YtpjbhjebjebbjaaFoldReplace
import Derived.Test.YtpjbhjebjebbjaaFoldLower
import Derived.Test.YtpjbhjebjebbjaaFoldAlive
import Derived.Test.YtpjbhjebjebbjaaFoldRef
import Derived.Test.YtpjbhjebjebbjaaMarkAll
import Derived.Test.YtpjbhjebjebbjaaMarkRefIs
namespace Go.Proofs.Ytpjbhjebjebbjaa.mk
open Go.RowKit

def txtOf (l : List (UInt8 × Int)) : ByteArray := ⟨(l.map (·.1)).toArray⟩
def runN (l : List (UInt8 × Int)) : Nat := (comp (l.map (·.2))).length
def TellsL (l : List (UInt8 × Int)) (W : World) (e : Ending) (w' : World) : Prop :=
  ∃ D k, e = .returned (.agg #[.string (txtOf l), .slice D (runN l) k]) ∧ Lies w' w'.heap.size D (runCells (comp (l.map (·.2)))) ∧ Below W.heap.size W w'
def RowL (l : List (UInt8 × Int)) (n : Nat) (W : World) (e : Ending) (w' : World) : Prop :=
  ∃ D k, e = .returned (.slice D n k) ∧ Lies w' w'.heap.size D (chCells l) ∧ Below W.heap.size W w'
def SaysB (V : Value) (W : World) (e : Ending) (w' : World) : Prop := e = .returned V ∧ Below W.heap.size W w'
theorem tellsL_of {l : List (UInt8 × Int)} {W : World} {e : Ending} {w' : World} (h : Tells ⟨(l.map (·.1)).toArray⟩ (comp (l.map (·.2))) W e w') : TellsL l W e w' := by
  obtain ⟨v, rfl, ho, hb⟩ := h
  obtain ⟨D, k, rfl, _, _, _⟩ := own_form ho
  exact ⟨D, k, rfl, Lies.own ho, hb⟩
theorem rowL_of {l : List (UInt8 × Int)} {W : World} {e : Ending} {w' : World} (h : ∃ v, e = .returned v ∧ w'.ownsRow W.heap.size 30 2 v l.length (chCells l) ∧ Below W.heap.size W w') : RowL l l.length W e w' := by
  obtain ⟨v, rfl, ho, hb⟩ := h
  obtain ⟨D, k, rfl, _, _, _⟩ := own_form ho
  exact ⟨D, k, rfl, Lies.own ho, hb⟩

theorem isL_true (l : List (UInt8 × Int)) (hr : runN l ≤ 4294967296) (hn : l.length ≤ 1099511627776) (W : World) (D : Option Addr) (k : Nat) (E : Option Addr) (d : Nat) (h1 : Lies W W.heap.size D (runCells (comp (l.map (·.2))))) (h2 : Lies W W.heap.size E (chCells l)) :
    Calls Try.prog 12 #[.agg #[.string (txtOf l), .slice D (runN l) k], .slice E l.length d] W (SaysB (.bool true) W) := by
  refine (refIs_any (txtOf l) D (runN l) k (comp (l.map (·.2))) E l.length d l W h1 rfl hr h2 rfl hn).mono ?_
  rintro e w' ⟨rfl, hb⟩
  refine ⟨ret_bool ?_, hb⟩
  unfold isB
  rw [decide_eq_true_iff]
  exact ⟨rfl, rfl⟩
theorem runN_le (l : List (UInt8 × Int)) : runN l ≤ l.length := by
  have := comp_length_le (l.map (·.2))
  rw [List.length_map] at this
  exact this
theorem replL_filter (f : UInt8 → Bool) (l : List (UInt8 × Int)) : replL f [] l = l.filter (fun x => !f x.1) := by
  induction l with
  | nil => rfl
  | cons x l ih =>
    have e : replL f [] (x :: l) = (if f x.1 then [] else [x]) ++ replL f [] l := by simp [replL]
    rw [e, ih, List.filter_cons]
    cases f x.1 <;> rfl
theorem trimL_length {α : Type} (p : α → Bool) (l : List α) : (trimL p l).length ≤ l.length := by
  unfold trimL
  rw [List.length_reverse]
  refine Nat.le_trans (List.dropWhile_sublist _).length_le ?_
  rw [List.length_reverse]
  exact (List.dropWhile_sublist _).length_le
/-- the number of runs of what is put for bytes is at most the number of bytes -/
theorem replL_runs (f : UInt8 → Bool) (by_ : List UInt8) (l : List (UInt8 × Int)) : runN (replL f by_ l) ≤ l.length := by
  induction l using snocInd with
  | nil => exact Nat.le_refl _
  | append_singleton l x ih =>
    unfold runN at ih ⊢
    have e : replL f by_ (l ++ [x]) = replL f by_ l ++ (if f x.1 then by_ else [x.1]).map (fun y => (y, x.2)) := by
      unfold replL
      rw [List.flatMap_append, List.flatMap_singleton]
      congr 1
      split <;> rfl
    rw [e, List.map_append, List.map_map]
    have e2 : ((if f x.1 then by_ else [x.1]).map ((fun z : UInt8 × Int => z.2) ∘ fun y => (y, x.2))) = List.replicate (if f x.1 then by_ else [x.1]).length x.2 := List.map_const'
    rw [e2, comp_replicate, List.length_append]
    have := joinR_len (comp ((replL f by_ l).map (·.2))) ((if f x.1 then by_ else [x.1]).length : Nat) x.2
    simp only [List.length_singleton]
    omega
theorem endsB_eq (b : UInt8) : isIn ((List.range 33).map UInt8.ofNat) b = decide (b.toNat ≤ 32) := by
  unfold isIn
  rw [Bool.eq_iff_iff, List.contains_iff_mem, decide_eq_true_iff, List.mem_map]
  constructor
  · rintro ⟨n, hn, rfl⟩
    rw [List.mem_range] at hn
    simp
    omega
  · intro h
    exact ⟨b.toNat, List.mem_range.2 (by omega), by simp⟩
theorem noUp_all (l : List (UInt8 × Int)) (s : List UInt8) (h : l.map (·.1) = s) : noUp s = l.all (fun x => x.1 == lowB x.1) := by
  subst h
  unfold noUp
  rw [List.any_map]
  induction l with
  | nil => rfl
  | cons x l ih =>
    rw [List.any_cons, List.all_cons, Bool.not_or, ih]
    congr 1
    show (!upperB x.1) = (x.1 == lowB x.1)
    cases hu : upperB x.1 with
    | true =>
      have h1 := (lowB_up hu).1
      have : (x.1 == lowB x.1) = false := by
        rw [beq_eq_false_iff_ne]
        intro e
        rw [← e] at h1
        omega
      rw [this]; rfl
    | false => rw [lowB_no hu]; simp

end Go.Proofs.Ytpjbhjebjebbjaa.mk
