/-
  Contracts of mark's Dye and Cut.
-/
import Derived.Test.YtfmjnmijhbnnjaaMarkCat
namespace Go.Proofs.Ytfmjnmijhbnnjaa.mk
open Go.RowKit

/-- what a loop over taken runs keeps: the runs made so far, and the taken ones -/
def Seg (os qs : List Int) (j : Nat) (ta : Value) (Bt B : Nat) (w0 : World) (r : Value) (wr : World) : Prop :=
  wr.ownsRow (B + 2) 45 2 r (comp os).length (runCells (comp os)) ∧ wr.ownsRow Bt 45 2 ta (comp qs).length (runCells (comp qs)) ∧ (∀ g, r.ownBlock = some g → ta.ownBlock ≠ some g) ∧ Below (B + 2) w0 wr ∧ j ≤ (comp qs).length
theorem seg_in {os qs : List Int} {ta r v' : Value} {Bt B j : Nat} {w0 wr w' : World} {o n : Int} {lo : Int × Int} {ob : Obj} (hB : B + 2 ≤ wr.heap.size) (hr : (comp qs)[j]? = some lo) (h : Seg os qs j ta Bt B w0 r wr)
    (h1 : w'.ownsRow (B + 2) 45 2 v' (comp (os ++ List.replicate n.toNat o)).length (runCells (comp (os ++ List.replicate n.toNat o))))
    (hg : (wr.alloc ob).grownBy w' r.ownBlock) (hat : v'.ownBlock = r.ownBlock ∨ ∃ k, (wr.alloc ob).heap.size ≤ k ∧ v'.ownBlock = some k) :
    Seg (os ++ List.replicate n.toNat o) qs (j + 1) ta Bt B w0 v' w' := by
  obtain ⟨hown, hta, hne, hbw, _⟩ := h
  have hj : j < (comp qs).length := (List.getElem?_eq_some_iff.1 hr).1
  refine ⟨h1, ?_, ?_, ?_, by omega⟩
  · refine (hta.alloc ob).kept hg ?_
    cases hr : r.ownBlock with
    | none => cases ht : ta.ownBlock <;> simp
    | some g => exact .inr (hne g hr)
  · intro g hgv
    rcases hat with h | ⟨k, hk, h⟩
    · exact hne g (h.symm.trans hgv)
    · rw [h] at hgv
      injection hgv with hgv
      subst hgv
      intro e2
      have := (hta.lt _ e2).2
      simp at hk
      omega
  · exact (hbw.alloc (by omega) ob).grown hg (by simp; omega) (fun k hk => (hown.lt k hk).1)

theorem expand_next {rr : List (Int × Int)} {j : Nat} {l o : Int} (h : rr[j]? = some (l, o)) : expand (rr.take (j + 1)) = expand (rr.take j) ++ List.replicate l.toNat o := by
  rw [take_next h, expand_append]; simp [expand]

def DyeRel (qs : List Int) (c : Int) (ta : Value) (Bt B : Nat) (w0 : World) (r i : Value) (wr : World) : Prop :=
  ∃ j : Nat, i = .int .i64 j ∧ Seg ((expand ((comp qs).take j)).map (max · c)) qs j ta Bt B w0 r wr

/-- the origins of a cut, so far -/
theorem cut_next (x y : List Int) (l a b : Nat) (o : Int) :
    ((x ++ List.replicate l o ++ y).take (min (x.length + l) b)).drop a = ((x ++ List.replicate l o ++ y).take (min x.length b)).drop a ++ List.replicate (min (b : Int) ((x.length : Int) + l) - max (a : Int) x.length).toNat o := by
  have h1 : (x ++ List.replicate l o ++ y).take (min x.length b) = x.take (min x.length b) := by
    rw [List.append_assoc, List.take_append_of_le_length (by omega)]
  have h2 : (x ++ List.replicate l o ++ y).take (min (x.length + l) b) = x.take (min x.length b) ++ List.replicate (min (x.length + l) b - min x.length b) o := by
    rw [List.take_append_of_le_length (by simp; omega), List.take_append, List.take_replicate]
    congr 1
    · by_cases hb : x.length ≤ b
      · rw [List.take_of_length_le (by omega), List.take_of_length_le (by omega)]
      · congr 1; omega
    · congr 1; omega
  rw [h2, h1, List.drop_append, List.drop_replicate]
  congr 2
  rw [List.length_take]
  omega

def CutRel (qs : List Int) (a b : Nat) (ta : Value) (Bt B : Nat) (w0 : World) (r at_ i : Value) (wr : World) : Prop :=
  ∃ j : Nat, i = .int .i64 j ∧ at_ = .int .i64 ((expand ((comp qs).take j)).length : Int) ∧ Seg ((qs.take (min (expand ((comp qs).take j)).length b)).drop a) qs j ta Bt B w0 r wr

theorem extract_list (s : ByteArray) (a b : Nat) : s.extract a b = ⟨((s.data.toList.take b).drop a).toArray⟩ := by
  apply ByteArray.ext
  apply Array.toList_inj.1
  rw [ByteArray.data_extract, Array.toList_extract]
  simp [List.drop_take]

end Go.Proofs.Ytfmjnmijhbnnjaa.mk
