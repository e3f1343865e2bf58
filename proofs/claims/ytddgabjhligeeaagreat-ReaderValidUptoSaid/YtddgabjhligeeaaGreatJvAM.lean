/-
  The contract of the function that seek's cutter tells: a part is cut, and the runs ahead of it are gone.
-/
import Derived.Test.YtddgabjhligeeaaGreatJvAI
import Derived.Test.YtddgabjhligeeaaGreatJvS
import Derived.Deep.DeepCutAuto
import Derived.Deep.CutBlock
import Derived.Deep.RegionHeld3
import Derived.Deep.QuietTactic
import Derived.BigQuiet
namespace Go.Proofs.YtddgabjhligeeaaGreat.mk
open Go.RowKit

/-- how many bytes the first k runs are -/
def lenTo (rr : List (Int × Int)) (k : Nat) : Nat := (expand (rr.take k)).length
theorem lenTo_zero (rr : List (Int × Int)) : lenTo rr 0 = 0 := by simp [lenTo, expand]
theorem lenTo_next {rr : List (Int × Int)} {k : Nat} {l o : Int} (h : rr[k]? = some (l, o)) : lenTo rr (k + 1) = lenTo rr k + l.toNat := by
  unfold lenTo
  rw [expand_next h, List.length_append, List.length_replicate]
theorem lenTo_all {rr : List (Int × Int)} {k : Nat} (h : rr.length ≤ k) : lenTo rr k = (expand rr).length := by
  unfold lenTo; rw [List.take_of_length_le h]
theorem expand_split (rr : List (Int × Int)) (k n : Nat) : expand rr = expand (rr.take k) ++ expand ((rr.drop k).take n) ++ expand (rr.drop (k + n)) := by
  rw [← expand_append, ← expand_append]
  congr 1
  rw [List.append_assoc, ← List.drop_drop, List.take_append_drop, List.take_append_drop]
theorem lenTo_add (rr : List (Int × Int)) (k n : Nat) : lenTo rr (k + n) = lenTo rr k + (expand ((rr.drop k).take n)).length := by
  unfold lenTo
  rw [List.take_add, expand_append, List.length_append]
theorem lenTo_le (rr : List (Int × Int)) (k : Nat) : lenTo rr k ≤ (expand rr).length := by
  have h := expand_split rr k 0
  have := congrArg List.length h
  rw [List.length_append, List.length_append] at this
  unfold lenTo
  omega
theorem cut_mid {α : Type} (x y z : List α) (f t : Nat) (h1 : x.length ≤ f) (h2 : x.length ≤ t) (h3 : t ≤ x.length + y.length) : (y.take (t - x.length)).drop (f - x.length) = ((x ++ y ++ z).take t).drop f := by
  have e1 : (x ++ y ++ z).take t = x ++ y.take (t - x.length) := by
    rw [List.append_assoc, List.take_append, List.take_of_length_le h2, List.take_append, show t - x.length - y.length = 0 by omega, List.take_zero, List.append_nil]
  have e2 : x.drop f = [] := List.drop_of_length_le h1
  rw [e1, List.drop_append, e2, List.nil_append]
theorem pre_good {n : Nat} {rs : List (Int × Int)} (hg : Good rs) (h : (expand rs).length ≤ n) : pre n rs = expand rs := by
  induction rs using snocInd with
  | nil => rfl
  | append_singleton rs r ih =>
    have hr := hg r (by simp)
    rw [expand_append, List.length_append] at h
    have h1 : (expand [r]).length = r.1.toNat := by simp [expand]
    rw [pre_snoc, ih (fun x hx => hg x (by simp [hx])) (by omega), expand_append, show min r.1.toNat (n - (expand rs).length) = r.1.toNat by omega, nearO_in hr.2.1 hr.2.2]
    simp [expand]
theorem origins_good {n : Nat} {rs : List (Int × Int)} (hg : Good rs) (h : (expand rs).length = n) : origins n rs = expand rs := by
  unfold origins
  rw [pre_good hg (by omega), h]
  simp
theorem lies_front {w : World} {B : Nat} {A : Option Addr} {a b : List (Int × Int)} (h : Lies w B A (runCells (a ++ b))) : Lies w B A (runCells a) := by
  intro j u hu
  refine h j u ?_
  rw [runCells_append, List.getElem?_append_left (List.getElem?_eq_some_iff.1 hu).1]
  exact hu
theorem lies_tail {w : World} {B : Nat} {ad : Addr} {x : Int × Int} {l : List (Int × Int)} (h : Lies w B (some ad) (runCells (x :: l))) : Lies w B (some (ad.add 2)) (runCells l) := by
  intro j u hu
  obtain ⟨ad', e, hb, hc⟩ := h (2 + j) u (by rw [show 2 + j = j + 1 + 1 by omega]; exact hu)
  injection e with e
  subst e
  exact ⟨_, rfl, by rw [addr_block]; exact hb, by rw [addr_add]; exact hc⟩

theorem Moved.drewN {S : Nat → Prop} {a w : World} (h : Moved S a w) (n : Nat) : Moved S a (w.drewN n) := ⟨h.os, h.tape, h.output, h.size, h.block⟩
theorem addr_two (ad : Addr) : ad.add 2 = ⟨ad.block, ad.off + 2, none⟩ := by unfold Addr.add; rw [if_neg (by omega)]
theorem addr_zero (ad : Addr) : ad.add (0 * 2) = ad := by unfold Addr.add; rfl
theorem Moved.setNew {S : Nat → Prop} {a w : World} (h : Moved S a w) {p : Addr} (hp : a.heap.size ≤ p.block) (u : Value) : Moved S a (w.setCell p u) :=
  ⟨h.os, h.tape, h.output, by have := h.size; simpa [World.setCell] using this, fun k hk hs => (Below.heap_setCell w p u k (by omega)).trans (h.block k hk hs)⟩
def CutRel2 (rr : List (Int × Int)) (k : Nat) (n e : Value) : Prop :=
  ∃ j : Nat, k + j ≤ rr.length ∧ n = .int .i64 (j : Int) ∧ e = .int .i64 (lenTo rr (k + j) : Int)
end Go.Proofs.YtddgabjhligeeaaGreat.mk
