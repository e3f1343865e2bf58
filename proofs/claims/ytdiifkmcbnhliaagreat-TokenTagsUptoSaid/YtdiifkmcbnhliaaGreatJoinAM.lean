/-
  The contract of the function that seek's cutter tells: a part is cut, and the runs ahead of it are gone.
-/
import Derived.Test.YtdiifkmcbnhliaaGreatJoinAJ
import Derived.Test.YtdiifkmcbnhliaaGreatJoinV
import Derived.Deep.DeepCutAuto
import Derived.Deep.CutBlock
import Derived.Deep.RegionHeld3
import Derived.Deep.QuietTactic
import Derived.BigQuiet
namespace Go.Proofs.YtdiifkmcbnhliaaGreat.mk
open Go.RowKit

/-- how many bytes the first k runs are -/
def lenTo (rr : List (Int × Int)) (k : Nat) : Nat := (expand (rr.take k)).length
theorem lenTo_zero (rr : List (Int × Int)) : lenTo rr 0 = 0 := by simp [lenTo, expand]
theorem lenTo_next {rr : List (Int × Int)} {k : Nat} {l o : Int} (h : rr[k]? = some (l, o)) : lenTo rr (k + 1) = lenTo rr k + l.toNat := by
  unfold lenTo
  rw [expand_next h, List.length_append, List.length_replicate]
theorem lenTo_all {rr : List (Int × Int)} {k : Nat} (h : rr.length ≤ k) : lenTo rr k = (expand rr).length := by
  unfold lenTo; rw [List.take_of_length_le h]
theorem expand_split (rr : List (Int × Int)) (k n : Nat) : expand rr = expand (rr.take k) ++ expand ((rr.drop k).take n) ++ expand (rr.drop (k + n)) := by
  rw [← expand_append, ← expand_append]
  congr 1
  rw [List.append_assoc, ← List.drop_drop, List.take_append_drop, List.take_append_drop]
theorem lenTo_add (rr : List (Int × Int)) (k n : Nat) : lenTo rr (k + n) = lenTo rr k + (expand ((rr.drop k).take n)).length := by
  unfold lenTo
  rw [List.take_add, expand_append, List.length_append]
theorem lenTo_le (rr : List (Int × Int)) (k : Nat) : lenTo rr k ≤ (expand rr).length := by
  have h := expand_split rr k 0
  have := congrArg List.length h
  rw [List.length_append, List.length_append] at this
  unfold lenTo
  omega
theorem cut_mid {α : Type} (x y z : List α) (f t : Nat) (h1 : x.length ≤ f) (h2 : x.length ≤ t) (h3 : t ≤ x.length + y.length) : (y.take (t - x.length)).drop (f - x.length) = ((x ++ y ++ z).take t).drop f := by
  have e1 : (x ++ y ++ z).take t = x ++ y.take (t - x.length) := by
    rw [List.append_assoc, List.take_append, List.take_of_length_le h2, List.take_append, show t - x.length - y.length = 0 by omega, List.take_zero, List.append_nil]
  have e2 : x.drop f = [] := List.drop_of_length_le h1
  rw [e1, List.drop_append, e2, List.nil_append]
theorem pre_good {n : Nat} {rs : List (Int × Int)} (hg : Good rs) (h : (expand rs).length ≤ n) : pre n rs = expand rs := by
  induction rs using snocInd with
  | nil => rfl
  | append_singleton rs r ih =>
    have hr := hg r (by simp)
    rw [expand_append, List.length_append] at h
    have h1 : (expand [r]).length = r.1.toNat := by simp [expand]
    rw [pre_snoc, ih (fun x hx => hg x (by simp [hx])) (by omega), expand_append, show min r.1.toNat (n - (expand rs).length) = r.1.toNat by omega, nearO_in hr.2.1 hr.2.2]
    simp [expand]
theorem origins_good {n : Nat} {rs : List (Int × Int)} (hg : Good rs) (h : (expand rs).length = n) : origins n rs = expand rs := by
  unfold origins
  rw [pre_good hg (by omega), h]
  simp
theorem lies_front {w : World} {B : Nat} {A : Option Addr} {a b : List (Int × Int)} (h : Lies w B A (runCells (a ++ b))) : Lies w B A (runCells a) := by
  intro j u hu
  refine h j u ?_
  rw [runCells_append, List.getElem?_append_left (List.getElem?_eq_some_iff.1 hu).1]
  exact hu
theorem lies_tail {w : World} {B : Nat} {ad : Addr} {x : Int × Int} {l : List (Int × Int)} (h : Lies w B (some ad) (runCells (x :: l))) : Lies w B (some (ad.add 2)) (runCells l) := by
  intro j u hu
  obtain ⟨ad', e, hb, hc⟩ := h (2 + j) u (by rw [show 2 + j = j + 1 + 1 by omega]; exact hu)
  injection e with e
  subst e
  exact ⟨_, rfl, by rw [addr_block]; exact hb, by rw [addr_add]; exact hc⟩

theorem Moved.drewN {S : Nat → Prop} {a w : World} (h : Moved S a w) (n : Nat) : Moved S a (w.drewN n) := ⟨h.os, h.tape, h.output, h.size, h.block⟩
theorem addr_two (ad : Addr) : ad.add 2 = ⟨ad.block, ad.off + 2, none⟩ := by unfold Addr.add; rw [if_neg (by omega)]
theorem addr_zero (ad : Addr) : ad.add (0 * 2) = ad := by unfold Addr.add; rfl
/-- what the function holds: the runs from the k-th on, and where that one begins -/
def CutSt (w : World) (bv ba bs : Nat) (s : ByteArray) (v0 : Value) (rr : List (Int × Int)) (k : Nat) : Prop :=
  k ≤ rr.length ∧ Whole w ba 3 #[.int .i64 (lenTo rr k : Int)] ∧ Whole w bs 24 #[.string s, v0] ∧
    ∃ A n c, Whole w bv 22 #[.slice A n c] ∧ (rr.drop k).length = n ∧ n ≤ c ∧ Lies w bv A (runCells (rr.drop k))
theorem CutSt.moved {w w' : World} {bv ba bs : Nat} {s : ByteArray} {v0 : Value} {rr : List (Int × Int)} {k : Nat} (h : CutSt w bv ba bs s v0 rr k) (hb : Below w.heap.size w w') : CutSt w' bv ba bs s v0 rr k := by
  obtain ⟨h1, h2, h3, A, n, c, h4, h5, h6, h7⟩ := h
  have := h4.lt
  exact ⟨h1, h2.below hb h2.lt, h3.below hb h3.lt, A, n, c, h4.below hb h4.lt, h5, h6, h7.keep fun p hp => hb.cell (by omega)⟩
theorem CutSt.far {w : World} {bv ba bs : Nat} {s : ByteArray} {v0 : Value} {rr : List (Int × Int)} {k : Nat} (h : CutSt w bv ba bs s v0 rr k) (p : Addr) (hp : bv < p.block ∧ ba < p.block ∧ bs < p.block) (u : Value) : CutSt (w.setCell p u) bv ba bs s v0 rr k := by
  obtain ⟨h1, h2, h3, A, n, c, h4, h5, h6, h7⟩ := h
  refine ⟨h1, h2.far _ (by omega) _, h3.far _ (by omega) _, A, n, c, h4.far _ (by omega) _, h5, h6, h7.keep fun q hq => ?_⟩
  exact World.cell?_setCell_other _ _ _ _ (by intro e; subst e; omega)
theorem Moved.setNew {S : Nat → Prop} {a w : World} (h : Moved S a w) {p : Addr} (hp : a.heap.size ≤ p.block) (u : Value) : Moved S a (w.setCell p u) :=
  ⟨h.os, h.tape, h.output, by have := h.size; simpa [World.setCell] using this, fun k hk hs => (Below.heap_setCell w p u k (by omega)).trans (h.block k hk hs)⟩
def CutRel1 (bv ba bs : Nat) (s : ByteArray) (v0 : Value) (rr : List (Int × Int)) (f : Nat) (w1 : World) (_ : Value) (wr : World) : Prop :=
  ∃ k, CutSt wr bv ba bs s v0 rr k ∧ lenTo rr k ≤ f ∧ Moved (Two bv ba) w1 wr
def boxN (w : World) (b : Nat) : Nat := sliceN ((w.cell? ⟨b, 0, none⟩).getD .nilFunc)
theorem boxN_lt {w w' : World} {b n n' c c' : Nat} {t : TypeId} {A A' : Option Addr} (h : Whole w b t #[.slice A n c]) (h' : Whole w' b t #[.slice A' n' c']) (hlt : n' < n) : boxN w' b < boxN w b := by
  have e1 : w.cell? ⟨b, 0, none⟩ = some (.slice A n c) := h.at_ 0
  have e2 : w'.cell? ⟨b, 0, none⟩ = some (.slice A' n' c') := h'.at_ 0
  unfold boxN
  rw [e1, e2]
  exact hlt
def CutRel2 (rr : List (Int × Int)) (k : Nat) (n e : Value) : Prop :=
  ∃ j : Nat, k + j ≤ rr.length ∧ n = .int .i64 (j : Int) ∧ e = .int .i64 (lenTo rr (k + j) : Int)
def CutAt (bv ba bs : Nat) (s : ByteArray) (v0 : Value) (rr : List (Int × Int)) (f : Nat) (w1 wr : World) : Prop :=
  ∃ k, CutSt wr bv ba bs s v0 rr k ∧ lenTo rr k ≤ f ∧ Moved (Two bv ba) w1 wr
def CutPost (bv ba bs : Nat) (s : ByteArray) (v0 : Value) (rr : List (Int × Int)) (f t : Nat) (w : World) (e : Ending) (w' : World) : Prop :=
  ∃ v k, e = .returned (.agg #[.string ⟨((s.data.toList.take t).drop f).toArray⟩, v]) ∧ w'.ownsRow w.heap.size 55 2 v (comp (((expand rr).take t).drop f)).length (runCells (comp (((expand rr).take t).drop f))) ∧
    CutSt w' bv ba bs s v0 rr k ∧ lenTo rr k ≤ f ∧ Moved (Two bv ba) w w'

/-- a run is gone past -/
theorem CutSt.next {w : World} {bv ba bs k n c n' c' : Nat} {s : ByteArray} {v0 : Value} {rr : List (Int × Int)} {A A' : Option Addr} {ad : Addr} {l o : Int} (hne : bv ≠ ba ∧ bs ≠ ba ∧ bs ≠ bv ∧ bv < ba) (hk : rr[k]? = some (l, o)) (hWa : Whole w ba 3 #[.int .i64 (lenTo rr k : Int)]) (hWs : Whole w bs 24 #[.string s, v0])
    (hWv : Whole w bv 22 #[.slice A n c]) (hn : (rr.drop k).length = n) (hnc : n ≤ c) (hA : A = some ad) (hL : Lies w bv A (runCells (rr.drop k))) (hl : 1 ≤ l) (hA' : 1 < c → A' = some (ad.add 2)) (hn' : n' = n - 1) (hc' : c' = c - 1) :
    CutSt ((w.setCell ⟨ba, 0, none⟩ (.int .i64 ((lenTo rr k : Int) + l))).setCell ⟨bv, 0, none⟩ (.slice A' n' c')) bv ba bs s v0 rr (k + 1) := by
  subst hn' hc'
  obtain ⟨h1, h2, h3, h4⟩ := hne
  have hkl : k < rr.length := (List.getElem?_eq_some_iff.1 hk).1
  have hd : rr.drop k = (l, o) :: rr.drop (k + 1) := by
    rw [List.drop_eq_getElem_cons hkl]
    rw [List.getElem?_eq_getElem hkl] at hk
    injection hk with hk
    rw [hk]
  have hval : (lenTo rr k : Int) + l = (lenTo rr (k + 1) : Int) := by rw [lenTo_next hk]; omega
  refine ⟨hkl, ?_, ?_, A', n - 1, c - 1, ?_, ?_, by omega, ?_⟩
  · rw [← hval]; exact (hWa.put 0 _).far _ (Ne.symm h1) _
  · exact (hWs.far _ h2 _).far _ h3 _
  · exact (hWv.far _ h1 _).put 0 _
  · rw [hd] at hn; simp at hn; simp; omega
  · subst hA
    rw [hd] at hL hn
    by_cases hc : 1 < c
    · rw [hA' hc]
      refine (lies_tail hL).keep fun p hp => ?_
      rw [World.cell?_setCell_other _ _ _ _ (by intro e; subst e; simp at hp), World.cell?_setCell_other _ _ _ _ (by intro e; subst e; simp at hp; omega)]
    · have h0 : rr.drop (k + 1) = [] := List.eq_nil_of_length_eq_zero (by simp at hn ⊢; omega)
      rw [h0]
      exact Lies.empty _ _ _

end Go.Proofs.YtdiifkmcbnhliaaGreat.mk
