/-
  Trees as HTML, purely: the parts that are put; what may be put; that what is put is valid.
-/
import Derived.Test.YtddgabjhligeeaaGreatJvG
import Derived.Test.YtddgabjhligeeaaGreatJvQ
import Derived.Test.YtddgabjhligeeaaGreatJvS
import Derived.Test.YtddgabjhligeeaaGreatJvY
import Derived.Test.YtddgabjhligeeaaGreatJvZ
namespace Go.Proofs.YtddgabjhligeeaaGreat.mk
open Go.RowKit

end Go.Proofs.YtddgabjhligeeaaGreat.mk

namespace Go.Proofs.YtddgabjhligeeaaGreat.mk
open Go.RowKit

theorem sel_mem_to {p : Nat → Bool} {L : List PA} {x : PA} : ∀ k, x ∈ selTo p L k → x ∈ L := by
  intro k
  induction k with
  | zero => intro h; cases h
  | succ k ih =>
    intro h
    rw [selTo] at h
    rcases List.mem_append.1 h with h | h
    · exact ih h
    · split at h
      · cases hk : L[k]? with
        | none => rw [hk] at h; cases h
        | some y =>
          rw [hk] at h
          have : x = y := by simpa using h
          subst this
          exact List.mem_of_getElem? hk
      · cases h
theorem onceA_sub {L : List PA} {x : PA} (h : x ∈ onceA L) : x ∈ L := sel_mem_to _ h
/-! ### What is valid -/
theorem valid_append {a : List UInt8} (h : validB a = true) (b : List UInt8) : validB (a ++ b) = validB b := by
  induction a using partInd with
  | nil => rfl
  | next l hl ih =>
    rw [validB_next hl, Bool.and_eq_true, Bool.not_eq_true'] at h
    have hr : (nx l).2 = true := by
      have := h.1
      unfold soughtB at this
      rw [Bool.or_eq_false_iff] at this
      simpa using this.1
    have hb := nx_bd hl
    have e : l ++ b = l.take (nx l).1 ++ (l.drop (nx l).1 ++ b) := by rw [← List.append_assoc, List.take_append_drop]
    have hn : nx (l ++ b) = nx l := by rw [e]; exact nx_right hr _
    have hs : soughtB (l ++ b) = false := by
      have := h.1
      unfold soughtB at this ⊢
      rw [hn]
      cases l with
      | nil => exact absurd rfl hl
      | cons x l => exact this
    have hd : (l ++ b).drop (nx l).1 = l.drop (nx l).1 ++ b := by rw [List.drop_append, show (nx l).1 - l.length = 0 by omega, List.drop_zero]
    rw [validB_next (by simp [hl]), hs, hn, hd, ih h.2]
    rfl
theorem valid_both {a b : List UInt8} (h : validB a = true) (h2 : validB b = true) : validB (a ++ b) = true := by rw [valid_append h, h2]
theorem valid_low {b : UInt8} (h0 : 1 ≤ b.toNat) (h1 : b.toNat < 128) (l : List UInt8) : validB (b :: l) = validB l := by
  have hn : nx (b :: l) = (1, true) := by
    have hs : shp b.toNat = (1, 0, 0) := by unfold shp; rw [if_pos h1]
    simp only [nx, hs]
    rfl
  have hs : soughtB (b :: l) = false := by
    unfold soughtB
    rw [hn]
    simp only [Bool.not_true, Bool.false_or, List.head?_cons]
    rw [beq_eq_false_iff_ne]
    intro h
    injection h with h
    subst h
    simp at h0
  rw [validB_next (by simp), hs, hn]
  rfl
theorem valid_lows {l : List UInt8} (h : ∀ b ∈ l, 1 ≤ b.toNat ∧ b.toNat < 128) : validB l = true := by
  induction l with
  | nil => exact validB_nil
  | cons b l ih =>
    have hb := h b (by simp)
    rw [valid_low hb.1 hb.2]
    exact ih fun c hc => h c (List.mem_cons_of_mem _ hc)
theorem fit_high {m lo hi : Nat} {t : List UInt8} (hlo : 128 ≤ lo) : ∀ c ∈ t.take (fit m lo hi t), 128 ≤ c.toNat := by
  induction t generalizing m lo hi with
  | nil => intro c hc; simp at hc
  | cons x t ih =>
    cases m with
    | zero => intro c hc; simp [fit] at hc
    | succ m =>
      unfold fit
      split
      · rename_i hx
        intro c hc
        rw [List.take_succ_cons] at hc
        rcases List.mem_cons.1 hc with rfl | hc
        · omega
        · exact ih (by omega) c hc
      · intro c hc; simp at hc
theorem shp_high {n : Nat} (h : 128 ≤ n) : (shp n).1 = 0 ∨ 128 ≤ (shp n).2.1 := by
  unfold shp
  rw [if_neg (by omega)]
  repeat' split
  all_goals first | (left; rfl) | (right; decide)
theorem nx_high {b : UInt8} {t : List UInt8} (hb : 128 ≤ b.toNat) (hr : (nx (b :: t)).2 = true) : ∀ c ∈ (b :: t).take (nx (b :: t)).1, 128 ≤ c.toNat := by
  simp only [nx, decide_eq_true_eq] at hr
  rcases shp_high hb with h | h
  · omega
  · intro c hc
    simp only [nx] at hc
    rw [List.take_succ_cons] at hc
    rcases List.mem_cons.1 hc with rfl | hc
    · exact hb
    · exact fit_high h c hc
theorem nx_low {b : UInt8} {t : List UInt8} (hb : b.toNat < 128) : nx (b :: t) = (1, true) := by
  have hs : shp b.toNat = (1, 0, 0) := by unfold shp; rw [if_pos hb]
  simp only [nx, hs]
  rfl
end Go.Proofs.YtddgabjhligeeaaGreat.mk
