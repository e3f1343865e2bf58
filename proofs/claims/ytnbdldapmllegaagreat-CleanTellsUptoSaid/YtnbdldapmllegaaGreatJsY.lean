/-
  Variables that hold answers, and bits of what has been done, of a region that draws its order.
-/
import Derived.Test.YtnbdldapmllegaaGreatJsG
import Derived.Test.YtnbdldapmllegaaGreatJsW
import Derived.Test.YtnbdldapmllegaaGreatJsL
import Derived.Outline
namespace Go.Proofs.YtnbdldapmllegaaGreat.mk
open Go.RowKit

theorem kind2_ne {w : World} {a b : Nat} {t u : TypeId} {c : Array Value} {fz : Nat × Nat} {d : Array Value} (ha : w.heap[a]? = some (.cells c t fz)) (hb : Whole w b u d) (h : t ≠ u) : a ≠ b := by
  rintro rfl
  unfold Whole at hb
  rw [ha] at hb
  injection hb with hb
  injection hb with _ hb
  exact h hb
/-- a bit is set -/
def upd2 (L : Nat → Bool) (i : Nat) (k : Nat) : Bool := if k = i then true else L k
theorem getD2_upd {listed : Array Bool} {i : Nat} (h : i < listed.size) : (fun k => (listed.setIfInBounds i true).getD k false) = upd2 (fun k => listed.getD k false) i := by
  funext k
  unfold upd2
  by_cases hk : k = i
  · subst hk; rw [if_pos rfl]; simp [Array.getD, h]
  · rw [if_neg hk]
    by_cases hs : k < listed.size
    · simp [Array.getD, hs, Array.getElem_setIfInBounds_ne, Ne.symm hk]
    · simp [Array.getD, hs]
theorem upd2_of {L : Nat → Bool} {i k : Nat} (h : L k = true) : upd2 L i k = true := by unfold upd2; split <;> first | rfl | exact h
theorem getD2_tf {listed : Array Bool} {i : Nat} (h : listed.getD i true = false) : listed.getD i false = false := by
  unfold Array.getD at h ⊢
  split at h
  · rename_i hi; rw [dif_pos hi]; exact h
  · cases h
theorem below_put2 {B g : Nat} {wr w3 : World} {u v : Value} (h : Below B wr w3) (hg : B ≤ g) : Below B wr ((w3.setCell ⟨g, 0, none⟩ u).setCell ⟨g, 1, none⟩ v) := (h.setCell hg _).setCell hg _

/-- a variable of the call's own; if it has been stored, what it holds -/
def VarT (B : Nat) (w : World) (x : Value) (done : Bool) (y : Value) : Prop :=
  ∃ p u v, x = .pointer (some ⟨p, 0, none⟩) ∧ B ≤ p ∧ Whole w p 28 #[u, v] ∧ (done = true → y = .agg #[u, v])
theorem VarT.below {B : Nat} {w w' : World} {x y : Value} {d : Bool} (h : VarT B w x d y) (hb : Below w.heap.size w w') : VarT B w' x d y := by
  obtain ⟨p, u, v, e, h1, h2, h3⟩ := h
  exact ⟨p, u, v, e, h1, h2.below hb h2.lt, h3⟩
theorem VarT.put {B p : Nat} {w : World} {x y a b : Value} {d : Bool} (h : VarT B w x d y) (hp : x ≠ .pointer (some ⟨p, 0, none⟩)) : VarT B ((w.setCell ⟨p, 0, none⟩ a).setCell ⟨p, 1, none⟩ b) x d y := by
  obtain ⟨p', u, v, e, h1, h2, h3⟩ := h
  have hn : p' ≠ p := by rintro rfl; exact hp e
  exact ⟨p', u, v, e, h1, (h2.far _ hn _).far _ hn _, h3⟩
theorem VarT.old {B : Nat} {w : World} {x y : Value} {d : Bool} (h : VarT B w x d y) : x ≠ .pointer (some ⟨w.heap.size, 0, none⟩) := by
  obtain ⟨p, u, v, rfl, h1, h2, h3⟩ := h
  intro e
  injection e with e
  injection e with e
  injection e with e
  have := h2.lt
  omega

end Go.Proofs.YtnbdldapmllegaaGreat.mk
