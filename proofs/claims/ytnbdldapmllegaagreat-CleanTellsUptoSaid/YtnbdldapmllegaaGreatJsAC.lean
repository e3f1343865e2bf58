/-
  Answers, labelled texts, in memory of their own, and in variables.
-/
import Derived.Test.YtnbdldapmllegaaGreatJsY
import Derived.Test.YtnbdldapmllegaaGreatJsAA
namespace Go.Proofs.YtnbdldapmllegaaGreat.mk
open Go.RowKit

def ResO (l : Ch) (B : Nat) (w : World) (x : Value) : Prop := ∃ t : LT, x = .agg #[.string t.s, .slice t.A t.n t.c] ∧ t.ch = l ∧ OwnL w B t
theorem ResO.below {l : Ch} {B : Nat} {w w' : World} {x : Value} (h : ResO l B w x) (hb : Below w.heap.size w w') : ResO l B w' x := by
  obtain ⟨t, e, h1, h2⟩ := h
  exact ⟨t, e, h1, h2.below hb⟩
theorem ResO.put {l : Ch} {B p : Nat} {w : World} {x a b : Value} {cs : Array Value} (h : ResO l B w x) (hp : Whole w p 28 cs) : ResO l B ((w.setCell ⟨p, 0, none⟩ a).setCell ⟨p, 1, none⟩ b) x := by
  obtain ⟨t, e, h1, h2⟩ := h
  have hk : ∀ gg, (Value.slice t.A t.n t.c).ownBlock = some gg → gg ≠ p := fun gg e => by
    obtain ⟨cur, hc⟩ := own_kind h2.2.2.2 e
    exact kind2_ne hc hp (by decide)
  exact ⟨t, e, h1, h2.1, h2.2.1, h2.2.2.1, own_far (own_far h2.2.2.2 _ (fun e => hk _ e rfl) _) _ (fun e => hk _ e rfl) _⟩
/-- an answer in a variable -/
def InVarO (l : Ch) (B : Nat) (w : World) (x : Value) : Prop := ∃ y, ResO l B w y ∧ VarT B w x true y
theorem InVarO.get {l : Ch} {B : Nat} {w : World} {x : Value} (h : InVarO l B w x) : ∃ (p : Nat) (t : LT), x = .pointer (some ⟨p, 0, none⟩) ∧ B ≤ p ∧ Whole w p 28 #[.string t.s, .slice t.A t.n t.c] ∧ Hid (t.ch = l ∧ OwnL w B t) := by
  obtain ⟨y, ⟨t, rfl, h1, h2⟩, ⟨p, u, v, rfl, hp, hW, hy⟩⟩ := h
  have e := hy rfl
  simp only [Value.agg.injEq] at e
  have e' := congrArg Array.toList e
  simp only [List.cons.injEq, and_true] at e'
  obtain ⟨rfl, rfl⟩ := e'
  exact ⟨p, t, rfl, hp, hW, h1, h2⟩
theorem resO_told {l : Ch} {B : Nat} {W : World} {e : Ending} {w' : World} (hB : B ≤ W.heap.size) (h : ToldO l W e w') : ∃ x, e = .returned x ∧ ResO l B w' x ∧ Below W.heap.size W w' := by
  obtain ⟨t, rfl, ht, hb⟩ := h
  exact ⟨_, rfl, ⟨t, rfl, ht.out.1, ht.out.2.mono hB⟩, hb⟩

end Go.Proofs.YtnbdldapmllegaaGreat.mk
