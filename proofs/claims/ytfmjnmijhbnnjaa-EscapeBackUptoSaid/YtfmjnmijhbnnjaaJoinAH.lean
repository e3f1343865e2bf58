/-
  Answers in memory of their own, and variables that hold them: what a region keeps that makes several answers and several variables in whatever order; two texts put together.
-/
import Derived.Test.YtfmjnmijhbnnjaaJoinW
import Derived.Test.YtfmjnmijhbnnjaaJoinT
import Derived.Test.YtfmjnmijhbnnjaaJoinAB
import Derived.Test.YtfmjnmijhbnnjaaJoinY
import Derived.Test.YtfmjnmijhbnnjaaJoinJ
import Derived.Deep.RegionHeld3
import Derived.Deep.DeepCutAuto
import Derived.Outline
namespace Go.Proofs.Ytfmjnmijhbnnjaa.mk
open Go.RowKit

theorem kind2_ne {w : World} {a b : Nat} {t u : TypeId} {c : Array Value} {fz : Nat × Nat} {d : Array Value} (ha : w.heap[a]? = some (.cells c t fz)) (hb : Whole w b u d) (h : t ≠ u) : a ≠ b := by
  rintro rfl
  unfold Whole at hb
  rw [ha] at hb
  injection hb with hb
  injection hb with _ hb
  exact h hb
/-- a bit is set -/
def upd2 (L : Nat → Bool) (i : Nat) (k : Nat) : Bool := if k = i then true else L k
theorem getD2_upd {listed : Array Bool} {i : Nat} (h : i < listed.size) : (fun k => (listed.setIfInBounds i true).getD k false) = upd2 (fun k => listed.getD k false) i := by
  funext k
  unfold upd2
  by_cases hk : k = i
  · subst hk; rw [if_pos rfl]; simp [Array.getD, h]
  · rw [if_neg hk]
    by_cases hs : k < listed.size
    · simp [Array.getD, hs, Array.getElem_setIfInBounds_ne, Ne.symm hk]
    · simp [Array.getD, hs]
theorem upd2_of {L : Nat → Bool} {i k : Nat} (h : L k = true) : upd2 L i k = true := by unfold upd2; split <;> first | rfl | exact h
theorem getD2_tf {listed : Array Bool} {i : Nat} (h : listed.getD i true = false) : listed.getD i false = false := by
  unfold Array.getD at h ⊢
  split at h
  · rename_i hi; rw [dif_pos hi]; exact h
  · cases h
theorem below_put2 {B g : Nat} {wr w3 : World} {u v : Value} (h : Below B wr w3) (hg : B ≤ g) : Below B wr ((w3.setCell ⟨g, 0, none⟩ u).setCell ⟨g, 1, none⟩ v) := (h.setCell hg _).setCell hg _

/-- an answer: these bytes with their origins, in memory of its own -/
def ResT (l : List (UInt8 × Int)) (B : Nat) (w : World) (x : Value) : Prop :=
  ∃ A' c', x = .agg #[.string (txtOf l), .slice A' (runN l) c'] ∧ w.ownsRow B 45 2 (.slice A' (runN l) c') (runN l) (runCells (comp (l.map (·.2))))
/-- a variable of the call's own; if it has been stored, what it holds -/
def VarT (B : Nat) (w : World) (x : Value) (done : Bool) (y : Value) : Prop :=
  ∃ p u v, x = .pointer (some ⟨p, 0, none⟩) ∧ B ≤ p ∧ Whole w p 24 #[u, v] ∧ (done = true → y = .agg #[u, v])
/-- a list of labelled texts, written out -/
def LitT (cs : List Value) (n B : Nat) (w : World) (x : Value) : Prop := ∃ g, x = .slice (some ⟨g, 0, none⟩) n n ∧ Whole w g 24 cs.toArray ∧ B ≤ g
theorem ResT.below {l : List (UInt8 × Int)} {B : Nat} {w w' : World} {x : Value} (h : ResT l B w x) (hb : Below w.heap.size w w') : ResT l B w' x := by
  obtain ⟨A', c', e, h⟩ := h
  exact ⟨A', c', e, own_keep h hb⟩
theorem VarT.below {B : Nat} {w w' : World} {x y : Value} {d : Bool} (h : VarT B w x d y) (hb : Below w.heap.size w w') : VarT B w' x d y := by
  obtain ⟨p, u, v, e, h1, h2, h3⟩ := h
  exact ⟨p, u, v, e, h1, h2.below hb h2.lt, h3⟩
theorem LitT.below {cs : List Value} {n B : Nat} {w w' : World} {x : Value} (h : LitT cs n B w x) (hb : Below w.heap.size w w') : LitT cs n B w' x := by
  obtain ⟨g, e, h1, h2⟩ := h
  exact ⟨g, e, h1.below hb h1.lt, h2⟩
theorem ResT.put {l : List (UInt8 × Int)} {B p : Nat} {w : World} {x a b : Value} {cs : Array Value} (h : ResT l B w x) (hp : Whole w p 24 cs) : ResT l B ((w.setCell ⟨p, 0, none⟩ a).setCell ⟨p, 1, none⟩ b) x := by
  obtain ⟨A', c', e, h⟩ := h
  have hk : ∀ gg, (Value.slice A' (runN l) c').ownBlock = some gg → gg ≠ p := fun gg e => by
    obtain ⟨cur, hc⟩ := own_kind h e
    exact kind2_ne hc hp (by decide)
  exact ⟨A', c', e, own_far (own_far h _ (fun e => hk _ e rfl) _) _ (fun e => hk _ e rfl) _⟩
theorem VarT.put {B p : Nat} {w : World} {x y a b : Value} {d : Bool} (h : VarT B w x d y) (hp : x ≠ .pointer (some ⟨p, 0, none⟩)) : VarT B ((w.setCell ⟨p, 0, none⟩ a).setCell ⟨p, 1, none⟩ b) x d y := by
  obtain ⟨p', u, v, e, h1, h2, h3⟩ := h
  have hn : p' ≠ p := by rintro rfl; exact hp e
  exact ⟨p', u, v, e, h1, (h2.far _ hn _).far _ hn _, h3⟩
theorem VarT.old {B : Nat} {w : World} {x y : Value} {d : Bool} (h : VarT B w x d y) : x ≠ .pointer (some ⟨w.heap.size, 0, none⟩) := by
  obtain ⟨p, u, v, rfl, h1, h2, h3⟩ := h
  intro e
  injection e with e
  injection e with e
  injection e with e
  have := h2.lt
  omega
/-- an answer in a variable -/
def InVar (l : List (UInt8 × Int)) (B : Nat) (w : World) (x : Value) : Prop := ∃ y, ResT l B w y ∧ VarT B w x true y
theorem resT_of {l : List (UInt8 × Int)} {B : Nat} {W : World} {e : Ending} {w' : World} (hB : B ≤ W.heap.size) (h : Tells ⟨(l.map (·.1)).toArray⟩ (comp (l.map (·.2))) W e w') : ∃ x, e = .returned x ∧ ResT l B w' x ∧ Below W.heap.size W w' := by
  obtain ⟨v, rfl, ho, hb⟩ := h
  obtain ⟨D, k, rfl, _, _, _⟩ := own_form ho
  exact ⟨_, rfl, ⟨D, k, rfl, own_mono ho hB⟩, hb⟩
theorem InVar.get {l : List (UInt8 × Int)} {B : Nat} {w : World} {x : Value} (h : InVar l B w x) : ∃ p A' c', x = .pointer (some ⟨p, 0, none⟩) ∧ Whole w p 24 #[.string (txtOf l), .slice A' (runN l) c'] ∧ Lies w w.heap.size A' (runCells (comp (l.map (·.2)))) := by
  obtain ⟨y, ⟨A', c', rfl, ho⟩, ⟨p, u, v, rfl, hp, hW, hy⟩⟩ := h
  have e := hy rfl
  simp only [Value.agg.injEq] at e
  have e' := congrArg Array.toList e
  simp only [List.cons.injEq, and_true] at e'
  obtain ⟨rfl, rfl⟩ := e'
  exact ⟨p, A', c', rfl, hW, Lies.own ho⟩
theorem lies_at2 {W : World} {g : Nat} {t : TypeId} {cs : List Value} (h : Whole W g t cs.toArray) : Lies W W.heap.size (some ⟨g, 0, none⟩) cs := by
  intro j u hu
  refine ⟨_, rfl, h.lt, ?_⟩
  have hadd : (⟨g, 0, none⟩ : Addr).add j = ⟨g, j, none⟩ := by unfold Addr.add; split <;> simp_all
  rw [hadd, h.at_ j]
  simpa using hu
/-- two labelled texts, put together -/
theorem cat2_any (a b : LT) (L : Option Addr) (c : Nat) (W : World) (hl : Lies W W.heap.size L [.string a.s, .slice a.A a.n a.c, .string b.s, .slice b.A b.n b.c]) (ha : a.ok W W.heap.size) (hb : b.ok W W.heap.size) (hz : a.s.size + b.s.size ≤ 4294967296) :
    Calls Try.prog 22 #[.slice L 2 c] W (Tells ⟨((a.ch ++ b.ch).map (·.1)).toArray⟩ (comp ((a.ch ++ b.ch).map (·.2))) W) := by
  have e : catCh [a, b] = a.ch ++ b.ch := by simp [catCh]
  have hos : (catOs [a, b]).length ≤ 4294967296 := by
    rw [← catCh_length, e, List.length_append, LT.ch_length, LT.ch_length]
    exact hz
  have h := cat_any L 2 c [a, b] W hl rfl (by omega) (fun t ht => by
    simp only [List.mem_cons, List.not_mem_nil, or_false] at ht
    rcases ht with rfl | rfl
    · exact ha
    · exact hb) hos
  rw [← catCh_fst, ← catCh_snd, e] at h
  exact h

end Go.Proofs.Ytfmjnmijhbnnjaa.mk
