/-
  Contracts of utf's taker and of the function that it tells.
-/
import Derived.Test.YtfmjnmijhbnnjaaApp
import Derived.Test.YtfmjnmijhbnnjaaMarkFix
import Derived.Outline
namespace Go.Proofs.Ytfmjnmijhbnnjaa.mk
open Go.RowKit

/-- runs as they should be -/
def Good (rs : List (Int × Int)) : Prop := ∀ r ∈ rs, 1 ≤ r.1 ∧ 0 ≤ r.2 ∧ r.2 ≤ 65536
theorem Good.nil : Good [] := by intro r h; simp at h
theorem Good.append {a b : List (Int × Int)} (ha : Good a) (hb : Good b) : Good (a ++ b) := by
  intro r h
  rcases List.mem_append.1 h with h | h
  · exact ha r h
  · exact hb r h
theorem Good.one {l o : Int} (h : 1 ≤ l ∧ 0 ≤ o ∧ o ≤ 65536) : Good [(l, o)] := by intro r hr; simp at hr; subst hr; exact h
theorem Good.tail {r : Int × Int} {a : List (Int × Int)} (h : Good (r :: a)) : Good a := fun x hx => h x (by simp [hx])
theorem Good.comp {l : List Int} (h : ∀ o ∈ l, 0 ≤ o ∧ o ≤ 65536) : Good (mk.comp l) := by
  intro r hr
  have h1 := comp_pos l r hr
  have h2 : r.2 ∈ expand (mk.comp l) := by
    unfold expand
    rw [List.mem_flatMap]
    exact ⟨r, hr, by rw [List.mem_replicate]; exact ⟨by omega, rfl⟩⟩
  rw [expand_comp] at h2
  exact ⟨h1, h r.2 h2⟩
theorem good_length {a : List (Int × Int)} (h : Good a) : a.length ≤ (expand a).length := by
  induction a with
  | nil => simp
  | cons r a ih =>
    have h1 := h r (by simp)
    have h2 := ih h.tail
    simp only [expand, List.flatMap_cons, List.length_append, List.length_replicate, List.length_cons] at h2 ⊢
    omega
theorem expand_cons (r : Int × Int) (a : List (Int × Int)) : expand (r :: a) = List.replicate r.1.toNat r.2 ++ expand a := by simp [expand]
theorem expand_one (l o : Int) : expand [(l, o)] = List.replicate l.toNat o := by simp [expand]

/-- the variable in block bv is a slice of block g that holds these runs -/
def RunsAt (w : World) (bv g : Nat) (qs : List (Int × Int)) : Prop :=
  ∃ A n c, Whole w bv 22 #[.slice A n c] ∧ qs.length = n ∧ n ≤ c ∧ (0 < n → ∃ off cs, A = some ⟨g, off, none⟩ ∧ Whole w g 45 cs ∧ ∀ j u, (runCells qs)[j]? = some u → cs[off + j]? = some u)
def Two (bv g : Nat) (k : Nat) : Prop := k = bv ∨ k = g

theorem run_tail {l o : Int} {qs : List (Int × Int)} {cs : Array Value} {off : Nat} (h : ∀ j u, (runCells ((l, o) :: qs))[j]? = some u → cs[off + j]? = some u) (v : Value) : ∀ j u, (runCells qs)[j]? = some u → (cs.setIfInBounds off v)[off + 2 + j]? = some u := by
  intro j u hu
  rw [Array.getElem?_setIfInBounds_ne (by omega), Nat.add_assoc]
  refine h (2 + j) u ?_
  rw [show 2 + j = j + 1 + 1 by omega]
  exact hu
theorem take_cut {w : World} {bv g n c off : Nat} {cs : Array Value} {l o l' : Int} {qs : List (Int × Int)} (hne : bv ≠ g) (hV : Whole w bv 22 #[.slice (some ⟨g, off, none⟩) n c]) (hW : Whole w g 45 cs) (hn : qs.length + 1 = n) (hc : n ≤ c)
    (h : ∀ j u, (runCells ((l, o) :: qs))[j]? = some u → cs[off + j]? = some u) : RunsAt (w.setCell ⟨g, off, none⟩ (.int .i64 l')) bv g ((l', o) :: qs) := by
  refine ⟨_, n, c, hV.far _ hne _, by simpa using hn, hc, fun _ => ⟨off, _, rfl, hW.put off _, ?_⟩⟩
  intro j u hu
  have x0 := h 0 (.int .i64 l) rfl
  rcases j with _ | j
  · have e : u = .int .i64 l' := by simpa [runCells] using hu.symm
    rw [e, Nat.add_zero, Array.getElem?_setIfInBounds_self_of_lt (by simpa using (Array.getElem?_eq_some_iff.1 x0).1)]
  · rw [Array.getElem?_setIfInBounds_ne (by omega)]
    exact h (j + 1) u hu
theorem take_drop {w : World} {bv g n c off : Nat} {A A' : Option Addr} {cs : Array Value} {l o : Int} {qs : List (Int × Int)} (hne : bv ≠ g) (hV : Whole w bv 22 #[.slice A n c]) (hW : Whole w g 45 cs) (hn : qs.length + 1 = n) (hc : n ≤ c)
    (h : ∀ j u, (runCells ((l, o) :: qs))[j]? = some u → cs[off + j]? = some u) (hA : 1 < c → A' = some ⟨g, off + 2, none⟩) (v : Value) : RunsAt ((w.setCell ⟨g, off, none⟩ v).setCell ⟨bv, 0, none⟩ (.slice A' (n - 1) (c - 1))) bv g qs := by
  refine ⟨A', n - 1, c - 1, (hV.far ⟨g, off, none⟩ hne _).put 0 _, by omega, by omega, fun hp => ⟨off + 2, _, hA (by omega), (hW.put off v).far ⟨bv, 0, none⟩ (Ne.symm hne) _, run_tail h v⟩⟩
theorem take_own {w : World} {base z : Nat} {v' : Value} {ts : List (Int × Int)} {k o : Int} (hz : ts.length = z) (h : w.ownsRow base 45 2 v' (z + 1) (runCells ts ++ [.int .i64 k, .int .i64 o])) :
    w.ownsRow base 45 2 v' (ts ++ [(k, o)]).length (runCells (ts ++ [(k, o)])) := by
  rw [runCells_append, List.length_append, hz]
  exact h

def TakeRel (qs0 : List (Int × Int)) (m0 bv g : Nat) (w0 : World) (m v : Value) (wr : World) : Prop :=
  ∃ (k : Nat) (ts qs : List (Int × Int)), m = .int .i64 (k : Int) ∧ wr.ownsRow w0.heap.size 45 2 v ts.length (runCells ts) ∧ RunsAt wr bv g qs ∧ Good ts ∧ Good qs ∧ expand ts ++ expand qs = expand qs0 ∧ (expand ts).length + k = m0 ∧ Moved (Two bv g) w0 wr

/-- what is told: runs for m bytes; the variable holds the others -/
def Takes (qs0 : List (Int × Int)) (m0 bv g : Nat) (w : World) (e : Ending) (w' : World) : Prop :=
  ∃ v ts qs, e = .returned v ∧ w'.ownsRow w.heap.size 45 2 v ts.length (runCells ts) ∧ RunsAt w' bv g qs ∧ Good ts ∧ Good qs ∧ expand ts ++ expand qs = expand qs0 ∧ (expand ts).length = m0 ∧ Moved (Two bv g) w w'

end Go.Proofs.Ytfmjnmijhbnnjaa.mk
