/-
  Labelled texts put together, in the words of bytes with their origins.
-/
import Derived.Test.YtfmjnmijhbnnjaaLtCh
namespace Go.Proofs.Ytfmjnmijhbnnjaa.mk
open Go.RowKit

def catCh (ts : List LT) : List (UInt8 × Int) := ts.flatMap LT.ch
theorem catCh_fst (ts : List LT) : (catCh ts).map (·.1) = catBs ts := by
  induction ts with
  | nil => rfl
  | cons t ts ih => simp only [catCh, catBs, List.flatMap_cons, List.map_append, LT.ch_fst] at ih ⊢; rw [ih]
theorem catCh_snd (ts : List LT) : (catCh ts).map (·.2) = catOs ts := by
  induction ts with
  | nil => rfl
  | cons t ts ih => simp only [catCh, catOs, List.flatMap_cons, List.map_append, LT.ch_snd] at ih ⊢; rw [ih]
theorem catCh_length (ts : List LT) : (catCh ts).length = (catOs ts).length := by rw [← catCh_snd, List.length_map]
theorem catCh_next {ts : List LT} {k : Nat} {t : LT} (h : ts[k]? = some t) : catCh (ts.take (k + 1)) = catCh (ts.take k) ++ t.ch := by rw [take_next h]; simp [catCh]
/-- labelled texts, put together -/
theorem catl_any (ts : List LT) (L : Option Addr) (m c : Nat) (W : World) (hl : Lies W W.heap.size L (ltCells ts)) (hm : ts.length = m) (hm2 : m ≤ 4294967296) (hok : ∀ t ∈ ts, t.ok W W.heap.size) (hz : (catCh ts).length ≤ 4294967296) :
    Calls Try.prog 22 #[.slice L m c] W (Tells (txtOf (catCh ts)) (comp ((catCh ts).map (·.2))) W) := by
  have h := cat_any L m c ts W hl hm hm2 hok (by rw [← catCh_length]; exact hz)
  unfold txtOf
  rw [catCh_fst, catCh_snd]
  exact h

end Go.Proofs.Ytfmjnmijhbnnjaa.mk
