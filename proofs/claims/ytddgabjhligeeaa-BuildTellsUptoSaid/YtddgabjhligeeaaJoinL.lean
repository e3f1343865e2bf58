/-
  The contract of the reference's Is: is a labelled text, as told, these bytes?
-/
import Derived.Test.YtddgabjhligeeaaJoinH
import Derived.Test.YtddgabjhligeeaaJoinC
import Derived.Deep.RegionHeld3
import Derived.Deep.RegionLaw
import Derived.Deep.AppendLies
import Derived.StillTactics
import Derived.WalkSpells
import Derived.Laws.IdiomStrings
namespace Go.Proofs.Ytddgabjhligeeaa.mk
open Go.RowKit

theorem byte_info : (Try.prog.info? 5).map (fun i => (i.zero, i.size, i.bytes)) = some (some (.int .u8 0), 1, 1) := by kernel_rfl

/-- what holds at the head of each round -/
def StrRel (l : List (UInt8 × Int)) (n B : Nat) (w : World) (i : Value) (wr : World) : Prop :=
  ∃ (k : Nat) (v : Value) (bs : List Value), k ≤ n ∧ i = .int .i64 k ∧ Whole wr B 30 #[.string ⟨#[]⟩, .slice none 0 0] ∧ Whole wr (B + 1) 30 #[.string ⟨#[]⟩, v] ∧ Whole wr (B + 2) 5 bs.toArray ∧ bs.length = n ∧
    (∀ (j : Nat) (c : UInt8 × Int), (l.take k)[j]? = some c → bs[j]? = some (Value.int .u8 c.1.toNat)) ∧
    wr.ownsRow (B + 3) 72 2 v (comp ((l.take k).map (·.2))).length (runCells (comp ((l.take k).map (·.2)))) ∧ Below B w wr

/-- behind the store of the byte -/
theorem str_mid {wr : World} {B k nq : Nat} {u v : Value} {bs : List Value} {n : Nat} {xs : List Value} {w : World}
    (hB0 : Whole wr B 30 #[.string ⟨#[]⟩, .slice none 0 0]) (hB1 : Whole wr (B + 1) 30 #[.string ⟨#[]⟩, v]) (hB2 : Whole wr (B + 2) 5 bs.toArray) (hown : wr.ownsRow (B + 3) 72 2 v n xs) (hbe : Below B w wr) (w2 : World) (e : (wr.setCell ⟨B + 1 + 1, k, none⟩ u).drewN nq = w2) :
    Whole w2 B 30 #[.string ⟨#[]⟩, .slice none 0 0] ∧ Whole w2 (B + 1) 30 #[.string ⟨#[]⟩, v] ∧ Whole w2 (B + 2) 5 (bs.set k u).toArray ∧ w2.ownsRow (B + 3) 72 2 v n xs ∧ Below B w w2 := by
  subst e
  refine ⟨(hB0.far ⟨B + 1 + 1, k, none⟩ (by simp; omega) u), (hB1.far ⟨B + 1 + 1, k, none⟩ (by simp) u), ?_, own_far hown ⟨B + 1 + 1, k, none⟩ (fun h => by have := hown.lt _ h; simp at this; omega) u, ?_⟩
  · have h := hB2.put k u
    simp only [List.setIfInBounds_toArray] at h
    exact h
  · exact ⟨hbe.os, hbe.tape, hbe.output, by have := hbe.size; simpa using this, fun j hj => (Below.heap_setCell _ _ _ _ (by simp; omega)).trans (hbe.block j hj)⟩

theorem str_step {l : List (UInt8 × Int)} {n B k : Nat} {w w3 : World} {b : UInt8} {o : Int} {v : Value} {bs : List Value} {rs : List (Int × Int)} (hr : l[k]? = some (b, o)) (hk : k < n)
    (hB0 : Whole w3 B 30 #[.string ⟨#[]⟩, .slice none 0 0]) (hB1 : Whole w3 (B + 1) 30 #[.string ⟨#[]⟩, v]) (hB2 : Whole w3 (B + 2) 5 (bs.set k (.int .u8 b.toNat)).toArray) (hbl : bs.length = n)
    (hbs : ∀ (j : Nat) (c : UInt8 × Int), (l.take k)[j]? = some c → bs[j]? = some (Value.int .u8 c.1.toNat)) (hrs : joinR (comp ((l.take k).map (·.2))) 1 o = rs) (hown : w3.ownsRow (B + 3) 72 2 v rs.length (runCells rs)) (hbe : Below B w w3) :
    StrRel l n B w (.int .i64 ((k : Int) + 1)) w3 := by
  refine ⟨k + 1, v, bs.set k (.int .u8 b.toNat), by omega, by simp, hB0, hB1, hB2, by simpa using hbl, ?_, ?_, hbe⟩
  · intro j c hc
    rw [List.getElem?_take] at hc
    split at hc
    · rename_i hj
      by_cases hjk : j = k
      · subst hjk
        rw [hr] at hc
        injection hc with hc
        subst hc
        rw [List.getElem?_set_self (by omega)]
      · rw [List.getElem?_set_ne (by omega)]
        exact hbs j c (by rw [List.getElem?_take, if_pos (by omega)]; exact hc)
    · cases hc
  · rw [take_next hr, List.map_append, List.map_singleton, comp_snoc, hrs]
    exact hown

/-- behind the append of a new run -/
theorem str_app {l : List (UInt8 × Int)} {n B k gg cap : Nat} {w w2 w1 : World} {b : UInt8} {o : Int} {v : Value} {bs : List Value} {rs : List (Int × Int)} {ob : Obj} {z : Nat} (hz : rs.length = z) (hr : l[k]? = some (b, o)) (hk : k < n)
    (hB0 : Whole w2 B 30 #[.string ⟨#[]⟩, .slice none 0 0]) (hB1 : Whole w2 (B + 1) 30 #[.string ⟨#[]⟩, v]) (hB2 : Whole w2 (B + 2) 5 (bs.set k (.int .u8 b.toNat)).toArray) (hbl : bs.length = n)
    (hbs : ∀ (j : Nat) (c : UInt8 × Int), (l.take k)[j]? = some c → bs[j]? = some (Value.int .u8 c.1.toNat)) (hrs : joinR (comp ((l.take k).map (·.2))) 1 o = rs ++ [(1, o)]) (hown : w2.ownsRow (B + 3) 72 2 v rs.length (runCells rs)) (hbe : Below B w w2)
    (hown1 : w1.ownsRow (B + 3) 72 2 (.slice (some ⟨gg, 0, none⟩) (z + 1) cap) (z + 1) (runCells rs ++ [.int .i64 1, .int .i64 o])) (hgrow : ((w2.alloc ob).drew).grownBy w1 v.ownBlock) :
    StrRel l n B w (.int .i64 ((k : Int) + 1)) (w1.setCell ⟨B + 1, 1, none⟩ (.slice (some ⟨gg, 0, none⟩) (z + 1) cap)) := by
  subst hz
  have hfar : ∀ x, x < B + 3 → some x ≠ v.ownBlock := fun x hx e => by have := hown.lt x e.symm; omega
  have hg := hown1.lt gg rfl
  have h0 := ((hB0.alloc ob).drew.grown hgrow (hfar _ (by omega))).far ⟨B + 1, 1, none⟩ (by simp) (.slice (some ⟨gg, 0, none⟩) (rs.length + 1) cap)
  have h1 := ((hB1.alloc ob).drew.grown hgrow (hfar _ (by omega))).put 1 (.slice (some ⟨gg, 0, none⟩) (rs.length + 1) cap)
  have h2 := ((hB2.alloc ob).drew.grown hgrow (hfar _ (by omega))).far ⟨B + 1, 1, none⟩ (by simp) (.slice (some ⟨gg, 0, none⟩) (rs.length + 1) cap)
  have hs2 := hB2.lt
  refine str_step hr hk h0 h1 h2 hbl hbs hrs ?_ ?_
  · refine own_far ?_ ⟨B + 1, 1, none⟩ (fun h => ?_) _
    · rw [runCells_append, runCells_one]; simpa using hown1
    · simp [Value.ownBlock] at h; omega
  · exact (((hbe.alloc (by omega) ob).drew).grown hgrow (by simp; omega) (fun x hx => by have := hown.lt x hx; omega)).setCell (by simp) _

end Go.Proofs.Ytddgabjhligeeaa.mk

namespace Go.Proofs.Ytddgabjhligeeaa.mk
open Go.RowKit

/-- is it, as told, these bytes? -/
def isB (s : List UInt8) (rs : List (Int × Int)) (l : List (UInt8 × Int)) : Bool := decide (s = l.map (·.1) ∧ rs = comp (l.map (·.2)))

def IsRel (rs qs : List (Int × Int)) (n : Nat) (w3 : World) (i : Value) (wr : World) : Prop :=
  ∃ k : Nat, k ≤ n ∧ i = .int .i64 k ∧ rs.take k = qs.take k ∧ Below w3.heap.size w3 wr

theorem ret_bool {a b : Bool} (h : a = b) : Ending.returned (.bool a) = .returned (.bool b) := by rw [h]
theorem toList_data (s : ByteArray) : s.toList = s.data.toList := ByteArray.toList_eq s

end Go.Proofs.Ytddgabjhligeeaa.mk
