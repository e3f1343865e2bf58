/-
  Contracts of fold's Lower and IsLower.
-/
import Derived.Test.YtfmjnmijhbnnjaaJoinW
import Derived.Lib.ConvBytes
import Derived.Lib.BufferMore
namespace Go.Proofs.Ytfmjnmijhbnnjaa.mk
open Go.RowKit

/-- is none of A to Z among them? -/
def noUp (l : List UInt8) : Bool := !(l.any upperB)
def IsLowRel (l : List UInt8) (i : Value) : Prop :=
  ∃ k : Nat, k ≤ l.length ∧ i = .int .i64 (k : Int) ∧ (l.take k).any upperB = false

/-- the first n cells of block g are these bytes, free to be written -/
def BytesAt (w : World) (g n : Nat) (l : List UInt8) : Prop :=
  ∃ cs : Array Value, w.heap[g]? = some (.cells cs 5 (cs.size, cs.size + 1)) ∧ n ≤ cs.size ∧ ∀ j, j < n → cs[j]? = some (.int .u8 (l.getD j 0).toNat)
theorem BytesAt.cell {w : World} {g n : Nat} {l : List UInt8} (h : BytesAt w g n l) {j : Nat} (hj : j < n) : w.cell? ⟨g, j, none⟩ = some (.int .u8 (l.getD j 0).toNat) := by
  obtain ⟨cs, h1, h2, h3⟩ := h
  rw [cell_of_row w g j cs _ _ h1]
  exact h3 j hj
theorem BytesAt.free {w : World} {g n : Nat} {l : List UInt8} (h : BytesAt w g n l) {j : Nat} (hj : j < n) : w.frozen? ⟨g, j, none⟩ = false := by
  obtain ⟨cs, h1, h2, h3⟩ := h
  unfold World.frozen?
  simp only [h1]
  simp
  omega
theorem BytesAt.put {w : World} {g n : Nat} {l : List UInt8} (h : BytesAt w g n l) {k : Nat} (hk : k < n) (hl : n ≤ l.length) (x : UInt8) : BytesAt (w.setCell ⟨g, k, none⟩ (.int .u8 x.toNat)) g n (l.set k x) := by
  obtain ⟨cs, h1, h2, h3⟩ := h
  refine ⟨cs.setIfInBounds k (.int .u8 x.toNat), ?_, by simpa using h2, fun j hj => ?_⟩
  · rw [Lib.heap_setCell_same h1]; simp
  · by_cases e : j = k
    · subst e
      rw [Array.getElem?_setIfInBounds_self_of_lt (by omega)]
      simp [List.getD, List.getElem?_set_self (show j < l.length by omega)]
    · rw [Array.getElem?_setIfInBounds_ne (by omega), h3 j hj]
      simp [List.getD, List.getElem?_set_ne (Ne.symm e)]
theorem BytesAt.lt {w : World} {g n : Nat} {l : List UInt8} (h : BytesAt w g n l) : g < w.heap.size := by
  obtain ⟨cs, h1, _⟩ := h
  exact (Array.getElem?_eq_some_iff.1 h1).1
theorem BytesAt.made (w : World) (s : ByteArray) : BytesAt (Lib.bytesWorld w 5 s) w.heap.size s.size s.data.toList := by
  refine ⟨_, Lib.bytesWorld_at_new w _ s, by simp [Lib.bytesCells], fun j hj => ?_⟩
  have h := Lib.bytesWorld_cell w 5 s j hj
  rw [cell_of_row _ _ _ _ _ _ (Lib.bytesWorld_at_new w _ s)] at h
  exact h
theorem bytes_below (w : World) (s : ByteArray) : Below w.heap.size w (Lib.bytesWorld w 5 s) := by
  refine ⟨?_, ?_, ?_, by rw [Lib.bytesWorld_size]; omega, fun k hk => Lib.bytesWorld_at_old w _ s k hk⟩
  all_goals simp [Lib.bytesWorld, World.freeze, World.alloc, World.drew, -World.alloc_eq, -World.drew_eq]

/-- lower, so far -/
def lowTo (l : List UInt8) (k : Nat) : List UInt8 := (l.take k).map lowB ++ l.drop k
theorem lowTo_length (l : List UInt8) (k : Nat) : (lowTo l k).length = l.length := by
  unfold lowTo
  rw [List.length_append, List.length_map, List.length_take, List.length_drop]
  omega
theorem lowTo_at {l : List UInt8} {k : Nat} {b : UInt8} (h : l[k]? = some b) : (lowTo l k).getD k 0 = b := by
  have hk := (List.getElem?_eq_some_iff.1 h).1
  unfold lowTo
  rw [List.getD, List.getElem?_append_right (by rw [List.length_map, List.length_take]; omega), List.length_map, List.length_take, List.getElem?_drop, show k + (k - min k l.length) = k by omega, h]
  rfl
theorem lowTo_next {l : List UInt8} {k : Nat} {b : UInt8} (h : l[k]? = some b) : (lowTo l k).set k (lowB b) = lowTo l (k + 1) := by
  obtain ⟨hk, hb⟩ := List.getElem?_eq_some_iff.1 h
  unfold lowTo
  rw [List.set_append_right _ _ (by rw [List.length_map, List.length_take]; omega), List.length_map, List.length_take, show k - min k l.length = 0 by omega, List.drop_eq_getElem_cons hk, hb, take_next h, List.map_append, List.append_assoc]
  rfl
theorem lowTo_same {l : List UInt8} {k : Nat} {b : UInt8} (h : l[k]? = some b) (hb : lowB b = b) : lowTo l (k + 1) = lowTo l k := by
  rw [← lowTo_next h, hb]
  apply List.ext_getElem?
  intro j
  by_cases e : j = k
  · subst e
    have hk := (List.getElem?_eq_some_iff.1 h).1
    have := lowTo_at h
    rw [List.getElem?_set_self (by rw [lowTo_length]; exact hk)]
    rw [List.getD, List.getElem?_eq_getElem (by rw [lowTo_length]; exact hk)] at this
    rw [List.getElem?_eq_getElem (by rw [lowTo_length]; exact hk)]
    simp at this
    rw [this]
  · rw [List.getElem?_set_ne (Ne.symm e)]
theorem lowB_up {b : UInt8} (h : upperB b = true) : (lowB b).toNat = b.toNat + 32 ∧ b.toNat ≤ 90 := by
  have h2 := h
  unfold upperB at h2
  simp at h2
  refine ⟨?_, h2.2⟩
  unfold lowB
  rw [if_pos h, UInt8.toNat_add]
  show (b.toNat + 32) % 256 = _
  omega
theorem lowB_no {b : UInt8} (h : upperB b = false) : lowB b = b := by unfold lowB; rw [h]; rfl

def LowRel (l : List UInt8) (g n : Nat) (w0 : World) (i : Value) (wr : World) : Prop :=
  ∃ k : Nat, k ≤ n ∧ i = .int .i64 (k : Int) ∧ BytesAt wr g n (lowTo l k) ∧ Below g w0 wr

end Go.Proofs.Ytfmjnmijhbnnjaa.mk
