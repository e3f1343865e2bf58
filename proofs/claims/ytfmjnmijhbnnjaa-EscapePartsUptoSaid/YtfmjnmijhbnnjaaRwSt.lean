/-
  What a call keeps while it writes a builder and makes runs out of runs that it ranges over.
-/
import Derived.Test.YtfmjnmijhbnnjaaMarkCat
import Derived.Test.YtfmjnmijhbnnjaaApp
namespace Go.Proofs.Ytfmjnmijhbnnjaa.mk
open Go.RowKit

theorem builder_above {T B b : Nat} {bs : List Value} {w w' : World} (h : Lib.IsBuilderF T 5 B b bs w) (hk : ∀ k, B ≤ k → k < w.heap.size → w'.heap[k]? = w.heap[k]?) : Lib.IsBuilderF T 5 B b bs w' := by
  have key : ∀ p, Lib.BuilderAtF T 5 B b p bs w → Lib.BuilderAtF T 5 B b p bs w' := by
    rintro p ⟨hB, v, hbk, hown, hne⟩
    refine ⟨hB, v, (hk _ hB (Array.getElem?_eq_some_iff.1 hbk).1).trans hbk, ⟨hown.1, ?_⟩, hne⟩
    rcases hown.2 with h0 | ⟨g, cap, cur, fz, hv, hg, hgg, r⟩
    · exact .inl h0
    · exact .inr ⟨g, cap, cur, fz, hv, hg, (hk _ hg (Array.getElem?_eq_some_iff.1 hgg).1).trans hgg, r⟩
  rcases h with h | h
  · exact .inl (key _ h)
  · exact .inr (key _ h)

/-- nothing below B changes but what S names -/
structure Kept (S : Nat → Prop) (B : Nat) (w w' : World) : Prop where
  os : w'.os = w.os
  tape : w'.tape = w.tape
  output : w'.output = w.output
  size : w.heap.size ≤ w'.heap.size
  block : ∀ k, k < B → ¬ S k → w'.heap[k]? = w.heap[k]?
theorem Kept.refl (S : Nat → Prop) (B : Nat) (w : World) : Kept S B w w := ⟨rfl, rfl, rfl, Nat.le_refl _, fun _ _ _ => rfl⟩
theorem Kept.below {S : Nat → Prop} {B : Nat} {w0 w w' : World} (h : Kept S B w0 w) (hb : Below B w w') : Kept S B w0 w' :=
  ⟨hb.os.trans h.os, hb.tape.trans h.tape, hb.output.trans h.output, Nat.le_trans h.size hb.size, fun k hk hs => (hb.block k hk).trans (h.block k hk hs)⟩
theorem Kept.moved {S : Nat → Prop} {B : Nat} {w0 w w' : World} (h : Kept S B w0 w) (hb : Moved S w w') (hB : B ≤ w.heap.size) : Kept S B w0 w' :=
  ⟨hb.os.trans h.os, hb.tape.trans h.tape, hb.output.trans h.output, Nat.le_trans h.size hb.size, fun k hk hs => (hb.block k (by omega) hs).trans (h.block k hk hs)⟩

/-- the state of rewrite: the builder's bytes, the origins that are put, and the runs that are ranged over -/
def RwSt (N : Nat) (S : Nat → Prop) (qs : List (Int × Int)) (ta : Value) (w0 : World) (bs : List UInt8) (os : List Int) (v : Value) (wr : World) : Prop :=
  wr.ownsRow (N + 3) 45 2 v (comp os).length (runCells (comp os)) ∧ wr.ownsRow (N + 3) 45 2 ta qs.length (runCells qs) ∧ (∀ g, v.ownBlock = some g → ta.ownBlock ≠ some g) ∧
    Lib.IsBuilderF 59 5 (N + 2) (N + 2) (Lib.byteCells bs) wr ∧ Kept S (N + 2) w0 wr ∧ N + 3 ≤ wr.heap.size

theorem RwSt.moved {N : Nat} {S : Nat → Prop} {qs : List (Int × Int)} {ta : Value} {w0 : World} {bs : List UInt8} {os : List Int} {v : Value} {w w' : World} (h : RwSt N S qs ta w0 bs os v w) (hm : Moved S w w') (hS : ∀ g, S g → g < N) : RwSt N S qs ta w0 bs os v w' := by
  obtain ⟨h1, h2, h3, h4, h5, h6⟩ := h
  have hz := hm.size
  refine ⟨hm.own h1 (fun g hg hs => ?_), hm.own h2 (fun g hg hs => ?_), h3, builder_above h4 (fun k hk hl => hm.block k hl (fun hs => ?_)), h5.moved hm (by omega), by omega⟩
  · have := (h1.lt g hg).1; have := hS g hs; omega
  · have := (h2.lt g hg).1; have := hS g hs; omega
  · have := hS k hs; omega
theorem RwSt.below {N : Nat} {S : Nat → Prop} {qs : List (Int × Int)} {ta : Value} {w0 : World} {bs : List UInt8} {os : List Int} {v : Value} {w w' : World} (h : RwSt N S qs ta w0 bs os v w) (hb : Below w.heap.size w w') : RwSt N S qs ta w0 bs os v w' := by
  obtain ⟨h1, h2, h3, h4, h5, h6⟩ := h
  have hz := hb.size
  exact ⟨own_keep h1 hb, own_keep h2 hb, h3, builder_above h4 (fun k _ hl => hb.block k hl), h5.below (hb.mono (by omega)), by omega⟩
theorem RwSt.write {N : Nat} {S : Nat → Prop} {qs : List (Int × Int)} {ta : Value} {w0 : World} {bs : List UInt8} {os : List Int} {v : Value} {w w' : World} {s : ByteArray} (h : RwSt N S qs ta w0 bs os v w)
    (hbu : Lib.BuilderAtF 59 5 (N + 2) (N + 2) (.pointer (some ⟨N + 2, 0, none⟩)) (Lib.byteCells bs ++ Lib.strCells s) w') (hb : Below (N + 2) w w') (ho : Lib.OthersKept 5 (some (N + 2)) w w') : RwSt N S qs ta w0 (bs ++ s.data.toList) os v w' := by
  obtain ⟨h1, h2, h3, h4, h5, h6⟩ := h
  have hz := hb.size
  refine ⟨own_others h1 ho (by omega), own_others h2 ho (by omega), h3, ?_, h5.below hb, by omega⟩
  rw [byteCells_append]; exact .inr hbu
theorem RwSt.join {N : Nat} {S : Nat → Prop} {qs : List (Int × Int)} {ta : Value} {w0 : World} {bs : List UInt8} {os os' : List Int} {v v' : Value} {w w' : World} (h : RwSt N S qs ta w0 bs os v w)
    (hown : w'.ownsRow (N + 3) 45 2 v' (comp os').length (runCells (comp os'))) (hg : w.grownBy w' v.ownBlock) (hat : v'.ownBlock = v.ownBlock ∨ ∃ k, w.heap.size ≤ k ∧ v'.ownBlock = some k) : RwSt N S qs ta w0 bs os' v' w' := by
  obtain ⟨h1, h2, h3, h4, h5, h6⟩ := h
  have hz := hg.size
  refine ⟨hown, own_same h2 (fun g hg' => hg.block g (h2.lt g hg').2 (fun e => h3 g e.symm hg')), ?_, builder_grown h4 h1 hg (by decide), h5.below ((Below.refl _ _).grown hg (by omega) (fun k hk => by have := (h1.lt k hk).1; omega)), by omega⟩
  intro g hg'
  rcases hat with e | ⟨k, hk, e⟩
  · exact h3 g (e.symm.trans hg')
  · rw [e] at hg'; injection hg' with hg'; subst hg'
    intro e2
    have := (h2.lt k e2).2
    omega

theorem joinR_len (rs : List (Int × Int)) (n o : Int) : (joinR rs n o).length ≤ rs.length + 1 := by
  by_cases h : n < 1
  · rw [joinR_less h]; omega
  rcases snoc_cases rs with rfl | ⟨r, ⟨l, p⟩, rfl⟩
  · rw [joinR_nil h]; simp
  · by_cases hp : p = o
    · subst hp; rw [joinR_same h]; simp
    · rw [joinR_other h hp]; simp
theorem expand_at {qs : List (Int × Int)} {j m : Nat} {l o : Int} (h : qs[j]? = some (l, o)) (hm : m < l.toNat) : (expand qs)[(expand (qs.take j)).length + m]? = some o := by
  have e : qs = qs.take j ++ (l, o) :: qs.drop (j + 1) := by
    obtain ⟨hj, h2⟩ := List.getElem?_eq_some_iff.1 h
    rw [← h2, ← List.drop_eq_getElem_cons hj, List.take_append_drop]
  have e2 := congrArg expand e
  rw [expand_append] at e2
  rw [e2, List.getElem?_append_right (by omega), Nat.add_sub_cancel_left]
  simp only [expand, List.flatMap_cons]
  rw [List.getElem?_append_left (by simpa using hm), List.getElem?_replicate, if_pos hm]
theorem expand_take_next {qs : List (Int × Int)} {j : Nat} {l o : Int} (h : qs[j]? = some (l, o)) : (expand (qs.take (j + 1))).length = (expand (qs.take j)).length + l.toNat := by
  rw [take_next h, expand_append, List.length_append]
  simp [expand]
theorem expand_take_len (qs : List (Int × Int)) (j : Nat) : (expand (qs.take j)).length ≤ (expand qs).length := by
  conv => rhs; rw [← List.take_append_drop j qs]
  rw [expand_append, List.length_append]; omega
theorem chars_at {s : ByteArray} {rs : List (Int × Int)} {k : Nat} {o : Int} (hk : k < s.size) (ho : (origins s.size rs)[k]? = some o) : (chars s.data.toList rs)[k]? = some (s[k]'hk, o) := by
  have hsl : s.data.toList.length = s.size := by rw [Array.length_toList]; rfl
  unfold chars
  rw [hsl, List.getElem?_zip_eq_some]
  refine ⟨?_, ho⟩
  rw [List.getElem?_eq_getElem (by rw [hsl]; exact hk)]
  rfl

end Go.Proofs.Ytfmjnmijhbnnjaa.mk
