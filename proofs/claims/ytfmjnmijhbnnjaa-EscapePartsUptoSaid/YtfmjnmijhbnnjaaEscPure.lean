/-
  Plain mathematics of texts as they stand in HTML: what is escaped.
-/
import Derived.Test.YtfmjnmijhbnnjaaPutE
namespace Go.Proofs.Ytfmjnmijhbnnjaa.mk
open Go.RowKit

/-- what stands for a byte: of a text, or of a value -/
def escB (v : Bool) (b : UInt8) : List UInt8 :=
  if b = 38 then [38, 97, 109, 112, 59] else if b = 60 then [38, 108, 116, 59] else if b = 62 then [38, 103, 116, 59] else if b = 13 then [38, 35, 49, 51, 59] else if b = 34 ∧ v = true then [38, 113, 117, 111, 116, 59] else [b]
def escC (v : Bool) (x : UInt8 × Int) : List (UInt8 × Int) := putE (escB v x.1) x.2
def escL (v : Bool) (l : List (UInt8 × Int)) : List (UInt8 × Int) := l.flatMap (escC v)
theorem escL_nil (v : Bool) : escL v [] = [] := rfl
theorem escL_cons (v : Bool) (x : UInt8 × Int) (l : List (UInt8 × Int)) : escL v (x :: l) = escC v x ++ escL v l := rfl
theorem escL_append (v : Bool) (a b : List (UInt8 × Int)) : escL v (a ++ b) = escL v a ++ escL v b := by unfold escL; rw [List.flatMap_append]
theorem escL_next {v : Bool} {l : List (UInt8 × Int)} {k : Nat} {x : UInt8 × Int} (h : l[k]? = some x) : escL v (l.take (k + 1)) = escL v (l.take k) ++ escC v x := by
  rw [take_next h, escL_append, escL_cons, escL_nil, List.append_nil]
theorem escB_len (v : Bool) (b : UInt8) : 1 ≤ (escB v b).length ∧ (escB v b).length ≤ 6 := by
  unfold escB
  repeat' split
  all_goals simp
theorem escC_len (v : Bool) (x : UInt8 × Int) : 1 ≤ (escC v x).length ∧ (escC v x).length ≤ 6 := by
  unfold escC
  rw [putE_len]
  exact escB_len v x.1
theorem escL_len (v : Bool) (l : List (UInt8 × Int)) : l.length ≤ (escL v l).length ∧ (escL v l).length ≤ 6 * l.length := by
  induction l with
  | nil => simp [escL]
  | cons x l ih =>
    have := escC_len v x
    rw [escL_cons, List.length_append, List.length_cons]
    omega
theorem putE_mem {p : List UInt8} {o : Int} {x : UInt8 × Int} (h : x ∈ putE p o) : x.1 ∈ p ∧ x.2 = o := by
  unfold putE at h
  obtain ⟨b, hb, rfl⟩ := List.mem_map.1 h
  exact ⟨hb, rfl⟩
theorem InR.esc {v : Bool} {l : List (UInt8 × Int)} (h : InR l) : InR (escL v l) := by
  intro o ho
  obtain ⟨x, hx, rfl⟩ := List.mem_map.1 ho
  obtain ⟨y, hy, hx⟩ := List.mem_flatMap.1 hx
  rw [(putE_mem hx).2]
  exact h _ (List.mem_map.2 ⟨y, hy, rfl⟩)

/-! which bytes it has not -/
theorem escB_no (v : Bool) (b x : UInt8) (h : x ∈ escB v b) : x ≠ 60 ∧ x ≠ 62 ∧ x ≠ 13 ∧ (v = true → x ≠ 34) := by
  unfold escB at h
  split at h
  · simp only [List.mem_cons, List.not_mem_nil, or_false] at h
    rcases h with rfl | rfl | rfl | rfl | rfl <;> exact ⟨by decide, by decide, by decide, fun _ => by decide⟩
  · split at h
    · simp only [List.mem_cons, List.not_mem_nil, or_false] at h
      rcases h with rfl | rfl | rfl | rfl <;> exact ⟨by decide, by decide, by decide, fun _ => by decide⟩
    · split at h
      · simp only [List.mem_cons, List.not_mem_nil, or_false] at h
        rcases h with rfl | rfl | rfl | rfl <;> exact ⟨by decide, by decide, by decide, fun _ => by decide⟩
      · split at h
        · simp only [List.mem_cons, List.not_mem_nil, or_false] at h
          rcases h with rfl | rfl | rfl | rfl | rfl <;> exact ⟨by decide, by decide, by decide, fun _ => by decide⟩
        · split at h
          · simp only [List.mem_cons, List.not_mem_nil, or_false] at h
            rcases h with rfl | rfl | rfl | rfl | rfl | rfl <;> exact ⟨by decide, by decide, by decide, fun _ => by decide⟩
          · rename_i h1 h2 h3 h4 h5
            simp only [List.mem_cons, List.not_mem_nil, or_false] at h
            subst h
            exact ⟨h2, h3, h4, fun hv e => h5 ⟨e, hv⟩⟩
theorem escL_no {v : Bool} {l : List (UInt8 × Int)} {x : UInt8} (h : x ∈ (escL v l).map (·.1)) : x ≠ 60 ∧ x ≠ 62 ∧ x ≠ 13 ∧ (v = true → x ≠ 34) := by
  obtain ⟨y, hy, rfl⟩ := List.mem_map.1 h
  obtain ⟨z, _, hy⟩ := List.mem_flatMap.1 hy
  exact escB_no v z.1 y.1 (putE_mem hy).1

end Go.Proofs.Ytfmjnmijhbnnjaa.mk
