/-
  Labelled texts as told: their runs stand for their origins.
-/
import Derived.Test.YthckecfjghjnjaaMarkCat
namespace Go.Proofs.Ythckecfjghjnjaa.mk
open Go.RowKit

theorem pre_take (n : Nat) (rs : List (Int × Int)) : pre n rs = (rs.flatMap fun r => List.replicate r.1.toNat (nearO r.2)).take n := by
  induction rs using snocInd with
  | nil => simp [pre]
  | append_singleton rs r ih =>
    rw [pre_snoc, ih, List.flatMap_append, List.take_append, List.flatMap_singleton, List.take_replicate, List.length_take]
    congr 2
    omega
theorem mem_comp (q : List Int) : ∀ r ∈ comp q, r.2 ∈ q := by
  intro r hr
  have h := expand_comp q
  obtain ⟨a, b, e⟩ := List.append_of_mem hr
  have hp := comp_pos q r hr
  rw [e, expand_append] at h
  rw [← h]
  simp only [List.mem_append]
  right
  simp only [expand, List.flatMap_cons, List.mem_append]
  left
  exact List.mem_replicate.2 ⟨by omega, rfl⟩
theorem flatMap_same {α β : Type} {f g : α → List β} {l : List α} (h : ∀ x ∈ l, f x = g x) : l.flatMap f = l.flatMap g := by
  induction l with
  | nil => rfl
  | cons x l ih => rw [List.flatMap_cons, List.flatMap_cons, h x (by simp), ih (fun y hy => h y (by simp [hy]))]
theorem origins_told {q : List Int} (h : ∀ o ∈ q, 0 ≤ o ∧ o ≤ 65536) : origins q.length (comp q) = q := by
  have e : (comp q).flatMap (fun r => List.replicate r.1.toNat (nearO r.2)) = q := by
    have h1 : (comp q).flatMap (fun r => List.replicate r.1.toNat (nearO r.2)) = (comp q).flatMap (fun r => List.replicate r.1.toNat r.2) := by
      refine flatMap_same fun r hr => ?_
      have := h r.2 (mem_comp q r hr)
      rw [nearO_in this.1 this.2]
    rw [h1]
    exact expand_comp q
  have hp : pre q.length (comp q) = q := by rw [pre_take, e, List.take_of_length_le (Nat.le_refl _)]
  unfold origins
  rw [hp]
  simp

theorem LT.os_in (t : LT) : ∀ o ∈ t.os, 0 ≤ o ∧ o ≤ 65536 := origins_in _ _
/-- a labelled text as told, of bytes and origins -/
theorem LT.os_told {bs : List UInt8} {q : List Int} (A : Option Addr) (n c : Nat) (hl : q.length = bs.length) (h : ∀ o ∈ q, 0 ≤ o ∧ o ≤ 65536) : (LT.mk ⟨bs.toArray⟩ A n c (comp q)).os = q := by
  have e : (ByteArray.mk bs.toArray).size = q.length := by rw [hl]; show bs.toArray.size = _; simp
  unfold LT.os
  show origins (ByteArray.mk bs.toArray).size (comp q) = q
  rw [e, origins_told h]
theorem LT.bs_mk (bs : List UInt8) (A : Option Addr) (n c : Nat) (rs : List (Int × Int)) : (LT.mk ⟨bs.toArray⟩ A n c rs).bs = bs := by unfold LT.bs; rfl

end Go.Proofs.Ythckecfjghjnjaa.mk
