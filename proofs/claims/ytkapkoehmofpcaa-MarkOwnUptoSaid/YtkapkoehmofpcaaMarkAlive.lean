/-
  The contract of the statements' own example: it is alive.
-/
import Derived.Test.YtkapkoehmofpcaaMarkCat
namespace Go.Proofs.Ytkapkoehmofpcaa.mk
open Go.RowKit

set_option maxHeartbeats 1000000 in
set_option maxRecDepth 100000 in
theorem alive_any (w : World) : Calls Try.prog 7 #[] w fun e w' => e = .returned (.bool true) ∧ Below w.heap.size w w' := by
  go_enter Try.func7, Try.ntmps7
  go_wp2_with fail
  refine (of_any ⟨#[97]⟩ 0 _ (by decide)).mono ?_
  rintro e w1 ⟨v1, rfl, h1, b1⟩
  go_wp2_with fail
  refine (of_any ⟨#[98]⟩ 0 _ (by decide)).mono ?_
  rintro e w2 ⟨v2, rfl, h2, b2⟩
  go_wp2_with fail
  refine (of_any ⟨#[99]⟩ 3 _ (by decide)).mono ?_
  rintro e w3 ⟨v3, rfl, h3, b3⟩
  have e0 : comp (List.replicate (ByteArray.mk #[97]).size (nearO 0)) = [(1, 0)] := by decide
  have e1 : comp (List.replicate (ByteArray.mk #[98]).size (nearO 0)) = [(1, 0)] := by decide
  have e2 : comp (List.replicate (ByteArray.mk #[99]).size (nearO 3)) = [(1, 3)] := by decide
  rw [e0] at h1
  rw [e1] at h2
  rw [e2] at h3
  simp only [List.length_singleton] at h1 h2 h3
  clear e0 e1 e2
  obtain ⟨A1, c1, rfl, _, _, _⟩ := own_form h1
  obtain ⟨A2, c2, rfl, _, _, _⟩ := own_form h2
  obtain ⟨A3, c3, rfl, _, _, _⟩ := own_form h3
  go_wp2_with fail
  generalize hts : [LT.mk ⟨#[97]⟩ A1 1 c1 [(1, 0)], LT.mk ⟨#[98]⟩ A2 1 c2 [(1, 0)], LT.mk ⟨#[99]⟩ A3 1 c3 [(1, 3)]] = ts
  have hz3 := b3.size
  have l1 : Lies w3 w3.heap.size A1 (runCells [(1, 0)]) := ((Lies.own h1).next b2 (Nat.le_refl _)).next b3 (Nat.le_refl _)
  have l2 : Lies w3 w3.heap.size A2 (runCells [(1, 0)]) := (Lies.own h2).next b3 (Nat.le_refl _)
  have l3 : Lies w3 w3.heap.size A3 (runCells [(1, 3)]) := Lies.own h3
  have hcb : catBs ts = [97, 98, 99] := by rw [← hts]; rfl
  have hco : catOs ts = [0, 0, 3] := by rw [← hts]; rfl
  refine (cat_any (some ⟨w3.heap.size, 0, none⟩) 3 3 ts _ ?_ ?_ (by omega) ?_ ?_).mono ?_
  · rw [← hts]
    intro j u hu
    exact ⟨_, rfl, by simp, cells_new w3 24 _ j u hu⟩
  · rw [← hts]; rfl
  · intro t ht
    rw [← hts] at ht
    simp only [List.mem_cons, List.not_mem_nil, or_false] at ht
    rcases ht with rfl | rfl | rfl
    · exact ⟨(l1.alloc (Nat.le_refl _) _).mono (by simp), rfl, by show 1 ≤ _; omega, by show 1 ≤ _; omega⟩
    · exact ⟨(l2.alloc (Nat.le_refl _) _).mono (by simp), rfl, by show 1 ≤ _; omega, by show 1 ≤ _; omega⟩
    · exact ⟨(l3.alloc (Nat.le_refl _) _).mono (by simp), rfl, by show 1 ≤ _; omega, by show 1 ≤ _; omega⟩
  · rw [hco]; simp
  rw [hcb, hco, show comp [0, 0, 3] = [(2, 0), (1, 3)] from by decide]
  rintro e w4 ⟨v4, rfl, h4, b4⟩
  simp only [List.length_cons, List.length_nil] at h4
  have hb4 : Below w.heap.size w w4 := below_next (below_next (below_next (below_next (Below.refl _ w) (Nat.le_refl _) b1) (Nat.le_refl _) b2) (Nat.le_refl _) b3) (Nat.le_refl _) (((Below.refl _ _).alloc (Nat.le_refl _) _).trans (b4.mono (by simp)))
  obtain ⟨A4, c4, rfl, _, _, _⟩ := own_form h4
  obtain ⟨ad, l, o, rfl, hbA, hd1, hd2, HR2⟩ := (Lies.own h4).run (k := 1) (by simp)
  have ho : o = 3 := by have := HR2.out; simp at this; exact this.2.symm
  subst ho
  have hx : w4.cell? ⟨ad.block, ad.off + 2 + 1, none⟩ = some (.int .i64 3) := by simpa [Addr.add] using hd2
  clear hd1 hd2
  clear h1 h2 h3 l1 l2 l3 hcb hco hts HR2 b1 b2 b3 b4 h4
  go_wp2_with fail
  go_ret
  refine ⟨?_, ?_⟩
  · rfl
  · exact hb4.alloc (by have := hb4.size; omega) _

end Go.Proofs.Ytkapkoehmofpcaa.mk
