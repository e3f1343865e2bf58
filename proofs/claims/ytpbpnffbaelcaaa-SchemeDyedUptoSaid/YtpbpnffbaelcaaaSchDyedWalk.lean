/-
  The walk of the statement SchemeDyed.
-/
import Derived.Test.YtpbpnffbaelcaaaSchAlive
namespace Go.Proofs.Ytpbpnffbaelcaaa.mk
open Go.RowKit

/-- a text, all of one origin -/
def oneL (t : ByteArray) (o : Int) : List (UInt8 × Int) := chars t.data.toList (comp (List.replicate t.size (nearO o)))
theorem oneL_snd (t : ByteArray) (o : Int) : ∀ x ∈ oneL t o, x.2 = nearO o := by
  intro x hx
  have h : x.2 ∈ (oneL t o).map (·.2) := List.mem_map.2 ⟨x, hx, rfl⟩
  unfold oneL at h
  rw [chars_snd] at h
  have hs : t.data.toList.length = t.size := by rw [Array.length_toList]; rfl
  have hq : origins t.size (comp (List.replicate t.size (nearO o))) = List.replicate t.size (nearO o) := by
    have h2 := origins_told (q := List.replicate t.size (nearO o)) (fun y hy => by
      rw [(List.mem_replicate.1 hy).2]
      unfold nearO
      omega)
    rw [List.length_replicate] at h2
    exact h2
  rw [hs, hq] at h
  exact (List.mem_replicate.1 h).2
theorem oneL_ready (t : ByteArray) (o : Int) (h : 1 ≤ o) : ∀ x ∈ readyL (oneL t o), x.2 ≠ 0 ∧ 0 ≤ x.2 := by
  intro x hx
  have h2 := oneL_snd t o x (trimL_mem (List.mem_filter.1 hx).1)
  have h3 : 1 ≤ nearO o := by unfold nearO; omega
  omega

set_option maxHeartbeats 2000000 in
set_option maxRecDepth 100000 in
theorem dyed7_any (m : Int) (t : ByteArray) (o0 : Int) (w : World) (hm : w.cell? ⟨0, 0, none⟩ = some (.int .i64 m)) (hsz : t.size ≤ 1048576) :
    Calls Try.prog 5 #[.string t, .int .i64 o0] w fun e w' => e = .returned (.bool true) ∧ Below w.heap.size w w' := by
  obtain ⟨o, ho⟩ : ∃ o, o = max o0 1 := ⟨_, rfl⟩
  have ho1 : 1 ≤ o := by omega
  obtain ⟨R, hR⟩ : ∃ R, R = readyL (oneL t o) := ⟨_, rfl⟩
  have HAL : Hid (∀ W, Below w.heap.size w W → Calls Try.prog 6 #[] W fun e w' => e = .returned (.bool true) ∧ Below W.heap.size W w') := fun W hb => alive7_any m W ((hb.cell (block_zero _ _ _ hm)).trans hm)
  obtain ⟨q, hq⟩ : ∃ q, q = comp (List.replicate t.size (nearO o)) := ⟨_, rfl⟩
  have hlen : q.length ≤ t.size := by
    have := comp_length_le (List.replicate t.size (nearO o))
    rw [List.length_replicate] at this
    rw [hq]
    exact this
  have HOF : Hid (∀ W, Calls Try.prog 15 #[.string t, .int .i64 o] W fun e w' => ∃ A c, e = .returned (.agg #[.string t, .slice A q.length c]) ∧ Lies w' w'.heap.size A (runCells q) ∧ Below W.heap.size W w') := fun W => by
    rw [hq]
    refine (of_any t o W (by omega)).mono ?_
    rintro e w1 ⟨v1, rfl, ho1, hb1⟩
    obtain ⟨A1, c1, rfl, _, _, _⟩ := own_form ho1
    exact ⟨A1, c1, rfl, Lies.own ho1, hb1⟩
  have HSC : Hid (∀ W A c, Lies W W.heap.size A (runCells q) → Calls Try.prog 7 #[.agg #[.string t, .slice A q.length c]] W (TellsB (schemeL R) (decide (0 ≤ colonI R)) W)) := fun W A c h => by
    have h2 := scheme_any ⟨t, A, q.length, c, q⟩ W ⟨h, rfl, by show q.length ≤ _; omega, by show t.size ≤ _; omega⟩
    have h3 : readyL (LT.ch ⟨t, A, q.length, c, q⟩) = R := by rw [hR]; unfold oneL; rw [← hq]; rfl
    rw [h3] at h2
    exact h2
  have HSA : Hid (∀ W A c, Below w.heap.size w W → Lies W W.heap.size A (runCells q) → Calls Try.prog 12 #[.agg #[.string t, .slice A q.length c]] W (SaysB (.bool (!decide (0 ≤ colonI R))) W)) := fun W A c hb h => by
    have h2 := safe_any ⟨t, A, q.length, c, q⟩ m W ((hb.cell (block_zero _ _ _ hm)).trans hm) ⟨h, rfl, by show q.length ≤ _; omega, by show t.size ≤ _; omega⟩ (by show t.size ≤ _; omega)
    have h3 : readyL (LT.ch ⟨t, A, q.length, c, q⟩) = R := by rw [hR]; unfold oneL; rw [← hq]; rfl
    rw [h3, safeB_dyed (by rw [hR]; exact oneL_ready t o ho1)] at h2
    exact h2
  clear hR hq hlen hm hsz ho1
  generalize decide (0 ≤ colonI R) = bb at *
  generalize schemeL R = S at *
  go_enter Try.func5, Try.ntmps5
  go_wp2_with fail
  refine (HAL.out _ (Below.refl _ _)).mono ?_
  rintro e w1 ⟨rfl, hb1⟩
  try rw [← ho]
  go_wp2_with fail
  try rw [← ho]
  refine (HOF.out _).mono ?_
  rintro e w2 ⟨A2, c2, rfl, hl2, hb2⟩
  clear ho
  generalize hw3 : w2.alloc (.cells #[.string t, .slice A2 q.length c2] 24) = w3
  have b23 : Below w2.heap.size w2 w3 := by rw [← hw3]; exact (Below.refl _ _).alloc (Nat.le_refl _) _
  have Y3 : Whole w3 w2.heap.size 24 #[.string t, .slice A2 q.length c2] := by rw [← hw3]; exact Whole.made _ _ _
  have hbw3 : Below w.heap.size w w3 := below_next (below_next hb1 (Nat.le_refl _) hb2) (Nat.le_refl _) b23
  have L3 : Lies w3 w3.heap.size A2 (runCells q) := hl2.next b23 (Nat.le_refl _)
  have d0 : w3.cell? ⟨w2.heap.size, 0, none⟩ = some (.string t) := Y3.at_ 0
  have d1 : w3.cell? ⟨w2.heap.size, 1, none⟩ = some (.slice A2 q.length c2) := Y3.at_ 1
  go_wp2_with fail
  refine (HSC.out _ A2 c2 L3).mono ?_
  rintro e w4 ⟨A4, c4, rfl, hl4, hb4⟩
  clear hw3
  generalize hw5 : w4.alloc (.cells #[.string (txtOf S), .slice A4 (runN S) c4] 24) = w5
  have b45 : Below w4.heap.size w4 w5 := by rw [← hw5]; exact (Below.refl _ _).alloc (Nat.le_refl _) _
  have b35 : Below w3.heap.size w3 w5 := below_next hb4 (Nat.le_refl _) b45
  have hbw5 : Below w.heap.size w w5 := below_next hbw3 (Nat.le_refl _) b35
  have Y35 := Y3.below b35 Y3.lt
  have L5 : Lies w5 w5.heap.size A2 (runCells q) := L3.next b35 (Nat.le_refl _)
  clear d0 d1
  have d0 : w5.cell? ⟨w2.heap.size, 0, none⟩ = some (.string t) := Y35.at_ 0
  have d1 : w5.cell? ⟨w2.heap.size, 1, none⟩ = some (.slice A2 q.length c2) := Y35.at_ 1
  go_wp2_with fail
  refine (HSA.out _ A2 c2 hbw5 L5).mono ?_
  rintro e w6 ⟨rfl, hb6⟩
  go_wp2_with fail
  go_ret
  exact ⟨by first | rfl | exact ret_bool (by simp), below_next hbw5 (Nat.le_refl _) hb6⟩

end Go.Proofs.Ytpbpnffbaelcaaa.mk
