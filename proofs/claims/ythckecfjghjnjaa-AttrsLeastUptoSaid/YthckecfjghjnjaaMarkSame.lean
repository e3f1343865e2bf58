/-
  The contract of mark's Same.
-/
import Derived.Test.YthckecfjghjnjaaMarkEq
import Derived.Test.YthckecfjghjnjaaMarkCat
namespace Go.Proofs.Ythckecfjghjnjaa.mk
open Go.RowKit

/-- the same bytes and origins -/
def sameB (a b : LT) : Bool := decide (a.bs = b.bs ∧ a.os = b.os)

set_option maxHeartbeats 2000000 in
set_option maxRecDepth 100000 in
theorem same_any (a b : LT) (w : World) (ha : a.ok w w.heap.size) (hb : b.ok w w.heap.size) :
    Calls Try.prog 38 #[.agg #[.string a.s, .slice a.A a.n a.c], .agg #[.string b.s, .slice b.A b.n b.c]] w fun e w' => e = .returned (.bool (sameB a b)) ∧ Below w.heap.size w w' := by
  have HA := Lib.hid ha
  have HB := Lib.hid hb
  clear ha hb
  go_enter Try.func38, Try.ntmps38
  go_wp2_with fail
  generalize hw0 : (w.alloc (.cells #[.string a.s, .slice a.A a.n a.c] 25)).alloc (.cells #[.string b.s, .slice b.A b.n b.c] 25) = w0
  have y0 : Whole w0 w.heap.size 25 #[.string a.s, .slice a.A a.n a.c] := by rw [← hw0]; exact (Whole.made w _ _).alloc _
  have y1 : Whole w0 (w.heap.size + 1) 25 #[.string b.s, .slice b.A b.n b.c] := by
    rw [← hw0]
    have h := Whole.made (w.alloc (.cells #[.string a.s, .slice a.A a.n a.c] 25)) 25 #[.string b.s, .slice b.A b.n b.c]
    simp only [World.size_alloc] at h
    exact h
  have hz0 : w.heap.size + 2 ≤ w0.heap.size := by rw [← hw0]; simp
  have hb0 : Below w.heap.size w w0 := by rw [← hw0]; exact ((Below.refl _ _).alloc (Nat.le_refl _) _).alloc (by simp) _
  have HLA := Lib.hid (HA.out.next hb0 (Nat.le_refl _))
  have HLB := Lib.hid (HB.out.next hb0 (Nat.le_refl _))
  have HW := Lib.hid hw0
  clear hw0
  have c0 : w0.cell? ⟨w.heap.size, 0, none⟩ = some (.string a.s) := y0.at_ 0
  have c1 : w0.cell? ⟨w.heap.size, 1, none⟩ = some (.slice a.A a.n a.c) := y0.at_ 1
  have c2 : w0.cell? ⟨w.heap.size + 1, 0, none⟩ = some (.string b.s) := y1.at_ 0
  have c3 : w0.cell? ⟨w.heap.size + 1, 1, none⟩ = some (.slice b.A b.n b.c) := y1.at_ 1
  by_cases ht : a.bs = b.bs
  · have ht' : (a.s.toList == b.s.toList) = true := by rw [beq_iff_eq, ByteArray.toList_eq, ByteArray.toList_eq]; exact ht
    have KS : ∀ w', Below w0.heap.size w0 w' → w'.cell? ⟨w.heap.size, 0, none⟩ = some (.string a.s) ∧ w'.cell? ⟨w.heap.size, 1, none⟩ = some (.slice a.A a.n a.c) ∧ w'.cell? ⟨w.heap.size + 1, 0, none⟩ = some (.string b.s) ∧ w'.cell? ⟨w.heap.size + 1, 1, none⟩ = some (.slice b.A b.n b.c) ∧ Below w0.heap.size w0 w' := fun w' h =>
      ⟨(h.cell y0.lt).trans (y0.at_ 0), (h.cell y0.lt).trans (y0.at_ 1), (h.cell y1.lt).trans (y1.at_ 0), (h.cell y1.lt).trans (y1.at_ 1), h⟩
    have HKS := Lib.hid KS
    have HCA : Hid ((taken a.s.size a.rs).length ≤ 4294967296) := by
      show (taken a.s.size a.rs).length ≤ 4294967296
      have h1 := comp_length_le (origins a.s.size a.rs)
      have h2 := HLA.out.2.2.2
      rw [origins_length] at h1
      unfold taken
      omega
    have HT := Lib.hid ht
    clear KS ht
    go_region_held3 (fun w' => w'.cell? ⟨w.heap.size, 0, none⟩ = some (.string a.s) ∧ w'.cell? ⟨w.heap.size, 1, none⟩ = some (.slice a.A a.n a.c) ∧ w'.cell? ⟨w.heap.size + 1, 0, none⟩ = some (.string b.s) ∧ w'.cell? ⟨w.heap.size + 1, 1, none⟩ = some (.slice b.A b.n b.c) ∧ Below w0.heap.size w0 w')
      (first
        | exact HKS.out _ (Below.drew (Below.refl _ _))
        | (go_split_ands; exact HKS.out _ (by assumption))
        | (go_split_ands; exact HKS.out _ (below_next (by assumption) (Nat.le_refl _) hb1))
        | (go_split_ands; exact HKS.out _ (below_next (by assumption) (Nat.le_refl _) hb2))
        | (go_split_ands; exact HKS.out _ (below_next (by assumption) (Nat.le_refl _) hb3)))
      (first
        | (go_at_call_of 34 (a.A); refine (taken_any a.s a.A a.n a.c a.rs _ ?_ HLA.out.2.1 HLA.out.2.2.2 HLA.out.2.2.1).mono ?_; (go_split_ands; exact HLA.out.1.next (by assumption) (Nat.le_refl _)); rintro e w1 ⟨v1, rfl, h1, hb1⟩; obtain ⟨A1, d1, rfl, _, _, _⟩ := own_form h1)
        | (go_at_call_of 34 (b.A); refine (taken_any b.s b.A b.n b.c b.rs _ ?_ HLB.out.2.1 HLB.out.2.2.2 HLB.out.2.2.1).mono ?_; (go_split_ands; exact HLB.out.1.next (by assumption) (Nat.le_refl _)); rintro e w2 ⟨v2, rfl, h2, hb2⟩; obtain ⟨A2, d2, rfl, _, _, _⟩ := own_form h2)
        | (go_at_call 40; refine (equal_any A1 A2 _ _ d1 d2 (taken a.s.size a.rs) (taken b.s.size b.rs) _ (by exact (Lies.own h1).next hb2 (Nat.le_refl _)) (by exact Lies.own h2) rfl rfl HCA.out).mono ?_; rintro e w3 ⟨rfl, hb3⟩))
    all_goals
      have HE : Hid (decide (taken a.s.size a.rs = taken b.s.size b.rs) = sameB a b) := by
        show decide (taken a.s.size a.rs = taken b.s.size b.rs) = sameB a b
        unfold sameB
        rw [decide_eq_decide]
        refine ⟨fun h => ⟨HT.out, comp_inj h⟩, fun h => ?_⟩
        have h2 : origins a.s.size a.rs = origins b.s.size b.rs := h.2
        unfold taken
        rw [h2]
      go_wp2
      go_ret
      exact ⟨ret_bool' HE.out, below_next (below_next (below_next hb0.drew (Nat.le_refl _) hb1) (Nat.le_refl _) hb2) (Nat.le_refl _) hb3⟩
  · have ht' : (a.s.toList == b.s.toList) = false := by rw [beq_eq_false_iff_ne, ByteArray.toList_eq, ByteArray.toList_eq]; exact ht
    have HF : Hid (sameB a b = false) := by
      show sameB a b = false
      unfold sameB
      rw [decide_eq_false_iff_not]
      exact fun h => ht h.1
    clear ht
    go_quiet (fail)
    go_wp2
    go_ret
    exact ⟨ret_bool' HF.out.symm, hb0.drewN nq⟩

end Go.Proofs.Ythckecfjghjnjaa.mk
