/-
  The contract of attrs' fix: a name and a value, as they are taken.
-/
import Derived.Test.YthckecfjghjnjaaAttMem
import Derived.Deep.DeepCutAuto
namespace Go.Proofs.Ythckecfjghjnjaa.mk
open Go.RowKit

/-- an attribute that is told, in memory of its own -/
def TellsAt (q : PA) (w : World) (e : Ending) (w' : World) : Prop := ∃ t : AT, e = .returned t.v ∧ t.ch = q ∧ OwnA w' w.heap.size t ∧ Below w.heap.size w w'

theorem OwnL.far {w : World} {base g i : Nat} {t : LT} (h : OwnL w base t) (hg : g < base) (u : Value) : OwnL (w.setCell ⟨g, i, none⟩ u) base t :=
  h.keep fun k _ hk _ => Below.heap_setCell _ _ _ _ (by show k ≠ g; omega)

theorem fixA_end {w w2 : World} {a : AT} {t1 t2 : LT} (h1 : OwnL w2 (w.heap.size + 2) t1) (h2 : OwnL w2 (w.heap.size + 2) t2) (e1 : t1.s = a.nm.s) (e2 : t2.s = a.vl.s) (q1 : t1.ch = a.nm.ch) (q2 : t2.ch = a.vl.ch) (hb : Below w.heap.size w w2) :
    TellsAt a.ch w (.returned (.agg #[.string a.nm.s, .slice t1.A t1.n t1.c, .string a.vl.s, .slice t2.A t2.n t2.c])) ((((w2.setCell ⟨w.heap.size + 1, 0, none⟩ (.string a.nm.s)).setCell ⟨w.heap.size + 1, 1, none⟩ (.slice t1.A t1.n t1.c)).setCell ⟨w.heap.size + 1, 2, none⟩ (.string a.vl.s)).setCell ⟨w.heap.size + 1, 3, none⟩ (.slice t2.A t2.n t2.c)) := by
  refine ⟨⟨t1, t2⟩, ?_, ?_, ?_, ?_⟩
  · unfold AT.v; rw [e1, e2]
  · unfold AT.ch; rw [q1, q2]
  · have hl : w.heap.size + 1 < w.heap.size + 2 := Nat.lt_succ_self _
    exact ⟨((((h1.far hl _).far hl _).far hl _).far hl _).mono (by omega), ((((h2.far hl _).far hl _).far hl _).far hl _).mono (by omega)⟩
  · have hl : w.heap.size ≤ w.heap.size + 1 := Nat.le_succ _
    exact (((hb.setCell hl _).setCell hl _).setCell hl _).setCell hl _

set_option maxHeartbeats 2000000 in
set_option maxRecDepth 100000 in
theorem fixA_any (a : AT) (w : World) (ha : a.ok w w.heap.size) :
    Calls Try.prog 22 #[.agg #[.string a.nm.s, .slice a.nm.A a.nm.n a.nm.c, .string a.vl.s, .slice a.vl.A a.vl.n a.vl.c]] w (TellsAt a.ch w) := by
  have HA := Lib.hid ha
  clear ha
  go_enter Try.func22, Try.ntmps22
  go_wp2_with fail
  generalize hw0 : (w.alloc (.cells #[.string a.nm.s, .slice a.nm.A a.nm.n a.nm.c, .string a.vl.s, .slice a.vl.A a.vl.n a.vl.c] 27)).alloc (.cells #[.string ⟨#[]⟩, .slice none 0 0, .string ⟨#[]⟩, .slice none 0 0] 27) = w0
  have y0 : Whole w0 w.heap.size 27 #[.string a.nm.s, .slice a.nm.A a.nm.n a.nm.c, .string a.vl.s, .slice a.vl.A a.vl.n a.vl.c] := by rw [← hw0]; exact (Whole.made w _ _).alloc _
  have y1 : Whole w0 (w.heap.size + 1) 27 #[.string ⟨#[]⟩, .slice none 0 0, .string ⟨#[]⟩, .slice none 0 0] := by
    rw [← hw0]
    have h := Whole.made (w.alloc (.cells #[.string a.nm.s, .slice a.nm.A a.nm.n a.nm.c, .string a.vl.s, .slice a.vl.A a.vl.n a.vl.c] 27)) 27 #[.string ⟨#[]⟩, .slice none 0 0, .string ⟨#[]⟩, .slice none 0 0]
    simp only [World.size_alloc] at h
    exact h
  have hz0 : w.heap.size + 2 ≤ w0.heap.size := by rw [← hw0]; simp
  have hz1 : w.heap.size + 1 ≤ w0.heap.size := by omega
  have hb0 : Below w.heap.size w w0 := by rw [← hw0]; exact ((Below.refl _ _).alloc (Nat.le_refl _) _).alloc (by simp) _
  have ha0 : a.ok w0 (w.heap.size + 1) := (HA.out.below hb0).mono (by omega)
  have HL1 := Lib.hid ha0.1
  have HL2 := Lib.hid ha0.2
  have HW := Lib.hid hw0
  clear hw0 ha0
  have c0 : w0.cell? ⟨w.heap.size, 0, none⟩ = some (.string a.nm.s) := y0.at_ 0
  have c1 : w0.cell? ⟨w.heap.size, 1, none⟩ = some (.slice a.nm.A a.nm.n a.nm.c) := y0.at_ 1
  have c2 : w0.cell? ⟨w.heap.size, 2, none⟩ = some (.string a.vl.s) := y0.at_ 2
  have c3 : w0.cell? ⟨w.heap.size, 3, none⟩ = some (.slice a.vl.A a.vl.n a.vl.c) := y0.at_ 3
  have KS : ∀ w', Below (w.heap.size + 1) w0 w' → w'.cell? ⟨w.heap.size, 0, none⟩ = some (.string a.nm.s) ∧ w'.cell? ⟨w.heap.size, 1, none⟩ = some (.slice a.nm.A a.nm.n a.nm.c) ∧ w'.cell? ⟨w.heap.size, 2, none⟩ = some (.string a.vl.s) ∧ w'.cell? ⟨w.heap.size, 3, none⟩ = some (.slice a.vl.A a.vl.n a.vl.c) ∧ Below (w.heap.size + 1) w0 w' := fun w' h =>
    ⟨(h.cell (Nat.lt_succ_self _)).trans (y0.at_ 0), (h.cell (Nat.lt_succ_self _)).trans (y0.at_ 1), (h.cell (Nat.lt_succ_self _)).trans (y0.at_ 2), (h.cell (Nat.lt_succ_self _)).trans (y0.at_ 3), h⟩
  have HKS := Lib.hid KS
  clear KS
  have y1' := y1.drew
  go_region_held3 (fun w' => w'.cell? ⟨w.heap.size, 0, none⟩ = some (.string a.nm.s) ∧ w'.cell? ⟨w.heap.size, 1, none⟩ = some (.slice a.nm.A a.nm.n a.nm.c) ∧ w'.cell? ⟨w.heap.size, 2, none⟩ = some (.string a.vl.s) ∧ w'.cell? ⟨w.heap.size, 3, none⟩ = some (.slice a.vl.A a.vl.n a.vl.c) ∧ Below (w.heap.size + 1) w0 w')
    (first
      | exact HKS.out _ (Below.drew (Below.refl _ _))
      | (go_split_ands; exact HKS.out _ (by assumption))
      | (go_split_ands; exact HKS.out _ (below_next (by assumption) hz1 hb1))
      | (go_split_ands; exact HKS.out _ (below_next (by assumption) hz1 hb2))
      | (go_split_ands; refine HKS.out _ ?_; refine Below.setCell (p := ⟨w.heap.size + 1, 3, none⟩) ?_ (Nat.le_refl _) _; refine Below.setCell (p := ⟨w.heap.size + 1, 2, none⟩) ?_ (Nat.le_refl _) _; refine Below.setCell (p := ⟨w.heap.size + 1, 1, none⟩) ?_ (Nat.le_refl _) _; refine Below.setCell (p := ⟨w.heap.size + 1, 0, none⟩) ?_ (Nat.le_refl _) _; assumption))
    (first
      | (go_at_call_of 19 (a.nm.A); refine (fix_any a.nm.s a.nm.A a.nm.n a.nm.c a.nm.rs _ ?_ HL1.out.2.1 HL1.out.2.2.2 HL1.out.2.2.1).mono ?_; (go_split_ands; exact HL1.out.1.next (by assumption) hz1); rintro e w1 ⟨v1, rfl, h1, hb1⟩; obtain ⟨t1, rfl, e1, q1, o1⟩ := own_told HL1.out.2.2.2 h1; have hw1 : Whole w1 (w.heap.size + 1) 27 #[.string ⟨#[]⟩, .slice none 0 0, .string ⟨#[]⟩, .slice none 0 0] := Whole.below (by assumption) hb1 (Whole.lt (by assumption)); have c10 := hw1.at_ 0; have c11 := hw1.at_ 1; have c12 := hw1.at_ 2; have c13 := hw1.at_ 3; have f10 := hw1.free 0; have f11 := hw1.free 1; have f12 := hw1.free 2; have f13 := hw1.free 3)
      | (go_at_call_of 19 (a.vl.A); refine (fix_any a.vl.s a.vl.A a.vl.n a.vl.c a.vl.rs _ ?_ HL2.out.2.1 HL2.out.2.2.2 HL2.out.2.2.1).mono ?_; (go_split_ands; exact HL2.out.1.next (by assumption) hz1); rintro e w2 ⟨v2, rfl, h2, hb2⟩; obtain ⟨t2, rfl, e2, q2, o2⟩ := own_told HL2.out.2.2.2 h2; have hw2 : Whole w2 (w.heap.size + 1) 27 #[.string ⟨#[]⟩, .slice none 0 0, .string ⟨#[]⟩, .slice none 0 0] := Whole.below (by assumption) hb2 (Whole.lt (by assumption)); have c20 := hw2.at_ 0; have c21 := hw2.at_ 1; have c22 := hw2.at_ 2; have c23 := hw2.at_ 3; have f20 := hw2.free 0; have f21 := hw2.free 1; have f22 := hw2.free 2; have f23 := hw2.free 3))
  all_goals
    go_wp2
    refine bodyPost_ret (v := .agg #[.string a.nm.s, .slice t1.A t1.n t1.c, .string a.vl.s, .slice t2.A t2.n t2.c]) ?_ rfl ?_
    · simp [results, Try.results22, go_sem, *]
    · have k1 : w.heap.size + 2 ≤ w0.drew.heap.size := hz0
      exact fixA_end ((o1.below hb2).mono k1) (o2.mono (Nat.le_trans k1 hb1.size)) e1 e2 q1 q2 (below_next (below_next hb0.drew (Nat.le_refl _) hb1) (Nat.le_refl _) hb2)

end Go.Proofs.Ythckecfjghjnjaa.mk
