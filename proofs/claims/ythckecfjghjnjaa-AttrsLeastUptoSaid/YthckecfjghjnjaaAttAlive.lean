/-
  The contract of the statements' own test of attrs: the page's example.
-/
import Derived.Test.YthckecfjghjnjaaAttGet
namespace Go.Proofs.Ythckecfjghjnjaa.mk
open Go.RowKit

theorem ofT_any (s : ByteArray) (o : Int) (w : World) (hs : s.size ≤ 4294967296) :
    Calls Try.prog 16 #[.string s, .int .i64 o] w fun e w' => ∃ t : LT, e = .returned (.agg #[.string s, .slice t.A t.n t.c]) ∧ Hid (t.s = s ∧ OwnL w' w.heap.size t) ∧ Below w.heap.size w w' := by
  refine (of_any s o w hs).mono ?_
  rintro e w1 ⟨v1, rfl, ho1, hb1⟩
  obtain ⟨A1, c1, rfl, _, _, _⟩ := own_form ho1
  have hlen : (comp (List.replicate s.size (nearO o))).length ≤ s.size := by
    have := comp_length_le (List.replicate s.size (nearO o))
    rw [List.length_replicate] at this
    exact this
  exact ⟨⟨s, A1, _, c1, comp (List.replicate s.size (nearO o))⟩, rfl, ⟨rfl, rfl, Nat.le_trans hlen hs, hs, ho1⟩, hb1⟩

theorem lies_wholeA {W : World} {g : Nat} {t : TypeId} {cs : Array Value} {l : List Value} (h : Whole W g t cs) (hl : cs.toList = l) : Lies W W.heap.size (some ⟨g, 0, none⟩) l := by
  intro j u hu
  refine ⟨_, rfl, h.lt, ?_⟩
  subst hl
  have h1 := h.at_ j
  rw [← Array.getElem?_toList, hu] at h1
  have e : (⟨g, 0, none⟩ : Addr).add j = ⟨g, j, none⟩ := by
    cases j with
    | zero => rfl
    | succ j => simp [Addr.add]
  rw [e]; exact h1

theorem once_two {p q : PA} (h : nmB q = nmB p) : onceA [p, q] = [p] := by
  have hp : placeN [p, q] (nmB p) = 0 := placeN_of (i := 0) rfl rfl (fun j x hj => by omega)
  unfold onceA sel
  show selTo (onceP [p, q]) [p, q] 2 = _
  rw [selTo_next (x := q) rfl, selTo_next (x := p) rfl]
  have e0 : onceP [p, q] 0 = true := by
    show isI (fun x => placeN [p, q] (nmB x) == 0) [p, q] 0 = true
    rw [isI_at (p := p) rfl, hp]; rfl
  have e1 : onceP [p, q] 1 = false := by
    show isI (fun x => placeN [p, q] (nmB x) == 1) [p, q] 1 = false
    rw [isI_at (p := q) rfl, h, hp]; rfl
  rw [e0, e1]
  rfl

set_option maxHeartbeats 1000000 in
set_option maxRecDepth 100000 in
theorem alive10_any (w : World) : Calls Try.prog 6 #[] w fun e w' => e = .returned (.bool true) ∧ Below w.heap.size w w' := by
  go_enter Try.func6, Try.ntmps6
  go_wp2_with fail
  refine (ofT_any ⟨#[97]⟩ 0 w (by show (1 : Nat) ≤ _; omega)).mono ?_
  rintro e w1 ⟨t1, rfl, h1, hb1⟩
  go_wp2_with fail
  refine (ofT_any ⟨#[49]⟩ 0 w1 (by show (1 : Nat) ≤ _; omega)).mono ?_
  rintro e w2 ⟨t2, rfl, h2, hb2⟩
  generalize hw3 : w2.alloc (.cells #[.string ⟨#[97]⟩, .slice t1.A t1.n t1.c, .string ⟨#[49]⟩, .slice t2.A t2.n t2.c] 27) = w3
  have y3 : Whole w3 w2.heap.size 27 #[.string ⟨#[97]⟩, .slice t1.A t1.n t1.c, .string ⟨#[49]⟩, .slice t2.A t2.n t2.c] := by rw [← hw3]; exact Whole.made _ _ _
  have hb3 : Below w2.heap.size w2 w3 := by rw [← hw3]; exact (Below.refl _ _).alloc (Nat.le_refl _) _
  go_wp2_with fail
  clear hw3
  refine (ofT_any ⟨#[97]⟩ 0 w3 (by show (1 : Nat) ≤ _; omega)).mono ?_
  rintro e w4 ⟨t4, rfl, h4, hb4⟩
  go_wp2_with fail
  refine (ofT_any ⟨#[50]⟩ 0 w4 (by show (1 : Nat) ≤ _; omega)).mono ?_
  rintro e w5 ⟨t5, rfl, h5, hb5⟩
  generalize hw6 : w5.alloc (.cells #[.string ⟨#[97]⟩, .slice t4.A t4.n t4.c, .string ⟨#[50]⟩, .slice t5.A t5.n t5.c] 27) = w6
  have y6 : Whole w6 w5.heap.size 27 #[.string ⟨#[97]⟩, .slice t4.A t4.n t4.c, .string ⟨#[50]⟩, .slice t5.A t5.n t5.c] := by rw [← hw6]; exact Whole.made _ _ _
  have hb6 : Below w5.heap.size w5 w6 := by rw [← hw6]; exact (Below.refl _ _).alloc (Nat.le_refl _) _
  have hb46 := below_next hb5 (Nat.le_refl _) hb6
  have hb36 := below_next hb4 (Nat.le_refl _) hb46
  have y36 := y3.below hb36 y3.lt
  have c0 : w6.cell? ⟨w2.heap.size, 0, none⟩ = some (.string ⟨#[97]⟩) := y36.at_ 0
  have c1 : w6.cell? ⟨w2.heap.size, 1, none⟩ = some (.slice t1.A t1.n t1.c) := y36.at_ 1
  have c2 : w6.cell? ⟨w2.heap.size, 2, none⟩ = some (.string ⟨#[49]⟩) := y36.at_ 2
  have c3 : w6.cell? ⟨w2.heap.size, 3, none⟩ = some (.slice t2.A t2.n t2.c) := y36.at_ 3
  have d0 : w6.cell? ⟨w5.heap.size, 0, none⟩ = some (.string ⟨#[97]⟩) := y6.at_ 0
  have d1 : w6.cell? ⟨w5.heap.size, 1, none⟩ = some (.slice t4.A t4.n t4.c) := y6.at_ 1
  have d2 : w6.cell? ⟨w5.heap.size, 2, none⟩ = some (.string ⟨#[50]⟩) := y6.at_ 2
  have d3 : w6.cell? ⟨w5.heap.size, 3, none⟩ = some (.slice t5.A t5.n t5.c) := y6.at_ 3
  go_wp2_with fail
  clear hw6 c0 c1 c2 c3 d0 d1 d2 d3
  generalize hw7 : w6.alloc (.cells #[.string ⟨#[97]⟩, .slice t1.A t1.n t1.c, .string ⟨#[49]⟩, .slice t2.A t2.n t2.c, .string ⟨#[97]⟩, .slice t4.A t4.n t4.c, .string ⟨#[50]⟩, .slice t5.A t5.n t5.c] 27) = w7
  have y7 : Whole w7 w6.heap.size 27 #[.string ⟨#[97]⟩, .slice t1.A t1.n t1.c, .string ⟨#[49]⟩, .slice t2.A t2.n t2.c, .string ⟨#[97]⟩, .slice t4.A t4.n t4.c, .string ⟨#[50]⟩, .slice t5.A t5.n t5.c] := by rw [← hw7]; exact Whole.made _ _ _
  have hb7 : Below w6.heap.size w6 w7 := by rw [← hw7]; exact (Below.refl _ _).alloc (Nat.le_refl _) _
  clear hw7
  have hb47 := below_next hb46 (Nat.le_refl _) hb7
  have hb37 := below_next hb36 (Nat.le_refl _) hb7
  have hb57 := below_next hb6 (Nat.le_refl _) hb7
  have hb27 := below_next hb3 (Nat.le_refl _) hb37
  have hb17 := below_next hb2 (Nat.le_refl _) hb27
  have HB : Hid (Below w.heap.size w w7) := below_next hb1 (Nat.le_refl _) hb17
  have HL : Hid (Lies w7 w7.heap.size (some ⟨w6.heap.size, 0, none⟩) (atCells [⟨t1, t2⟩, ⟨t4, t5⟩])) := by
    refine lies_wholeA y7 ?_
    unfold atCells atRow
    rw [← h1.out.1, ← h2.out.1]
    simp only [h1.out.1, h2.out.1, h4.out.1, h5.out.1, List.flatMap_cons, List.flatMap_nil]
    rfl
  have HO : Hid (AllOk w7 w7.heap.size [⟨t1, t2⟩, ⟨t4, t5⟩]) := by
    intro t ht
    rcases List.mem_cons.1 ht with rfl | ht
    · exact ⟨h1.out.2.ok.next hb17 (Nat.le_refl _), h2.out.2.ok.next hb27 (Nat.le_refl _)⟩
    · rcases List.mem_cons.1 ht with rfl | ht
      · exact ⟨h4.out.2.ok.next hb47 (Nat.le_refl _), h5.out.2.ok.next hb57 (Nat.le_refl _)⟩
      · cases ht
  have HC : Hid (onceA ([⟨t1, t2⟩, ⟨t4, t5⟩] |>.map AT.ch) = [AT.ch ⟨t1, t2⟩]) := once_two (by rw [AT.nmB, AT.nmB]; unfold LT.bs; show t4.s.data.toList = t1.s.data.toList; rw [h1.out.1, h4.out.1])
  have HV : Hid (t2.s = ⟨#[49]⟩) := h2.out.1
  clear hb1 hb2 hb3 hb4 hb5 hb6 hb7 hb46 hb36 hb47 hb37 hb57 hb27 hb17 y3 y36 y6 y7 h1 h2 h4 h5
  go_wp2_with fail
  refine (once_any (some ⟨w6.heap.size, 0, none⟩) 2 2 [⟨t1, t2⟩, ⟨t4, t5⟩] w7 HL.out HO.out rfl (by omega)).mono ?_
  rw [HC.out]
  rintro e w8 ⟨A8, c8, us, rfl, ho, _, hch, hb8⟩
  obtain ⟨u, rfl⟩ : ∃ u, us = [u] := by
    have h1 := congrArg List.length hch
    rw [List.length_map] at h1
    exact List.length_eq_one_iff.1 h1
  have hu : u.vl.s = ⟨#[49]⟩ := by
    have h1 : u.ch = AT.ch ⟨t1, t2⟩ := by injection hch
    have h2 : u.vl.bs = t2.bs := by rw [← LT.ch_fst, ← LT.ch_fst]; exact congrArg (fun p : PA => p.2.map (·.1)) h1
    have h3 : u.vl.s.data = t2.s.data := Array.toList_inj.1 h2
    rw [← HV.out]
    exact congrArg ByteArray.mk h3
  have HBF : Hid (Below w.heap.size w w8) := below_next HB.out (Nat.le_refl _) hb8
  obtain ⟨ad, t, hA, _, _, _, k2, _, hR⟩ := (Lies.own ho).att (k := 0) (by show 0 < 1; omega)
  have ht : u = t := by have := hR.out; simp at this; exact this
  subst ht
  subst hA
  rw [hu] at k2
  have k2' : w8.cell? ⟨ad.block, ad.off + 2, none⟩ = some (.string ⟨#[49]⟩) := k2
  clear ho hch hb8 hR hu k2
  go_wp2_with fail
  go_ret
  exact ⟨rfl, HBF.out⟩

end Go.Proofs.Ythckecfjghjnjaa.mk
