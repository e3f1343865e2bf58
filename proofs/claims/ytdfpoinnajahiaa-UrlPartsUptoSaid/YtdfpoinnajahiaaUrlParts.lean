/-
  The contract of url's Parts.
-/
import Derived.Test.YtdfpoinnajahiaaUrlDivide
import Derived.Test.YtdfpoinnajahiaaKeeps
namespace Go.Proofs.Ytdfpoinnajahiaa.mk
open Go.RowKit

/-- the three parts -/
def pathL (r : List (UInt8 × Int)) : List (UInt8 × Int) := (r.take (firstN 35 r)).take (firstN 63 (r.take (firstN 35 r)))
def queryL (r : List (UInt8 × Int)) : List (UInt8 × Int) := (r.take (firstN 35 r)).drop (firstN 63 (r.take (firstN 35 r)) + 1)
def fragL (r : List (UInt8 × Int)) : List (UInt8 × Int) := r.drop (firstN 35 r + 1)
/-- three labelled texts -/
def Tells3 (l1 l2 l3 : List (UInt8 × Int)) (w : World) (e : Ending) (w' : World) : Prop :=
  ∃ D1 k1 D2 k2 D3 k3, e = .returned (.tuple #[.agg #[.string (txtOf l1), .slice D1 (runN l1) k1], .agg #[.string (txtOf l2), .slice D2 (runN l2) k2], .agg #[.string (txtOf l3), .slice D3 (runN l3) k3]]) ∧ Lies w' w'.heap.size D1 (runCells (comp (l1.map (·.2)))) ∧ Lies w' w'.heap.size D2 (runCells (comp (l2.map (·.2)))) ∧ Lies w' w'.heap.size D3 (runCells (comp (l3.map (·.2)))) ∧ Below w.heap.size w w'

set_option maxHeartbeats 2000000 in
set_option maxRecDepth 100000 in
theorem parts_any (a : LT) (m : Int) (w : World) (ha : a.ok w w.heap.size) (hsz : a.s.size ≤ 1073741824) (hm : w.cell? ⟨0, 0, none⟩ = some (.int .i64 m)) :
    Calls Try.prog 15 #[a.v] w (Tells3 (pathL (restL (readyL a.ch))) (queryL (restL (readyL a.ch))) (fragL (restL (readyL a.ch))) w) := by
  obtain ⟨R, hR⟩ : ∃ R, R = restL (readyL a.ch) := ⟨_, rfl⟩
  have hlenR : R.length ≤ 1073741824 := by rw [hR]; exact Nat.le_trans (restL_length _) (Nat.le_trans (readyL_length _) (by rw [LT.ch_length]; exact hsz))
  have hinR : InR R := by rw [hR]; exact (readyL_in a.ch_in).drop _
  have HR : Hid (∀ W, Below w.heap.size w W → Calls Try.prog 14 #[.agg #[.string a.s, .slice a.A a.n a.c]] W (TellsL R W)) := fun W hb => by
    rw [hR]
    exact (rest_any a W (ha.next hb (Nat.le_refl _))).mono fun e w' h => tellsL_of h
  rw [← hR]
  obtain ⟨l1, h1⟩ : ∃ l, l = R.take (firstN 35 R) := ⟨_, rfl⟩
  have hlen1 : l1.length ≤ 1073741824 := by rw [h1, List.length_take]; omega
  have hin1 : InR l1 := by rw [h1]; exact hinR.take _
  have hmb := block_zero _ _ _ hm
  have HD1 : Hid (∀ W D k, Below w.heap.size w W → Lies W W.heap.size D (runCells (comp (R.map (·.2)))) → Calls Try.prog 30 #[.agg #[.string (txtOf R), .slice D (runN R) k], .string ⟨#[35]⟩] W (Tells2 l1 (fragL R) W)) := fun W D k hb hl => by
    have h2 := divide_any (toldT R D k) 35 m W (toldT_ok k hl (by omega)) (by show (txtOf R).size ≤ _; rw [txtOf_size]; exact hlenR) ((hb.cell hmb).trans hm)
    rw [toldT_ch hinR] at h2
    rw [h1]
    exact h2
  have HD2 : Hid (∀ W D k, Below w.heap.size w W → Lies W W.heap.size D (runCells (comp (l1.map (·.2)))) → Calls Try.prog 30 #[.agg #[.string (txtOf l1), .slice D (runN l1) k], .string ⟨#[63]⟩] W (Tells2 (pathL R) (queryL R) W)) := fun W D k hb hl => by
    have h2 := divide_any (toldT l1 D k) 63 m W (toldT_ok k hl (by omega)) (by show (txtOf l1).size ≤ _; rw [txtOf_size]; exact hlen1) ((hb.cell hmb).trans hm)
    rw [toldT_ch hin1] at h2
    unfold pathL queryL
    rw [← h1]
    exact h2
  clear hR hlenR hinR h1 hlen1 hin1 hmb hm ha hsz
  generalize pathL R = p1 at *
  generalize queryL R = p2 at *
  generalize fragL R = p3 at *
  obtain ⟨s, A, n, c, rs⟩ := a
  simp only at HR
  show Calls Try.prog 15 #[.agg #[.string s, .slice A n c]] w _
  go_enter Try.func15, Try.ntmps15
  go_wp2_with fail
  generalize hwE : (((w.alloc (.cells #[.string s, .slice A n c] 24)).alloc (.cells #[.string ⟨#[]⟩, .slice none 0 0] 24)).alloc (.cells #[.string ⟨#[]⟩, .slice none 0 0] 24)).alloc (.cells #[.string ⟨#[]⟩, .slice none 0 0] 24) = wE
  have y1 : Whole wE (w.heap.size + 1) 24 #[.string ⟨#[]⟩, .slice none 0 0] := by
    rw [← hwE]
    have h := ((Whole.made (w.alloc (.cells #[.string s, .slice A n c] 24)) 24 #[.string ⟨#[]⟩, .slice none 0 0]).alloc (.cells #[.string ⟨#[]⟩, .slice none 0 0] 24)).alloc (.cells #[.string ⟨#[]⟩, .slice none 0 0] 24)
    simp only [World.size_alloc] at h
    exact h
  have y2 : Whole wE (w.heap.size + 1 + 1) 24 #[.string ⟨#[]⟩, .slice none 0 0] := by
    rw [← hwE]
    have h := (Whole.made ((w.alloc (.cells #[.string s, .slice A n c] 24)).alloc (.cells #[.string ⟨#[]⟩, .slice none 0 0] 24)) 24 #[.string ⟨#[]⟩, .slice none 0 0]).alloc (.cells #[.string ⟨#[]⟩, .slice none 0 0] 24)
    simp only [World.size_alloc] at h
    exact h
  have y3 : Whole wE (w.heap.size + 1 + 1 + 1) 24 #[.string ⟨#[]⟩, .slice none 0 0] := by
    rw [← hwE]
    have h := Whole.made (((w.alloc (.cells #[.string s, .slice A n c] 24)).alloc (.cells #[.string ⟨#[]⟩, .slice none 0 0] 24)).alloc (.cells #[.string ⟨#[]⟩, .slice none 0 0] 24)) 24 #[.string ⟨#[]⟩, .slice none 0 0]
    simp only [World.size_alloc] at h
    exact h
  have hzE : w.heap.size + 4 ≤ wE.heap.size := by rw [← hwE]; simp
  have hbE : Below w.heap.size w wE := by rw [← hwE]; exact ((((Below.refl _ _).alloc (Nat.le_refl _) _).alloc (by simp) _).alloc (by simp; omega) _).alloc (by simp; omega) _
  clear hwE
  refine (HR.out _ hbE).mono ?_
  rintro e w1 ⟨A1, c1, rfl, hl1, hb1⟩
  have hbw1 : Below w.heap.size w w1 := below_next hbE (Nat.le_refl _) hb1
  go_wp2_with fail
  refine (HD1.out _ A1 c1 hbw1 hl1).mono ?_
  rintro e w2 ⟨A2, c2, A3, c3, rfl, ho2, ho3, hb2⟩
  have hz1 := hb1.size
  have hz2 := hb2.size
  have hbE2 : Below wE.heap.size wE w2 := below_next hb1 (Nat.le_refl _) hb2
  go_wp2_with fail
  generalize hw3 : (w2.alloc (.cells #[.string (txtOf l1), .slice A2 (runN l1) c2] 24)).alloc (.cells #[.string (txtOf p3), .slice A3 (runN p3) c3] 24) = w3
  have Y6 : Whole w3 (w2.heap.size + 1) 24 #[.string (txtOf p3), .slice A3 (runN p3) c3] := by
    rw [← hw3]
    have h := Whole.made (w2.alloc (.cells #[.string (txtOf l1), .slice A2 (runN l1) c2] 24)) 24 #[.string (txtOf p3), .slice A3 (runN p3) c3]
    simp only [World.size_alloc] at h
    exact h
  have hz3 : w3.heap.size = w2.heap.size + 2 := by rw [← hw3]; simp
  have hb23 : Below w2.heap.size w2 w3 := by rw [← hw3]; exact ((Below.refl _ _).alloc (Nat.le_refl _) _).alloc (by simp) _
  clear hw3
  have hbE3 : Below wE.heap.size wE w3 := below_next hbE2 (Nat.le_refl _) hb23
  refine (HD2.out _ A2 c2 (below_next hbE (Nat.le_refl _) hbE3) (Lies.own (own_keep ho2 hb23))).mono ?_
  rintro e w4 ⟨A4, c4, A5, c5, rfl, ho4, ho5, hb4⟩
  have hz4 := hb4.size
  go_wp2_with fail
  generalize hw5 : (w4.alloc (.cells #[.string (txtOf p1), .slice A4 (runN p1) c4] 24)).alloc (.cells #[.string (txtOf p2), .slice A5 (runN p2) c5] 24) = w5
  have Y7 : Whole w5 w4.heap.size 24 #[.string (txtOf p1), .slice A4 (runN p1) c4] := by rw [← hw5]; exact (Whole.made _ _ _).alloc _
  have Y8 : Whole w5 (w4.heap.size + 1) 24 #[.string (txtOf p2), .slice A5 (runN p2) c5] := by
    rw [← hw5]
    have h := Whole.made (w4.alloc (.cells #[.string (txtOf p1), .slice A4 (runN p1) c4] 24)) 24 #[.string (txtOf p2), .slice A5 (runN p2) c5]
    simp only [World.size_alloc] at h
    exact h
  have hb45 : Below w4.heap.size w4 w5 := by rw [← hw5]; exact ((Below.refl _ _).alloc (Nat.le_refl _) _).alloc (by simp) _
  clear hw5
  have hb35 : Below w3.heap.size w3 w5 := below_next hb4 (Nat.le_refl _) hb45
  have hbE5 : Below wE.heap.size wE w5 := below_next hbE3 (Nat.le_refl _) hb35
  have X6 : Whole w5 (w2.heap.size + 1) 24 #[.string (txtOf p3), .slice A3 (runN p3) c3] := Y6.below hb35 Y6.lt
  have z1 := y1.below hbE5 y1.lt
  have z2 := y2.below hbE5 y2.lt
  have z3 := y3.below hbE5 y3.lt
  have HK : Hid (Keeps (w.heap.size + 1) (w.heap.size + 4) [(w4.heap.size, .string (txtOf p1), .slice A4 (runN p1) c4), (w4.heap.size + 1, .string (txtOf p2), .slice A5 (runN p2) c5), (w2.heap.size + 1, .string (txtOf p3), .slice A3 (runN p3) c3)] [(.slice A4 (runN p1) c4, runN p1, runCells (comp (p1.map (·.2)))), (.slice A5 (runN p2) c5, runN p2, runCells (comp (p2.map (·.2)))), (.slice A3 (runN p3) c3, runN p3, runCells (comp (p3.map (·.2))))] [w.heap.size + 1, w.heap.size + 1 + 1, w.heap.size + 1 + 1 + 1] wE w5) := by
    refine ⟨fun x hx => ?_, fun x hx => ?_, fun x hx => ?_, hbE5.mono (by omega)⟩
    · simp only [List.mem_cons, List.not_mem_nil, or_false] at hx
      rcases hx with rfl | rfl | rfl
      · exact Y7
      · exact Y8
      · exact X6
    · simp only [List.mem_cons, List.not_mem_nil, or_false] at hx
      rcases hx with rfl | rfl | rfl
      · exact own_mono (own_keep ho4 hb45) (by omega)
      · exact own_mono (own_keep ho5 hb45) (by omega)
      · exact own_mono (own_keep (own_keep ho3 hb23) hb35) (by omega)
    · simp only [List.mem_cons, List.not_mem_nil, or_false] at hx
      rcases hx with rfl | rfl | rfl
      · exact ⟨_, _, z1⟩
      · exact ⟨_, _, z2⟩
      · exact ⟨_, _, z3⟩
  have hp7 : ∀ k, k < w.heap.size + 4 → w4.heap.size ≠ k ∧ w4.heap.size + 1 ≠ k ∧ w2.heap.size + 1 ≠ k := fun k hk => by omega
  have d10 := z1.at_ 0
  have d11 := z1.at_ 1
  have d20 := z2.at_ 0
  have d21 := z2.at_ 1
  have d30 := z3.at_ 0
  have d31 := z3.at_ 1
  have f10 := z1.free 0
  have f11 := z1.free 1
  have f20 := z2.free 0
  have f21 := z2.free 1
  have f30 := z3.free 0
  have f31 := z3.free 1
  have HBE := Lib.hid hbE
  have hg2 : w2.heap.size + 1 < w4.heap.size := by omega
  have hg0 : w.heap.size + 4 ≤ w2.heap.size := by omega
  clear hb1 hb2 hb23 hb4 hb45 hb35 hbE2 hbE3 hbE5 hbw1 hl1 ho2 ho3 ho4 ho5 y1 y2 y3 Y6 Y7 Y8 X6 z1 z2 z3 hbE hz1 hz2 hz3 hz4
  generalize w2.heap.size + 1 = g6 at *
  generalize w4.heap.size = g7 at *
  generalize hK : Keeps (w.heap.size + 1) (w.heap.size + 4) [(g7, .string (txtOf p1), .slice A4 (runN p1) c4), (g7 + 1, .string (txtOf p2), .slice A5 (runN p2) c5), (g6, .string (txtOf p3), .slice A3 (runN p3) c3)] [(.slice A4 (runN p1) c4, runN p1, runCells (comp (p1.map (·.2)))), (.slice A5 (runN p2) c5, runN p2, runCells (comp (p2.map (·.2)))), (.slice A3 (runN p3) c3, runN p3, runCells (comp (p3.map (·.2))))] [w.heap.size + 1, w.heap.size + 1 + 1, w.heap.size + 1 + 1 + 1] wE = K at *
  have HCE : Hid (∀ W, K W → W.cell? ⟨g7, 0, none⟩ = some (.string (txtOf p1)) ∧ W.cell? ⟨g7, 1, none⟩ = some (.slice A4 (runN p1) c4) ∧ W.cell? ⟨g7 + 1, 0, none⟩ = some (.string (txtOf p2)) ∧ W.cell? ⟨g7 + 1, 1, none⟩ = some (.slice A5 (runN p2) c5) ∧ W.cell? ⟨g6, 0, none⟩ = some (.string (txtOf p3)) ∧ W.cell? ⟨g6, 1, none⟩ = some (.slice A3 (runN p3) c3) ∧ K W) := fun W h => by
    subst hK
    have v7 := h.var _ (List.mem_cons_self ..)
    have v8 := h.var _ (List.mem_cons_of_mem _ (List.mem_cons_self ..))
    have v6 := h.var _ (List.mem_cons_of_mem _ (List.mem_cons_of_mem _ (List.mem_cons_self ..)))
    exact ⟨v7.at_ 0, v7.at_ 1, v8.at_ 0, v8.at_ 1, v6.at_ 0, v6.at_ 1, h⟩
  have HDR : Hid (∀ W, K W → K W.drew) := fun W h => by subst hK; exact h.drew
  have HPT : Hid (∀ g, g = w.heap.size + 1 ∨ g = w.heap.size + 1 + 1 ∨ g = w.heap.size + 1 + 1 + 1 → ∀ W u v, K W → K ((W.setCell ⟨g, 0, none⟩ u).setCell ⟨g, 1, none⟩ v)) := fun g hg W u v h => by
    subst hK
    refine h.put (by simpa using hg) (by omega) (by omega) (fun x hx => ?_) u v
    have hh := hp7 g (by omega)
    simp only [List.mem_cons, List.not_mem_nil, or_false] at hx
    rcases hx with rfl | rfl | rfl
    · exact hh.1
    · exact hh.2.1
    · exact hh.2.2
  have HEND : Hid (∀ W, K W → Tells3 p1 p2 p3 w (.returned (.tuple #[.agg #[.string (txtOf p1), .slice A4 (runN p1) c4], .agg #[.string (txtOf p2), .slice A5 (runN p2) c5], .agg #[.string (txtOf p3), .slice A3 (runN p3) c3]])) W) := fun W h => by
    subst hK
    exact ⟨A4, c4, A5, c5, A3, c3, rfl, Lies.own (h.own _ (List.mem_cons_self ..)), Lies.own (h.own _ (List.mem_cons_of_mem _ (List.mem_cons_self ..))), Lies.own (h.own _ (List.mem_cons_of_mem _ (List.mem_cons_of_mem _ (List.mem_cons_self ..)))), HBE.out.trans (h.bel.mono (Nat.le_succ _))⟩
  clear hK
  obtain ⟨e70, e71, e80, e81, e60, e61, _⟩ := HCE.out _ HK.out
  go_region_held3 (fun W => W.cell? ⟨g7, 0, none⟩ = some (.string (txtOf p1)) ∧ W.cell? ⟨g7, 1, none⟩ = some (.slice A4 (runN p1) c4) ∧ W.cell? ⟨g7 + 1, 0, none⟩ = some (.string (txtOf p2)) ∧ W.cell? ⟨g7 + 1, 1, none⟩ = some (.slice A5 (runN p2) c5) ∧ W.cell? ⟨g6, 0, none⟩ = some (.string (txtOf p3)) ∧ W.cell? ⟨g6, 1, none⟩ = some (.slice A3 (runN p3) c3) ∧ K W)
    (first
      | with_reducible exact HCE.out _ (HDR.out _ HK.out)
      | (refine HCE.out _ ?_; with_reducible refine HDR.out _ ?_; with_reducible refine HPT.out (w.heap.size + 1) (.inl rfl) _ _ _ ?_; exact HK.out)
      | (refine HCE.out _ ?_; with_reducible refine HDR.out _ ?_; with_reducible refine HPT.out (w.heap.size + 1 + 1) (.inr (.inl rfl)) _ _ _ ?_; with_reducible refine HPT.out (w.heap.size + 1) (.inl rfl) _ _ _ ?_; exact HK.out)
      | (refine HCE.out _ ?_; with_reducible refine HDR.out _ ?_; with_reducible refine HPT.out (w.heap.size + 1 + 1 + 1) (.inr (.inr rfl)) _ _ _ ?_; with_reducible refine HPT.out (w.heap.size + 1 + 1) (.inr (.inl rfl)) _ _ _ ?_; with_reducible refine HPT.out (w.heap.size + 1) (.inl rfl) _ _ _ ?_; exact HK.out))
    (fail)
  all_goals
    go_wp2
    refine bodyPost_ret (v := .tuple #[.agg #[.string (txtOf p1), .slice A4 (runN p1) c4], .agg #[.string (txtOf p2), .slice A5 (runN p2) c5], .agg #[.string (txtOf p3), .slice A3 (runN p3) c3]]) ?_ rfl ?_
    · simp [results, Try.results15, go_sem, d10, d11, d20, d21, d30, d31]
    · refine HEND.out _ ?_
      with_reducible refine HDR.out _ ?_
      with_reducible refine HPT.out (w.heap.size + 1 + 1 + 1) (.inr (.inr rfl)) _ _ _ ?_
      with_reducible refine HPT.out (w.heap.size + 1 + 1) (.inr (.inl rfl)) _ _ _ ?_
      with_reducible refine HPT.out (w.heap.size + 1) (.inl rfl) _ _ _ ?_
      exact HK.out

end Go.Proofs.Ytdfpoinnajahiaa.mk
