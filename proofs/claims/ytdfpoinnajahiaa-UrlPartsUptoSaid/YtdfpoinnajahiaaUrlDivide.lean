/-
  The contract of url's divide.
-/
import Derived.Test.YtdfpoinnajahiaaUrlScheme
import Derived.Test.YtdfpoinnajahiaaSeekFind
namespace Go.Proofs.Ytdfpoinnajahiaa.mk
open Go.RowKit

theorem own_put {w : World} {base gR n sz : Nat} {ty : TypeId} {v : Value} {xs : List Value} (h : w.ownsRow base ty sz v n xs) (hg : gR < base) (u u' : Value) : ((w.setCell ⟨gR, 0, none⟩ u).setCell ⟨gR, 1, none⟩ u').ownsRow base ty sz v n xs := by
  have hx : ∀ p : Addr, p.block = gR → v.ownBlock ≠ some p.block := fun p hp e => by
    have := (h.lt _ e).1
    omega
  exact own_far (own_far h _ (hx _ rfl) _) _ (hx _ rfl) _

/-- two labelled texts -/
def Tells2 (l1 l2 : List (UInt8 × Int)) (w : World) (e : Ending) (w' : World) : Prop :=
  ∃ D1 k1 D2 k2, e = .returned (.tuple #[.agg #[.string (txtOf l1), .slice D1 (runN l1) k1], .agg #[.string (txtOf l2), .slice D2 (runN l2) k2]]) ∧ w'.ownsRow w.heap.size 44 2 (.slice D1 (runN l1) k1) (runN l1) (runCells (comp (l1.map (·.2)))) ∧ w'.ownsRow w.heap.size 44 2 (.slice D2 (runN l2) k2) (runN l2) (runCells (comp (l2.map (·.2)))) ∧ Below w.heap.size w w'

/-- what a region keeps that reads an argument and stores two answers -/
structure TwoKeep (gR : Nat) (wE w : World) : Prop where
  r1 : ∃ x y, Whole w gR 24 #[x, y]
  r2 : ∃ x y, Whole w (gR + 1) 24 #[x, y]
  bel : Below gR wE w
theorem TwoKeep.drew {gR : Nat} {wE w : World} (h : TwoKeep gR wE w) : TwoKeep gR wE w.drew := ⟨h.r1, h.r2, h.bel.drew⟩
theorem TwoKeep.below {gR : Nat} {wE w w' : World} (h : TwoKeep gR wE w) (hz : gR ≤ wE.heap.size) (hb : Below w.heap.size w w') : TwoKeep gR wE w' := by
  obtain ⟨x, y, h1⟩ := h.r1
  obtain ⟨x2, y2, h2⟩ := h.r2
  exact ⟨⟨x, y, h1.below hb h1.lt⟩, ⟨x2, y2, h2.below hb h2.lt⟩, below_next h.bel hz hb⟩
theorem TwoKeep.put1 {gR : Nat} {wE w : World} (h : TwoKeep gR wE w) (u v : Value) : TwoKeep gR wE ((w.setCell ⟨gR, 0, none⟩ u).setCell ⟨gR, 1, none⟩ v) := by
  obtain ⟨x, y, h1⟩ := h.r1
  obtain ⟨x2, y2, h2⟩ := h.r2
  have hne : gR + 1 ≠ gR := Nat.succ_ne_self _
  exact ⟨⟨u, v, (h1.put 0 _).put 1 _⟩, ⟨x2, y2, (h2.far _ hne _).far _ hne _⟩, (h.bel.setCell (p := ⟨gR, 0, none⟩) (Nat.le_refl _) _).setCell (p := ⟨gR, 1, none⟩) (Nat.le_refl _) _⟩
theorem TwoKeep.put2 {gR : Nat} {wE w : World} (h : TwoKeep gR wE w) (u v : Value) : TwoKeep gR wE ((w.setCell ⟨gR + 1, 0, none⟩ u).setCell ⟨gR + 1, 1, none⟩ v) := by
  obtain ⟨x, y, h1⟩ := h.r1
  obtain ⟨x2, y2, h2⟩ := h.r2
  have hne : gR ≠ gR + 1 := (Nat.succ_ne_self _).symm
  exact ⟨⟨x, y, (h1.far _ hne _).far _ hne _⟩, ⟨u, v, (h2.put 0 _).put 1 _⟩, (h.bel.setCell (p := ⟨gR + 1, 0, none⟩) (Nat.le_succ _) _).setCell (p := ⟨gR + 1, 1, none⟩) (Nat.le_succ _) _⟩
theorem TwoKeep.base {gR n : Nat} {wE w : World} (h : TwoKeep gR wE w) (hz : n ≤ wE.heap.size) : n ≤ w.heap.size := Nat.le_trans hz h.bel.size
theorem TwoKeep.cells {g gR : Nat} {wE w : World} {u v : Value} (h : TwoKeep gR wE w) (hg : g < gR) (hu : wE.cell? ⟨g, 0, none⟩ = some u) (hv : wE.cell? ⟨g, 1, none⟩ = some v) : w.cell? ⟨g, 0, none⟩ = some u ∧ w.cell? ⟨g, 1, none⟩ = some v ∧ TwoKeep gR wE w := ⟨(h.bel.cell hg).trans hu, (h.bel.cell hg).trans hv, h⟩

set_option maxHeartbeats 2000000 in
set_option maxRecDepth 100000 in
theorem divide_any (a : LT) (b : UInt8) (m : Int) (w : World) (ha : a.ok w w.heap.size) (hsz : a.s.size ≤ 1073741824) (hm : w.cell? ⟨0, 0, none⟩ = some (.int .i64 m)) :
    Calls Try.prog 30 #[a.v, .string ⟨#[b]⟩] w (Tells2 (a.ch.take (firstN b a.ch)) (a.ch.drop (firstN b a.ch + 1)) w) := by
  have hlen := a.ch_length
  obtain ⟨j, hj⟩ : ∃ j, j = firstN b a.ch := ⟨_, rfl⟩
  have hjl : j ≤ a.s.size := by rw [hj, ← hlen]; exact firstN_le _ _
  have hf := findI_one b a.ch
  rw [← hj, LT.ch_fst, hlen] at hf
  have HI : Hid (∀ W, Below w.heap.size w W → Calls Try.prog 45 #[.agg #[.string a.s, .slice a.A a.n a.c], .string ⟨#[b]⟩, .int .i64 0] W fun e W' => e = .returned (.int .i64 (if j < a.s.size then (j : Int) else -1)) ∧ Below W.heap.size W W') := fun W hb => by
    rw [← hf]
    exact index_any a.s a.A a.n a.c ⟨#[b]⟩ 0 m W (by omega) ((hb.cell (block_zero _ _ _ hm)).trans hm)
  have HQ1 : Hid (∀ W, Below w.heap.size w W → Calls Try.prog 26 #[.agg #[.string a.s, .slice a.A a.n a.c], .int .i64 0, .int .i64 (j : Int)] W (Tells (txtOf (a.ch.take j)) (comp ((a.ch.take j).map (·.2))) W)) := fun W hb => by
    have h2 := cut_t a 0 (j : Int) 0 j W (ha.next hb (Nat.le_refl _)) (by omega) (by omega)
    rw [List.drop_zero] at h2
    exact h2
  have HQ2 : Hid (∀ W, Below w.heap.size w W → Calls Try.prog 26 #[.agg #[.string a.s, .slice a.A a.n a.c], .int .i64 ((j : Int) + 1), .int .i64 (a.s.size : Int)] W (Tells (txtOf (a.ch.drop (j + 1))) (comp ((a.ch.drop (j + 1)).map (·.2))) W)) := fun W hb => by
    have hok : a.ok W W.heap.size := ha.next hb (Nat.le_refl _)
    by_cases hlt : j < a.s.size
    · have h2 := cut_t a ((j : Int) + 1) (a.s.size : Int) (j + 1) a.s.size W hok (by omega) (by omega)
      rw [← hlen, List.take_length] at h2
      rw [← hlen]
      exact h2
    · have h2 := cut_t a ((j : Int) + 1) (a.s.size : Int) a.s.size a.s.size W hok (by omega) (by omega)
      have e : (a.ch.take a.s.size).drop a.s.size = a.ch.drop (j + 1) := by
        rw [List.drop_of_length_le (by rw [List.length_take]; omega), List.drop_of_length_le (by rw [hlen]; omega)]
      rw [e] at h2
      exact h2
  rw [← hj]
  clear hj hf hlen ha hm
  generalize a.ch.take j = l1 at *
  generalize a.ch.drop (j + 1) = l2 at *
  obtain ⟨s, A, n, c, rs⟩ := a
  simp only at HI HQ1 HQ2 hjl hsz
  show Calls Try.prog 30 #[.agg #[.string s, .slice A n c], .string ⟨#[b]⟩] w _
  go_enter Try.func30, Try.ntmps30
  go_wp2_with fail
  generalize hwE : ((w.alloc (.cells #[.string s, .slice A n c] 24)).alloc (.cells #[.string ⟨#[]⟩, .slice none 0 0] 24)).alloc (.cells #[.string ⟨#[]⟩, .slice none 0 0] 24) = wE
  have y0 : Whole wE w.heap.size 24 #[.string s, .slice A n c] := by rw [← hwE]; exact ((Whole.made w _ _).alloc _).alloc _
  have y1 : Whole wE (w.heap.size + 1) 24 #[.string ⟨#[]⟩, .slice none 0 0] := by
    rw [← hwE]
    have h := (Whole.made (w.alloc (.cells #[.string s, .slice A n c] 24)) 24 #[.string ⟨#[]⟩, .slice none 0 0]).alloc (.cells #[.string ⟨#[]⟩, .slice none 0 0] 24)
    simp only [World.size_alloc] at h
    exact h
  have y2 : Whole wE (w.heap.size + 1 + 1) 24 #[.string ⟨#[]⟩, .slice none 0 0] := by
    rw [← hwE]
    have h := Whole.made ((w.alloc (.cells #[.string s, .slice A n c] 24)).alloc (.cells #[.string ⟨#[]⟩, .slice none 0 0] 24)) 24 #[.string ⟨#[]⟩, .slice none 0 0]
    simp only [World.size_alloc] at h
    exact h
  have hzE : w.heap.size + 3 ≤ wE.heap.size := by rw [← hwE]; simp
  have hbE : Below w.heap.size w wE := by rw [← hwE]; exact (((Below.refl _ _).alloc (Nat.le_refl _) _).alloc (by simp) _).alloc (by simp; omega) _
  clear hwE
  refine (HI.out _ hbE).mono ?_
  rintro e w2 ⟨rfl, hb2⟩
  have hz2 := hb2.size
  have z0 := y0.below hb2 y0.lt
  have z1 := y1.below hb2 y1.lt
  have z2 := y2.below hb2 y2.lt
  have hbw : Below w.heap.size w w2 := below_next hbE (Nat.le_refl _) hb2
  have e0 : w2.cell? ⟨w.heap.size, 0, none⟩ = some (.string s) := z0.at_ 0
  have e1 : w2.cell? ⟨w.heap.size, 1, none⟩ = some (.slice A n c) := z0.at_ 1
  have HK : Hid (TwoKeep (w.heap.size + 1) w2 w2) := ⟨⟨_, _, z1⟩, ⟨_, _, z2⟩, Below.refl _ _⟩
  have HBW := Lib.hid hbw
  have hzw : w.heap.size + 3 ≤ w2.heap.size := by omega
  have hg1 : w.heap.size < w.heap.size + 1 := Nat.lt_succ_self _
  have hg2 : w.heap.size + 1 ≤ w2.heap.size := by omega
  clear hb2 z0 z1 z2 y0 y1 y2 hbE hzE hz2 hbw
  have HC1 : Hid (∀ W, TwoKeep (w.heap.size + 1) w2 W → Calls Try.prog 26 #[.agg #[.string s, .slice A n c], .int .i64 0, .int .i64 (j : Int)] W (Tells (txtOf l1) (comp (l1.map (·.2))) W)) := fun W h => HQ1.out W (HBW.out.trans (h.bel.mono (Nat.le_succ _)))
  have HC2 : Hid (∀ W, TwoKeep (w.heap.size + 1) w2 W → Calls Try.prog 26 #[.agg #[.string s, .slice A n c], .int .i64 ((j : Int) + 1), .int .i64 (s.size : Int)] W (Tells (txtOf l2) (comp (l2.map (·.2))) W)) := fun W h => HQ2.out W (HBW.out.trans (h.bel.mono (Nat.le_succ _)))
  have hj0 : (0 : Int) ≤ (j : Int) := Int.natCast_nonneg _
  have HCE : Hid (∀ W, TwoKeep (w.heap.size + 1) w2 W → W.cell? ⟨w.heap.size, 0, none⟩ = some (.string s) ∧ W.cell? ⟨w.heap.size, 1, none⟩ = some (.slice A n c) ∧ TwoKeep (w.heap.size + 1) w2 W) := fun W h => h.cells hg1 e0 e1
  have hwrp : IntKind.i64.wrap ((j : Int) + 1) = (j : Int) + 1 := IntWalk.i64_in _ (by omega)
  have hlt0 : (if j < s.size then (j : Int) else -1) = (j : Int) ∧ j < s.size ∨ (if j < s.size then (j : Int) else -1) = -1 ∧ s.size = j := by
    by_cases h : j < s.size
    · left; exact ⟨if_pos h, h⟩
    · right; exact ⟨if_neg h, by omega⟩
  rcases hlt0 with ⟨hv, hlt⟩ | ⟨hv, hsj⟩
  case' inr => rw [hsj] at HC2
  all_goals
    rw [hv]
    clear hv
    go_wp2_with fail
    go_region_held3 (fun w' => w'.cell? ⟨w.heap.size, 0, none⟩ = some (.string s) ∧ w'.cell? ⟨w.heap.size, 1, none⟩ = some (.slice A n c) ∧ TwoKeep (w.heap.size + 1) w2 w')
      (first
        | exact HCE.out _ HK.out.drew
        | (go_split_ands; exact HCE.out _ (by assumption))
        | exact HCE.out _ hk3
        | exact HCE.out _ hk4
        | (go_split_ands; exact HCE.out _ (TwoKeep.put1 (by assumption) _ _))
        | (go_split_ands; exact HCE.out _ (TwoKeep.put2 (by assumption) _ _)))
      (first
        | (go_at_call_of 26 (Value.int IntKind.i64 0); refine (HC1.out _ ?_).mono ?_; (go_split_ands; assumption); rintro e w3 ⟨v3, rfl, ho3, hb3⟩; obtain ⟨A3, c3, rfl, _, _, _⟩ := own_form ho3; have hk3 : TwoKeep (w.heap.size + 1) w2 w3 := (by go_split_ands; exact TwoKeep.below (by assumption) hg2 hb3); have ho3' := own_mono ho3 (show w.heap.size + 3 ≤ _ from (by go_split_ands; exact TwoKeep.base (by assumption) hzw)))
        | (go_at_call 26; refine (HC2.out _ ?_).mono ?_; (go_split_ands; assumption); rintro e w4 ⟨v4, rfl, ho4, hb4⟩; obtain ⟨A4, c4, rfl, _, _, _⟩ := own_form ho4; have hk4 : TwoKeep (w.heap.size + 1) w2 w4 := (by go_split_ands; exact TwoKeep.below (by assumption) hg2 hb4); have ho4' := own_mono ho4 (show w.heap.size + 3 ≤ _ from (by go_split_ands; exact TwoKeep.base (by assumption) hzw)); have ho34 : w4.ownsRow (w.heap.size + 3) 44 2 (.slice A3 (comp (l1.map (·.2))).length c3) (comp (l1.map (·.2))).length (runCells (comp (l1.map (·.2)))) := own_keep (by exact ho3') hb4; obtain ⟨x3, x4, hW1⟩ := hk4.r1; obtain ⟨x5, x6, hW2⟩ := hk4.r2; have d0 := hW1.at_ 0; have d1 := hW1.at_ 1; have f0 := hW1.free 0; have f1 := hW1.free 1; have d2 := hW2.at_ 0; have d3 := hW2.at_ 1; have f2 := hW2.free 0; have f3 := hW2.free 1))
    all_goals
      go_wp2
      refine bodyPost_ret (v := .tuple #[.agg #[.string (txtOf l1), .slice A3 (comp (l1.map (·.2))).length c3], .agg #[.string (txtOf l2), .slice A4 (comp (l2.map (·.2))).length c4]]) ?_ rfl ?_
      · simp [results, Try.results30, go_sem, *]
      · have hb4w : Below w.heap.size w w4 := HBW.out.trans (hk4.bel.mono (Nat.le_succ _))
        exact ⟨A3, c3, A4, c4, rfl, own_mono (own_put (own_put ho34 (by omega) _ _) (by omega) _ _) (by omega), own_mono (own_put (own_put ho4' (by omega) _ _) (by omega) _ _) (by omega), (((hb4w.setCell (p := ⟨w.heap.size + 1, 0, none⟩) (Nat.le_succ _) _).setCell (p := ⟨w.heap.size + 1, 1, none⟩) (Nat.le_succ _) _).setCell (p := ⟨w.heap.size + 1 + 1, 0, none⟩) (by show w.heap.size ≤ w.heap.size + 1 + 1; omega) _).setCell (p := ⟨w.heap.size + 1 + 1, 1, none⟩) (by show w.heap.size ≤ w.heap.size + 1 + 1; omega) _⟩

end Go.Proofs.Ytdfpoinnajahiaa.mk
