/-
  Contracts of mark's Pure, of seek's Index at what was told, and of scheme's Safe and Filter.
-/
import Derived.Test.YtpbpnffbaelcaaaSchPure
import Derived.Test.YtpbpnffbaelcaaaUrlScheme
import Derived.Test.YtpbpnffbaelcaaaSeekFind
namespace Go.Proofs.Ytpbpnffbaelcaaa.mk
open Go.RowKit

/-- whether a labelled text is trusted -/
theorem pure_t (l : List (UInt8 × Int)) (hin : InR l) (hn : l.length ≤ 4294967296) (D : Option Addr) (k : Nat) (w : World) (h : Lies w w.heap.size D (runCells (comp (l.map (·.2))))) :
    Calls Try.prog 26 #[.agg #[.string (txtOf l), .slice D (runN l) k]] w (SaysB (.bool (worstO (l.map (·.2)) == 0)) w) := by
  refine (pure_any (txtOf l) D (runN l) k (comp (l.map (·.2))) w h rfl (by rw [txtOf_size]; exact hn) (Nat.le_trans (runN_le l) hn)).mono ?_
  rintro e w' ⟨rfl, hb⟩
  refine ⟨ret_bool ?_, hb⟩
  have e1 : origins (txtOf l).size (comp (l.map (·.2))) = l.map (·.2) := by
    have h2 := LT.ch_snd (toldT l D k)
    rw [toldT_ch hin] at h2
    exact h2.symm
  rw [e1]

set_option maxHeartbeats 1000000 in
set_option maxRecDepth 100000 in
theorem safe_any (a : LT) (m : Int) (w : World) (hm : w.cell? ⟨0, 0, none⟩ = some (.int .i64 m)) (ha : a.ok w w.heap.size) (hsz : a.s.size ≤ 4294967280) :
    Calls Try.prog 12 #[a.v] w (SaysB (.bool (safeB (readyL a.ch))) w) := by
  obtain ⟨R, hR⟩ : ∃ R, R = readyL a.ch := ⟨_, rfl⟩
  have hlenR : R.length ≤ a.s.size := by rw [hR]; exact Nat.le_trans (readyL_length _) (by rw [LT.ch_length]; exact Nat.le_refl _)
  have hinR : InR R := by rw [hR]; exact readyL_in a.ch_in
  have hRR : readyL R = R := by rw [hR]; exact readyL_twice _
  have HR : Hid (∀ W, Below w.heap.size w W → Calls Try.prog 8 #[.agg #[.string a.s, .slice a.A a.n a.c]] W (TellsL R W)) := fun W hb => by
    rw [hR]
    exact (ready_any a W (ha.next hb (Nat.le_refl _))).mono fun e w' h => tellsL_of h
  rw [← hR]
  clear hR
  obtain ⟨i, hi⟩ : ∃ i, i = colonI R := ⟨_, rfl⟩
  have hbd := colonI_bd R
  rw [← hi] at hbd
  have HS : Hid (∀ W D k, Lies W W.heap.size D (runCells (comp (R.map (·.2)))) → Calls Try.prog 7 #[.agg #[.string (txtOf R), .slice D (runN R) k]] W (TellsB (schemeL R) (decide (0 ≤ i)) W)) := fun W D k h => by
    have h2 := scheme_any (toldT R D k) W (toldT_ok k h (by omega))
    rw [toldT_ch hinR, hRR, ← hi] at h2
    exact h2
  have HI : Hid (0 ≤ i → ∀ W D k, Below w.heap.size w W → Calls Try.prog 25 #[.agg #[.string (txtOf R), .slice D (runN R) k], .string ⟨#[58]⟩, .int .i64 0] W (SaysB (.int .i64 i) W)) := fun h0 W D k hb => by
    have h2 := index_any (txtOf R) D (runN R) k ⟨#[58]⟩ 0 m W (by rw [txtOf_size]; omega) ((hb.cell (block_zero _ _ _ hm)).trans hm)
    have e1 : findI (txtOf R).data.toList (ByteArray.mk #[58]).data.toList 0 = i := by
      rw [hi]
      exact findI_colon (by omega)
    rw [e1] at h2
    exact h2
  have HK : Hid (∀ W, Calls Try.prog 13 #[.string (txtOf (schemeL R))] W (SaysB (.bool (knownB (txtOf (schemeL R)))) W)) := fun W => known_any _ W
  have HC : Hid (0 ≤ i → ∀ W D k, Lies W W.heap.size D (runCells (comp (R.map (·.2)))) → Calls Try.prog 10 #[.agg #[.string (txtOf R), .slice D (runN R) k], .int .i64 0, .int .i64 (i + 1)] W (TellsL (R.take (i + 1).toNat) W)) := fun h0 W D k h => by
    have h2 := cut_t (toldT R D k) 0 (i + 1) 0 (i + 1).toNat W (toldT_ok k h (by omega)) (by show min (max (0 : Int) 0) _ = _; omega) (by show min (max (i + 1) 0) ((txtOf R).size : Int) = _; rw [txtOf_size]; omega)
    rw [toldT_ch hinR, List.drop_zero] at h2
    exact h2.mono fun e w' h => tellsL_of h
  have HP : Hid (∀ W D k, Lies W W.heap.size D (runCells (comp ((R.take (i + 1).toNat).map (·.2)))) → Calls Try.prog 26 #[.agg #[.string (txtOf (R.take (i + 1).toNat)), .slice D (runN (R.take (i + 1).toNat)) k]] W (SaysB (.bool (trustB R)) W)) := fun W D k h => by
    have h2 := pure_t (R.take (i + 1).toNat) (hinR.take _) (by rw [List.length_take]; omega) D k W h
    unfold trustB
    rw [← hi]
    exact h2
  have HN : Hid (i < 0 → safeB R = true) := fun h => safeB_none (by rw [← hi]; exact h)
  have HY : Hid (0 ≤ i → safeB R = (knownB (txtOf (schemeL R)) && trustB R)) := fun h => safeB_some (by rw [← hi]; exact h)
  have hi2 : i ≤ 4294967296 := by omega
  have hwrp : IntKind.i64.wrap (i + 1) = i + 1 := IntWalk.i64_in _ (by omega)
  clear hi hbd hlenR hinR hRR ha hm
  obtain ⟨s, A, n, c, rs⟩ := a
  simp only at HR hsz
  generalize trustB R = tb at *
  generalize knownB (txtOf (schemeL R)) = kb at *
  generalize hQ : R.take (i + 1).toNat = Q at *
  clear hQ
  show Calls Try.prog 12 #[.agg #[.string s, .slice A n c]] w _
  go_enter Try.func12, Try.ntmps12
  go_wp2_with fail
  refine (HR.out _ ((Below.refl _ _).alloc (Nat.le_refl _) _)).mono ?_
  rintro e w1 ⟨A1, c1, rfl, hl1, hb1⟩
  simp only [World.size_alloc] at hb1
  have hbw : Below w.heap.size w w1 := below_made hb1
  generalize hw2 : w1.alloc (.cells #[.string (txtOf R), .slice A1 (runN R) c1] 24) = w2
  have b12 : Below w1.heap.size w1 w2 := by rw [← hw2]; exact (Below.refl _ _).alloc (Nat.le_refl _) _
  have Y2 : Whole w2 w1.heap.size 24 #[.string (txtOf R), .slice A1 (runN R) c1] := by rw [← hw2]; exact Whole.made _ _ _
  have L2 : Lies w2 w2.heap.size A1 (runCells (comp (R.map (·.2)))) := hl1.next b12 (Nat.le_refl _)
  have hbw2 : Below w.heap.size w w2 := below_next hbw (Nat.le_refl _) b12
  have c0 : w2.cell? ⟨w1.heap.size, 0, none⟩ = some (.string (txtOf R)) := Y2.at_ 0
  have c1' : w2.cell? ⟨w1.heap.size, 1, none⟩ = some (.slice A1 (runN R) c1) := Y2.at_ 1
  go_wp2_with fail
  refine (HS.out _ A1 c1 L2).mono ?_
  rintro e w3 ⟨A3, c3, rfl, hl3, hb3⟩
  clear hw2
  generalize hw4 : w3.alloc (.cells #[.string (txtOf (schemeL R)), .slice A3 (runN (schemeL R)) c3] 24) = w4
  have b34 : Below w3.heap.size w3 w4 := by rw [← hw4]; exact (Below.refl _ _).alloc (Nat.le_refl _) _
  have b24 : Below w2.heap.size w2 w4 := below_next hb3 (Nat.le_refl _) b34
  have Y4 : Whole w4 w3.heap.size 24 #[.string (txtOf (schemeL R)), .slice A3 (runN (schemeL R)) c3] := by rw [← hw4]; exact Whole.made _ _ _
  have Y24 := Y2.below b24 Y2.lt
  have L4 : Lies w4 w4.heap.size A1 (runCells (comp (R.map (·.2)))) := L2.next b24 (Nat.le_refl _)
  have hbw4 : Below w.heap.size w w4 := below_next hbw2 (Nat.le_refl _) b24
  clear c0 c1'
  have c0 : w4.cell? ⟨w1.heap.size, 0, none⟩ = some (.string (txtOf R)) := Y24.at_ 0
  have c1' : w4.cell? ⟨w1.heap.size, 1, none⟩ = some (.slice A1 (runN R) c1) := Y24.at_ 1
  by_cases hneg : i < 0
  · have hd : decide (0 ≤ i) = false := by simp; omega
    have HV := Lib.hid (HN.out hneg)
    go_wp2_with fail
    go_ret
    exact ⟨ret_bool HV.out.symm, hbw4⟩
  · have h0 : 0 ≤ i := by omega
    have hd : decide (0 ≤ i) = true := by simp; omega
    have HV := Lib.hid (HY.out h0)
    have HI2 := Lib.hid (HI.out h0)
    have HC2 := Lib.hid (HC.out h0)
    go_wp2_with fail
    refine (HI2.out _ A1 c1 hbw4).mono ?_
    rintro e w5 ⟨rfl, hb5⟩
    have Y45 := Y4.below hb5 Y4.lt
    have Y25 := Y24.below hb5 Y24.lt
    have L5 : Lies w5 w5.heap.size A1 (runCells (comp (R.map (·.2)))) := L4.next hb5 (Nat.le_refl _)
    have hbw5 : Below w.heap.size w w5 := below_next hbw4 (Nat.le_refl _) hb5
    clear c0 c1'
    have e0 : w5.cell? ⟨w3.heap.size, 0, none⟩ = some (.string (txtOf (schemeL R))) := Y45.at_ 0
    go_wp2_with fail
    refine (HK.out _).mono ?_
    rintro e w6 ⟨rfl, hb6⟩
    have Y26 := Y25.below hb6 Y25.lt
    have L6 : Lies w6 w6.heap.size A1 (runCells (comp (R.map (·.2)))) := L5.next hb6 (Nat.le_refl _)
    have hbw6 : Below w.heap.size w w6 := below_next hbw5 (Nat.le_refl _) hb6
    have f0 : w6.cell? ⟨w1.heap.size, 0, none⟩ = some (.string (txtOf R)) := Y26.at_ 0
    have f1 : w6.cell? ⟨w1.heap.size, 1, none⟩ = some (.slice A1 (runN R) c1) := Y26.at_ 1
    clear e0
    cases kb with
    | false =>
      go_wp2_with fail
      go_ret
      exact ⟨ret_bool (by rw [HV.out]; rfl), hbw6⟩
    | true =>
      go_wp2_with fail
      refine (HC2.out _ A1 c1 L6).mono ?_
      rintro e w7 ⟨A7, c7, rfl, hl7, hb7⟩
      go_wp2_with fail
      refine (HP.out _ A7 c7 hl7).mono ?_
      rintro e w8 ⟨rfl, hb8⟩
      go_wp2_with fail
      go_ret
      exact ⟨ret_bool (by rw [HV.out]; rfl), below_next hbw6 (Nat.le_refl _) (below_next hb7 (Nat.le_refl _) hb8)⟩

set_option maxHeartbeats 1000000 in
set_option maxRecDepth 100000 in
theorem filter_any (a : LT) (m : Int) (w : World) (hm : w.cell? ⟨0, 0, none⟩ = some (.int .i64 m)) (ha : a.ok w w.heap.size) (hsz : a.s.size ≤ 4294967280) :
    Calls Try.prog 11 #[a.v] w (TellsB (filterL (readyL a.ch)) (safeB (readyL a.ch)) w) := by
  obtain ⟨R, hR⟩ : ∃ R, R = readyL a.ch := ⟨_, rfl⟩
  have HR : Hid (∀ W, Below w.heap.size w W → Calls Try.prog 8 #[.agg #[.string a.s, .slice a.A a.n a.c]] W (Tells (txtOf R) (comp (R.map (·.2))) W)) := fun W hb => by
    rw [hR]
    exact ready_any a W (ha.next hb (Nat.le_refl _))
  have HS : Hid (∀ W, Below w.heap.size w W → Calls Try.prog 12 #[.agg #[.string a.s, .slice a.A a.n a.c]] W (SaysB (.bool (safeB R)) W)) := fun W hb => by
    rw [hR]
    exact safe_any a m W ((hb.cell (block_zero _ _ _ hm)).trans hm) (ha.next hb (Nat.le_refl _)) hsz
  rw [← hR]
  have HT : Hid (safeB R = true → filterL R = R) := fun h => filterL_true h
  have HF : Hid (safeB R = false → filterL R = []) := fun h => filterL_false h
  clear hR ha hm
  generalize safeB R = sb at *
  generalize filterL R = F at *
  obtain ⟨s, A, n, c, rs⟩ := a
  simp only at HR HS hsz
  show Calls Try.prog 11 #[.agg #[.string s, .slice A n c]] w _
  go_enter Try.func11, Try.ntmps11
  go_wp2_with fail
  generalize hwE : (w.alloc (.cells #[.string s, .slice A n c] 24)).alloc (.cells #[.string ⟨#[]⟩, .slice none 0 0] 24) = wE
  have y0 : Whole wE w.heap.size 24 #[.string s, .slice A n c] := by
    rw [← hwE]
    exact (Whole.made w _ _).alloc _
  have y3 : Whole wE (w.heap.size + 1) 24 #[.string ⟨#[]⟩, .slice none 0 0] := by
    rw [← hwE]
    have h := Whole.made (w.alloc (.cells #[.string s, .slice A n c] 24)) 24 #[.string ⟨#[]⟩, .slice none 0 0]
    simp only [World.size_alloc] at h
    exact h
  have hzE : w.heap.size + 2 ≤ wE.heap.size := by rw [← hwE]; simp
  have hbE : Below w.heap.size w wE := by rw [← hwE]; exact ((Below.refl _ _).alloc (Nat.le_refl _) _).alloc (by simp) _
  clear hwE
  refine (HS.out _ hbE).mono ?_
  rintro e w1 ⟨rfl, hb1⟩
  have Z0 := y0.below hb1 y0.lt
  have Z3 := y3.below hb1 y3.lt
  have hbw1 : Below w.heap.size w w1 := below_next hbE (Nat.le_refl _) hb1
  have hz1 := hb1.size
  cases sb with
  | false =>
    have f0 := Z3.free 0
    have f1 := Z3.free 1
    have d0 : w1.cell? ⟨w.heap.size + 1, 0, none⟩ = some (.string ⟨#[]⟩) := Z3.at_ 0
    have d1 : w1.cell? ⟨w.heap.size + 1, 1, none⟩ = some (.slice none 0 0) := Z3.at_ 1
    go_wp2
    refine bodyPost_ret (v := .tuple #[.agg #[.string ⟨#[]⟩, .slice none 0 0], .bool false]) ?_ rfl ?_
    · simp [results, Try.results11, go_sem, d0, d1]
    · obtain ⟨h1, h2⟩ := lies_end (s := ⟨#[]⟩) (rs := []) (g := w.heap.size + 1) (by omega) rfl (World.ownsRow_nil _ _ _ _) hbw1
      rw [HF.out (by first | rfl | trivial)]
      exact ⟨none, 0, rfl, h1, h2⟩
  | true =>
    have e0 : w1.cell? ⟨w.heap.size, 0, none⟩ = some (.string s) := Z0.at_ 0
    have e1 : w1.cell? ⟨w.heap.size, 1, none⟩ = some (.slice A n c) := Z0.at_ 1
    go_wp2_with fail
    refine (HR.out _ hbw1).mono ?_
    rintro e w2 ⟨v2, rfl, ho2, hb2⟩
    obtain ⟨A2, c2, rfl, _, _, _⟩ := own_form ho2
    have X3 := Z3.below hb2 Z3.lt
    have f0 := X3.free 0
    have f1 := X3.free 1
    have d0 : w2.cell? ⟨w.heap.size + 1, 0, none⟩ = some (.string ⟨#[]⟩) := X3.at_ 0
    have d1 : w2.cell? ⟨w.heap.size + 1, 1, none⟩ = some (.slice none 0 0) := X3.at_ 1
    have HO := Lib.hid ho2
    clear ho2 e0 e1
    go_wp2
    refine bodyPost_ret (v := .tuple #[.agg #[.string (txtOf R), .slice A2 (comp (R.map (·.2))).length c2], .bool true]) ?_ rfl ?_
    · simp [results, Try.results11, go_sem, d0, d1]
    · obtain ⟨h1, h2⟩ := lies_end (s := txtOf R) (g := w.heap.size + 1) (by omega) rfl (own_mono HO.out (by omega)) (below_next hbw1 (Nat.le_refl _) hb2)
      rw [HT.out (by first | rfl | trivial)]
      exact ⟨A2, c2, rfl, h1, h2⟩

end Go.Proofs.Ytpbpnffbaelcaaa.mk
