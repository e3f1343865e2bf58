/-
  Contracts of mark's Pure, of seek's Index at what was told, and of scheme's Safe and Filter.
-/
import Derived.Test.YtnbdldapmllegaaGreatJsAG
import Derived.Test.YtnbdldapmllegaaGreatJsF
import Derived.Test.YtnbdldapmllegaaGreatJsU
import Derived.Test.YtnbdldapmllegaaGreatJsW
import Derived.Test.YtnbdldapmllegaaGreatJsAA
import Derived.Test.YtnbdldapmllegaaGreatJsAJ
namespace Go.Proofs.YtnbdldapmllegaaGreat.mk
open Go.RowKit

theorem byteEach {p : UInt8 → Bool} (h : ((List.range 256).all fun n => p (UInt8.ofNat n)) = true) (b : UInt8) : p b = true := by
  have h1 := List.all_eq_true.1 h b.toNat (List.mem_range.2 b.toNat_lt)
  simpa using h1
theorem index_sign (b : UInt8) : decide (0 ≤ Lib.indexByte signB b) = isIn signB b := by
  have h := byteEach (p := fun b => decide (0 ≤ Lib.indexByte signB b) == isIn signB b) (by decide +kernel) b
  simpa using h
theorem sign_index (b : UInt8) (w : World) :
    Calls Tryz.prog 112 #[.string ⟨#[43, 45, 46]⟩, .int .u8 b.toNat] w fun e w' => e = .returned (.int .i64 (Lib.indexByte signB b)) ∧ w' = w := by
  have h := Tryz.strings_IndexByte ⟨#[43, 45, 46]⟩ b.toNat w
  have e : ((b.toNat : Int)).toNat.toUInt8 = b := by simp
  rw [e] at h
  exact h

set_option maxHeartbeats 1000000 in
theorem letter_any (b : UInt8) (w : World) :
    Calls Tryz.prog 98 #[.int .u8 b.toNat] w fun e w' => e = .returned (.bool (letterB b)) ∧ w' = w := by
  go_enter Tryz.func98, Tryz.ntmps98
  go_wp2_with fail
  all_goals
    go_ret
    refine ⟨ret_bool ?_, rfl⟩
    unfold letterB
    rw [Bool.eq_iff_iff]
    simp
    try omega

set_option maxHeartbeats 1000000 in
theorem later_any (b : UInt8) (w : World) :
    Calls Tryz.prog 99 #[.int .u8 b.toNat] w fun e w' => e = .returned (.bool (laterB b)) ∧ w' = w := by
  have HM := Lib.hid (index_sign b)
  generalize hi : Lib.indexByte signB b = i at *
  have HI : Hid (∀ w' : World, Calls Tryz.prog 112 #[.string ⟨#[43, 45, 46]⟩, .int .u8 b.toNat] w' fun e w'' => e = .returned (.int .i64 i) ∧ w'' = w') := fun w' => by
    have h := sign_index b w'
    rw [hi] at h
    exact h
  clear hi
  go_enter Tryz.func99, Tryz.ntmps99
  go_wp2_with fail
  all_goals
    first
      | (refine (HI.out _).mono ?_
         rintro e w' ⟨rfl, rfl⟩
         go_wp2_with fail)
      | skip
  all_goals
    go_ret
    refine ⟨ret_bool ?_, rfl⟩
    unfold laterB digitC
    rw [← HM.out, Bool.eq_iff_iff]
    simp
    try omega

end Go.Proofs.YtnbdldapmllegaaGreat.mk

namespace Go.Proofs.YtnbdldapmllegaaGreat.mk
open Go.RowKit

def ColRel (l : List UInt8) (i : Value) : Prop :=
  ∃ k : Nat, k ≤ l.length ∧ i = .int .i64 (k : Int) ∧ colonF l 0 = colonF (l.drop k) k

set_option maxHeartbeats 1000000 in
set_option maxRecDepth 100000 in
theorem colonOf_any (s : ByteArray) (w : World) (hs : s.size ≤ 4294967296) :
    Calls Tryz.prog 81 #[.string s] w fun e w' => e = .returned (.int .i64 (colonF s.data.toList 0)) ∧ w' = w := by
  have hsl : s.data.toList.length = s.size := by rw [Array.length_toList]; rfl
  have HSL := Lib.hid hsl
  clear hsl
  go_enter Tryz.func81, Tryz.ntmps81
  go_wp2_with fail
  go_loop [7] (ColRel s.data.toList) (fun i => s.size - (intOf i).toNat)
  case atStart => exact ⟨0, Nat.zero_le _, rfl, by simp⟩
  case round =>
    obtain ⟨k, hk, rfl, hcol⟩ := hrel
    rw [HSL.out] at hk
    have HC := Lib.hid hcol
    clear hcol
    by_cases hlt : k < s.size
    · have hk0 : (0 : Int) ≤ (k : Int) := Int.natCast_nonneg _
      have hk1 : (k : Int) < (s.size : Int) := by omega
      have HSK : Hid (s.data.toList[k]? = some (s[k]'hlt)) := by
        show _ = _
        rw [List.getElem?_eq_getElem (by rw [HSL.out]; exact hlt)]
        rfl
      generalize hx : s[k]'hlt = b at *
      have HNX : Hid (colonF s.data.toList 0 = if b = 58 ∧ 0 < k then (k : Int) else if letterB b || (decide (0 < k) && laterB b) then colonF (s.data.toList.drop (k + 1)) (k + 1) else -1) := by
        show _ = _
        rw [HC.out, colonF_next HSK.out]
      have HLE : Hid (∀ w' : World, Calls Tryz.prog 98 #[.int .u8 b.toNat] w' fun e w'' => e = .returned (.bool (letterB b)) ∧ w'' = w') := fun w' => letter_any b w'
      have HLA : Hid (∀ w' : World, Calls Tryz.prog 99 #[.int .u8 b.toNat] w' fun e w'' => e = .returned (.bool (laterB b)) ∧ w'' = w') := fun w' => later_any b w'
      by_cases h58 : b = 58 ∧ 0 < k
      · have HV : Hid (colonF s.data.toList 0 = (k : Int)) := by show _ = _; rw [HNX.out, if_pos h58]
        have hb : ((b.toNat : Int) == 58) = true := by rw [h58.1]; rfl
        have hkp : (0 : Int) < (k : Int) := by omega
        clear h58
        go_wp2_with fail
        go_ret
        exact ⟨ret_int HV.out.symm, rfl⟩
      · have HV : Hid (colonF s.data.toList 0 = if letterB b || (decide (0 < k) && laterB b) then colonF (s.data.toList.drop (k + 1)) (k + 1) else -1) := by show _ = _; rw [HNX.out, if_neg h58]
        clear HNX
        have hcase : ((b.toNat : Int) == 58) = false ∨ ((b.toNat : Int) == 58) = true ∧ k = 0 := by
          by_cases h : b = 58
          · right; exact ⟨by rw [h]; rfl, Nat.eq_zero_of_not_pos (fun hp => h58 ⟨h, hp⟩)⟩
          · left
            rw [beq_eq_false_iff_ne]
            intro e
            exact h (UInt8.toNat_inj.1 (by show b.toNat = 58; omega))
        generalize letterB b = lb at *
        generalize laterB b = tb at *
        clear h58 HSK
        rcases Nat.eq_zero_or_pos k with hk00 | hkp
        · subst hk00
          have HV2 : Hid (colonF s.data.toList 0 = if lb then colonF (s.data.toList.drop 1) 1 else -1) := by
            show _ = _
            rw [HV.out]; simp
          clear HV
          cases lb
          all_goals
            rcases hcase with hb | ⟨hb, -⟩
            all_goals
              go_wp2_with fail
              refine (HLE.out _).mono ?_
              rintro e w' ⟨rfl, rfl⟩
              go_wp2_with fail
              first
                | (go_ret
                   exact ⟨ret_int (by rw [HV2.out]; rfl), rfl⟩)
                | (go_round
                   case rel => exact ⟨1, by rw [HSL.out]; omega, rfl, HV2.out⟩
                   case measure => simp [intOf]; omega)
        · have hb : ((b.toNat : Int) == 58) = false := by
            rcases hcase with h | ⟨_, h⟩
            · exact h
            · omega
          have hkz : ((k : Int) == 0) = false := by rw [beq_eq_false_iff_ne]; omega
          have HV2 : Hid (colonF s.data.toList 0 = if lb || tb then colonF (s.data.toList.drop (k + 1)) (k + 1) else -1) := by
            show _ = _
            rw [HV.out, decide_eq_true hkp, Bool.true_and]
          clear hcase HV
          cases lb
          all_goals
            cases tb
            all_goals
              go_wp2_with fail
              refine (HLE.out _).mono ?_
              rintro e w' ⟨rfl, rfl⟩
              go_wp2_with fail
              try
                refine (HLA.out _).mono ?_
                rintro e w'' ⟨rfl, rfl⟩
                go_wp2_with fail
              first
                | (go_ret
                   exact ⟨ret_int (by rw [HV2.out]; rfl), rfl⟩)
                | (go_round
                   case rel => exact ⟨k + 1, by rw [HSL.out]; omega, by go_num, HV2.out⟩
                   case measure => simp [intOf]; omega)
    · obtain rfl : k = s.size := by omega
      have HV : Hid (colonF s.data.toList 0 = -1) := by show _ = _; rw [HC.out]; exact colonF_end (by rw [HSL.out]; exact Nat.le_refl _)
      go_wp2_with fail
      go_ret
      exact ⟨ret_int HV.out.symm, rfl⟩

end Go.Proofs.YtnbdldapmllegaaGreat.mk

namespace Go.Proofs.YtnbdldapmllegaaGreat.mk
open Go.RowKit

/-- a labelled text, lower -/
theorem lower_t (a : LT) (w : World) (ha : a.ok w w.heap.size) :
    Calls Tryz.prog 19 #[a.v] w (Tells (txtOf (a.ch.map fun x => (lowB x.1, x.2))) (comp ((a.ch.map fun x => (lowB x.1, x.2)).map (·.2))) w) := by
  have h := lower_any a.s a.A a.n a.c a.rs w ha.1 ha.2.1 ha.2.2.2 ha.2.2.1
  have e1 : (a.ch.map fun x => (lowB x.1, x.2)).map (·.1) = a.s.data.toList.map lowB := by
    rw [List.map_map]
    show a.ch.map (lowB ∘ (·.1)) = _
    rw [← List.map_map, LT.ch_fst]; rfl
  have e2 : comp ((a.ch.map fun x => (lowB x.1, x.2)).map (·.2)) = taken a.s.size a.rs := by
    rw [List.map_map]
    show comp (a.ch.map (·.2)) = _
    rw [LT.ch_snd]; rfl
  unfold txtOf
  rw [e1, e2]
  exact h

/-- a labelled text, and whether -/
def TellsB (l : List (UInt8 × Int)) (b : Bool) (w : World) (e : Ending) (w' : World) : Prop :=
  ∃ D k, e = .returned (.tuple #[.agg #[.string (txtOf l), .slice D (runN l) k], .bool b]) ∧ Lies w' w'.heap.size D (runCells (comp (l.map (·.2)))) ∧ Below w.heap.size w w'
theorem lies_end {w w2 : World} {s : ByteArray} {rs : List (Int × Int)} {A : Option Addr} {n c : Nat} {g : Nat} (hg : w.heap.size ≤ g) (hn : rs.length = n) (hown : w2.ownsRow (g + 1) 79 2 (.slice A n c) n (runCells rs)) (hb : Below w.heap.size w w2) :
    Lies ((w2.setCell ⟨g, 0, none⟩ (.string s)).setCell ⟨g, 1, none⟩ (.slice A n c)) ((w2.setCell ⟨g, 0, none⟩ (.string s)).setCell ⟨g, 1, none⟩ (.slice A n c)).heap.size A (runCells rs) ∧ Below w.heap.size w ((w2.setCell ⟨g, 0, none⟩ (.string s)).setCell ⟨g, 1, none⟩ (.slice A n c)) := by
  subst hn
  obtain ⟨v, e, ho, hb'⟩ := tells_end (s := s) hg hown hb
  have e := Ending.returned.inj e
  simp only [Value.agg.injEq] at e
  have e' := congrArg Array.toList e
  simp only [List.cons.injEq, and_true, true_and] at e'
  subst e'
  exact ⟨Lies.own ho, hb'⟩

set_option maxHeartbeats 1000000 in
set_option maxRecDepth 100000 in
theorem scheme_any (a : LT) (w : World) (ha : a.ok w w.heap.size) :
    Calls Tryz.prog 65 #[a.v] w (TellsB (schemeL (readyL a.ch)) (decide (0 ≤ colonI (readyL a.ch))) w) := by
  have hsz := ha.2.2.2
  obtain ⟨R, hR⟩ : ∃ R, R = readyL a.ch := ⟨_, rfl⟩
  have hlenR : R.length ≤ 4294967296 := by rw [hR]; exact Nat.le_trans (readyL_length _) (by rw [LT.ch_length]; exact hsz)
  have hinR : InR R := by rw [hR]; exact readyL_in a.ch_in
  have HE : Hid (∀ W, Below w.heap.size w W → Calls Tryz.prog 54 #[.agg #[.string a.s, .slice a.A a.n a.c]] W (Tells (txtOf R) (comp (R.map (·.2))) W)) := fun W hb => by
    rw [hR]
    exact ready_any a W (ha.next hb (Nat.le_refl _))
  rw [← hR]
  clear hR hsz ha
  have hbd := colonI_bd R
  obtain ⟨i, hi⟩ : ∃ i, i = colonI R := ⟨_, rfl⟩
  have HC : Hid (∀ W, Calls Tryz.prog 81 #[.string (txtOf R)] W fun e W' => e = .returned (.int .i64 i) ∧ W = W') := fun W => by
    rw [hi]
    exact (colonOf_any (txtOf R) W (by rw [txtOf_size]; exact hlenR)).mono fun e W' ⟨he, hw⟩ => ⟨he, hw.symm⟩
  have HQ : Hid (0 ≤ i → ∀ W D k, Lies W W.heap.size D (runCells (comp (R.map (·.2)))) → Calls Tryz.prog 68 #[.agg #[.string (txtOf R), .slice D (comp (R.map (·.2))).length k], .int .i64 0, .int .i64 i] W (Tells (txtOf (R.take i.toNat)) (comp ((R.take i.toNat).map (·.2))) W)) := fun h0 W D k h => by
    have h2 := cut_t (toldT R D k) 0 i 0 i.toNat W (toldT_ok k h hlenR) (by show min (max (0 : Int) 0) _ = _; omega) (by show min (max i 0) ((txtOf R).size : Int) = _; rw [txtOf_size]; omega)
    rw [toldT_ch hinR, List.drop_zero] at h2
    exact h2
  have hlen2 : (R.take i.toNat).length ≤ 4294967296 := by rw [List.length_take]; omega
  have hin2 : InR (R.take i.toNat) := hinR.take _
  have hS : schemeL R = (R.take i.toNat).map fun x => (lowB x.1, x.2) := by unfold schemeL; rw [hi]
  have hS0 : i = -1 → schemeL R = [] := fun h => schemeL_none (by rw [← hi]; exact h)
  rw [← hi] at hbd ⊢
  generalize R.take i.toNat = R2 at *
  generalize schemeL R = S at *
  have HL : Hid (∀ W D k, Lies W W.heap.size D (runCells (comp (R2.map (·.2)))) → Calls Tryz.prog 19 #[.agg #[.string (txtOf R2), .slice D (comp (R2.map (·.2))).length k]] W (Tells (txtOf S) (comp (S.map (·.2))) W)) := fun W D k h => by
    have h2 := lower_t (toldT R2 D k) W (toldT_ok k h hlen2)
    rw [toldT_ch hin2] at h2
    rw [hS]
    exact h2
  have HS0 := Lib.hid hS0
  have HBD := Lib.hid hbd
  clear hi hlenR hinR hlen2 hin2 hS hS0 hbd
  generalize comp (R.map (·.2)) = q1 at *
  generalize comp (R2.map (·.2)) = q2 at *
  generalize txtOf R = t1 at *
  generalize txtOf R2 = t2 at *
  obtain ⟨s, A, n, c, rs⟩ := a
  simp only at HE
  show Calls Tryz.prog 65 #[.agg #[.string s, .slice A n c]] w _
  go_enter Tryz.func65, Tryz.ntmps65
  go_wp2_with fail
  generalize hwE : (w.alloc (.cells #[.string s, .slice A n c] 28)).alloc (.cells #[.string ⟨#[]⟩, .slice none 0 0] 28) = wE
  have y3 : Whole wE (w.heap.size + 1) 28 #[.string ⟨#[]⟩, .slice none 0 0] := by
    rw [← hwE]
    have h := Whole.made (w.alloc (.cells #[.string s, .slice A n c] 28)) 28 #[.string ⟨#[]⟩, .slice none 0 0]
    simp only [World.size_alloc] at h
    exact h
  have hzE : w.heap.size + 2 ≤ wE.heap.size := by rw [← hwE]; simp
  have hbE : Below w.heap.size w wE := by rw [← hwE]; exact ((Below.refl _ _).alloc (Nat.le_refl _) _).alloc (by simp) _
  clear hwE
  refine (HE.out _ hbE).mono ?_
  rintro e w1 ⟨v1, rfl, ho1, hb1⟩
  obtain ⟨A1, c1, rfl, _, _, _⟩ := own_form ho1
  have hz1 := hb1.size
  generalize hw2 : w1.alloc (.cells #[.string t1, .slice A1 q1.length c1] 28) = w2
  have hb12 : Below w1.heap.size w1 w2 := by rw [← hw2]; exact (Below.refl _ _).alloc (Nat.le_refl _) _
  have Y1 : Whole w2 w1.heap.size 28 #[.string t1, .slice A1 q1.length c1] := by rw [← hw2]; exact Whole.made _ _ _
  have L1 : Lies w2 w2.heap.size A1 (runCells q1) := (Lies.own ho1).next hb12 (Nat.le_refl _)
  have hbE2 : Below wE.heap.size wE w2 := below_next hb1 (Nat.le_refl _) hb12
  have e0 : w2.cell? ⟨w1.heap.size, 0, none⟩ = some (.string t1) := Y1.at_ 0
  have e1 : w2.cell? ⟨w1.heap.size, 1, none⟩ = some (.slice A1 q1.length c1) := Y1.at_ 1
  have HL1 := Lib.hid L1
  clear ho1 L1
  go_wp2_with fail
  refine (HC.out _).mono ?_
  rintro e w' ⟨rfl, rfl⟩
  by_cases hi : i < 0
  · have hW := y3.below hbE2 y3.lt
    have f0 := hW.free 0
    have f1 := hW.free 1
    have d0 : w2.cell? ⟨w.heap.size + 1, 0, none⟩ = some (.string ⟨#[]⟩) := hW.at_ 0
    have d1 : w2.cell? ⟨w.heap.size + 1, 1, none⟩ = some (.slice none 0 0) := hW.at_ 1
    go_wp2
    refine bodyPost_ret (v := .tuple #[.agg #[.string ⟨#[]⟩, .slice none 0 0], .bool false]) ?_ rfl ?_
    · simp [results, Tryz.results65, go_sem, d0, d1]
    · obtain ⟨h1, h2⟩ := lies_end (s := ⟨#[]⟩) (rs := []) (g := w.heap.size + 1) (by omega) rfl (World.ownsRow_nil _ _ _ _) (below_next hbE (Nat.le_refl _) hbE2)
      rw [HS0.out (by have := HBD.out; omega), show decide (0 ≤ i) = false by simp; omega]
      exact ⟨none, 0, rfl, h1, h2⟩
  · have h0 : 0 ≤ i := by omega
    go_wp2_with fail
    refine (HQ.out h0 _ A1 c1 HL1.out).mono ?_
    rintro e w3 ⟨v3, rfl, ho3, hb3⟩
    obtain ⟨A3, c3, rfl, _, _, _⟩ := own_form ho3
    have HL3 := Lib.hid (Lies.own ho3)
    have hz3 := hb3.size
    clear ho3 e0 e1
    go_wp2_with fail
    refine (HL.out _ A3 c3 HL3.out).mono ?_
    rintro e w4 ⟨v4, rfl, ho4, hb4⟩
    obtain ⟨A4, c4, rfl, _, _, _⟩ := own_form ho4
    have hb24 : Below wE.heap.size wE w4 := below_next (below_next hbE2 (Nat.le_refl _) hb3) (Nat.le_refl _) hb4
    have hz24 := hbE2.size
    have hW := y3.below hb24 y3.lt
    have f0 := hW.free 0
    have f1 := hW.free 1
    have d0 : w4.cell? ⟨w.heap.size + 1, 0, none⟩ = some (.string ⟨#[]⟩) := hW.at_ 0
    have d1 : w4.cell? ⟨w.heap.size + 1, 1, none⟩ = some (.slice none 0 0) := hW.at_ 1
    have HO := Lib.hid ho4
    clear ho4
    go_wp2
    refine bodyPost_ret (v := .tuple #[.agg #[.string (txtOf S), .slice A4 (comp (S.map (·.2))).length c4], .bool true]) ?_ rfl ?_
    · simp [results, Tryz.results65, go_sem, d0, d1]
    · obtain ⟨h1, h2⟩ := lies_end (s := txtOf S) (g := w.heap.size + 1) (by omega) rfl (own_mono HO.out (by omega)) (below_next hbE (Nat.le_refl _) hb24)
      rw [show decide (0 ≤ i) = true by simp; omega]
      exact ⟨A4, c4, rfl, h1, h2⟩

end Go.Proofs.YtnbdldapmllegaaGreat.mk

namespace Go.Proofs.YtnbdldapmllegaaGreat.mk
open Go.RowKit

/-- whether a labelled text is trusted -/
theorem pure_t (l : List (UInt8 × Int)) (hin : InR l) (hn : l.length ≤ 4294967296) (D : Option Addr) (k : Nat) (w : World) (h : Lies w w.heap.size D (runCells (comp (l.map (·.2))))) :
    Calls Tryz.prog 36 #[.agg #[.string (txtOf l), .slice D (runN l) k]] w (SaysB (.bool (worstO (l.map (·.2)) == 0)) w) := by
  refine (pure_any (txtOf l) D (runN l) k (comp (l.map (·.2))) w h rfl (by rw [txtOf_size]; exact hn) (Nat.le_trans (runN_le l) hn)).mono ?_
  rintro e w' ⟨rfl, hb⟩
  refine ⟨ret_bool ?_, hb⟩
  have e1 : origins (txtOf l).size (comp (l.map (·.2))) = l.map (·.2) := by
    have h2 := LT.ch_snd (toldT l D k)
    rw [toldT_ch hin] at h2
    exact h2.symm
  rw [e1]

set_option maxHeartbeats 1000000 in
set_option maxRecDepth 100000 in
theorem safe_any (a : LT) (m : Int) (w : World) (hm : w.cell? ⟨0, 0, none⟩ = some (.int .i64 m)) (ha : a.ok w w.heap.size) (hsz : a.s.size ≤ 4294967280) :
    Calls Tryz.prog 39 #[a.v] w (SaysB (.bool (safeB (readyL a.ch))) w) := by
  obtain ⟨R, hR⟩ : ∃ R, R = readyL a.ch := ⟨_, rfl⟩
  have hlenR : R.length ≤ a.s.size := by rw [hR]; exact Nat.le_trans (readyL_length _) (by rw [LT.ch_length]; exact Nat.le_refl _)
  have hinR : InR R := by rw [hR]; exact readyL_in a.ch_in
  have hRR : readyL R = R := by rw [hR]; exact readyL_twice _
  have HR : Hid (∀ W, Below w.heap.size w W → Calls Tryz.prog 54 #[.agg #[.string a.s, .slice a.A a.n a.c]] W (TellsL R W)) := fun W hb => by
    rw [hR]
    exact (ready_any a W (ha.next hb (Nat.le_refl _))).mono fun e w' h => tellsL_of h
  rw [← hR]
  clear hR
  obtain ⟨i, hi⟩ : ∃ i, i = colonI R := ⟨_, rfl⟩
  have hbd := colonI_bd R
  rw [← hi] at hbd
  have HS : Hid (∀ W D k, Lies W W.heap.size D (runCells (comp (R.map (·.2)))) → Calls Tryz.prog 65 #[.agg #[.string (txtOf R), .slice D (runN R) k]] W (TellsB (schemeL R) (decide (0 ≤ i)) W)) := fun W D k h => by
    have h2 := scheme_any (toldT R D k) W (toldT_ok k h (by omega))
    rw [toldT_ch hinR, hRR, ← hi] at h2
    exact h2
  have HI : Hid (0 ≤ i → ∀ W D k, Below w.heap.size w W → Calls Tryz.prog 66 #[.agg #[.string (txtOf R), .slice D (runN R) k], .string ⟨#[58]⟩, .int .i64 0] W (SaysB (.int .i64 i) W)) := fun h0 W D k hb => by
    have h2 := index_any (txtOf R) D (runN R) k ⟨#[58]⟩ 0 m W (by rw [txtOf_size]; omega) ((hb.cell (block_zero _ _ _ hm)).trans hm)
    have e1 : findI (txtOf R).data.toList (ByteArray.mk #[58]).data.toList 0 = i := by
      rw [hi]
      exact findI_colon (by omega)
    rw [e1] at h2
    exact h2
  have HK : Hid (∀ W, Calls Tryz.prog 67 #[.string (txtOf (schemeL R))] W (SaysB (.bool (knownB (txtOf (schemeL R)))) W)) := fun W => known_any _ W
  have HC : Hid (0 ≤ i → ∀ W D k, Lies W W.heap.size D (runCells (comp (R.map (·.2)))) → Calls Tryz.prog 68 #[.agg #[.string (txtOf R), .slice D (runN R) k], .int .i64 0, .int .i64 (i + 1)] W (TellsL (R.take (i + 1).toNat) W)) := fun h0 W D k h => by
    have h2 := cut_t (toldT R D k) 0 (i + 1) 0 (i + 1).toNat W (toldT_ok k h (by omega)) (by show min (max (0 : Int) 0) _ = _; omega) (by show min (max (i + 1) 0) ((txtOf R).size : Int) = _; rw [txtOf_size]; omega)
    rw [toldT_ch hinR, List.drop_zero] at h2
    exact h2.mono fun e w' h => tellsL_of h
  have HP : Hid (∀ W D k, Lies W W.heap.size D (runCells (comp ((R.take (i + 1).toNat).map (·.2)))) → Calls Tryz.prog 36 #[.agg #[.string (txtOf (R.take (i + 1).toNat)), .slice D (runN (R.take (i + 1).toNat)) k]] W (SaysB (.bool (trustB R)) W)) := fun W D k h => by
    have h2 := pure_t (R.take (i + 1).toNat) (hinR.take _) (by rw [List.length_take]; omega) D k W h
    unfold trustB
    rw [← hi]
    exact h2
  have HN : Hid (i < 0 → safeB R = true) := fun h => safeB_none (by rw [← hi]; exact h)
  have HY : Hid (0 ≤ i → safeB R = (knownB (txtOf (schemeL R)) && trustB R)) := fun h => safeB_some (by rw [← hi]; exact h)
  have hi2 : i ≤ 4294967296 := by omega
  have hwrp : IntKind.i64.wrap (i + 1) = i + 1 := IntWalk.i64_in _ (by omega)
  clear hi hbd hlenR hinR hRR ha hm
  obtain ⟨s, A, n, c, rs⟩ := a
  simp only at HR hsz
  generalize trustB R = tb at *
  generalize knownB (txtOf (schemeL R)) = kb at *
  generalize hQ : R.take (i + 1).toNat = Q at *
  clear hQ
  show Calls Tryz.prog 39 #[.agg #[.string s, .slice A n c]] w _
  go_enter Tryz.func39, Tryz.ntmps39
  go_wp2_with fail
  refine (HR.out _ ((Below.refl _ _).alloc (Nat.le_refl _) _)).mono ?_
  rintro e w1 ⟨A1, c1, rfl, hl1, hb1⟩
  simp only [World.size_alloc] at hb1
  have hbw : Below w.heap.size w w1 := below_made hb1
  generalize hw2 : w1.alloc (.cells #[.string (txtOf R), .slice A1 (runN R) c1] 28) = w2
  have b12 : Below w1.heap.size w1 w2 := by rw [← hw2]; exact (Below.refl _ _).alloc (Nat.le_refl _) _
  have Y2 : Whole w2 w1.heap.size 28 #[.string (txtOf R), .slice A1 (runN R) c1] := by rw [← hw2]; exact Whole.made _ _ _
  have L2 : Lies w2 w2.heap.size A1 (runCells (comp (R.map (·.2)))) := hl1.next b12 (Nat.le_refl _)
  have hbw2 : Below w.heap.size w w2 := below_next hbw (Nat.le_refl _) b12
  have c0 : w2.cell? ⟨w1.heap.size, 0, none⟩ = some (.string (txtOf R)) := Y2.at_ 0
  have c1' : w2.cell? ⟨w1.heap.size, 1, none⟩ = some (.slice A1 (runN R) c1) := Y2.at_ 1
  go_wp2_with fail
  refine (HS.out _ A1 c1 L2).mono ?_
  rintro e w3 ⟨A3, c3, rfl, hl3, hb3⟩
  clear hw2
  generalize hw4 : w3.alloc (.cells #[.string (txtOf (schemeL R)), .slice A3 (runN (schemeL R)) c3] 28) = w4
  have b34 : Below w3.heap.size w3 w4 := by rw [← hw4]; exact (Below.refl _ _).alloc (Nat.le_refl _) _
  have b24 : Below w2.heap.size w2 w4 := below_next hb3 (Nat.le_refl _) b34
  have Y4 : Whole w4 w3.heap.size 28 #[.string (txtOf (schemeL R)), .slice A3 (runN (schemeL R)) c3] := by rw [← hw4]; exact Whole.made _ _ _
  have Y24 := Y2.below b24 Y2.lt
  have L4 : Lies w4 w4.heap.size A1 (runCells (comp (R.map (·.2)))) := L2.next b24 (Nat.le_refl _)
  have hbw4 : Below w.heap.size w w4 := below_next hbw2 (Nat.le_refl _) b24
  clear c0 c1'
  have c0 : w4.cell? ⟨w1.heap.size, 0, none⟩ = some (.string (txtOf R)) := Y24.at_ 0
  have c1' : w4.cell? ⟨w1.heap.size, 1, none⟩ = some (.slice A1 (runN R) c1) := Y24.at_ 1
  by_cases hneg : i < 0
  · have hd : decide (0 ≤ i) = false := by simp; omega
    have HV := Lib.hid (HN.out hneg)
    go_wp2_with fail
    go_ret
    exact ⟨ret_bool HV.out.symm, hbw4⟩
  · have h0 : 0 ≤ i := by omega
    have hd : decide (0 ≤ i) = true := by simp; omega
    have HV := Lib.hid (HY.out h0)
    have HI2 := Lib.hid (HI.out h0)
    have HC2 := Lib.hid (HC.out h0)
    go_wp2_with fail
    refine (HI2.out _ A1 c1 hbw4).mono ?_
    rintro e w5 ⟨rfl, hb5⟩
    have Y45 := Y4.below hb5 Y4.lt
    have Y25 := Y24.below hb5 Y24.lt
    have L5 : Lies w5 w5.heap.size A1 (runCells (comp (R.map (·.2)))) := L4.next hb5 (Nat.le_refl _)
    have hbw5 : Below w.heap.size w w5 := below_next hbw4 (Nat.le_refl _) hb5
    clear c0 c1'
    have e0 : w5.cell? ⟨w3.heap.size, 0, none⟩ = some (.string (txtOf (schemeL R))) := Y45.at_ 0
    go_wp2_with fail
    refine (HK.out _).mono ?_
    rintro e w6 ⟨rfl, hb6⟩
    have Y26 := Y25.below hb6 Y25.lt
    have L6 : Lies w6 w6.heap.size A1 (runCells (comp (R.map (·.2)))) := L5.next hb6 (Nat.le_refl _)
    have hbw6 : Below w.heap.size w w6 := below_next hbw5 (Nat.le_refl _) hb6
    have f0 : w6.cell? ⟨w1.heap.size, 0, none⟩ = some (.string (txtOf R)) := Y26.at_ 0
    have f1 : w6.cell? ⟨w1.heap.size, 1, none⟩ = some (.slice A1 (runN R) c1) := Y26.at_ 1
    clear e0
    cases kb with
    | false =>
      go_wp2_with fail
      go_ret
      exact ⟨ret_bool (by rw [HV.out]; rfl), hbw6⟩
    | true =>
      go_wp2_with fail
      refine (HC2.out _ A1 c1 L6).mono ?_
      rintro e w7 ⟨A7, c7, rfl, hl7, hb7⟩
      go_wp2_with fail
      refine (HP.out _ A7 c7 hl7).mono ?_
      rintro e w8 ⟨rfl, hb8⟩
      go_wp2_with fail
      go_ret
      exact ⟨ret_bool (by rw [HV.out]; rfl), below_next hbw6 (Nat.le_refl _) (below_next hb7 (Nat.le_refl _) hb8)⟩

/-- a labelled text, in memory of its own, and whether -/
def TellsP (l : List (UInt8 × Int)) (b : Bool) (w : World) (e : Ending) (w' : World) : Prop :=
  ∃ v, e = .returned (.tuple #[.agg #[.string (txtOf l), v], .bool b]) ∧ w'.ownsRow w.heap.size 79 2 v (comp (l.map (·.2))).length (runCells (comp (l.map (·.2)))) ∧ Below w.heap.size w w'
theorem own_end {w w2 : World} {s : ByteArray} {rs : List (Int × Int)} {v : Value} {g : Nat} (hg : w.heap.size ≤ g) (hown : w2.ownsRow (g + 1) 79 2 v rs.length (runCells rs)) (hb : Below w.heap.size w w2) :
    ((w2.setCell ⟨g, 0, none⟩ (.string s)).setCell ⟨g, 1, none⟩ v).ownsRow w.heap.size 79 2 v rs.length (runCells rs) ∧ Below w.heap.size w ((w2.setCell ⟨g, 0, none⟩ (.string s)).setCell ⟨g, 1, none⟩ v) := by
  obtain ⟨v', e, ho, hb'⟩ := tells_end (s := s) hg hown hb
  have e := Ending.returned.inj e
  simp only [Value.agg.injEq] at e
  have e' := congrArg Array.toList e
  simp only [List.cons.injEq, and_true, true_and] at e'
  subst e'
  exact ⟨ho, hb'⟩

set_option maxHeartbeats 1000000 in
set_option maxRecDepth 100000 in
theorem filterP_any (a : LT) (m : Int) (w : World) (hm : w.cell? ⟨0, 0, none⟩ = some (.int .i64 m)) (ha : a.ok w w.heap.size) (hsz : a.s.size ≤ 4294967280) :
    Calls Tryz.prog 24 #[a.v] w (TellsP (filterL (readyL a.ch)) (safeB (readyL a.ch)) w) := by
  obtain ⟨R, hR⟩ : ∃ R, R = readyL a.ch := ⟨_, rfl⟩
  have HR : Hid (∀ W, Below w.heap.size w W → Calls Tryz.prog 54 #[.agg #[.string a.s, .slice a.A a.n a.c]] W (Tells (txtOf R) (comp (R.map (·.2))) W)) := fun W hb => by
    rw [hR]
    exact ready_any a W (ha.next hb (Nat.le_refl _))
  have HS : Hid (∀ W, Below w.heap.size w W → Calls Tryz.prog 39 #[.agg #[.string a.s, .slice a.A a.n a.c]] W (SaysB (.bool (safeB R)) W)) := fun W hb => by
    rw [hR]
    exact safe_any a m W ((hb.cell (block_zero _ _ _ hm)).trans hm) (ha.next hb (Nat.le_refl _)) hsz
  rw [← hR]
  have HT : Hid (safeB R = true → filterL R = R) := fun h => filterL_true h
  have HF : Hid (safeB R = false → filterL R = []) := fun h => filterL_false h
  clear hR ha hm
  generalize safeB R = sb at *
  generalize filterL R = F at *
  obtain ⟨s, A, n, c, rs⟩ := a
  simp only at HR HS hsz
  show Calls Tryz.prog 24 #[.agg #[.string s, .slice A n c]] w _
  go_enter Tryz.func24, Tryz.ntmps24
  go_wp2_with fail
  generalize hwE : (w.alloc (.cells #[.string s, .slice A n c] 28)).alloc (.cells #[.string ⟨#[]⟩, .slice none 0 0] 28) = wE
  have y0 : Whole wE w.heap.size 28 #[.string s, .slice A n c] := by
    rw [← hwE]
    exact (Whole.made w _ _).alloc _
  have y3 : Whole wE (w.heap.size + 1) 28 #[.string ⟨#[]⟩, .slice none 0 0] := by
    rw [← hwE]
    have h := Whole.made (w.alloc (.cells #[.string s, .slice A n c] 28)) 28 #[.string ⟨#[]⟩, .slice none 0 0]
    simp only [World.size_alloc] at h
    exact h
  have hzE : w.heap.size + 2 ≤ wE.heap.size := by rw [← hwE]; simp
  have hbE : Below w.heap.size w wE := by rw [← hwE]; exact ((Below.refl _ _).alloc (Nat.le_refl _) _).alloc (by simp) _
  clear hwE
  refine (HS.out _ hbE).mono ?_
  rintro e w1 ⟨rfl, hb1⟩
  have Z0 := y0.below hb1 y0.lt
  have Z3 := y3.below hb1 y3.lt
  have hbw1 : Below w.heap.size w w1 := below_next hbE (Nat.le_refl _) hb1
  have hz1 := hb1.size
  cases sb with
  | false =>
    have f0 := Z3.free 0
    have f1 := Z3.free 1
    have d0 : w1.cell? ⟨w.heap.size + 1, 0, none⟩ = some (.string ⟨#[]⟩) := Z3.at_ 0
    have d1 : w1.cell? ⟨w.heap.size + 1, 1, none⟩ = some (.slice none 0 0) := Z3.at_ 1
    go_wp2
    refine bodyPost_ret (v := .tuple #[.agg #[.string ⟨#[]⟩, .slice none 0 0], .bool false]) ?_ rfl ?_
    · simp [results, Tryz.results24, go_sem, d0, d1]
    · obtain ⟨h1, h2⟩ := own_end (s := ⟨#[]⟩) (rs := []) (v := .slice none 0 0) (g := w.heap.size + 1) (by omega) (World.ownsRow_nil _ _ _ _) hbw1
      rw [HF.out (by first | rfl | trivial)]
      exact ⟨.slice none 0 0, rfl, h1, h2⟩
  | true =>
    have e0 : w1.cell? ⟨w.heap.size, 0, none⟩ = some (.string s) := Z0.at_ 0
    have e1 : w1.cell? ⟨w.heap.size, 1, none⟩ = some (.slice A n c) := Z0.at_ 1
    go_wp2_with fail
    refine (HR.out _ hbw1).mono ?_
    rintro e w2 ⟨v2, rfl, ho2, hb2⟩
    obtain ⟨A2, c2, rfl, _, _, _⟩ := own_form ho2
    have X3 := Z3.below hb2 Z3.lt
    have f0 := X3.free 0
    have f1 := X3.free 1
    have d0 : w2.cell? ⟨w.heap.size + 1, 0, none⟩ = some (.string ⟨#[]⟩) := X3.at_ 0
    have d1 : w2.cell? ⟨w.heap.size + 1, 1, none⟩ = some (.slice none 0 0) := X3.at_ 1
    have HO := Lib.hid ho2
    clear ho2 e0 e1
    go_wp2
    refine bodyPost_ret (v := .tuple #[.agg #[.string (txtOf R), .slice A2 (comp (R.map (·.2))).length c2], .bool true]) ?_ rfl ?_
    · simp [results, Tryz.results24, go_sem, d0, d1]
    · obtain ⟨h1, h2⟩ := own_end (s := txtOf R) (g := w.heap.size + 1) (by omega) (own_mono HO.out (by omega)) (below_next hbw1 (Nat.le_refl _) hb2)
      rw [HT.out (by first | rfl | trivial)]
      exact ⟨.slice A2 (comp (R.map (·.2))).length c2, rfl, h1, h2⟩
end Go.Proofs.YtnbdldapmllegaaGreat.mk
