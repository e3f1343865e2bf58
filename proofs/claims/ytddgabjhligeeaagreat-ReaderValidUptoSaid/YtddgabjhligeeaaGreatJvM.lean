/-
  Contracts of the reference's long, second, in and Next.
-/
import Derived.Test.YtddgabjhligeeaaGreatJvA
import Derived.Test.YtddgabjhligeeaaGreatJvJ
import Derived.Test.YtddgabjhligeeaaGreatJvD
import Derived.BigQuiet
import Derived.Deep.QuietTactic
import Derived.WalkSpells
namespace Go.Proofs.YtddgabjhligeeaaGreat.mk
open Go.RowKit

/-- how many bytes follow; -1: none begins so -/
def lng (n : Nat) : Int := if n < 128 then 0 else if n < 194 then -1 else if n < 224 then 1 else if n < 240 then 2 else if n < 245 then 3 else -1
def sec (n : Nat) : Nat × Nat := if n = 224 then (160, 191) else if n = 237 then (128, 159) else if n = 240 then (144, 191) else if n = 244 then (128, 143) else (128, 191)
theorem shp_lng_all : ∀ n : Fin 256, (0 ≤ lng n.val → (shp n.val).1 = (lng n.val).toNat + 1) ∧ (lng n.val < 0 → (shp n.val).1 = 0) ∧ (1 ≤ lng n.val → (shp n.val).2 = sec n.val) ∧ lng n.val ≤ 3 := by decide +kernel
theorem shp_lng (n : Nat) (h : n < 256) : (0 ≤ lng n → (shp n).1 = (lng n).toNat + 1) ∧ (lng n < 0 → (shp n).1 = 0) ∧ (1 ≤ lng n → (shp n).2 = sec n) ∧ lng n ≤ 3 := shp_lng_all ⟨n, h⟩
theorem sec_bd (n : Nat) : (sec n).1 ≤ 160 ∧ (sec n).2 ≤ 191 := by
  generalize hq : sec n = q
  unfold sec at hq
  iterate 4 (split at hq; · subst hq; decide)
  subst hq
  decide

set_option maxHeartbeats 1000000 in
set_option maxRecDepth 100000 in
theorem long_any (n : Nat) (w : World) (hn : n < 256) : Calls Tryz.prog 139 #[.int .u8 n] w fun e w' => e = .returned (.int .i64 (lng n)) ∧ w = w' := by
  generalize hq : lng n = q
  unfold lng at hq
  iterate 5 (split at hq; · subst hq; go_enter Tryz.func139, Tryz.ntmps139; go_wp2_with fail; go_ret; exact ⟨rfl, rfl⟩)
  subst hq
  go_enter Tryz.func139, Tryz.ntmps139
  go_wp2_with fail
  go_ret
  exact ⟨rfl, rfl⟩

set_option maxHeartbeats 1000000 in
set_option maxRecDepth 100000 in
theorem second_any (n : Nat) (w : World) : Calls Tryz.prog 140 #[.int .u8 n] w fun e w' => e = .returned (.tuple #[.int .u8 (sec n).1, .int .u8 (sec n).2]) ∧ w = w' := by
  generalize hq : sec n = q
  unfold sec at hq
  iterate 4 (split at hq; · subst hq; go_enter Tryz.func140, Tryz.ntmps140; go_wp2_with fail; go_ret2; exact ⟨rfl, rfl⟩)
  subst hq
  go_enter Tryz.func140, Tryz.ntmps140
  go_wp2_with fail
  go_ret2
  exact ⟨rfl, rfl⟩

/-- is byte i between the two? -/
def inB (l : List (UInt8 × Int)) (i lo hi : Nat) : Bool :=
  match l[i]? with
  | some (b, _) => decide (lo ≤ b.toNat ∧ b.toNat ≤ hi)
  | none => false

set_option maxHeartbeats 1000000 in
set_option maxRecDepth 100000 in
theorem in_any (A : Option Addr) (n c : Nat) (l : List (UInt8 × Int)) (i lo hi : Nat) (w : World) (hl : Lies w w.heap.size A (chCells l)) (hn : l.length = n) :
    Calls Tryz.prog 141 #[.slice A n c, .int .i64 i, .int .u8 lo, .int .u8 hi] w fun e w' => e = .returned (.bool (inB l i lo hi)) ∧ w = w' := by
  have HN := Lib.hid hn
  clear hn
  by_cases hin : i < n
  · obtain ⟨ad, b, o, rfl, hb, hc1, hc2, HR⟩ := hl.ch (k := i) (by rw [HN.out]; exact hin)
    have HI : Hid (inB l i lo hi = decide (lo ≤ b.toNat ∧ b.toNat ≤ hi)) := by show _ = _; unfold inB; rw [HR.out]
    have hi0 : (0 : Int) ≤ (i : Int) := Int.natCast_nonneg _
    have hi1 : (i : Int) < (n : Int) := by omega
    clear hc2
    by_cases h1 : lo ≤ b.toNat
    · by_cases h2 : b.toNat ≤ hi
      · go_enter Tryz.func141, Tryz.ntmps141
        go_wp2_with fail
        go_ret
        exact ⟨by rw [HI.out, decide_eq_true ⟨h1, h2⟩]; rfl, rfl⟩
      · go_enter Tryz.func141, Tryz.ntmps141
        go_wp2_with fail
        go_ret
        exact ⟨by rw [HI.out, decide_eq_false (fun h => absurd h.2 (by omega))]; rfl, rfl⟩
    · go_enter Tryz.func141, Tryz.ntmps141
      go_wp2_with fail
      go_ret
      exact ⟨by rw [HI.out, decide_eq_false (fun h => absurd h.1 (by omega))]; rfl, rfl⟩
  · have HI : Hid (inB l i lo hi = false) := by show _ = _; unfold inB; rw [List.getElem?_eq_none (by rw [HN.out]; omega)]
    go_enter Tryz.func141, Tryz.ntmps141
    go_wp2_with fail
    go_ret
    exact ⟨by rw [HI.out]; rfl, rfl⟩

theorem fit_in {l : List (UInt8 × Int)} {i lo hi : Nat} (h : inB l i lo hi = true) (m : Nat) : fit (m + 1) lo hi ((l.map (·.1)).drop i) = fit m 128 191 ((l.map (·.1)).drop (i + 1)) + 1 := by
  unfold inB at h
  cases hx : l[i]? with
  | none => rw [hx] at h; cases h
  | some q =>
    rw [hx] at h
    simp only [decide_eq_true_eq] at h
    rw [fit_step (c := q.1) (by rw [List.head?_drop, List.getElem?_map, hx]; rfl) h, List.drop_drop]
theorem fit_out {l : List (UInt8 × Int)} {i lo hi : Nat} (h : inB l i lo hi = false) (m : Nat) : fit m lo hi ((l.map (·.1)).drop i) = 0 := by
  unfold inB at h
  cases hx : l[i]? with
  | none =>
    have : (l.map (·.1)).drop i = [] := by
      rw [← List.head?_eq_none_iff, List.head?_drop, List.getElem?_map, hx]; rfl
    rw [this, fit_nil]
  | some q =>
    rw [hx] at h
    simp only [decide_eq_false_iff_not] at h
    exact fit_stop (c := q.1) (by rw [List.head?_drop, List.getElem?_map, hx]; rfl) h

def RNextRel (bl : List UInt8) (n lo hi : Nat) (i : Value) : Prop :=
  ∃ k : Nat, 2 ≤ k ∧ k ≤ n + 1 ∧ i = .int .i64 (k : Int) ∧ fit n lo hi (bl.drop 1) = (k - 1) + fit (n - (k - 1)) 128 191 (bl.drop k)

set_option maxHeartbeats 1000000 in
set_option maxRecDepth 100000 in
theorem refNext_any (A : Option Addr) (n c : Nat) (l : List (UInt8 × Int)) (w : World) (hl : Lies w w.heap.size A (chCells l)) (hn : l.length = n) (hn2 : n ≤ 4294967296) :
    Calls Tryz.prog 102 #[.slice A n c] w fun e w' => e = .returned (.tuple #[.int .i64 (nx (l.map (·.1))).1, .bool (nx (l.map (·.1))).2]) ∧ w = w' := by
  by_cases h0 : n = 0
  · have hl0 : l = [] := List.eq_nil_of_length_eq_zero (by omega)
    subst hl0
    subst h0
    go_enter Tryz.func102, Tryz.ntmps102
    go_wp2_with fail
    go_ret2
    exact ⟨rfl, rfl⟩
  · have hp : 0 < n := by omega
    have HN := Lib.hid hn
    obtain ⟨ad, b, o, rfl, hb, hc1, hc2, HR⟩ := hl.ch (k := 0) (by rw [hn]; exact hp)
    have hbl : l.map (·.1) = b :: (l.map (·.1)).drop 1 := by
      have h1 := HR.out
      cases l with
      | nil => simp at h1
      | cons x l => simp at h1; subst h1; rfl
    have HBL := Lib.hid hbl
    have hip : (0 : Int) < (n : Int) := by omega
    have hne : ((n : Int) == 0) = false := by rw [beq_eq_false_iff_ne]; omega
    simp only [Nat.zero_mul] at hc1
    rw [show ad.add 0 = ad by unfold Addr.add; rfl] at hc1
    obtain ⟨g1, g2, g3, g4⟩ := shp_lng b.toNat (UInt8.toNat_lt b)
    have hsb := sec_bd b.toNat
    have HG1 := Lib.hid g1
    have HG2 := Lib.hid g2
    have HG3 := Lib.hid g3
    clear hn hbl hc2 g1 g2 g3
    go_enter Tryz.func102, Tryz.ntmps102
    go_wp2_with fail
    refine (long_any _ _ (UInt8.toNat_lt _)).mono ?_
    rintro e w' ⟨rfl, rfl⟩
    generalize hq : lng b.toNat = q at *
    clear hq
    by_cases hq1 : q ≤ 0
    · by_cases hq0 : q = 0
      · subst hq0
        have HX : Hid (nx (l.map (·.1)) = (1, true)) := by
          show _ = _
          rw [HBL.out]
          simp only [nx, HG1.out (by omega)]
          rfl
        go_wp2_with fail
        go_ret2
        exact ⟨ret_nx HX.out rfl rfl, rfl⟩
      · have HX : Hid (nx (l.map (·.1)) = (1, false)) := by
          show _ = _
          rw [HBL.out]
          simp only [nx, HG2.out (by omega)]
          rfl
        have hqn : (q == 0) = false := by rw [beq_eq_false_iff_ne]; exact hq0
        clear hq0
        go_wp2_with fail
        go_ret2
        exact ⟨ret_nx HX.out rfl rfl, rfl⟩
    · obtain ⟨m, rfl⟩ : ∃ m : Nat, q = (m : Int) := ⟨q.toNat, by omega⟩
      have hm1 : 1 ≤ m := by omega
      have hm3 : m ≤ 3 := by omega
      have hs1 := HG1.out (by omega)
      have hs2 := HG3.out (by omega)
      simp only [Int.toNat_natCast] at hs1
      have HXX : Hid (nx (l.map (·.1)) = (fit m (sec b.toNat).1 (sec b.toNat).2 ((l.map (·.1)).drop 1) + 1, decide (fit m (sec b.toNat).1 (sec b.toNat).2 ((l.map (·.1)).drop 1) + 1 = m + 1))) := by
        show _ = _
        conv => lhs; rw [HBL.out]
        simp only [nx, hs1, hs2, Nat.add_sub_cancel]
      clear hs1 hs2 HG1 HG2 HG3
      go_wp2_with fail
      refine (second_any _ _).mono ?_
      rintro e w' ⟨rfl, rfl⟩
      generalize hs : sec b.toNat = sq at *
      obtain ⟨lo, hi⟩ := sq
      clear hs
      simp only at hsb
      go_wp2_with fail
      refine (in_any (some ad) n c l 1 lo hi _ hl HN.out).mono ?_
      rintro e w' ⟨rfl, rfl⟩
      cases hi1 : inB l 1 lo hi with
      | false =>
        have HX : Hid (nx (l.map (·.1)) = (1, false)) := by
          show _ = _
          rw [HXX.out, fit_out hi1]
          simp; omega
        clear hi1
        go_wp2_with fail
        go_ret2
        exact ⟨ret_nx HX.out rfl rfl, rfl⟩
      | true =>
        have HF1 : Hid (fit m lo hi ((l.map (·.1)).drop 1) = 1 + fit (m - 1) 128 191 ((l.map (·.1)).drop 2)) := by
          show _ = _
          have := fit_in hi1 (m - 1)
          rw [show m - 1 + 1 = m by omega] at this
          exact this.trans (Nat.add_comm _ _)
        clear hi1
        go_wp2_with fail
        go_loop [7] (RNextRel (l.map (·.1)) m lo hi) (fun i => 8 - (intOf i).toNat)
        case atStart => exact ⟨2, by omega, by omega, rfl, HF1.out⟩
        case round =>
          obtain ⟨k, hk1, hk2, rfl, hf⟩ := hrel
          have HF := Lib.hid hf
          clear hf
          by_cases hkm : k ≤ m
          · go_wp2_with fail
            refine (in_any (some ad) n c l k 128 191 _ hl HN.out).mono ?_
            rintro e w' ⟨rfl, rfl⟩
            cases hik : inB l k 128 191 with
            | false =>
              have HX : Hid (nx (l.map (·.1)) = (k, false)) := by
                show _ = _
                rw [HXX.out, HF.out, fit_out hik, show k - 1 + 0 + 1 = k by omega]
                simp; omega
              clear hik
              go_wp2_with fail
              go_ret2
              exact ⟨ret_nx HX.out rfl rfl, rfl⟩
            | true =>
              have HF2 : Hid (fit m lo hi ((l.map (·.1)).drop 1) = (k + 1 - 1) + fit (m - (k + 1 - 1)) 128 191 ((l.map (·.1)).drop (k + 1))) := by
                show _ = _
                have := fit_in hik (m - k)
                rw [HF.out, show m - (k - 1) = m - k + 1 by omega, this]
                simp only [Nat.add_sub_cancel]
                omega
              clear hik
              go_wp2_with fail
              go_round
              case rel => exact ⟨k + 1, by omega, by omega, by go_num, HF2.out⟩
              case measure => simp [intOf]; omega
          · have HX : Hid (nx (l.map (·.1)) = (m + 1, true)) := by
              show _ = _
              rw [HXX.out, HF.out, show m - (k - 1) = 0 by omega, fit, show k - 1 + 0 + 1 = m + 1 by omega]
              simp
            go_wp2_with fail
            go_ret2
            exact ⟨ret_nx HX.out (by simp) rfl, rfl⟩

end Go.Proofs.YtddgabjhligeeaaGreat.mk
