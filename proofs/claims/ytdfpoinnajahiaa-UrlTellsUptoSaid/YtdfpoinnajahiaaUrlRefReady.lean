/-
  Contracts of the law's ready and colon.
-/
import Derived.Test.YtdfpoinnajahiaaUrlByte
import Derived.Test.YtdfpoinnajahiaaFoldRef
import Derived.Test.YtdfpoinnajahiaaTold
namespace Go.Proofs.Ytdfpoinnajahiaa.mk
open Go.RowKit

def EdgeRel (w0 : World) (v i : Value) (wr : World) : Prop :=
  ∃ (k : Nat) (e : ByteArray), k ≤ 33 ∧ i = .int .i64 (k : Int) ∧ v = .string e ∧ e.size = k ∧ e.data.toList = (List.range k).map UInt8.ofNat ∧ Below w0.heap.size w0 wr

set_option maxHeartbeats 2000000 in
set_option maxRecDepth 100000 in
theorem lawReady_any (A : Option Addr) (n c : Nat) (l : List (UInt8 × Int)) (w : World) (hl : Lies w w.heap.size A (chCells l)) (hn : l.length = n) (hnc : n ≤ c) (hn2 : n ≤ 4294967296) :
    Calls Try.prog 7 #[.slice A n c] w (fun e w' => ∃ v, e = .returned v ∧ w'.ownsRow w.heap.size 36 2 v (readyL l).length (chCells (readyL l)) ∧ Below w.heap.size w w') := by
  have HN := Lib.hid hn
  clear hn
  go_enter Try.func7, Try.ntmps7
  go_wp2_with fail
  go_loopw [3, 4] (EdgeRel w) (fun _ i _ => 33 - (intOf i).toNat)
  case atStart => exact ⟨0, ⟨#[]⟩, by omega, rfl, rfl, rfl, rfl, Below.refl _ _⟩
  case round =>
    obtain ⟨k, en, hk, rfl, rfl, hes, hel, hbl⟩ := hrel
    have HES := Lib.hid hes
    have HEL := Lib.hid hel
    have HBL := Lib.hid hbl
    have hws := hbl.size
    clear hel hbl
    by_cases hlt : k < 33
    · have hk1 : (k : Int) ≤ 32 := by omega
      have hwk : IntKind.u8.wrap (k : Int) = (k : Int) := IntWalk.u8_in _ (by omega)
      have hcv : (convert 41 9 (.slice (some ⟨wr.heap.size, 0, none⟩) 1 1)).run Try.prog (wr.alloc (.cells #[.int .u8 (k : Int)] 5)) = .ok (.string ⟨#[UInt8.ofNat k]⟩) (wr.alloc (.cells #[.int .u8 (k : Int)] 5)) := by
        refine run_convert_bytes_back (P := Try.prog) _ 41 9 5 ⟨wr.heap.size, 0, none⟩ 1 [UInt8.ofNat k] Try.underlying41 Try.underlying5 Try.underlying9 (fun j hj => ?_)
        obtain rfl : j = 0 := by simpa using hj
        have h := cells_new wr 5 [.int .u8 (k : Int)] 0 _ rfl
        rw [h]
        simp
        omega
      have HAP : Hid ((en ++ ⟨#[UInt8.ofNat k]⟩).data.toList = (List.range (k + 1)).map UInt8.ofNat) := by
        show _ = _
        rw [ByteArray.data_append, Array.toList_append, HEL.out, List.range_succ, List.map_append]
        rfl
      have HAS : Hid ((en ++ ⟨#[UInt8.ofNat k]⟩).size = k + 1) := by
        show _ = _
        rw [ByteArray.size_append, HES.out]
        rfl
      go_wp2_with fail
      go_roundw
      case rel => exact ⟨k + 1, _, by omega, by go_num, rfl, HAS.out, HAP.out, HBL.out.alloc (by omega) _⟩
      case measure => simp [intOf]; omega
    · have HE33 : Hid (en.data.toList = (List.range 33).map UInt8.ofNat) := by
        have h := HEL.out
        rw [show k = 33 by omega] at h
        exact h
      have hk33 : ¬ (k : Int) ≤ 32 := by omega
      have hz : en.size ≤ 33 := by omega
      have HON : Hid (onB (isIn en.data.toList) = edgeC) := by
        show _ = _
        funext v
        show isIn en.data.toList v.1 = _
        rw [HE33.out, endsB_eq]
        rfl
      have hl3 : Lies wr wr.heap.size A (chCells l) := hl.next HBL.out (Nat.le_refl _)
      go_wp2_with fail
      refine (refTrim_any A n c l en _ hl3 HN.out hnc hn2 (by omega)).mono ?_
      rintro e w1 ⟨A1, n1, c1, rfl, hl1, hn1, rfl⟩
      rw [HON.out] at hl1 hn1
      have hn1' : n1 ≤ 4294967296 := by
        rw [← hn1]
        exact Nat.le_trans (trimL_length _ _) (by rw [HN.out]; exact hn2)
      go_wp2_with fail
      refine (refWithout_any A1 n1 c1 (trimL edgeC l) ⟨#[9, 10, 13]⟩ _ hl1 hn1 hn1' (by decide)).mono ?_
      rintro e w2 ⟨v2, rfl, ho2, hb2⟩
      go_wp2_with fail
      go_ret
      exact ⟨_, rfl, own_mono ho2 hws, below_next HBL.out (Nat.le_refl _) hb2⟩

def LawColRel (l : List (UInt8 × Int)) (i : Value) : Prop :=
  ∃ k : Nat, k ≤ l.length ∧ i = .int .i64 (k : Int) ∧ colonI l = colonF ((l.map (·.1)).drop k) k

theorem signIn_any (b : UInt8) (w : World) :
    Calls Try.prog 22 #[.int .u8 b.toNat, .string ⟨#[43, 45, 46]⟩] w fun e w' => e = .returned (.bool (isIn signB b)) ∧ w' = w :=
  (refIn_any b ⟨#[43, 45, 46]⟩ w (by decide)).mono fun _ _ ⟨he, hw⟩ => ⟨he, hw.symm⟩

set_option maxHeartbeats 2000000 in
set_option maxRecDepth 100000 in
theorem lawColon_any (A : Option Addr) (n c : Nat) (l : List (UInt8 × Int)) (w : World) (hl : Lies w w.heap.size A (chCells l)) (hn : l.length = n) (hn2 : n ≤ 4294967296) :
    Calls Try.prog 9 #[.slice A n c] w fun e w' => e = .returned (.int .i64 (colonI l)) ∧ w' = w := by
  have HN := Lib.hid hn
  clear hn
  go_enter Try.func9, Try.ntmps9
  go_wp2_with fail
  go_loop [3] (LawColRel l) (fun i => n - (intOf i).toNat)
  case atStart => exact ⟨0, Nat.zero_le _, rfl, rfl⟩
  case round =>
    obtain ⟨k, hk, rfl, hcol⟩ := hrel
    rw [HN.out] at hk
    have HC := Lib.hid hcol
    clear hcol
    by_cases hlt : k < n
    · obtain ⟨ad, b, o, rfl, hb0, hc1, hc2, HR⟩ := hl.ch (k := k) (by rw [HN.out]; exact hlt)
      have hk0 : (0 : Int) ≤ (k : Int) := Int.natCast_nonneg _
      have hk1 : (k : Int) < (n : Int) := by omega
      have HSK : Hid ((l.map (·.1))[k]? = some b) := by
        show _ = _
        rw [List.getElem?_map, HR.out]
        rfl
      have HNX : Hid (colonI l = if b = 58 ∧ 0 < k then (k : Int) else if letterB b || (decide (0 < k) && laterB b) then colonF ((l.map (·.1)).drop (k + 1)) (k + 1) else -1) := by
        show _ = _
        rw [HC.out, colonF_next HSK.out]
      have HLE : Hid (∀ w' : World, Calls Try.prog 21 #[.int .u8 b.toNat] w' fun e w'' => e = .returned (.bool (letterB b)) ∧ w'' = w') := fun w' => lawLetter_any b w'
      have HIN : Hid (∀ w' : World, Calls Try.prog 22 #[.int .u8 b.toNat, .string ⟨#[43, 45, 46]⟩] w' fun e w'' => e = .returned (.bool (isIn signB b)) ∧ w'' = w') := fun w' => signIn_any b w'
      by_cases h58 : b = 58 ∧ 0 < k
      · have HV : Hid (colonI l = (k : Int)) := by show _ = _; rw [HNX.out, if_pos h58]
        have hb : ((b.toNat : Int) == 58) = true := by rw [h58.1]; rfl
        have hkp : (0 : Int) < (k : Int) := by omega
        clear h58
        go_wp2_with fail
        go_ret
        exact ⟨ret_int HV.out.symm, rfl⟩
      · have HV : Hid (colonI l = if letterB b || (decide (0 < k) && laterB b) then colonF ((l.map (·.1)).drop (k + 1)) (k + 1) else -1) := by show _ = _; rw [HNX.out, if_neg h58]
        clear HNX
        have hcase : ((b.toNat : Int) == 58) = false ∨ ((b.toNat : Int) == 58) = true ∧ k = 0 := by
          by_cases h : b = 58
          · right; exact ⟨by rw [h]; rfl, Nat.eq_zero_of_not_pos (fun hp => h58 ⟨h, hp⟩)⟩
          · left
            rw [beq_eq_false_iff_ne]
            intro e
            exact h (UInt8.toNat_inj.1 (by show b.toNat = 58; omega))
        have hdig : ((48 : Int) ≤ (b.toNat : Int) ∧ (b.toNat : Int) ≤ 57 ∧ digitC b = true) ∨ ((48 : Int) ≤ (b.toNat : Int) ∧ ¬ (b.toNat : Int) ≤ 57 ∧ digitC b = false) ∨ (¬ (48 : Int) ≤ (b.toNat : Int) ∧ digitC b = false) := by
          unfold digitC
          by_cases h1 : (48 : Int) ≤ (b.toNat : Int)
          · by_cases h2 : (b.toNat : Int) ≤ 57
            · left; exact ⟨h1, h2, by simp; omega⟩
            · right; left; exact ⟨h1, h2, by simp; omega⟩
          · right; right; exact ⟨h1, by simp; omega⟩
        have HLB : Hid (laterB b = (digitC b || isIn signB b)) := rfl
        generalize letterB b = lb at *
        generalize laterB b = tb at *
        generalize isIn signB b = sb at *
        generalize digitC b = db at *
        clear h58 HSK
        rcases Nat.eq_zero_or_pos k with hk00 | hkp
        · subst hk00
          have ha0 : ad.add 0 = ad := by unfold Addr.add; simp
          simp only [Nat.zero_mul, ha0] at hc1
          clear ha0 hc2
          have HV2 : Hid (colonI l = if lb then colonF ((l.map (·.1)).drop 1) 1 else -1) := by
            show _ = _
            rw [HV.out]; simp
          clear HV hdig
          cases lb
          all_goals
            rcases hcase with hb | ⟨hb, -⟩
            all_goals
              go_wp2_with fail
              refine (HLE.out _).mono ?_
              rintro e w' ⟨rfl, rfl⟩
              go_wp2_with fail
              first
                | (go_ret
                   exact ⟨ret_int (by rw [HV2.out]; rfl), rfl⟩)
                | (go_round
                   case rel => exact ⟨1, by rw [HN.out]; omega, rfl, HV2.out⟩
                   case measure => simp [intOf]; omega)
        · have hb : ((b.toNat : Int) == 58) = false := by
            rcases hcase with h | ⟨_, h⟩
            · exact h
            · omega
          have hkz : ((k : Int) == 0) = false := by rw [beq_eq_false_iff_ne]; omega
          have HV2 : Hid (colonI l = if lb || (db || sb) then colonF ((l.map (·.1)).drop (k + 1)) (k + 1) else -1) := by
            show _ = _
            rw [HV.out, decide_eq_true hkp, Bool.true_and, HLB.out]
          clear hcase HV HLB
          cases lb
          all_goals
            cases sb
            all_goals
              rcases hdig with ⟨g1, g2, rfl⟩ | ⟨g1, g2, rfl⟩ | ⟨g1, rfl⟩
              all_goals
                go_wp2_with fail
                refine (HLE.out _).mono ?_
                rintro e w' ⟨rfl, rfl⟩
                go_wp2_with fail
                try
                  refine (HIN.out _).mono ?_
                  rintro e w'' ⟨rfl, rfl⟩
                  go_wp2_with fail
                all_goals
                  first
                    | (go_ret
                       exact ⟨ret_int (by rw [HV2.out]; rfl), rfl⟩)
                    | (go_round
                       case rel => exact ⟨k + 1, by rw [HN.out]; omega, by go_num, HV2.out⟩
                       case measure => simp [intOf]; omega)
                    | (exfalso
                       rename_i hno
                       simp at hno
                       omega)
    · obtain rfl : k = n := by omega
      have HV : Hid (colonI l = -1) := by show _ = _; rw [HC.out]; exact colonF_end (by rw [List.length_map, HN.out]; exact Nat.le_refl _)
      go_wp2_with fail
      go_ret
      exact ⟨ret_int HV.out.symm, rfl⟩

end Go.Proofs.Ytdfpoinnajahiaa.mk
