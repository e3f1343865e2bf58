/-
  The walk of the statement EntityNumbers.
-/
import Derived.Test.YtagpdcgcjallhaaEntAlive
import Derived.Test.YtagpdcgcjallhaaEntNumPure
import Derived.Test.YtagpdcgcjallhaaMarkArgs
namespace Go.Proofs.Ytagpdcgcjallhaa.mk
open Go.RowKit

theorem tmod_bd9 (a : Int) : -1179648 < a.tmod 1179648 ∧ a.tmod 1179648 < 1179648 := by
  have h1 := Int.tmod_lt_of_pos a (show (0 : Int) < 1179648 by decide)
  have h2 := Int.tmod_lt_of_pos (-a) (show (0 : Int) < 1179648 by decide)
  rw [Int.neg_tmod] at h2
  omega
def szOf : Value → Nat
  | .string b => if b.size = 0 then 1 else 0
  | _ => 0
theorem szOf_msr {a b : ByteArray} {k m : Int} (ha : ¬ a.size = 0) (h : (m < k ∧ 0 ≤ m) ∨ (b.size = 0 ∧ m ≤ k)) : szOf (.string a) + (intOf (.int .i64 m)).toNat < szOf (.string b) + (intOf (.int .i64 k)).toNat := by
  show (if a.size = 0 then 1 else 0) + m.toNat < (if b.size = 0 then 1 else 0) + k.toNat
  rw [if_neg ha]
  rcases h with h | h
  · split <;> omega
  · rw [if_pos h.1]; omega
def NumSt (base n : Int) (s k : Value) : Prop :=
  ∃ (sb : ByteArray) (kk : Int), s = .string sb ∧ k = .int .i64 kk ∧ DigSt base n sb.data.toList kk ∧ kk ≤ n
def NumRelW (base n : Int) (w0 : World) (s k : Value) (wr : World) : Prop := NumSt base n s k ∧ Below w0.heap.size w0 wr

theorem of_some (T : ByteArray) (o : Int) (W : World) (hT : T.size ≤ 100) : Calls Try.prog 19 #[.string T, .int .i64 o] W fun e w' => ∃ (A : Option Addr) (q : List (Int × Int)) (c : Nat), e = .returned (.agg #[.string T, .slice A q.length c]) ∧ Lies w' w'.heap.size A (runCells q) ∧ q.length ≤ 100 ∧ Below W.heap.size W w' := by
  refine (of_any T o W (by omega)).mono ?_
  rintro e w1 ⟨v1, rfl, ho1, hb1⟩
  obtain ⟨A1, c1, rfl, _, _, _⟩ := own_form ho1
  refine ⟨A1, _, c1, rfl, Lies.own ho1, ?_, hb1⟩
  have := comp_length_le (List.replicate T.size (nearO o))
  rw [List.length_replicate] at this
  omega
theorem dec_num (T : ByteArray) (n : Int) (hT : T.size ≤ 100) (h : ∀ q, (decE (chars T.data.toList q)).map (·.1) = (numB n).data.toList) (A : Option Addr) (q : List (Int × Int)) (c : Nat) (W : World) (hl : Lies W W.heap.size A (runCells q)) (hq : q.length ≤ 100) : Calls Try.prog 11 #[.agg #[.string T, .slice A q.length c]] W fun e w' => ∃ (D : Option Addr) (z k : Nat), e = .returned (.agg #[.string (numB n), .slice D z k]) ∧ Below W.heap.size W w' := by
  refine (entDecode_any T A q.length c q W hl rfl (by omega) (by omega)).mono ?_
  rintro e w1 ⟨v1, rfl, ho1, hb1⟩
  obtain ⟨A1, c1, rfl, _, _, _⟩ := own_form ho1
  refine ⟨A1, (comp ((decE (chars T.data.toList q)).map (·.2))).length, c1, ?_, hb1⟩
  rw [show (⟨((decE (chars T.data.toList q)).map (·.1)).toArray⟩ : ByteArray) = numB n by rw [h q]]

set_option maxHeartbeats 2000000 in
set_option maxRecDepth 100000 in
theorem numbers8_any (n0 o : Int) (w : World) :
    Calls Try.prog 5 #[.int .i64 n0, .int .i64 o] w fun e w' => e = .returned (.bool true) ∧ Below w.heap.size w w' := by
  obtain ⟨ha1, ha2⟩ := tmod_bd9 n0
  go_enter Try.func5, Try.ntmps5
  go_wp2_with fail
  refine (alive8_any _).mono ?_
  rintro e w1 ⟨rfl, hb1⟩
  go_wp2_with fail
  have hN0 : 0 ≤ (n0.tmod 1179648 + 1179648) % 1179648 := Int.emod_nonneg _ (by decide)
  have hN1 : (n0.tmod 1179648 + 1179648) % 1179648 < 1179648 := Int.emod_lt_of_pos _ (by decide)
  generalize (n0.tmod 1179648 + 1179648) % 1179648 = N at *
  clear ha1 ha2
  obtain ⟨wo, rfl⟩ : ∃ wo : World, wo = w1 := ⟨_, rfl⟩
  go_loopw [5, 7] (NumRelW 10 N wo) (fun s k _ => szOf s + (intOf k).toNat)
  case atStart => exact ⟨⟨⟨#[]⟩, N, rfl, rfl, DigSt.start hN0, Int.le_refl _⟩, Below.refl _ _⟩
  case round =>
    obtain ⟨⟨sb, kk, rfl, rfl, hdg, hkn⟩, hbl⟩ := hrel
    have hws := hbl.size
    have HDG := Lib.hid hdg
    have hk0 := hdg.1
    have hl7 := hdg.2.2.2
    rw [Array.length_toList] at hl7
    have hs7 : sb.size ≤ 7 := hl7
    have hse : sb.toList = sb.data.toList := ByteArray.toList_eq ..
    have hsl : sb.data.toList.length = sb.size := by rw [Array.length_toList]; rfl
    clear hl7 hdg
    by_cases hgo : 0 < kk ∨ sb.data.toList = []
    · obtain ⟨d, hd⟩ : ∃ d : Nat, kk % 10 = (d : Int) := ⟨(kk % 10).toNat, by omega⟩
      have hd10 : d < 10 := by omega
      obtain ⟨x, hx⟩ : ∃ x, x = UInt8.ofNat (48 + d) := ⟨_, rfl⟩
      have hxn : 48 + (d : Int) = (x.toNat : Int) := by
        rw [hx]
        simp
        omega
      have HXH : Hid (hexB x = kk % 10) := by
        show _ = _
        rw [hx, hd]
        exact decD_hex d hd10
      have HNX : Hid (DigSt 10 N ((⟨#[x]⟩ ++ sb : ByteArray).data.toList) (kk / 10)) := by
        show DigSt _ _ _ _
        rw [ByteArray.data_append, Array.toList_append]
        exact HDG.out.next (by omega) (by omega) hgo HXH.out
      have hcond : (0 < kk) ∨ (¬ 0 < kk ∧ (sb.toList == []) = true) := by
        rcases hgo with h | h
        · exact .inl h
        · by_cases h0 : 0 < kk
          · exact .inl h0
          · exact .inr ⟨h0, by rw [hse, h]; rfl⟩
      have hsz0 : ¬ ((⟨#[x]⟩ ++ sb : ByteArray).size = 0) := by
        rw [ByteArray.size_append]
        have : (ByteArray.mk #[x]).size = 1 := rfl
        omega
      have hms : ¬ 0 < kk → sb.size = 0 := fun h => by
        rcases hgo with h2 | h2
        · exact absurd h2 h
        · rw [← hsl, h2]; rfl
      have hcv : (convert 40 9 (.slice (some ⟨wr.heap.size, 0, none⟩) 1 1)).run Try.prog (wr.alloc (.cells #[.int .u8 x.toNat] 5)) = .ok (.string ⟨#[x]⟩) (wr.alloc (.cells #[.int .u8 x.toNat] 5)) :=
        run_convert_bytes_back (P := Try.prog) _ 40 9 5 ⟨wr.heap.size, 0, none⟩ 1 [x] Try.underlying40 Try.underlying5 Try.underlying9 (fun i hi => by
          obtain rfl : i = 0 := by simpa using hi
          exact (Whole.made wr 5 #[.int .u8 x.toNat]).at_ 0)
      have hbl2 := hbl.alloc hws (.cells #[.int .u8 x.toNat] 5)
      have hk10 : kk / 10 ≤ N := by omega
      have HSZ := Lib.hid hsz0
      clear hse hx hgo hsz0
      rcases hcond with hc | ⟨hc, he⟩
      · go_wp2_with fail
        go_roundw
        case rel => exact ⟨⟨_, kk / 10, rfl, rfl, HNX.out, hk10⟩, hbl2⟩
        case measure => exact szOf_msr HSZ.out (.inl (by omega))
      · have HS0 := Lib.hid (hms hc)
        go_wp2_with fail
        go_roundw
        case rel => exact ⟨⟨_, kk / 10, rfl, rfl, HNX.out, hk10⟩, hbl2⟩
        case measure => exact szOf_msr HSZ.out (.inr ⟨HS0.out, by omega⟩)
    · obtain ⟨h1, h2⟩ := not_or.1 hgo
      obtain rfl : kk = 0 := by omega
      have he : (sb.toList == []) = false := by rw [hse, beq_eq_false_iff_ne]; exact h2
      have hv := HDG.out.done
      have hall := HDG.out.2.2.1
      have HR1 : Hid (∀ q, (decE (chars (⟨#[38, 35]⟩ ++ sb ++ ⟨#[59]⟩ : ByteArray).data.toList q)).map (·.1) = (numB N).data.toList) := by
        refine ref_one (b := 35 :: sb.data.toList) ?_ ?_ ?_
        · rw [ByteArray.data_append, Array.toList_append, ByteArray.data_append, Array.toList_append]
          rfl
        · intro y hy
          rcases List.mem_cons.1 hy with rfl | hy
          · decide
          · exact digV_semi2 (hall y hy)
        · rw [standsN_dec h2 hall, hv]
      have HS1 : Hid ((⟨#[38, 35]⟩ ++ sb ++ ⟨#[59]⟩ : ByteArray).size ≤ 100) := by
        show _ ≤ _
        rw [ByteArray.size_append, ByteArray.size_append]
        have e1 : (ByteArray.mk #[38, 35]).size = 2 := rfl
        have e2 : (ByteArray.mk #[59]).size = 1 := rfl
        omega
      clear HDG hkn hv hall hse hsl h1 h2 hgo hk0
      go_wp2_with fail
      obtain ⟨wd, rfl⟩ : ∃ wd : World, wd = wr := ⟨_, rfl⟩
      go_loop [6, 8] (NumSt 16 N) (fun s k => szOf s + (intOf k).toNat)
      case atStart => exact ⟨⟨#[]⟩, N, rfl, rfl, DigSt.start hN0, Int.le_refl _⟩
      case round =>
        obtain ⟨tb, kk, rfl, rfl, hdg, hkn⟩ := hrel
        have HDG := Lib.hid hdg
        have hk0 := hdg.1
        have hl7 := hdg.2.2.2
        rw [Array.length_toList] at hl7
        have ht7 : tb.size ≤ 7 := hl7
        have hse : tb.toList = tb.data.toList := ByteArray.toList_eq ..
        have hsl : tb.data.toList.length = tb.size := by rw [Array.length_toList]; rfl
        clear hl7 hdg
        by_cases hgo : 0 < kk ∨ tb.data.toList = []
        · obtain ⟨d, hd⟩ : ∃ d : Nat, kk % 16 = (d : Int) := ⟨(kk % 16).toNat, by omega⟩
          have hd16 : d < 16 := by omega
          obtain ⟨x, hxl, hxh⟩ := hexD_cut d hd16
          have HNX : Hid (DigSt 16 N (((ByteArray.mk #[48, 49, 50, 51, 52, 53, 54, 55, 56, 57, 97, 98, 99, 100, 101, 102]).extract d (d + 1) ++ tb).data.toList) (kk / 16)) := by
            show DigSt _ _ _ _
            rw [ByteArray.data_append, Array.toList_append, hxl]
            exact HDG.out.next (by omega) (by omega) hgo (by rw [hxh, hd])
          have hez : ((ByteArray.mk #[48, 49, 50, 51, 52, 53, 54, 55, 56, 57, 97, 98, 99, 100, 101, 102]).extract d (d + 1)).size = 1 := by
            have := congrArg List.length hxl
            rw [Array.length_toList] at this
            exact this
          have hsz0 : ¬ ((((ByteArray.mk #[48, 49, 50, 51, 52, 53, 54, 55, 56, 57, 97, 98, 99, 100, 101, 102]).extract d (d + 1) ++ tb)).size = 0) := by
            rw [ByteArray.size_append]
            omega
          have hcond : (0 < kk) ∨ (¬ 0 < kk ∧ (tb.toList == []) = true) := by
            rcases hgo with h | h
            · exact .inl h
            · by_cases h0 : 0 < kk
              · exact .inl h0
              · exact .inr ⟨h0, by rw [hse, h]; rfl⟩
          have hms : ¬ 0 < kk → tb.size = 0 := fun h => by
            rcases hgo with h2 | h2
            · exact absurd h2 h
            · rw [← hsl, h2]; rfl
          have hk16 : kk / 16 ≤ N := by omega
          have g0 : (0 : Int) ≤ (d : Int) := by omega
          have g1 : (d : Int) ≤ 16 := by omega
          have g2 : (d : Int) + 1 ≤ 16 := by omega
          have g2' : (d : Int) + 1 ≤ ((#[48, 49, 50, 51, 52, 53, 54, 55, 56, 57, 97, 98, 99, 100, 101, 102] : Array UInt8).size : Int) := g2
          have g3 : (0 : Int) ≤ (d : Int) + 1 := by omega
          have g4 : (d : Int) ≤ (d : Int) + 1 := by omega
          have g6 : ((d : Int) + 1).toNat = d + 1 := by omega
          have HSZ := Lib.hid hsz0
          clear hse hgo hxl hxh hez hsz0
          rcases hcond with hc | ⟨hc, he2⟩
          · go_wp2_with fail
            go_round
            case rel => exact ⟨_, kk / 16, rfl, rfl, HNX.out, hk16⟩
            case measure => exact szOf_msr HSZ.out (.inl (by omega))
          · have HS0 := Lib.hid (hms hc)
            go_wp2_with fail
            go_round
            case rel => exact ⟨_, kk / 16, rfl, rfl, HNX.out, hk16⟩
            case measure => exact szOf_msr HSZ.out (.inr ⟨HS0.out, by omega⟩)
        · obtain ⟨h1, h2⟩ := not_or.1 hgo
          obtain rfl : kk = 0 := by omega
          have he2 : (tb.toList == []) = false := by rw [hse, beq_eq_false_iff_ne]; exact h2
          have hv := HDG.out.done
          have hall := HDG.out.2.2.1
          have HR2 : Hid (∀ q, (decE (chars (⟨#[38, 35, 120]⟩ ++ tb ++ ⟨#[59]⟩ : ByteArray).data.toList q)).map (·.1) = (numB N).data.toList) := by
            refine ref_one (b := 35 :: 120 :: tb.data.toList) ?_ ?_ ?_
            · rw [ByteArray.data_append, Array.toList_append, ByteArray.data_append, Array.toList_append]
              rfl
            · intro y hy
              rcases List.mem_cons.1 hy with rfl | hy
              · decide
              · rcases List.mem_cons.1 hy with rfl | hy
                · decide
                · exact digV_semi2 (hall y hy)
            · rw [standsN_hex h2 hall, hv]
          have HS2 : Hid ((⟨#[38, 35, 120]⟩ ++ tb ++ ⟨#[59]⟩ : ByteArray).size ≤ 100) := by
            show _ ≤ _
            rw [ByteArray.size_append, ByteArray.size_append]
            have e1 : (ByteArray.mk #[38, 35, 120]).size = 3 := rfl
            have e2 : (ByteArray.mk #[59]).size = 1 := rfl
            omega
          have HOF1 := Lib.hid (fun W => of_some (⟨#[38, 35]⟩ ++ sb ++ ⟨#[59]⟩) o W HS1.out)
          have HOF2 := Lib.hid (fun W => of_some (⟨#[38, 35, 120]⟩ ++ tb ++ ⟨#[59]⟩) o W HS2.out)
          have HDE1 := Lib.hid (dec_num (⟨#[38, 35]⟩ ++ sb ++ ⟨#[59]⟩) N HS1.out HR1.out)
          have HDE2 := Lib.hid (dec_num (⟨#[38, 35, 120]⟩ ++ tb ++ ⟨#[59]⟩) N HS2.out HR2.out)
          have HRN := Lib.hid (fun W => refNumber_any N W)
          clear HDG hkn hv hall hse hsl h1 h2 hgo hk0 HR1 HR2 HS1 HS2
          generalize numB N = nb at *
          go_wp2_with fail
          refine (HRN.out _).mono ?_
          rintro e w2 ⟨rfl, hb2⟩
          have B2 := below_next (below_next hb1 (Nat.le_refl _) hbl) (Nat.le_refl _) hb2
          go_wp2_with fail
          refine (HOF1.out _).mono ?_
          rintro e w3 ⟨A3, q3, c3, rfl, hl3, hq3, hb3⟩
          have B3 := below_next B2 (Nat.le_refl _) hb3
          go_wp2_with fail
          refine (HDE1.out A3 q3 c3 _ hl3 hq3).mono ?_
          rintro e w4 ⟨A4, z4, c4, rfl, hb4⟩
          have B4 := below_next B3 (Nat.le_refl _) hb4
          have ft := fun w' => field_text nb A4 z4 c4 w'
          have hnn : (nb.toList == nb.toList) = true := by simp
          go_wp2_with fail
          refine (HOF2.out _).mono ?_
          rintro e w5 ⟨A5, q5, c5, rfl, hl5, hq5, hb5⟩
          have B5 := below_next B4 (Nat.le_refl _) hb5
          clear ft
          go_wp2_with fail
          refine (HDE2.out A5 q5 c5 _ hl5 hq5).mono ?_
          rintro e w6 ⟨A6, z6, c6, rfl, hb6⟩
          have B6 := below_next B5 (Nat.le_refl _) hb6
          have ft := fun w' => field_text nb A6 z6 c6 w'
          go_wp2_with fail
          go_ret
          exact ⟨rfl, B6⟩

end Go.Proofs.Ytagpdcgcjallhaa.mk
