/-
  The walk of the statement PercentBack.
-/
import Derived.Test.YtpjbhjebjebbjaaPctAlive
import Derived.Test.YtpjbhjebjebbjaaMarkSame
import Derived.Test.YtpjbhjebjebbjaaFoldEnds
namespace Go.Proofs.Ytpjbhjebjebbjaa.mk
open Go.RowKit

def OkRel (T : ByteArray) (w0 : World) (i : Value) (wr : World) : Prop :=
  ∃ k : Nat, k ≤ T.size ∧ i = .int .i64 (k : Int) ∧ Below w0.heap.size w0 wr

set_option maxHeartbeats 2000000 in
set_option maxRecDepth 100000 in
theorem back5_any (a : LT) (w : World) (ha : a.ok w w.heap.size) (hsz : a.s.size ≤ 1048576) :
    Calls Try.prog 4 #[a.v] w fun e w' => e = .returned (.bool true) ∧ Below w.heap.size w w' := by
  obtain ⟨s, A, m, c, rs⟩ := a
  obtain ⟨hl, hm, hm2, hs2⟩ := ha
  simp only at hl hm hm2 hs2 hsz
  show Calls Try.prog 4 #[.agg #[.string s, .slice A m c]] w _
  have HM := Lib.hid hm
  clear hm
  have hsl : s.data.toList.length = s.size := by rw [Array.length_toList]; rfl
  have hin := InR.chars s.data.toList rs
  have hlen : (chars s.data.toList rs).length = s.size := by rw [chars_length, hsl]
  have hfst := chars_fst s.data.toList rs
  have hsnd : (chars s.data.toList rs).map (·.2) = origins s.size rs := by rw [chars_snd, hsl]
  generalize hL : chars s.data.toList rs = L at *
  have hel := (encL_len L).2
  rw [hlen] at hel
  have hde := dec_enc hin
  have hct := chars_told hin.enc
  have hok := encL_ok L
  generalize hR : encL L = R at *
  have HL := Lib.hid hL
  have HR := Lib.hid hR
  have HIN := Lib.hid hin
  have HLN := Lib.hid hlen
  have HF := Lib.hid hfst
  have HS := Lib.hid hsnd
  have HDE := Lib.hid hde
  have HCT := Lib.hid hct
  have HOK := Lib.hid hok
  clear hL hR hin hlen hfst hsnd hde hct hok hsl
  go_enter Try.func4, Try.ntmps4
  go_wp2_with fail
  refine (alive5_any _).mono ?_
  rintro e w1 ⟨rfl, hb1⟩
  simp only [World.size_alloc] at hb1
  have hz1 := hb1.size
  simp only [World.size_alloc] at hz1
  have y0 : Whole w1 w.heap.size 24 #[.string s, .slice A m c] := (Whole.made w _ _).below hb1 (Nat.lt_succ_self _)
  have c0 : w1.cell? ⟨w.heap.size, 0, none⟩ = some (.string s) := y0.at_ 0
  have c1 : w1.cell? ⟨w.heap.size, 1, none⟩ = some (.slice A m c) := y0.at_ 1
  have hl1 : Lies w1 w1.heap.size A (runCells rs) := ((hl.alloc (Nat.le_refl _) _).mono (Nat.le_succ _)).next hb1 (by simp)
  have hbw : Below w.heap.size w w1 := below_made hb1
  go_wp2_with fail
  refine (encode_any s A m c rs _ hl1 HM.out (by omega) hm2).mono ?_
  rw [HL.out, HR.out]
  rintro e w2 ⟨v2, rfl, ho2, hb2⟩
  obtain ⟨A2, c2, rfl, _, _, _⟩ := own_form ho2
  clear c0 c1
  have hq : (comp (R.map (·.2))).length ≤ R.length := by have := comp_length_le (R.map (·.2)); rw [List.length_map] at this; exact this
  generalize hqs : comp (R.map (·.2)) = qs at *
  generalize hqn : qs.length = z at *
  have HQN := Lib.hid hqn
  generalize hT : (ByteArray.mk (R.map (·.1)).toArray) = T at *
  have hTl : T.data.toList = R.map (·.1) := by rw [← hT]
  have hTs : T.size = R.length := by rw [← hT]; show (R.map (·.1)).toArray.size = _; simp
  have HTL := Lib.hid hTl
  have HQS := Lib.hid hqs
  have hTs2 : T.size ≤ 3145728 := by omega
  have hb2' := hb2.size
  have hz2 : w1.heap.size ≤ w2.heap.size := hb2.size
  generalize hw3 : w2.alloc (.cells #[.string T, .slice A2 z c2] 24) = w3
  have hb23 : Below w2.heap.size w2 w3 := by rw [← hw3]; exact (Below.refl _ _).alloc (Nat.le_refl _) _
  have hz3 : w3.heap.size = w2.heap.size + 1 := by rw [← hw3]; simp
  have Y1 : Whole w3 w2.heap.size 24 #[.string T, .slice A2 z c2] := by rw [← hw3]; exact Whole.made _ _ _
  have b13 : Below w1.heap.size w1 w3 := below_next hb2 (Nat.le_refl _) hb23
  have Y0 := y0.below b13 y0.lt
  have L0 : Lies w3 w3.heap.size A (runCells rs) := hl1.next b13 (Nat.le_refl _)
  have L2 : Lies w3 w3.heap.size A2 (runCells qs) := (Lies.own ho2).next hb23 (Nat.le_refl _)
  have hbw3 : Below w.heap.size w w3 := hbw.trans (b13.mono (by omega))
  clear hT hqs hqn hTl hTs hb2 hb2' hb23 b13 y0 hl1 ho2 hbw hb1
  go_wp2_with fail
  go_loopw [4] (OkRel T w3) (fun i _ => T.size - (intOf i).toNat)
  case atStart => exact ⟨0, Nat.zero_le _, rfl, Below.refl _ _⟩
  case round =>
    obtain ⟨k, hk, rfl, hbl⟩ := hrel
    have hws := hbl.size
    have Y1r := Y1.below hbl Y1.lt
    have Y0r := Y0.below hbl Y0.lt
    have d0 : wr.cell? ⟨w2.heap.size, 0, none⟩ = some (.string T) := Y1r.at_ 0
    have d1 : wr.cell? ⟨w2.heap.size, 1, none⟩ = some (.slice A2 z c2) := Y1r.at_ 1
    by_cases hlt : k < T.size
    · have hk0 : (0 : Int) ≤ (k : Int) := Int.natCast_nonneg _
      have hk1 : (k : Int) < (T.size : Int) := by omega
      have HSK := ba_at hlt
      have hokk : okB (T[k]'hlt) = true := by
        refine HOK.out _ ?_
        rw [← HTL.out]
        exact List.mem_of_getElem? HSK
      generalize hsk : T[k]'hlt = x at *
      clear HSK
      go_wp2_with fail
      refine (lawPlain_any x _).mono ?_
      rintro e w' ⟨rfl, rfl⟩
      cases hp : plainB x with
      | true =>
        clear hp hokk
        go_wp2_with fail
        go_roundw
        case rel => exact ⟨k + 1, by omega, by go_num, hbl⟩
        case measure => simp [intOf]; omega
      | false =>
        have hx : ((x.toNat : Int) != 37) = false := by
          unfold okB at hokk
          rw [hp] at hokk
          have e : x = 37 := by simpa using hokk
          rw [e]
          rfl
        clear hp hokk
        go_wp2_with fail
        go_roundw
        case rel => exact ⟨k + 1, by omega, by go_num, hbl⟩
        case measure => simp [intOf]; omega
    · have e0 : wr.cell? ⟨w.heap.size, 0, none⟩ = some (.string s) := Y0r.at_ 0
      have e1 : wr.cell? ⟨w.heap.size, 1, none⟩ = some (.slice A m c) := Y0r.at_ 1
      have L2r := L2.next hbl (Nat.le_refl _)
      have L0r := L0.next hbl (Nat.le_refl _)
      have HDC : Hid (∀ w', Below wr.heap.size wr w' → Calls Try.prog 14 #[.agg #[.string T, .slice A2 z c2]] w' (TellsL L w')) := fun w' hb => by
        have h := decode_any T A2 z c2 qs w' (L2r.next hb (Nat.le_refl _)) HQN.out (by omega) (by omega)
        rw [HTL.out, HCT.out, HDE.out] at h
        exact h.mono fun e w'' h => tellsL_of h
      have KS : ∀ w', Below wr.heap.size wr w' → w'.cell? ⟨w2.heap.size, 0, none⟩ = some (.string T) ∧ w'.cell? ⟨w2.heap.size, 1, none⟩ = some (.slice A2 z c2) ∧ w'.cell? ⟨w.heap.size, 0, none⟩ = some (.string s) ∧ w'.cell? ⟨w.heap.size, 1, none⟩ = some (.slice A m c) ∧ Below wr.heap.size wr w' := fun w' h =>
        ⟨(h.cell Y1r.lt).trans (Y1r.at_ 0), (h.cell Y1r.lt).trans (Y1r.at_ 1), (h.cell Y0r.lt).trans (Y0r.at_ 0), (h.cell Y0r.lt).trans (Y0r.at_ 1), h⟩
      have HKS := Lib.hid KS
      have HSM : Hid (∀ (D : Option Addr) (k : Nat) (w' : World), Lies w' w'.heap.size D (runCells (comp (L.map (·.2)))) → Below wr.heap.size wr w' → Calls Try.prog 17 #[.agg #[.string (txtOf L), .slice D (runN L) k], .agg #[.string s, .slice A m c]] w' (SaysB (.bool true) w')) := fun D k w' h1 hb => by
        have hrn : runN L ≤ L.length := runN_le L
        have hts : (txtOf L).size = L.length := by show (L.map (·.1)).toArray.size = _; simp
        refine (same_any ⟨txtOf L, D, runN L, k, comp (L.map (·.2))⟩ ⟨s, A, m, c, rs⟩ w' ⟨h1, rfl, by have := HLN.out; show runN L ≤ _; omega, by have := HLN.out; show (txtOf L).size ≤ _; omega⟩ ⟨L0r.next hb (Nat.le_refl _), HM.out, hm2, by show s.size ≤ _; omega⟩).mono ?_
        rintro e w'' ⟨rfl, hb'⟩
        refine ⟨ret_bool ?_, hb'⟩
        unfold sameB
        rw [decide_eq_true_iff]
        refine ⟨HF.out, ?_⟩
        show origins (txtOf L).size (comp (L.map (·.2))) = origins s.size rs
        rw [hts, ← HS.out]
        have h := origins_told HIN.out
        rw [List.length_map] at h
        exact h
      have HBF := Lib.hid (hbw3.trans (hbl.mono hbw3.size))
      clear KS hbl L2 L0 hbw3 Y0 Y1 L2r L0r
      go_wp2_with fail
      go_region_held3 (fun w' => w'.cell? ⟨w2.heap.size, 0, none⟩ = some (.string T) ∧ w'.cell? ⟨w2.heap.size, 1, none⟩ = some (.slice A2 z c2) ∧ w'.cell? ⟨w.heap.size, 0, none⟩ = some (.string s) ∧ w'.cell? ⟨w.heap.size, 1, none⟩ = some (.slice A m c) ∧ Below wr.heap.size wr w')
        (first
          | exact HKS.out _ (Below.drew (Below.refl _ _))
          | (go_split_ands; exact HKS.out _ (by assumption))
          | (go_split_ands; exact HKS.out _ (below_next (by assumption) (Nat.le_refl _) hbP))
          | (go_split_ands; exact HKS.out _ (below_next (by assumption) (Nat.le_refl _) hbQ)))
        (first
          | (go_at_call 14; refine (HDC.out _ ?_).mono ?_; (go_split_ands; assumption); rintro e wP ⟨DP, kP, rfl, hlP, hbP⟩)
          | (go_at_call 17; refine (HSM.out DP kP _ hlP ?_).mono ?_; (go_split_ands; first | assumption | exact below_next (by assumption) (Nat.le_refl _) hbP); rintro e wQ ⟨rfl, hbQ⟩))
      all_goals
        have hbE : Below wr.heap.size wr wQ := by go_split_ands; first | assumption | exact below_next (by assumption) (Nat.le_refl _) hbQ
        go_wp2_with fail
        go_ret
        exact ⟨rfl, HBF.out.trans (hbE.mono (by have := HBF.out.size; omega))⟩

end Go.Proofs.Ytpjbhjebjebbjaa.mk
