/-
  The reference's text: data, joined with what is ahead of it.
-/
import Derived.Test.YtdiifkmcbnhliaaGreatJoinAL
import Derived.Test.YtdiifkmcbnhliaaGreatJoinAI
import Derived.Test.YtdiifkmcbnhliaaGreatJoinS
import Derived.Deep.RegionHeld3
import Derived.Deep.DeepCutAuto
import Derived.Test.YtdiifkmcbnhliaaGreatJoinM
import Derived.Test.YtdiifkmcbnhliaaGreatJoinV
import Derived.Test.YtdiifkmcbnhliaaGreatJoinZ
import Derived.Test.YtdiifkmcbnhliaaGreatJoinG
import Derived.Test.YtdiifkmcbnhliaaGreatJoinC
import Derived.Test.YtdiifkmcbnhliaaGreatJoinAA
import Derived.Test.YtdiifkmcbnhliaaGreatJoinH
import Derived.Test.YtdiifkmcbnhliaaGreatJoinX
import Derived.Deep.QuietTactic
import Derived.BigQuiet
import Derived.Test.YtdiifkmcbnhliaaGreatJoinAH
import Derived.Outline
import Derived.Test.YtdiifkmcbnhliaaGreatJoinR
namespace Go.Proofs.YtdiifkmcbnhliaaGreat.mk
open Go.RowKit

def NmRel (inner : List UInt8) (w0 : World) (i : Value) (wr : World) : Prop :=
  ∃ k : Nat, k ≤ 6 ∧ i = .int .i64 (k : Int) ∧ (∀ (j : Nat) (nm : List UInt8) (c : Int), j < k → nameL[j]? = some (nm, c) → nmC inner nm = false) ∧ Below w0.heap.size w0 wr

def FmRel (inner : List UInt8) (w0 : World) (i : Value) (wr : World) : Prop :=
  ∃ k : Nat, k ≤ 3 ∧ i = .int .i64 (k : Int) ∧ (∀ (j : Nat) (bg : List UInt8) (base : Int), j < k → formL[j]? = some (bg, base) → fmC inner bg base = false) ∧ Below w0.heap.size w0 wr
theorem ret_si {a : ByteArray} {x y : Int} (h : x = y) : Ending.returned (.tuple #[.string a, .int .i64 x]) = .returned (.tuple #[.string a, .int .i64 y]) := by rw [h]
theorem nmC_of {t p : ByteArray} {nm : List UInt8} (h : p.data.toList = nm ++ [59]) : (t.data.toList.take p.size == p.data.toList) = nmC t.data.toList nm := by
  have e : p.size = nm.length + 1 := by
    have := congrArg List.length h
    rw [Array.length_toList, List.length_append] at this
    exact this
  unfold nmC
  rw [e, h]

set_option maxHeartbeats 2000000 in
set_option maxRecDepth 100000 in
theorem entTake_any (s : ByteArray) (hs : s.size ≤ 4294967296) (w : World) :
    Calls Tryz.prog 102 #[.string s] w fun e w' => e = .returned (.tuple #[.string (takeE s.data.toList).1, .int .i64 ((takeE s.data.toList).2 : Nat)]) ∧ Below w.heap.size w w' := by
  cases hp : (s.data.toList.take 1 == [38]) with
  | false =>
    have HR : Hid (takeE s.data.toList = (⟨#[]⟩, 0)) := by
      refine takeE_none ?_
      cases hl : s.data.toList with
      | nil => rfl
      | cons x r => rw [hl] at hp; exact refer_not (by intro e; subst e; simp at hp)
    have hc := cut_no s ⟨#[38]⟩ hp
    go_enter Tryz.func102, Tryz.ntmps102
    go_wp2_with fail
    refine (hc _).mono ?_
    rintro e w' ⟨rfl, rfl⟩
    go_wp2_with fail
    go_ret2
    exact ⟨by rw [HR.out]; rfl, Below.refl _ _⟩
  | true =>
    have hl : ∃ r, s.data.toList = 38 :: r := by
      cases hl : s.data.toList with
      | nil => rw [hl] at hp; simp at hp
      | cons x r => rw [hl] at hp; simp at hp; subst hp; exact ⟨r, rfl⟩
    obtain ⟨inner, hl⟩ := hl
    have hc := cut_yes s ⟨#[38]⟩ hp
    have ht : (s.extract 1 s.size).data.toList = inner := by rw [ba_rest, hl]; rfl
    have htz : (s.extract 1 s.size).size ≤ s.size := by rw [ByteArray.size_extract]; omega
    rw [hl]
    change ∀ (w : World), Calls Tryz.prog 56 #[.string s, .string ⟨#[38]⟩] w fun e w' => e = .returned (.tuple #[.string (s.extract 1 s.size), .bool true]) ∧ w = w' at hc
    generalize s.extract 1 s.size = t at *
    have HC := Lib.hid hc
    have HT := Lib.hid ht
    clear hc hp hl
    subst ht
    have HPF : Hid (∀ (p nb : ByteArray), p.data.toList = nb.data.toList ++ [59] → ∀ w : World, Calls Tryz.prog 69 #[.string t, .string p] w fun e w' => e = .returned (.bool (nmC t.data.toList nb.data.toList)) ∧ w = w') := fun p nb h w => by
      have h2 := hasPrefix_any t p w
      rw [nmC_of h] at h2
      exact h2
    go_enter Tryz.func102, Tryz.ntmps102
    go_wp2_with fail
    refine (HC.out _).mono ?_
    rintro e w' ⟨rfl, rfl⟩
    go_wp2_with fail
    refine (characters_any _).mono ?_
    rintro e w1 ⟨rfl, hb1⟩
    have HCH := Lib.hid char_at
    generalize charV = cv at *
    go_wp2_with fail
    obtain ⟨wo, rfl⟩ : ∃ wo : World, wo = w1 := ⟨_, rfl⟩
    go_loopw [22] (NmRel t.data.toList w) (fun i _ => 6 - (intOf i).toNat)
    case atStart => exact ⟨0, Nat.zero_le _, rfl, fun j _ _ h => by omega, hb1⟩
    case round =>
      obtain ⟨k, hk, rfl, hno, hbl⟩ := hrel
      have HNO := Lib.hid hno
      clear hno
      have hws := hbl.size
      by_cases hlt : k < 6
      · obtain ⟨nb, c, hn, hz, ft⟩ := HCH.out k hlt
        have hk3 : (k : Int) < 6 := by omega
        have HN := Lib.hid hn
        clear hn
        go_wp2_with fail
        with_reducible refine (HPF.out (nb ++ ⟨#[59]⟩) nb (by rw [ByteArray.data_append, Array.toList_append]) _).mono ?_
        rintro e w' ⟨rfl, rfl⟩
        obtain ⟨g, hg⟩ : ∃ g, g = wr.heap.size := ⟨_, rfl⟩
        have y0 : Whole (wr.alloc (.cells #[.string nb, .int .i64 c] 146)) g 146 #[.string nb, .int .i64 c] := by rw [hg]; exact Whole.made _ _ _
        have hbl4 : Below w.heap.size w (wr.alloc (.cells #[.string nb, .int .i64 c] 146)) := hbl.alloc hws _
        rw [← hg]
        clear hg
        generalize wr.alloc (.cells #[.string nb, .int .i64 c] 146) = w4 at *
        cases hm : nmC t.data.toList nb.data.toList with
        | false =>
          have HNX : Hid (∀ (j : Nat) (nm : List UInt8) (d : Int), j < k + 1 → nameL[j]? = some (nm, d) → nmC t.data.toList nm = false) := by
            intro j nm d hj hjn
            rcases Nat.lt_or_ge j k with h | h
            · exact HNO.out j nm d h hjn
            · obtain rfl : j = k := by omega
              have := HN.out.symm.trans hjn
              injection this with this
              injection this with h1 h2
              rw [← h1]; exact hm
          clear hm
          go_wp2_with fail
          go_roundw
          case rel => exact ⟨k + 1, by omega, by go_num, HNX.out, hbl4⟩
          case measure => simp [intOf]; omega
        | true =>
          have hr := name_hit HN.out hm
          have HR : Hid (takeE (38 :: t.data.toList) = (numB c, nb.data.toList.length + 2)) := takeE_some hr
          have hnl : nb.data.toList.length = nb.size := by rw [Array.length_toList]; rfl
          have HNL := Lib.hid hnl
          have c0 : w4.cell? ⟨g, 0, none⟩ = some (.string nb) := y0.at_ 0
          have c1 : w4.cell? ⟨g, 1, none⟩ = some (.int .i64 c) := y0.at_ 1
          have HKS : Hid (∀ w', Below w4.heap.size w4 w' → w'.cell? ⟨g, 0, none⟩ = some (.string nb) ∧ w'.cell? ⟨g, 1, none⟩ = some (.int .i64 c) ∧ Below w4.heap.size w4 w') := fun w' h => ⟨(h.cell y0.lt).trans (y0.at_ 0), (h.cell y0.lt).trans (y0.at_ 1), h⟩
          have e1 : IntKind.i64.wrap (1 + (nb.size : Int)) = 1 + (nb.size : Int) := IntWalk.i64_in _ (by omega)
          have e2 : IntKind.i64.wrap (1 + (nb.size : Int) + 1) = 1 + (nb.size : Int) + 1 := IntWalk.i64_in _ (by omega)
          clear hm hr hnl y0
          go_wp2_with fail
          go_region_held3 (fun w' => w'.cell? ⟨g, 0, none⟩ = some (.string nb) ∧ w'.cell? ⟨g, 1, none⟩ = some (.int .i64 c) ∧ Below w4.heap.size w4 w')
            (first
              | exact HKS.out _ (Below.drew (Below.refl _ _))
              | (go_split_ands; exact HKS.out _ (by assumption))
              | (go_split_ands; exact HKS.out _ (below_next (by assumption) (Nat.le_refl _) (by assumption))))
            (first
              | (go_at_call 114; refine (number_any c _).mono ?_; rintro e w5 ⟨rfl, hb5⟩))
          all_goals
            go_wp2_with fail
            go_ret2
            exact ⟨by rw [HR.out]; exact ret_si (by rw [HNL.out]; omega), below_next hbl4.drew (Nat.le_refl _) hb5⟩
      · have HMISS : Hid (∀ (j : Nat) (nm : List UInt8) (c : Int), nameL[j]? = some (nm, c) → nmC t.data.toList nm = false) := fun j nm c h => HNO.out j nm c (by have h6 : j < 6 := (List.getElem?_eq_some_iff.1 h).1; omega) h
        clear HNO
        go_wp2_with fail
        refine (forms_any _).mono ?_
        rintro e w2 ⟨rfl, hb2⟩
        have hbl2 := below_next hbl (Nat.le_refl _) hb2
        have HFM := Lib.hid form_at
        generalize formV = fv at *
        clear hbl hb2
        go_wp2_with fail
        obtain ⟨wo, rfl⟩ : ∃ wo : World, wo = w2 := ⟨_, rfl⟩
        go_loopw [40] (FmRel t.data.toList w) (fun i _ => 3 - (intOf i).toNat)
        case atStart => exact ⟨0, Nat.zero_le _, rfl, fun j _ _ h => by omega, hbl2⟩
        case round =>
          obtain ⟨k, hk, rfl, hno, hbl⟩ := hrel
          have HNO := Lib.hid hno
          clear hno hbl2
          have hws := hbl.size
          by_cases hlt : k < 3
          · obtain ⟨nb, base, hn, hz, ft⟩ := HFM.out k hlt
            have hk3 : (k : Int) < 3 := by omega
            have HN := Lib.hid hn
            have hbs : base = 10 ∨ base = 16 := (formL_no hn).2.1
            have HBS := Lib.hid hbs
            have hnl : nb.data.toList.length = nb.size := by rw [Array.length_toList]; rfl
            have HNL := Lib.hid hnl
            obtain ⟨g, hg⟩ : ∃ g, g = wr.heap.size := ⟨_, rfl⟩
            have y0 : Whole (wr.alloc (.cells #[.string nb, .int .i64 base] 150)) g 150 #[.string nb, .int .i64 base] := by rw [hg]; exact Whole.made _ _ _
            have hbl4 : Below w.heap.size w (wr.alloc (.cells #[.string nb, .int .i64 base] 150)) := hbl.alloc hws _
            have c0 := y0.at_ 0
            have c1 := y0.at_ 1
            have HGO : Hid (fmC t.data.toList nb.data.toList base = false → ∀ (j : Nat) (bg : List UInt8) (d : Int), j < k + 1 → formL[j]? = some (bg, d) → fmC t.data.toList bg d = false) := by
              intro hm j nm d hj hjn
              rcases Nat.lt_or_ge j k with h | h
              · exact HNO.out j nm d h hjn
              · obtain rfl : j = k := by omega
                have := HN.out.symm.trans hjn
                injection this with this
                injection this with h1 h2
                rw [← h1, ← h2]; exact hm
            clear hn hnl hbs
            cases hpre : (t.data.toList.take nb.size == nb.data.toList) with
            | false =>
              have hcn := cut_no t nb hpre
              have hm : fmC t.data.toList nb.data.toList base = false := by
                unfold fmC
                rw [HNL.out, hpre]
                rfl
              have HNX := Lib.hid (HGO.out hm)
              clear hm hpre
              have HCN := Lib.hid hcn
              clear hcn
              go_wp2_with fail
              rw [← hg]
              clear hg
              generalize wr.alloc (.cells #[.string nb, .int .i64 base] 150) = w4 at *
              refine (HCN.out _).mono ?_
              rintro e w' ⟨rfl, rfl⟩
              go_wp2_with fail
              refine (numDig_any t base HBS.out (by omega) _).mono ?_
              rintro e w' ⟨rfl, rfl⟩
              generalize spanN t.data.toList (digV base) = d at *
              generalize valC 1114112 base (t.data.toList.take d) = v at *
              go_wp2_with fail
              go_roundw
              case rel => exact ⟨k + 1, by omega, by go_num, HNX.out, hbl4⟩
              case measure => simp [intOf]; omega
            | true =>
              have hcy := cut_yes t nb hpre
              have HRL : Hid ((t.extract nb.size t.size).data.toList = rsF t.data.toList nb.data.toList) := by
                show _ = _
                unfold rsF
                rw [ba_rest, HNL.out]
              have hrz : (t.extract nb.size t.size).size ≤ t.size := by rw [ByteArray.size_extract]; omega
              generalize t.extract nb.size t.size = r at *
              have HFC : Hid (fmC t.data.toList nb.data.toList base = (decide (0 < spanN r.data.toList (digV base)) && ((r.data.toList.drop (spanN r.data.toList (digV base))).take 1 == [59]))) := by
                show _ = _
                unfold fmC dgF
                rw [HNL.out, hpre, HRL.out, Bool.true_and]
              have hdz := spanN_le r.data.toList (digV base)
              rw [Array.length_toList] at hdz
              have HCY := Lib.hid hcy
              clear hcy hpre
              go_wp2_with fail
              rw [← hg]
              clear hg
              generalize wr.alloc (.cells #[.string nb, .int .i64 base] 150) = w4 at *
              refine (HCY.out _).mono ?_
              rintro e w' ⟨rfl, rfl⟩
              go_wp2_with fail
              refine (numDig_any r base HBS.out (by omega) _).mono ?_
              rintro e w' ⟨rfl, rfl⟩
              have HHIT : Hid (fmC t.data.toList nb.data.toList base = true → takeE (38 :: t.data.toList) = (numB (valC 1114112 base (r.data.toList.take (spanN r.data.toList (digV base)))), nb.size + spanN r.data.toList (digV base) + 2)) := by
                intro h
                have h2 := form_hit HN.out h
                have hb1 : 1 ≤ base := by have := HBS.out; omega
                rw [takeE_some h2.1]
                unfold dgF at h2 ⊢
                rw [← HRL.out] at h2 ⊢
                rw [numB_val (by omega) hb1 _ h2.2, HNL.out]
              generalize spanN r.data.toList (digV base) = d at *
              generalize valC 1114112 base (r.data.toList.take d) = v at *
              have hdz2 : d ≤ r.size := hdz
              by_cases hd : 0 < d
              · have hsem : ((r.extract d r.size).data.toList.take (ByteArray.mk #[59]).size == (ByteArray.mk #[59]).data.toList) = ((r.data.toList.drop d).take 1 == [59]) := by
                  rw [ba_rest]
                  rfl
                have HF2 : Hid (fmC t.data.toList nb.data.toList base = ((r.data.toList.drop d).take 1 == [59])) := by
                  show _ = _
                  rw [HFC.out, decide_eq_true hd, Bool.true_and]
                have hhp := fun w' => hasPrefix_any (r.extract d r.size) ⟨#[59]⟩ w'
                rw [hsem] at hhp
                generalize ((r.data.toList.drop d).take 1 == [59]) = q at *
                have HHP := Lib.hid hhp
                have hd0 : (0 : Int) ≤ (d : Int) := Int.natCast_nonneg _
                have hd1 : (0 : Int) < (d : Int) := by omega
                have hd2 : (d : Int) ≤ (r.size : Int) := by omega
                clear hhp hsem hdz HFC
                go_wp2_with fail
                refine (HHP.out _).mono ?_
                rintro e w' ⟨rfl, rfl⟩
                cases q with
                | false =>
                  have HNX := Lib.hid (HGO.out HF2.out)
                  go_wp2_with fail
                  go_roundw
                  case rel => exact ⟨k + 1, by omega, by go_num, HNX.out, hbl4⟩
                  case measure => simp [intOf]; omega
                | true =>
                  have HR := Lib.hid (HHIT.out HF2.out)
                  have HKS : Hid (∀ w', Below w4.heap.size w4 w' → w'.cell? ⟨g, 0, none⟩ = some (.string nb) ∧ w'.cell? ⟨g, 1, none⟩ = some (.int .i64 base) ∧ Below w4.heap.size w4 w') := fun w' h => ⟨(h.cell y0.lt).trans (y0.at_ 0), (h.cell y0.lt).trans (y0.at_ 1), h⟩
                  have e1 : IntKind.i64.wrap (1 + (nb.size : Int)) = 1 + (nb.size : Int) := IntWalk.i64_in _ (by omega)
                  have e2 : IntKind.i64.wrap (1 + (nb.size : Int) + (d : Int)) = 1 + (nb.size : Int) + (d : Int) := IntWalk.i64_in _ (by omega)
                  have e3 : IntKind.i64.wrap (1 + (nb.size : Int) + (d : Int) + 1) = 1 + (nb.size : Int) + (d : Int) + 1 := IntWalk.i64_in _ (by omega)
                  clear y0
                  go_wp2_with fail
                  go_region_held3 (fun w' => w'.cell? ⟨g, 0, none⟩ = some (.string nb) ∧ w'.cell? ⟨g, 1, none⟩ = some (.int .i64 base) ∧ Below w4.heap.size w4 w')
                    (first
                      | exact HKS.out _ (Below.drew (Below.refl _ _))
                      | (go_split_ands; exact HKS.out _ (by assumption))
                      | (go_split_ands; exact HKS.out _ (below_next (by assumption) (Nat.le_refl _) (by assumption))))
                    (first
                      | (go_at_call 114; refine (number_any v _).mono ?_; rintro e w5 ⟨rfl, hb5⟩))
                  all_goals
                    go_wp2_with fail
                    go_ret2
                    exact ⟨by rw [HR.out]; exact ret_si (by omega), below_next hbl4.drew (Nat.le_refl _) hb5⟩
              · obtain rfl : d = 0 := by omega
                have HNX := Lib.hid (HGO.out (by rw [HFC.out]; rfl))
                clear hdz hdz2 HHIT HFC
                go_wp2_with fail
                go_roundw
                case rel => exact ⟨k + 1, by omega, by go_num, HNX.out, hbl4⟩
                case measure => simp [intOf]; omega
          · have HR : Hid (takeE (38 :: t.data.toList) = (⟨#[]⟩, 0)) := takeE_none (refer_miss HMISS.out (fun j bg base h => HNO.out j bg base (by have h6 : j < 3 := (List.getElem?_eq_some_iff.1 h).1; omega) h))
            go_wp2_with fail
            go_ret2
            exact ⟨by rw [HR.out]; rfl, hbl⟩
end Go.Proofs.YtdiifkmcbnhliaaGreat.mk

namespace Go.Proofs.YtdiifkmcbnhliaaGreat.mk
open Go.RowKit

theorem ba_first (s : ByteArray) (n : Nat) : (s.extract 0 n).data.toList = s.data.toList.take n := by
  rw [ByteArray.data_extract, Array.toList_extract, List.extract_eq_take_drop]
  simp
theorem ba_ext {a b : ByteArray} (h : a.data.toList = b.data.toList) : a = b := by
  cases a with | mk a => cases b with | mk b => congr 1; exact Array.toList_inj.1 h

set_option maxHeartbeats 400000 in
set_option maxRecDepth 100000 in
theorem entNext_any (s : ByteArray) (hs0 : 1 ≤ s.size) (hs : s.size ≤ 4294967296) (w : World) :
    Calls Tryz.prog 86 #[.string s] w fun e w' => e = .returned (.tuple #[.string ⟨(nextE s.data.toList).1.toArray⟩, .int .i64 ((nextE s.data.toList).2 : Nat)]) ∧ Below w.heap.size w w' := by
  go_enter Tryz.func86, Tryz.ntmps86
  go_wp2_with fail
  refine (entTake_any s hs _).mono ?_
  cases hr : refer s.data.toList with
  | none =>
    rw [takeE_none hr]
    rintro e w1 ⟨rfl, hb1⟩
    have HX : Hid ((nextE s.data.toList) = (s.data.toList.take 1, 1)) := nextE_none hr
    have HE : Hid (s.extract 0 1 = ⟨(s.data.toList.take 1).toArray⟩) := by
      show _ = _
      refine ba_ext ?_
      rw [ba_first]
    have h1 : (1 : Int) ≤ (s.size : Int) := by omega
    clear hr
    go_wp2_with fail
    go_ret2
    exact ⟨by rw [HX.out, ← HE.out]; rfl, hb1⟩
  | some p =>
    obtain ⟨n, k⟩ := p
    rw [takeE_some hr]
    rintro e w1 ⟨rfl, hb1⟩
    have HX : Hid ((nextE s.data.toList) = ((numB n).data.toList, k)) := nextE_some hr
    have hk := (refer_bd hr).1
    have hk1 : (0 : Int) < (k : Int) := by omega
    clear hr
    generalize numB n = b at *
    go_wp2_with fail
    go_ret2
    exact ⟨by rw [HX.out]; rfl, hb1⟩

/-! names -/
def namedB (l : List UInt8) : ByteArray := match nameN l with | some n => numB n | none => ⟨#[]⟩
def NdRel (s : ByteArray) (w0 : World) (i : Value) (wr : World) : Prop :=
  ∃ k : Nat, k ≤ 6 ∧ i = .int .i64 (k : Int) ∧ (∀ (j : Nat) (nm : List UInt8) (c : Int), j < k → nameL[j]? = some (nm, c) → nm ≠ s.data.toList) ∧ Below w0.heap.size w0 wr
theorem namedB_hit {l : List UInt8} {k : Nat} {c : Int} (h : nameL[k]? = some (l, c)) : namedB l = numB c := by unfold namedB; rw [nameN_at h]
theorem namedB_miss {l : List UInt8} (h : ∀ (j : Nat) (nm : List UInt8) (c : Int), nameL[j]? = some (nm, c) → nm ≠ l) : namedB l = ⟨#[]⟩ := by
  unfold namedB
  cases hn : nameN l with
  | none => rfl
  | some m =>
    obtain ⟨k, _, hk⟩ := nameN_some hn
    exact absurd rfl (h k l m hk)

end Go.Proofs.YtdiifkmcbnhliaaGreat.mk

namespace Go.Proofs.YtdiifkmcbnhliaaGreat.mk
open Go.RowKit

def noS : Nat → Prop := fun _ => False
theorem RwSt.lies {N : Nat} {qs : List (Int × Int)} {ta : Value} {w0 : World} {bs : List UInt8} {os : List Int} {v : Value} {w : World} (h : RwSt N noS qs ta w0 bs os v w) {t : TypeId} {cs : Array Value} {g : Nat} (hg : g < N + 2) (hw : Whole w0 g t cs) : Whole w g t cs :=
  hw.same (h.2.2.2.2.1.block g hg (fun h => h))

/-- what stands between two bytes: lf bytes are still to come of those that p stands for -/
def EdMid (L out : List (UInt8 × Int)) (k lf : Nat) (wo : Int) (p : List UInt8) (e z : Nat) : Prop :=
  0 < lf ∧ (1 ≤ p.length ∧ p.length ≤ 4) ∧ e ≤ k ∧ e + z = k + lf ∧ wo = worT (L.drop e) (k - e) ∧ decE L = out ++ (putE p (worT (L.drop e) z) ++ decE (L.drop (k + lf))) ∧ k + lf ≤ L.length
theorem EdMid.start {L out : List (UInt8 × Int)} {k : Nat} (h : L.drop k ≠ []) (hd : decE L = out ++ decE (L.drop k)) : EdMid L out k (nxE (L.drop k)).2 0 (nxE (L.drop k)).1 k (nxE (L.drop k)).2 := by
  have hb := nxE_bd h
  have hb2 := hb.2.1
  rw [List.length_drop] at hb2
  refine ⟨hb.1, ⟨hb.2.2.1, hb.2.2.2.2⟩, Nat.le_refl _, rfl, by rw [Nat.sub_self]; rfl, ?_, by omega⟩
  rw [hd, decE_next h, List.drop_drop]
theorem EdMid.next {L out : List (UInt8 × Int)} {k lf : Nat} {wo : Int} {p : List UInt8} {e z : Nat} {c : UInt8 × Int} (h : EdMid L out k lf wo p e z) (hc : L[k]? = some c) (hl : lf ≠ 1) : EdMid L out (k + 1) (lf - 1) (max wo c.2) p e z := by
  obtain ⟨h1, h2, h3, h4, h5, h6, h7⟩ := h
  refine ⟨by omega, h2, by omega, by omega, ?_, ?_, by omega⟩
  · have hx : (L.drop e)[k - e]? = some c := by rw [List.getElem?_drop, show e + (k - e) = k by omega]; exact hc
    rw [show k + 1 - e = (k - e) + 1 by omega, worT_next hx, h5]
  · rw [show k + 1 + (lf - 1) = k + lf by omega]; exact h6
theorem EdMid.last {L out : List (UInt8 × Int)} {k : Nat} {wo : Int} {p : List UInt8} {e z : Nat} {c : UInt8 × Int} (h : EdMid L out k 1 wo p e z) (hc : L[k]? = some c) : decE L = (out ++ putE p (max wo c.2)) ++ decE (L.drop (k + 1)) := by
  obtain ⟨h1, h2, h3, h4, h5, h6, h7⟩ := h
  have hx : (L.drop e)[k - e]? = some c := by rw [List.getElem?_drop, show e + (k - e) = k by omega]; exact hc
  have hz : z = (k - e) + 1 := by omega
  rw [hz, worT_next hx, ← h5] at h6
  rw [h6, List.append_assoc]

def EdK (N : Nat) (L : List (UInt8 × Int)) (sz : Nat) (qs : List (Int × Int)) (ta : Value) (w0 : World) (k : Nat) (v at_ part left worst : Value) (wr : World) : Prop :=
  at_ = .int .i64 (k : Int) ∧ k ≤ sz ∧ ∃ (lf : Nat) (wo : Int) (pb : ByteArray) (out : List (UInt8 × Int)), left = .int .i64 (lf : Int) ∧ worst = .int .i64 wo ∧ part = .string pb ∧
    ((lf = 0 ∧ decE L = out ++ decE (L.drop k) ∧ RwSt N noS qs ta w0 (out.map (·.1)) (out.map (·.2)) v wr) ∨
      (∃ e z, EdMid L out k lf wo pb.data.toList e z ∧ RwSt N noS qs ta w0 (out.map (·.1) ++ pb.data.toList) (out.map (·.2)) v wr))
theorem EdK.st {N : Nat} {L : List (UInt8 × Int)} {sz : Nat} {qs : List (Int × Int)} {ta : Value} {w0 : World} {k : Nat} {v at_ part left worst : Value} {wr : World} (h : EdK N L sz qs ta w0 k v at_ part left worst wr) :
    ∃ bs os, RwSt N noS qs ta w0 bs os v wr := by
  obtain ⟨_, _, lf, wo, pb, out, _, _, _, h | ⟨e, z, _, h⟩⟩ := h
  · exact ⟨_, _, h.2.2⟩
  · exact ⟨_, _, h⟩
theorem EdK.below {N : Nat} {L : List (UInt8 × Int)} {sz : Nat} {qs : List (Int × Int)} {ta : Value} {w0 : World} {k : Nat} {v at_ part left worst : Value} {wr w' : World} (h : EdK N L sz qs ta w0 k v at_ part left worst wr) (hb : Below wr.heap.size wr w') : EdK N L sz qs ta w0 k v at_ part left worst w' := by
  obtain ⟨h1, h2, lf, wo, pb, out, h3, h4, h5, h | ⟨e, z, hm, h⟩⟩ := h
  · exact ⟨h1, h2, lf, wo, pb, out, h3, h4, h5, .inl ⟨h.1, h.2.1, h.2.2.below hb⟩⟩
  · exact ⟨h1, h2, lf, wo, pb, out, h3, h4, h5, .inr ⟨e, z, hm, h.below hb⟩⟩
def EdOut (N : Nat) (L : List (UInt8 × Int)) (sz : Nat) (qs : List (Int × Int)) (ta : Value) (w0 : World) (v at_ part left worst i : Value) (wr : World) : Prop :=
  ∃ j : Nat, j ≤ qs.length ∧ i = .int .i64 (j : Int) ∧ EdK N L sz qs ta w0 (expand (qs.take j)).length v at_ part left worst wr
def EdIn (N : Nat) (L : List (UInt8 × Int)) (sz : Nat) (qs : List (Int × Int)) (ta : Value) (w0 : World) (r d : Nat) (l o : Int) (v at_ part left worst i : Value) (wr : World) : Prop :=
  ∃ m k : Nat, k = d + m ∧ (m : Int) ≤ l ∧ i = .int .i64 (m : Int) ∧ EdK N L sz qs ta w0 k v at_ part left worst wr ∧ Whole wr r 55 #[.int .i64 l, .int .i64 o] ∧ v.ownBlock ≠ some r

set_option maxHeartbeats 2000000 in
set_option maxRecDepth 100000 in
theorem entDecode_any (s : ByteArray) (A : Option Addr) (n c : Nat) (rs : List (Int × Int)) (w : World) (hl : Lies w w.heap.size A (runCells rs)) (hn : rs.length = n) (hs : s.size ≤ 4294967296) (hn2 : n ≤ 4294967296) :
    Calls Tryz.prog 72 #[.agg #[.string s, .slice A n c]] w (Tells ⟨((decE (chars s.data.toList rs)).map (·.1)).toArray⟩ (comp ((decE (chars s.data.toList rs)).map (·.2))) w) := by
  have HN := Lib.hid hn
  clear hn
  have hsl : s.data.toList.length = s.size := by rw [Array.length_toList]; rfl
  have HSL := Lib.hid hsl
  clear hsl
  go_enter Tryz.func72, Tryz.ntmps72
  go_wp2_with fail
  refine (fix_any s A n c rs _ ?_ HN.out (by omega) hn2).mono ?_
  · exact (((hl.alloc (Nat.le_refl _) _).alloc (by simp) _).alloc (by simp; omega) _).mono (by simp; omega)
  rintro e w3 ⟨v, rfl, hown, hb3⟩
  obtain ⟨A3, c3, rfl, _, _, _⟩ := own_form hown
  have fr1 := fun w' => field_runs s A3 (taken s.size rs).length c3 w'
  go_wp2_with fail
  clear fr1
  simp only [World.size_alloc] at hown hb3
  have hz3 := hb3.size
  simp only [World.size_alloc] at hz3
  have hex : expand (taken s.size rs) = origins s.size rs := expand_comp _
  have hpos : ∀ r ∈ taken s.size rs, 1 ≤ r.1 := comp_pos _
  have hql : (taken s.size rs).length ≤ s.size := by have := comp_length_le (origins s.size rs); rw [origins_length] at this; exact this
  have hLs : (chars s.data.toList rs).map (·.2) = origins s.size rs := by rw [chars_snd, HSL.out]
  have hLn : (chars s.data.toList rs).length = s.size := by rw [chars_length, HSL.out]
  have hLat : ∀ (k : Nat) (hk : k < s.size) (o : Int), (origins s.size rs)[k]? = some o → (chars s.data.toList rs)[k]? = some (s[k]'hk, o) := fun k hk o ho => chars_at hk ho
  have hLf : (chars s.data.toList rs).map (·.1) = s.data.toList := chars_fst _ _
  have hLi : InR (chars s.data.toList rs) := InR.chars _ _
  generalize hL : chars s.data.toList rs = L at *
  generalize hqs : taken s.size rs = qs at *
  have hexl : (expand qs).length = s.size := by rw [hex, origins_length]
  have y0 : Whole w3 w.heap.size 24 #[.string s, .slice A n c] := (((Whole.made w _ _).alloc _).alloc _).below hb3 (by omega)
  have y1 : Whole w3 (w.heap.size + 1) 24 #[.string ⟨#[]⟩, .slice none 0 0] := by
    have h := (Whole.made (w.alloc (.cells #[.string s, .slice A n c] 24)) 24 #[.string ⟨#[]⟩, .slice none 0 0]).alloc (.cells #[.pointer none, .slice none 0 0] 98)
    simp only [World.size_alloc] at h
    exact h.below hb3 (by omega)
  have hi0 : Lib.IsBuilderF 98 5 (w.heap.size + 2) (w.heap.size + 2) (Lib.byteCells []) w3 := by
    have h := Lib.IsBuilderF.of (Lib.fresh_isBuilder 98 5 ((w.alloc (.cells #[.string s, .slice A n c] 24)).alloc (.cells #[.string ⟨#[]⟩, .slice none 0 0] 24)))
    simp only [World.size_alloc] at h
    exact builder_below h (hb3.mono (by simp)) (by decide)
  have hbw : Below w.heap.size w w3 := ((((Below.refl _ _).alloc (Nat.le_refl _) _).alloc (by simp) _).alloc (by simp; omega) _).trans (hb3.mono (by omega))
  have hst0 : RwSt w.heap.size noS qs (.slice A3 qs.length c3) w3 [] [] (.slice none 0 0) w3 :=
    ⟨World.ownsRow_nil _ _ _ _, hown, by intro g hg; simp [Value.ownBlock] at hg, hi0, Kept.refl _ _ _, by omega⟩
  have HST := Lib.hid hst0
  have HEX := Lib.hid hex
  have HEL := Lib.hid hexl
  have HPOS := Lib.hid hpos
  have HLS := Lib.hid hLs
  have HLN := Lib.hid hLn
  have HLAT := Lib.hid hLat
  have HLF := Lib.hid hLf
  have HLI := Lib.hid hLi
  have HLL := Lib.hid hL
  have HDL : Hid ((decE L).length ≤ s.size) := by have h := decE_len L; rw [hLn] at h; exact h
  clear hst0 hown hi0 hb3 hqs hex hexl hpos hLs hLn hLat hLf hLi hL
  generalize hqn : qs.length = z at *
  have HZ := Lib.hid hqn
  clear hqn
  go_loopw [4, 5, 6, 7, 8, 15] (EdOut w.heap.size L s.size qs (.slice A3 z c3) w3) (fun _ _ _ _ _ i _ => z - (intOf i).toNat)
  case atStart => exact ⟨0, Nat.zero_le _, rfl, by simp [expand], Nat.zero_le _, 0, 0, ⟨#[]⟩, [], rfl, rfl, rfl, .inl ⟨rfl, by simp [expand], by simpa using HST.out⟩⟩
  case round =>
    obtain ⟨j, hj, rfl, hdk⟩ := hrel
    rw [HZ.out] at hj
    have HK := Lib.hid hdk
    obtain ⟨bs0, os0, hst⟩ := hdk.st
    obtain ⟨rfl, hks, lf0, wo0, pb0, out0, rfl, rfl, rfl, _⟩ := hdk
    have hwz : w.heap.size + 3 ≤ wr.heap.size := hst.2.2.2.2.2
    have HST2 := Lib.hid hst
    clear hst
    by_cases hjl : j < z
    · have hta2 := HST2.out.2.1
      rw [HZ.out] at hta2
      obtain ⟨ad', l, o, rfl, hbA, hd1, hd2, HR⟩ := (Lies.own hta2).run (k := j) (by rw [HZ.out]; exact hjl)
      have hl1 : 1 ≤ l := HPOS.out (l, o) (List.mem_of_getElem? HR.out)
      have HNX := Lib.hid (expand_take_next HR.out)
      have hx2 := expand_take_len qs (j + 1)
      rw [HNX.out, HEL.out] at hx2
      have HAT : Hid (∀ m : Nat, (m : Int) < l → (origins s.size rs)[(expand (qs.take j)).length + m]? = some o) := fun m hm => by rw [← HEX.out]; exact expand_at HR.out (by omega)
      clear hta2
      generalize hd : (expand (qs.take j)).length = d at *
      have HD := Lib.hid hd
      clear hd
      have hj0 : (0 : Int) ≤ (j : Int) := Int.natCast_nonneg _
      have hj1 : (j : Int) < (z : Int) := by omega
      obtain ⟨g, hg⟩ : ∃ g, g = wr.heap.size := ⟨_, rfl⟩
      have hgz : w.heap.size + 3 ≤ g := by omega
      have HSI2 : Hid (EdIn w.heap.size L s.size qs (.slice (some ad') z c3) w3 g d l o u4 (.int .i64 (d : Int)) (.string pb0) (.int .i64 (lf0 : Int)) (.int .i64 wo0) (.int .i64 0) (wr.alloc (.cells #[.int .i64 l, .int .i64 o] 55))) := by
        rw [hg]
        exact ⟨0, d, rfl, by omega, rfl, HK.out.below ((Below.refl _ _).alloc (Nat.le_refl _) _), Whole.made _ _ _, fun e => by have := (HST2.out.1.lt _ e).2; omega⟩
      have hc0g : (wr.alloc (.cells #[.int .i64 l, .int .i64 o] 55)).cell? ⟨g, 0, none⟩ = some (.int .i64 l) := by rw [hg]; exact (Whole.made wr _ _).at_ 0
      clear HK HST2
      go_wp2_with fail
      generalize hw4 : wr.alloc (.cells #[.int .i64 l, .int .i64 o] 55) = w4 at *
      rw [← hg]
      clear hg hw4 hd1 hd2 hc0g
      go_loopw [4, 5, 6, 7, 8, 21] (EdIn w.heap.size L s.size qs (.slice (some ad') z c3) w3 g d l o) (fun _ _ _ _ _ i _ => l.toNat - (intOf i).toNat)
      case atStart => exact HSI2.out
      case round =>
        obtain ⟨m, k, hkd, hml, rfl, ⟨rfl, hks2, lf1, wo1, pb1, out, rfl, rfl, rfl, hcase⟩, hrb, hvg⟩ := hrel
        have HCASE := Lib.hid hcase
        have HRB := Lib.hid hrb
        have HKD := Lib.hid hkd
        have HVG := Lib.hid hvg
        have hbz : w.heap.size + 3 ≤ wr.heap.size := by rcases hcase with h | ⟨_, _, _, h⟩ <;> exact (by first | exact h.2.2.2.2.2.2.2 | exact h.2.2.2.2.2)
        clear hcase HSI2 hvg hrb
        by_cases hm : (m : Int) < l
        · have hk : k < s.size := by omega
          have HLK : Hid (L[k]? = some (s[k]'hk, o)) := HLAT.out k hk o (by rw [hkd]; exact HAT.out m hm)
          clear hkd
          have HM := Lib.hid hm
          generalize hsk : s[k]'hk = x at *
          clear hsk
          have hk0 : (0 : Int) ≤ (k : Int) := Int.natCast_nonneg _
          have hk1 : (k : Int) < (s.size : Int) := by omega
          have hk2 : (k : Int) ≤ (s.size : Int) := by omega
          rcases HCASE.out with ⟨rfl, hdec, hst⟩ | ⟨e0, z0, hmid, hst⟩
          case inl =>
            have ct : wr.cell? ⟨w.heap.size, 0, none⟩ = some (.string s) := (hst.lies (g := w.heap.size) (by omega) y0).at_ 0
            have hne : L.drop k ≠ [] := by
              intro h
              have := congrArg List.length h
              rw [List.length_drop, HLN.out, List.length_nil] at this
              omega
            have hmid := EdMid.start hne hdec
            have hfr : nextE (s.extract k s.size).data.toList = nxE (L.drop k) := by
              rw [ba_rest]
              unfold nxE
              rw [List.map_drop, HLF.out]
            have HFR := Lib.hid hfr
            have HMID0 := Lib.hid hmid
            have HST0 := Lib.hid hst
            have hol : out.length ≤ s.size := by
              have h := HDL.out
              rw [hdec, List.length_append] at h
              omega
            clear hne hmid hfr hdec hst
            go_wp2_with fail
            refine (entNext_any (s.extract k s.size) (by rw [ByteArray.size_extract]; omega) (by rw [ByteArray.size_extract]; omega) _).mono ?_
            rw [HFR.out]
            rintro e w5 ⟨rfl, hb5⟩
            have hz5 := hb5.size
            have hst5 := HST0.out.below hb5
            have hrb5 := HRB.out.below hb5 HRB.out.lt
            generalize hpp : (nxE (L.drop k)).1 = pp at *
            generalize (nxE (L.drop k)).2 = lf at *
            obtain ⟨pb, hpb⟩ : ∃ pb : ByteArray, pb = ⟨pp.toArray⟩ := ⟨_, rfl⟩
            have hpd : pb.data.toList = pp := by rw [hpb]
            rw [← hpb]
            rw [← hpd] at HMID0
            clear hpb hpp
            subst hpd
            have HS5 := Lib.hid hst5
            have HRB5 := Lib.hid hrb5
            clear hst5 hrb5
            have hp4' := HMID0.out.2.1.2
            rw [Array.length_toList] at hp4'
            have hp4'' : pb.size ≤ 4 := hp4'
            clear hp4'
            go_wp2_with fail
            refine (writeString_any (w.heap.size + 2) (w.heap.size + 2) (Lib.byteCells (out.map (·.1))) pb _ HS5.out.2.2.2.1 (by rw [Lib.byteCells_length, List.length_map]; omega) (by omega)).mono ?_
            rintro e w6 ⟨rfl, hbu, hbl, hoth⟩
            have HS6 := Lib.hid (HS5.out.write hbu hbl hoth)
            have HRB6 : Hid (Whole w6 g 55 #[.int .i64 l, .int .i64 o]) := hoth _ _ HRB5.out (by intro e; injection e with e; omega) (by intro c fz e; injection e with _ e _; exact absurd e (by decide))
            obtain ⟨e0, he0⟩ : ∃ e0, e0 = k := ⟨_, rfl⟩
            obtain ⟨z0, hz0⟩ : ∃ z0, z0 = lf := ⟨_, rfl⟩
            have HMID : Hid (EdMid L out k lf 0 pb.data.toList e0 z0) := by rw [he0, hz0]; exact HMID0.out
            clear he0 hz0 hbu hbl hoth HMID0
            obtain ⟨hm1, ⟨hp1, hp4⟩, hm3, hm4, hm5, hm6, hm7⟩ := id HMID.out
            have hlz : lf ≤ s.size := by have := HLN.out; omega
            clear hm5 hm6 hm7
            have hpl : pb.data.toList.length = pb.size := by rw [Array.length_toList]; rfl
            rw [hpl] at hp1 hp4
            have HPL := Lib.hid hpl
            clear hpl
            have HX := Lib.hid HLK.out
            by_cases hl1' : lf = 1
            · subst hl1'
              have hdl := HMID.out.last HLK.out
              have hol : (out.map (·.2)).length ≤ s.size := by
                have h := HDL.out
                rw [hdl, List.length_append, List.length_append] at h
                rw [List.length_map]
                omega
              have HDLL := Lib.hid hdl
              have hw6 : w.heap.size + 3 ≤ w6.heap.size := HS6.out.2.2.2.2.2
              have hc1 : w6.cell? ⟨g, 1, none⟩ = some (.int .i64 o) := HRB6.out.at_ 1
              clear hdl
              go_wp2_with fail
              refine (put_comp (w.heap.size + 3) u4 (out.map (·.2)) pb.size (max 0 o) w6 HS6.out.1 hw6 (by omega) hp1 (by omega)).mono ?_
              rintro e w7 ⟨v7, rfl, hown7, hg7, hat7⟩
              have hst7 := HS6.out.join hown7 hg7 hat7
              have hrb7 : Whole w7 g 55 #[.int .i64 l, .int .i64 o] := HRB6.out.grown hg7 (fun e => HVG.out e.symm)
              have hvg7 : v7.ownBlock ≠ some g := by
                rcases hat7 with e | ⟨q, hq, e⟩
                · rw [e]; exact HVG.out
                · rw [e]; intro e2; injection e2 with e2; have := HRB6.out.lt; omega
              have HREL : Hid (EdIn w.heap.size L s.size qs (.slice (some ad') z c3) w3 g d l o v7 (.int .i64 ((k + 1 : Nat) : Int)) (.string pb) (.int .i64 0) (.int .i64 (max 0 o)) (.int .i64 ((m + 1 : Nat) : Int)) w7) :=
                ⟨m + 1, k + 1, by have := HKD.out; omega, by have := HM.out; omega, rfl, ⟨rfl, by omega, 0, max 0 o, pb, out ++ putE pb.data.toList (max 0 o), rfl, rfl, rfl, .inl ⟨rfl, HDLL.out, by rw [List.map_append, List.map_append, putE_fst, putE_snd, HPL.out]; exact hst7⟩⟩, hrb7, hvg7⟩
              clear hst7 hrb7 hvg7 hown7 hg7 hat7
              go_wp2_with fail
              go_roundw
              case rel =>
                have h := HREL.out
                first | exact h | (simpa using h)
              case measure => simp [intOf]; omega
            · have hmn := HMID.out.next HLK.out hl1'
              have HREL : Hid (EdIn w.heap.size L s.size qs (.slice (some ad') z c3) w3 g d l o u4 (.int .i64 ((k + 1 : Nat) : Int)) (.string pb) (.int .i64 ((lf : Int) - 1)) (.int .i64 (max 0 o)) (.int .i64 ((m + 1 : Nat) : Int)) w6) := by
                refine ⟨m + 1, k + 1, by have := HKD.out; omega, by have := HM.out; omega, rfl, ⟨rfl, by omega, lf - 1, max 0 o, pb, out, ?_, rfl, rfl, .inr ⟨e0, z0, hmn, HS6.out⟩⟩, HRB6.out, HVG.out⟩
                congr 1
                omega
              have hc1 : w6.cell? ⟨g, 1, none⟩ = some (.int .i64 o) := HRB6.out.at_ 1
              have hlf2 : ¬ (lf : Int) = 1 := by omega
              have hlf3 : (((lf : Int) - 1) == 0) = false := by rw [beq_eq_false_iff_ne]; omega
              clear hmn
              go_wp2_with fail
              go_roundw
              case rel =>
                have h := HREL.out
                first | exact h | (simpa using h)
              case measure => simp [intOf]; omega
          case inr =>
            have HMID := Lib.hid hmid
            have HS6 := Lib.hid hst
            have HRB6 := Lib.hid HRB.out
            obtain ⟨lf, rfl⟩ : ∃ lf : Nat, lf = lf1 := ⟨_, rfl⟩
            obtain ⟨pb, rfl⟩ : ∃ pb : ByteArray, pb = pb1 := ⟨_, rfl⟩
            obtain ⟨w6, rfl⟩ : ∃ w6 : World, w6 = wr := ⟨_, rfl⟩
            have hlf0 : ((lf : Int) == 0) = false := by rw [beq_eq_false_iff_ne]; have := hmid.1; omega
            clear hmid hst
            obtain ⟨hm1, ⟨hp1, hp4⟩, hm3, hm4, hm5, hm6, hm7⟩ := id HMID.out
            have hlz : lf ≤ s.size := by have := HLN.out; omega
            clear hm5 hm6 hm7
            have hpl : pb.data.toList.length = pb.size := by rw [Array.length_toList]; rfl
            rw [hpl] at hp1 hp4
            have HPL := Lib.hid hpl
            clear hpl
            have HX := Lib.hid HLK.out
            by_cases hl1' : lf = 1
            · subst hl1'
              have hdl := HMID.out.last HLK.out
              have hol : (out.map (·.2)).length ≤ s.size := by
                have h := HDL.out
                rw [hdl, List.length_append, List.length_append] at h
                rw [List.length_map]
                omega
              have HDLL := Lib.hid hdl
              have hw6 : w.heap.size + 3 ≤ w6.heap.size := HS6.out.2.2.2.2.2
              have hc1 : w6.cell? ⟨g, 1, none⟩ = some (.int .i64 o) := HRB6.out.at_ 1
              clear hdl
              go_wp2_with fail
              refine (put_comp (w.heap.size + 3) u4 (out.map (·.2)) pb.size (max wo1 o) w6 HS6.out.1 hw6 (by omega) hp1 (by omega)).mono ?_
              rintro e w7 ⟨v7, rfl, hown7, hg7, hat7⟩
              have hst7 := HS6.out.join hown7 hg7 hat7
              have hrb7 : Whole w7 g 55 #[.int .i64 l, .int .i64 o] := HRB6.out.grown hg7 (fun e => HVG.out e.symm)
              have hvg7 : v7.ownBlock ≠ some g := by
                rcases hat7 with e | ⟨q, hq, e⟩
                · rw [e]; exact HVG.out
                · rw [e]; intro e2; injection e2 with e2; have := HRB6.out.lt; omega
              have HREL : Hid (EdIn w.heap.size L s.size qs (.slice (some ad') z c3) w3 g d l o v7 (.int .i64 ((k + 1 : Nat) : Int)) (.string pb) (.int .i64 0) (.int .i64 (max wo1 o)) (.int .i64 ((m + 1 : Nat) : Int)) w7) :=
                ⟨m + 1, k + 1, by have := HKD.out; omega, by have := HM.out; omega, rfl, ⟨rfl, by omega, 0, max wo1 o, pb, out ++ putE pb.data.toList (max wo1 o), rfl, rfl, rfl, .inl ⟨rfl, HDLL.out, by rw [List.map_append, List.map_append, putE_fst, putE_snd, HPL.out]; exact hst7⟩⟩, hrb7, hvg7⟩
              clear hst7 hrb7 hvg7 hown7 hg7 hat7
              go_wp2_with fail
              go_roundw
              case rel =>
                have h := HREL.out
                first | exact h | (simpa using h)
              case measure => simp [intOf]; omega
            · have hmn := HMID.out.next HLK.out hl1'
              have HREL : Hid (EdIn w.heap.size L s.size qs (.slice (some ad') z c3) w3 g d l o u4 (.int .i64 ((k + 1 : Nat) : Int)) (.string pb) (.int .i64 ((lf : Int) - 1)) (.int .i64 (max wo1 o)) (.int .i64 ((m + 1 : Nat) : Int)) w6) := by
                refine ⟨m + 1, k + 1, by have := HKD.out; omega, by have := HM.out; omega, rfl, ⟨rfl, by omega, lf - 1, max wo1 o, pb, out, ?_, rfl, rfl, .inr ⟨e0, z0, hmn, HS6.out⟩⟩, HRB6.out, HVG.out⟩
                congr 1
                omega
              have hc1 : w6.cell? ⟨g, 1, none⟩ = some (.int .i64 o) := HRB6.out.at_ 1
              have hlf2 : ¬ (lf : Int) = 1 := by omega
              have hlf3 : (((lf : Int) - 1) == 0) = false := by rw [beq_eq_false_iff_ne]; omega
              clear hmn
              go_wp2_with fail
              go_roundw
              case rel =>
                have h := HREL.out
                first | exact h | (simpa using h)
              case measure => simp [intOf]; omega
        · obtain rfl : l = (m : Int) := by omega
          have HREL : Hid (EdOut w.heap.size L s.size qs (.slice (some ad') z c3) w3 u4 (.int .i64 (k : Int)) (.string pb1) (.int .i64 (lf1 : Int)) (.int .i64 wo1) (.int .i64 ((j + 1 : Nat) : Int)) wr) := by
            refine ⟨j + 1, by rw [HZ.out]; omega, rfl, ?_⟩
            rw [HNX.out, Int.toNat_natCast, ← HKD.out]
            exact ⟨rfl, hks2, lf1, wo1, pb1, out, rfl, rfl, rfl, HCASE.out⟩
          go_wp2_with fail
          go_roundw
          case rel => 
            have h := HREL.out
            first | exact h | (rw [HKD.out] at h; simpa using h)
          case measure => simp [intOf]; omega
    · obtain rfl : j = z := by omega
      have hfull : (expand (qs.take j)).length = s.size := by rw [List.take_of_length_le (by rw [HZ.out]; exact Nat.le_refl _), HEL.out]
      have hdk := HK.out
      rw [hfull] at hdk
      obtain ⟨_, _, lf, wo, pb, out, _, _, _, hcase⟩ := hdk
      have hzl : L.drop s.size = [] := List.drop_of_length_le (by rw [HLN.out]; exact Nat.le_refl _)
      have hfin : decE L = out ∧ RwSt w.heap.size noS qs (.slice A3 j c3) w3 (out.map (·.1)) (out.map (·.2)) u4 wr := by
        rcases hcase with ⟨_, h1, h2⟩ | ⟨e, zz, hm, _⟩
        · rw [hzl, decE_nil, List.append_nil] at h1
          exact ⟨h1, h2⟩
        · exfalso
          have h := hm.2.2.2.2.2.2
          have h0 := hm.1
          rw [HLN.out] at h
          omega
      obtain ⟨hdo, hst⟩ := hfin
      rw [← hdo] at hst
      have HST3 := Lib.hid hst
      have hEn := HDL.out
      clear hst hdo hcase hzl hfull
      have hqq := comp_length_le ((decE L).map (·.2))
      rw [List.length_map] at hqq
      go_wp2_with fail
      refine (Tryz.Builder_String_any_k (w.heap.size + 2) (w.heap.size + 2) ((decE L).map (·.1)) wr HST3.out.2.2.2.1 (by omega)).mono ?_
      rintro e w5 ⟨rfl, _, hbl5, hoth5⟩
      have ho5 := own_others HST3.out.1 hoth5 (by omega)
      have hkp := HST3.out.2.2.2.2.1.below hbl5
      have hW := (y1.same (hkp.block _ (by omega) (fun hs => hs)))
      have f0 := hW.free 0
      have f1 := hW.free 1
      have d0 : w5.cell? ⟨w.heap.size + 1, 0, none⟩ = some (.string ⟨#[]⟩) := hW.at_ 0
      have d1 : w5.cell? ⟨w.heap.size + 1, 1, none⟩ = some (.slice none 0 0) := hW.at_ 1
      obtain ⟨A5, c5, rfl, _, _, _⟩ := own_form ho5
      have HO5 := Lib.hid ho5
      have HKP := Lib.hid hkp
      clear ho5 hkp
      generalize hq1 : (decE L).map (·.1) = st at *
      generalize hq2 : comp ((decE L).map (·.2)) = q at *
      have HQ1 := Lib.hid hq1
      have HQ2 := Lib.hid hq2
      clear hq1 hq2
      go_wp2
      refine bodyPost_ret (v := .agg #[.string ⟨st.toArray⟩, .slice A5 q.length c5]) ?_ rfl ?_
      · simp [results, Tryz.results72, go_sem, d0, d1]
      · have hk := HKP.out
        have hbf : Below w.heap.size w w5 := ⟨hk.os.trans hbw.os, hk.tape.trans hbw.tape, hk.output.trans hbw.output, Nat.le_trans hbw.size hk.size, fun g hg => (hk.block g (by omega) (fun hs => hs)).trans (hbw.block g hg)⟩
        first | rw [HLL.out, HQ1.out, HQ2.out] | skip
        exact tells_end (Nat.le_succ _) (own_mono (base := w.heap.size + 3) HO5.out (by omega)) hbf

end Go.Proofs.YtdiifkmcbnhliaaGreat.mk

namespace Go.Proofs.YtdiifkmcbnhliaaGreat.mk
open Go.RowKit

/-! names -/
def rnV : Array Value := #[.string ⟨#[97, 109, 112]⟩, .string ⟨#[108, 116]⟩, .string ⟨#[103, 116]⟩, .string ⟨#[113, 117, 111, 116]⟩, .string ⟨#[97, 112, 111, 115]⟩, .string ⟨#[110, 98, 115, 112]⟩]
def rbV : Array Value := #[.string ⟨#[38]⟩, .string ⟨#[60]⟩, .string ⟨#[62]⟩, .string ⟨#[34]⟩, .string ⟨#[39]⟩, .string ⟨#[194, 160]⟩]
theorem rn_at (k : Nat) (h : k < 6) : ∃ (nb : ByteArray) (c : Int), nameL[k]? = some (nb.data.toList, c) ∧ rnV[k]? = some (.string nb) ∧ rbV[k]? = some (.string (numB c)) := by
  obtain rfl | rfl | rfl | rfl | rfl | rfl : k = 0 ∨ k = 1 ∨ k = 2 ∨ k = 3 ∨ k = 4 ∨ k = 5 := by omega
  · exact ⟨_, _, rfl, rfl, rfl⟩
  · exact ⟨_, _, rfl, rfl, rfl⟩
  · exact ⟨_, _, rfl, rfl, rfl⟩
  · exact ⟨_, _, rfl, rfl, rfl⟩
  · exact ⟨_, _, rfl, rfl, rfl⟩
  · exact ⟨_, _, rfl, rfl, rfl⟩
def RnRel (s : ByteArray) (i : Value) : Prop :=
  ∃ k : Nat, k ≤ 6 ∧ i = .int .i64 (k : Int) ∧ (∀ (j : Nat) (nm : List UInt8) (c : Int), j < k → nameL[j]? = some (nm, c) → nm ≠ s.data.toList)

set_option maxHeartbeats 1000000 in
set_option maxRecDepth 100000 in
theorem refNamed_any (s : ByteArray) (w : World) :
    Calls Tryz.prog 88 #[.string s] w fun e w' => e = .returned (.string (namedB s.data.toList)) ∧ Below w.heap.size w w' := by
  go_enter Tryz.func88, Tryz.ntmps88
  go_wp2_with fail
  have hbl : Below w.heap.size w ((w.alloc (.cells rnV 9)).alloc (.cells rbV 9)) := ((Below.refl _ _).alloc (Nat.le_refl _) _).alloc (by simp) _
  have y1 : Whole ((w.alloc (.cells rnV 9)).alloc (.cells rbV 9)) w.heap.size 9 rnV := (Whole.made w _ _).alloc _
  have y2 : Whole ((w.alloc (.cells rnV 9)).alloc (.cells rbV 9)) (w.heap.size + 1) 9 rbV := by
    have h := Whole.made (w.alloc (.cells rnV 9)) 9 rbV
    simp only [World.size_alloc] at h
    exact h
  have HY1 := Lib.hid y1
  have HY2 := Lib.hid y2
  have HBL := Lib.hid hbl
  clear y1 y2 hbl
  unfold rnV rbV at HY1 HY2 HBL
  generalize (w.alloc (.cells _ 9)).alloc (.cells _ 9) = w2 at *
  go_loop [5] (RnRel s) (fun i => 6 - (intOf i).toNat)
  case atStart => exact ⟨0, Nat.zero_le _, rfl, fun j _ _ h => by omega⟩
  case round =>
    obtain ⟨k, hk, rfl, hno⟩ := hrel
    have HNO := Lib.hid hno
    clear hno
    by_cases hlt : k < 6
    · obtain ⟨nb, c, hn, h1, h2⟩ := rn_at k hlt
      have hk3 : (k : Int) < 6 := by omega
      have hk0 : (0 : Int) ≤ (k : Int) := Int.natCast_nonneg _
      have HN := Lib.hid hn
      have c1 : w2.cell? ⟨w.heap.size, k, none⟩ = some (.string nb) := (HY1.out.at_ k).trans h1
      have c2 : w2.cell? ⟨w.heap.size + 1, k, none⟩ = some (.string (numB c)) := (HY2.out.at_ k).trans h2
      clear hn h1 h2
      have HBT : Hid ((nb.toList == s.toList) = (nb.data.toList == s.data.toList)) := by show _ = _; rw [ByteArray.toList_eq, ByteArray.toList_eq]
      cases hm : (nb.toList == s.toList) with
      | false =>
        have hne : nb.data.toList ≠ s.data.toList := by
          rw [HBT.out] at hm
          exact beq_eq_false_iff_ne.1 hm
        have HNX : Hid (∀ (j : Nat) (nm : List UInt8) (d : Int), j < k + 1 → nameL[j]? = some (nm, d) → nm ≠ s.data.toList) := by
          intro j nm d hj hjn
          rcases Nat.lt_or_ge j k with h | h
          · exact HNO.out j nm d h hjn
          · obtain rfl : j = k := by omega
            have := HN.out.symm.trans hjn
            injection this with this
            injection this with h1 h2
            rw [← h1]; exact hne
        clear hne
        go_wp2_with fail
        go_round
        case rel => exact ⟨k + 1, by omega, by go_num, HNX.out⟩
        case measure => simp [intOf]; omega
      | true =>
        have HR : Hid (namedB s.data.toList = numB c) := by
          rw [HBT.out] at hm
          show _ = _
          rw [← beq_iff_eq.1 hm]
          exact namedB_hit HN.out
        generalize numB c = r at *
        go_wp2_with fail
        go_ret
        exact ⟨by rw [HR.out]; rfl, HBL.out⟩
    · have HR : Hid (namedB s.data.toList = ⟨#[]⟩) := namedB_miss (fun j nm c h => HNO.out j nm c (by have h6 : j < 6 := (List.getElem?_eq_some_iff.1 h).1; omega) h)
      go_wp2_with fail
      go_ret
      exact ⟨by rw [HR.out]; rfl, HBL.out⟩

end Go.Proofs.YtdiifkmcbnhliaaGreat.mk

namespace Go.Proofs.YtdiifkmcbnhliaaGreat.mk
open Go.RowKit

def standsB (l : List UInt8) : ByteArray := match standsN l with | some n => numB n | none => ⟨#[]⟩
theorem standsB_name {l : List UInt8} (h : numS l = none) : standsB l = namedB l := by
  unfold standsB standsN namedB
  cases nameN l with
  | some n => rfl
  | none => simp only [h]
theorem standsB_hash (t : List UInt8) : standsB (35 :: t) = match numS (35 :: t) with | some n => numB n | none => ⟨#[]⟩ := by
  unfold standsB
  rw [standsN_hash]
def digsB (base : Int) (u : List UInt8) : ByteArray := match digs base u with | some n => numB n | none => ⟨#[]⟩
theorem digsB_ok {base : Int} (hb : base = 10 ∨ base = 16) {u : List UInt8} (h1 : u ≠ []) (h2 : ∀ b ∈ u, digV base b = true) : digsB base u = numB (valC 2000000 base u) := by
  unfold digsB
  rw [digs_of h1 h2, numB_val (by omega) (by omega) u h2]
theorem digsB_no {base : Int} {u : List UInt8} {k : Nat} {x : UInt8} (h : u[k]? = some x) (hx : digV base x = false) : digsB base u = ⟨#[]⟩ := by
  unfold digsB digs
  rw [if_neg]
  rintro ⟨_, ha⟩
  have := List.all_eq_true.1 ha x (List.mem_of_getElem? h)
  rw [hx] at this
  cases this
theorem digsB_nil (base : Int) : digsB base [] = ⟨#[]⟩ := by
  unfold digsB digs
  rw [if_neg (fun h => h.1 rfl)]
def isHex (t : List UInt8) : Bool := match t with | x :: _ => x == 120 || x == 88 | [] => false
theorem isHex_yes {t : List UInt8} (h : isHex t = true) : standsB (35 :: t) = digsB 16 (t.drop 1) ∧ 1 ≤ t.length := by
  cases t with
  | nil => cases h
  | cons x u =>
    have hx : x = 120 ∨ x = 88 := by
      have h2 : (x == 120 || x == 88) = true := h
      simpa using h2
    refine ⟨?_, by simp⟩
    rw [standsB_hash]
    show (match (if (35 : UInt8) = 35 then (if x = 120 ∨ x = 88 then digs 16 u else digs 10 (x :: u)) else none) with | some n => numB n | none => ⟨#[]⟩) = _
    rw [if_pos rfl, if_pos hx]
    rfl
theorem isHex_no {t : List UInt8} (h : isHex t = false) : standsB (35 :: t) = digsB 10 t := by
  rw [standsB_hash]
  cases t with
  | nil =>
    rw [digsB_nil]
    rfl
  | cons x u =>
    have hx : ¬ (x = 120 ∨ x = 88) := by
      have h2 : (x == 120 || x == 88) = false := h
      simpa using h2
    show (match (if (35 : UInt8) = 35 then (if x = 120 ∨ x = 88 then digs 16 u else digs 10 (x :: u)) else none) with | some n => numB n | none => ⟨#[]⟩) = _
    rw [if_pos rfl, if_neg hx]
    rfl

def StdCut (l : List UInt8) (z : Nat) (v0 v3 : Value) : Prop :=
  ∃ (tb : ByteArray) (base : Int), v0 = .string tb ∧ v3 = .int .i64 base ∧ (base = 10 ∨ base = 16) ∧ standsB l = digsB base tb.data.toList ∧ tb.size ≤ z
def StdRel (base : Int) (l : List UInt8) (n i : Value) : Prop :=
  ∃ k : Nat, k ≤ l.length ∧ n = .int .i64 (valC 2000000 base (l.take k)) ∧ i = .int .i64 (k : Int) ∧ ∀ y ∈ l.take k, digV base y = true
theorem valC_bd2 {base : Int} (hb : 1 ≤ base) {l : List UInt8} (h : ∀ b ∈ l, digV base b = true) : 0 ≤ valC 2000000 base l ∧ valC 2000000 base l ≤ 2000000 := by
  have := valC_eq (top := 2000000) (by omega) hb l h
  omega

set_option maxHeartbeats 1000000 in
set_option maxRecDepth 100000 in
theorem refStands_any (s : ByteArray) (hs : s.size ≤ 4294967296) (w : World) :
    Calls Tryz.prog 73 #[.string s] w fun e w' => e = .returned (.string (standsB s.data.toList)) ∧ Below w.heap.size w w' := by
  have hsl : s.data.toList.length = s.size := by rw [Array.length_toList]; rfl
  have hte : s.toList = s.data.toList := ByteArray.toList_eq ..
  by_cases hz : s.size = 0
  · have hnil : s.data.toList = [] := List.eq_nil_of_length_eq_zero (by omega)
    have HR : Hid (standsB s.data.toList = namedB s.data.toList) := standsB_name (by rw [hnil]; rfl)
    have he : (s.toList == []) = true := by rw [hte, hnil]; rfl
    clear hte hsl hnil
    go_enter Tryz.func73, Tryz.ntmps73
    go_wp2_with fail
    refine (refNamed_any s _).mono ?_
    rintro e w1 ⟨rfl, hb1⟩
    rw [← HR.out]
    go_wp2_with fail
    go_ret
    exact ⟨rfl, hb1⟩
  · have hp : 0 < s.size := by omega
    have hcons : s.data.toList = s[0]'hp :: s.data.toList.drop 1 := by
      have h1 : s.data.toList[0]? = some (s[0]'hp) := by
        rw [List.getElem?_eq_getElem (by rw [hsl]; exact hp)]
        rfl
      cases hl : s.data.toList with
      | nil => rw [hl] at h1; cases h1
      | cons a b =>
        rw [hl] at h1
        injection h1 with h1
        rw [← h1]; rfl
    have he : (s.toList == []) = false := by
      rw [hte, hcons]; rfl
    have HTE := Lib.hid hte
    clear hte
    by_cases hx35 : s[0]'hp = 35
    · have hb35 : ((s[0]'hp).toNat : Int) = 35 := by rw [hx35]; rfl
      have htl : (s.extract 1 s.size).data.toList = s.data.toList.drop 1 := ba_rest s 1
      rw [hx35] at hcons
      rw [hcons]
      have htz : (s.extract 1 s.size).size + 1 = s.size := by rw [ByteArray.size_extract]; omega
      obtain ⟨tb, htb⟩ : ∃ tb, tb = s.extract 1 s.size := ⟨_, rfl⟩
      rw [← htb] at htl htz
      rw [← htl]
      have HTB := Lib.hid htb
      clear hcons htl hsl hx35 htb
      have h1s : (1 : Int) ≤ (s.size : Int) := by omega
      have hte2 : tb.toList = tb.data.toList := ByteArray.toList_eq ..
      have htbl : tb.data.toList.length = tb.size := by rw [Array.length_toList]; rfl
      generalize ht : tb.data.toList = t at *
      go_enter Tryz.func73, Tryz.ntmps73
      go_upto_region 5 with (fail)
      rw [← HTB.out]
      go_cut [28] (fun s28 wx => s28 = .bool (isHex t) ∧ wx = w)
      case first =>
        cases t with
        | nil =>
          have hie : tb.toList.isEmpty = true := by rw [hte2]; rfl
          clear hte2
          go_wp2_with fail
          go_meet
          exact ⟨rfl, rfl⟩
        | cons x u =>
          have hie : tb.toList.isEmpty = false := by rw [hte2]; rfl
          have hq : 0 < tb.size := by rw [← htbl]; simp
          have hsk : tb[0]'hq = x := by
            have h1 : tb.data.toList[0]? = some (tb[0]'hq) := by
              rw [List.getElem?_eq_getElem (by rw [ht]; simp)]
              rfl
            rw [ht] at h1
            injection h1 with h1
            exact h1.symm
          have h0t : (0 : Int) < (tb.size : Int) := by omega
          clear hte2 ht htbl
          by_cases hx : x = 120
          · subst hx
            have hb : ((tb[0]'hq).toNat : Int) = 120 := by rw [hsk]; rfl
            go_wp2_with fail
            go_meet
            exact ⟨rfl, rfl⟩
          · by_cases hx2 : x = 88
            · subst hx2
              have hb : ((tb[0]'hq).toNat : Int) = 88 := by rw [hsk]; rfl
              go_wp2_with fail
              go_meet
              exact ⟨rfl, rfl⟩
            · have hn1 : ((x.toNat : Int) == 120) = false := by
                rw [beq_eq_false_iff_ne]
                intro e
                exact hx (UInt8.toNat_inj.1 (by have : (120 : UInt8).toNat = 120 := rfl; omega))
              have hn2 : ((x.toNat : Int) == 88) = false := by
                rw [beq_eq_false_iff_ne]
                intro e
                exact hx2 (UInt8.toNat_inj.1 (by have : (88 : UInt8).toNat = 88 := rfl; omega))
              have hih : isHex (x :: u) = false := by
                show (x == 120 || x == 88) = false
                simp [hx, hx2]
              have HIH := Lib.hid hih
              clear hih
              go_wp2_with fail
              go_meet
              exact ⟨by rw [HIH.out], rfl⟩
      case rest =>
        obtain ⟨rfl, rfl⟩ := hcut
        obtain ⟨wd, rfl⟩ : ∃ wd : World, wd = wc := ⟨_, rfl⟩
        have HXD : Hid (isHex t = true → standsB (35 :: t) = digsB 16 (tb.extract 1 tb.size).data.toList ∧ 1 ≤ tb.size) := fun h => by
          have h2 := isHex_yes h
          rw [ba_rest, ht]
          exact ⟨h2.1, by rw [← htbl]; exact h2.2⟩
        have HXN : Hid (isHex t = false → standsB (35 :: t) = digsB 10 tb.data.toList) := fun h => by
          rw [ht]; exact isHex_no h
        clear hte2 htbl ht
        generalize hih : isHex t = ih at *
        clear hih
        go_upto_if 28 with (fail)
        go_cut [0, 3] (fun s0 s3 wx => StdCut (35 :: t) s.size s0 s3 ∧ wx = wd)
        case first =>
          cases ih with
          | true =>
            obtain ⟨h1, h2⟩ := HXD.out rfl
            have h3 : (1 : Int) ≤ (tb.size : Int) := by omega
            have hrz : (tb.extract 1 tb.size).size ≤ s.size := by rw [ByteArray.size_extract]; omega
            have HSC : Hid (StdCut (35 :: t) s.size (.string (tb.extract 1 tb.size)) (.int .i64 16)) := ⟨_, 16, rfl, rfl, .inr rfl, h1, hrz⟩
            clear h1 hrz
            go_wp2_with fail
            go_meet
            exact ⟨HSC.out, rfl⟩
          | false =>
            have HSC : Hid (StdCut (35 :: t) s.size (.string tb) (.int .i64 10)) := ⟨_, 10, rfl, rfl, .inl rfl, HXN.out rfl, by omega⟩
            go_wp2_with fail
            go_meet
            exact ⟨HSC.out, rfl⟩
        case rest =>
          obtain ⟨⟨ub, base, rfl, rfl, hbase, hst, huz⟩, rfl⟩ := hcut
          have HST := Lib.hid hst
          clear HXD HXN hst htz
          have hul : ub.data.toList.length = ub.size := by rw [Array.length_toList]; rfl
          have hute : ub.toList = ub.data.toList := ByteArray.toList_eq ..
          have hb1 : 1 ≤ base := by omega
          have hb2 : base ≤ 16 := by omega
          by_cases huz0 : ub.size = 0
          · have hnil : ub.data.toList = [] := List.eq_nil_of_length_eq_zero (by omega)
            have hie : (ub.toList == []) = true := by rw [hute, hnil]; rfl
            have HR : Hid (standsB (35 :: t) = ⟨#[]⟩) := by
              show _ = _
              rw [HST.out, hnil]; exact digsB_nil base
            clear hute hnil hul
            go_wp2_with fail
            go_ret
            exact ⟨by rw [HR.out]; rfl, Below.refl _ _⟩
          · have hie : (ub.toList == []) = false := by
              rw [hute]
              cases hl : ub.data.toList with
              | nil => rw [hl] at hul; exact absurd hul.symm huz0
              | cons a b => rfl
            have HUL := Lib.hid hul
            have HB := Lib.hid hbase
            have HOK : Hid ((∀ y ∈ ub.data.toList, digV base y = true) → digsB base ub.data.toList = numB (valC 2000000 base ub.data.toList)) := fun h => digsB_ok HB.out (by intro e; rw [e] at hul; exact huz0 hul.symm) h
            clear hul hute hbase
            go_wp2_with fail
            go_loop [4, 5] (StdRel base ub.data.toList) (fun _ i => ub.size - (intOf i).toNat)
            case atStart => exact ⟨0, Nat.zero_le _, rfl, rfl, by simp⟩
            case round =>
              obtain ⟨k, hk, rfl, rfl, hall⟩ := hrel
              rw [HUL.out] at hk
              have hvb := valC_bd2 hb1 hall
              have HALL := Lib.hid hall
              clear hall
              have hk0 : (0 : Int) ≤ (k : Int) := Int.natCast_nonneg _
              by_cases hlt : k < ub.size
              · have hk1 : (k : Int) < (ub.size : Int) := by omega
                have HSK : Hid (ub.data.toList[k]? = some (ub[k]'hlt)) := by
                  show _ = _
                  rw [List.getElem?_eq_getElem (by rw [HUL.out]; exact hlt)]
                  rfl
                have HNX : Hid (ub.data.toList.take (k + 1) = ub.data.toList.take k ++ [ub[k]'hlt]) := take_next HSK.out
                generalize hsk : ub[k]'hlt = x at *
                have hxb := hexB_bd x
                have hrv := refV_bd x
                have hdv := refV_dig (base := base) (by omega) x
                cases hq : digV base x with
                | true =>
                  rw [hq] at hdv
                  have hv1 : refV x < base := of_decide_eq_true hdv.symm
                  have hrh : refV x = hexB x := by
                    have := (digV_bd hq).1
                    unfold refV
                    rw [if_neg (by omega)]
                  have HV : Hid (valC 2000000 base (ub.data.toList.take (k + 1)) = min (valC 2000000 base (ub.data.toList.take k) * base + refV x) 2000000) := by show _ = _; rw [HNX.out, valC_snoc, hrh]
                  have HA2 : Hid (∀ y ∈ ub.data.toList.take (k + 1), digV base y = true) := by
                    intro y hy
                    rw [HNX.out] at hy
                    rcases List.mem_append.1 hy with hy | hy
                    · exact HALL.out y hy
                    · simp at hy; subst hy; exact hq
                  generalize valC 2000000 base (ub.data.toList.take k) = n at *
                  obtain ⟨hn0, hn1⟩ := hvb
                  have hm0 : 0 ≤ n * base := Int.mul_nonneg hn0 (by omega)
                  have hm1 : n * base ≤ 2000000 * base := Int.mul_le_mul_of_nonneg_right hn1 (by omega)
                  have hm2 : n * base ≤ 32000000 := by omega
                  have HVX : Hid (∀ w, Calls Tryz.prog 89 #[.int .u8 x.toNat] w fun e w' => e = .returned (.int .i64 (refV x)) ∧ w' = w) := fun w => refValue_any x w
                  clear hm1 hq hdv hrh hxb
                  generalize refV x = v at *
                  have hv3 : ¬ base ≤ v := by omega
                  go_wp2_with fail
                  refine (HVX.out _).mono ?_
                  rintro e w' ⟨rfl, rfl⟩
                  go_wp2_with fail
                  refine (HVX.out _).mono ?_
                  rintro e w' ⟨rfl, rfl⟩
                  go_wp2_with fail
                  go_round
                  case rel => exact ⟨k + 1, by rw [HUL.out]; omega, by rw [HV.out], by go_num, HA2.out⟩
                  case measure => simp [intOf]; omega
                | false =>
                  rw [hq] at hdv
                  have hv1 : base ≤ refV x := by
                    have := of_decide_eq_false hdv.symm
                    omega
                  have HR : Hid (standsB (35 :: t) = ⟨#[]⟩) := HST.out.trans (digsB_no HSK.out hq)
                  have HVX : Hid (∀ w, Calls Tryz.prog 89 #[.int .u8 x.toNat] w fun e w' => e = .returned (.int .i64 (refV x)) ∧ w' = w) := fun w => refValue_any x w
                  clear hq hdv hxb hvb
                  generalize refV x = v at *
                  go_wp2_with fail
                  refine (HVX.out _).mono ?_
                  rintro e w' ⟨rfl, rfl⟩
                  go_wp2_with fail
                  go_ret
                  exact ⟨by rw [HR.out]; rfl, Below.refl _ _⟩
              · obtain rfl : k = ub.size := by omega
                have HR : Hid (standsB (35 :: t) = numB (valC 2000000 base (ub.data.toList.take ub.size))) := by
                  have ht : ub.data.toList.take ub.size = ub.data.toList := List.take_of_length_le (by rw [HUL.out]; exact Nat.le_refl _)
                  show _ = _
                  rw [ht, HST.out]
                  refine HOK.out fun y hy => HALL.out y ?_
                  rw [ht]; exact hy
                generalize valC 2000000 base (ub.data.toList.take ub.size) = n at *
                go_wp2_with fail
                refine (refNumber_any n _).mono ?_
                rintro e w1 ⟨rfl, hb1⟩
                rw [← HR.out]
                go_wp2_with fail
                go_ret
                exact ⟨rfl, hb1⟩
    · have hb35 : (((s[0]'hp).toNat : Int) != 35) = true := by
        rw [bne_iff_ne]
        intro e
        exact hx35 (UInt8.toNat_inj.1 (by have : (35 : UInt8).toNat = 35 := rfl; omega))
      have HR : Hid (standsB s.data.toList = namedB s.data.toList) := standsB_name (by
        rw [hcons]
        show (if s[0]'hp = 35 then _ else none) = none
        rw [if_neg hx35])
      clear hcons hsl
      generalize hx : s[0]'hp = x at *
      have h0s : (0 : Int) < (s.size : Int) := by omega
      go_enter Tryz.func73, Tryz.ntmps73
      go_wp2_with fail
      refine (refNamed_any s _).mono ?_
      rintro e w1 ⟨rfl, hb1⟩
      rw [← HR.out]
      go_wp2_with fail
      go_ret
      exact ⟨rfl, hb1⟩

end Go.Proofs.YtdiifkmcbnhliaaGreat.mk

namespace Go.Proofs.YtdiifkmcbnhliaaGreat.mk
open Go.RowKit

theorem refText_any (A : Option Addr) (n c : Nat) (l : List (UInt8 × Int)) (w : World) (hl : Lies w w.heap.size A (chCells l)) (hn : l.length = n) (hn2 : n ≤ 4294967296) :
    Calls Tryz.prog 29 #[.slice A n c] w fun e w' => e = .returned (.string ⟨(l.map (·.1)).toArray⟩) ∧ Below w.heap.size w w' := by
  go_enter Tryz.func29, Tryz.ntmps29
  go_wp2_with fail
  refine (refStr_any A n c l _ hl hn (by omega)).mono ?_
  rintro e w1 ⟨v, rfl, hown, hb⟩
  obtain ⟨A1, c1, rfl, _, _, _⟩ := own_form hown
  have ft := fun w' => field_text ⟨(l.map (·.1)).toArray⟩ A1 (comp (l.map (·.2))).length c1 w'
  clear hown
  generalize (comp (l.map (·.2))).length = z at *
  go_wp2_with fail
  go_ret
  exact ⟨rfl, hb⟩

theorem bodyE_take {t : List UInt8} (h : (bodyE t).length < t.length) : t.take (bodyE t).length = bodyE t := by
  obtain ⟨r, hr⟩ := bodyE_split h
  generalize bodyE t = b at *
  rw [hr, List.take_left]
theorem semi_find (t : List UInt8) : findI (38 :: t) [59] 0 = if (bodyE t).length < t.length then ((bodyE t).length : Int) + 1 else -1 := by
  have ha : (0 : Nat) = atN (38 :: t).length 0 := by unfold atN; omega
  have hn : ∀ j, 0 ≤ j → j < (bodyE t).length + 1 → Lib.occAt (38 :: t) [59] j = false := fun j _ hj => by
    rw [occ_one, beq_eq_false_iff_ne]
    cases j with
    | zero => rw [List.getElem?_cons_zero]; intro e; injection e with e; revert e; decide
    | succ j =>
      rw [List.getElem?_cons_succ]
      intro e
      have hj2 : j < (bodyE t).length := by omega
      have h1 : t[j]? = (bodyE t)[j]? := by
        unfold bodyE at hj2 ⊢
        conv => lhs; rw [← List.takeWhile_append_dropWhile (p := (· != 59)) (l := t)]
        rw [List.getElem?_append_left hj2]
      rw [h1] at e
      have h2 := bodyE_no t 59 (List.mem_of_getElem? e)
      revert h2; decide
  split
  · rename_i h
    obtain ⟨r, hr⟩ := bodyE_split h
    have h2 : (38 :: t)[(bodyE t).length + 1]? = some 59 := by
      rw [List.getElem?_cons_succ]
      generalize bodyE t = b at *
      rw [hr, List.getElem?_append_right (Nat.le_refl _), Nat.sub_self]
      rfl
    have h3 := findI_first (l := 38 :: t) (p := [59]) ha (Nat.zero_le _) (i := (bodyE t).length + 1) (by simp; omega) (by rw [occ_one, h2]; rfl) hn
    rw [h3]
    rfl
  · rename_i h
    have := bodyE_le t
    exact findI_none (i := (bodyE t).length + 1) ha (by simp; omega) hn

theorem takeE_no {x : UInt8} {t : List UInt8} (h : x ≠ 38) : takeE (x :: t) = (⟨#[]⟩, 0) := takeE_none (refer_not h)
theorem takeE_open {t : List UInt8} (h : ¬ (bodyE t).length < t.length) : takeE (38 :: t) = (⟨#[]⟩, 0) := takeE_none (refer_open h)
theorem takeE_amp {t : List UInt8} (h : (bodyE t).length < t.length) : ((standsB (bodyE t)).size = 0 ∧ takeE (38 :: t) = (⟨#[]⟩, 0)) ∨ (1 ≤ (standsB (bodyE t)).size ∧ takeE (38 :: t) = (standsB (bodyE t), (bodyE t).length + 2)) := by
  unfold standsB
  cases hs : standsN (bodyE t) with
  | none =>
    left
    refine ⟨rfl, takeE_none ?_⟩
    rw [refer_amp h, hs]
    rfl
  | some n =>
    right
    refine ⟨numB_pos n, takeE_some ?_⟩
    rw [refer_amp h, hs]
    rfl

set_option maxHeartbeats 1000000 in
set_option maxRecDepth 100000 in
theorem refEntTake_any (A : Option Addr) (n c : Nat) (l : List (UInt8 × Int)) (w : World) (hl : Lies w w.heap.size A (chCells l)) (hn : l.length = n) (hnc : n ≤ c) (hn2 : n ≤ 4294967296) :
    Calls Tryz.prog 50 #[.slice A n c] w fun e w' => e = .returned (.tuple #[.string (takeE (l.map (·.1))).1, .int .i64 ((takeE (l.map (·.1))).2 : Nat)]) ∧ Below w.heap.size w w' := by
  cases l with
  | nil =>
    obtain rfl : n = 0 := by rw [← hn]; rfl
    have HR : Hid (takeE (([] : List (UInt8 × Int)).map (·.1)) = (⟨#[]⟩, 0)) := takeE_none rfl
    go_enter Tryz.func50, Tryz.ntmps50
    go_wp2_with fail
    go_ret2
    exact ⟨by rw [HR.out]; rfl, Below.refl _ _⟩
  | cons p r =>
    obtain ⟨ad, x, o, rfl, hbk, hc1, hc2, HRX⟩ := hl.ch (k := 0) (by simp)
    simp only [Nat.zero_mul] at hc1
    rw [show ad.add 0 = ad by unfold Addr.add; rfl] at hc1
    have hpx : p = (x, o) := by
      have h := HRX.out
      rw [List.getElem?_cons_zero] at h
      injection h
    subst hpx
    clear hc2
    have hn0 : 0 < n := by rw [← hn]; simp
    by_cases hx : x = 38
    · subst hx
      have HFI : Hid (findI ((((38 : UInt8), o) :: r).map (·.1)) [59] 0 = if (bodyE (r.map (·.1))).length < (r.map (·.1)).length then ((bodyE (r.map (·.1))).length : Int) + 1 else -1) := by
        show _ = _
        exact semi_find (List.map (fun x : UInt8 × Int => x.1) r)
      have hrn : r.length + 1 = n := by rw [← hn]; rfl
      have HN := Lib.hid hn
      have HL := Lib.hid hl
      have hsm := bodyE_le (r.map (·.1))
      rw [List.length_map] at hsm HFI
      by_cases hb : (bodyE (r.map (·.1))).length < r.length
      · rw [if_pos hb] at HFI
        have hb' : (bodyE (r.map (·.1))).length < (r.map (·.1)).length := by rw [List.length_map]; exact hb
        have HTK : Hid (((standsB (bodyE (r.map (·.1)))).size = 0 ∧ takeE ((((38 : UInt8), o) :: r).map (·.1)) = (⟨#[]⟩, 0)) ∨ (1 ≤ (standsB (bodyE (r.map (·.1)))).size ∧ takeE ((((38 : UInt8), o) :: r).map (·.1)) = (standsB (bodyE (r.map (·.1))), (bodyE (r.map (·.1))).length + 2))) := by
          show _ ∨ _
          exact takeE_amp hb'
        have HBT : Hid ((r.take (bodyE (r.map (·.1))).length).map (·.1) = bodyE (r.map (·.1))) := by
          show _ = _
          rw [List.map_take, bodyE_take hb']
        have HLB : Hid (Lies w w.heap.size (some (ad.add 2)) (chCells (r.take (bodyE (r.map (·.1))).length))) := by
          show Lies _ _ _ _
          rw [chCells_take]
          refine Lies.take ?_ _
          have h := hl.drop 2
          rw [show ((chCells (((38 : UInt8), o) :: r)).drop 2) = chCells r from rfl] at h
          exact h
        have HBL : Hid ((r.take (bodyE (r.map (·.1))).length).length = (bodyE (r.map (·.1))).length) := by show _ = _; rw [List.length_take]; omega
        clear hl hn hb'
        generalize hbd : bodyE (r.map (·.1)) = b at *
        generalize hm : b.length = m at *
        have HM := Lib.hid hm
        clear hbd hm
        have h1c : ¬ c = 1 := by omega
        have h1cb : (c == 1) = false := by rw [beq_eq_false_iff_ne]; exact h1c
        have hm0 : ¬ ((m : Int) + 1 < 0) := by omega
        have hmn : (m : Int) + 1 ≤ (n : Int) := by omega
        have hmc : (m : Int) + 1 ≤ (c : Int) := by omega
        have hm1 : (1 : Int) ≤ (m : Int) + 1 := by omega
        go_enter Tryz.func50, Tryz.ntmps50
        go_wp2_with fail
        refine (refIndex_any (some ad) n c (((38 : UInt8), o) :: r) ⟨#[59]⟩ 0 _ HL.out HN.out hn2 (by decide)).mono ?_
        rintro e w1 ⟨rfl, hb1⟩
        rw [show (⟨#[59]⟩ : ByteArray).data.toList = [59] from rfl, HFI.out]
        have HLB1 := Lib.hid (HLB.out.below hb1)
        go_wp2_with fail
        refine (refText_any (some (ad.add 2)) m (c - 1) (r.take m) _ (HLB1.out.mono hb1.size) HBL.out (by omega)).mono ?_
        rw [HBT.out]
        rintro e w2 ⟨rfl, hb2⟩
        have hbz : (⟨b.toArray⟩ : ByteArray).size ≤ 4294967296 := by
          show b.length ≤ _
          rw [HM.out]; omega
        have HST : Hid (∀ W, Calls Tryz.prog 73 #[.string ⟨b.toArray⟩] W fun e w' => e = .returned (.string (standsB b)) ∧ Below W.heap.size W w') := fun W => refStands_any ⟨b.toArray⟩ hbz W
        clear hbz
        generalize (⟨b.toArray⟩ : ByteArray) = bb at *
        generalize standsB b = q at *
        go_wp2_with fail
        refine (HST.out _).mono ?_
        rintro e w3 ⟨rfl, hb3⟩
        have hbf : Below w.heap.size w w3 := below_next (below_next hb1 (Nat.le_refl _) hb2) (Nat.le_refl _) hb3
        have hql : q.data.toList.length = q.size := by rw [Array.length_toList]; rfl
        have hqe : q.toList = q.data.toList := ByteArray.toList_eq ..
        rcases HTK.out with ⟨hz, ht⟩ | ⟨hz, ht⟩
        · have he : (q.toList == []) = true := by
            rw [hqe, List.eq_nil_of_length_eq_zero (l := q.data.toList) (by omega)]; rfl
          have HR := Lib.hid ht
          clear ht hql hqe
          go_wp2_with fail
          go_ret2
          exact ⟨by rw [HR.out]; rfl, hbf⟩
        · have he : (q.toList == []) = false := by
            rw [hqe]
            cases hl : q.data.toList with
            | nil => rw [hl] at hql; simp at hql; omega
            | cons a b => rfl
          have HR := Lib.hid ht
          clear ht hql hqe
          go_wp2_with fail
          go_ret2
          exact ⟨by rw [HR.out]; exact ret_si (by omega), hbf⟩
      · rw [if_neg hb] at HFI
        have HR : Hid (takeE ((((38 : UInt8), o) :: r).map (·.1)) = (⟨#[]⟩, 0)) := takeE_open (by rw [List.length_map]; exact hb)
        clear hl hn hsm hb
        go_enter Tryz.func50, Tryz.ntmps50
        go_wp2_with fail
        refine (refIndex_any (some ad) n c (((38 : UInt8), o) :: r) ⟨#[59]⟩ 0 _ HL.out HN.out hn2 (by decide)).mono ?_
        rintro e w1 ⟨rfl, hb1⟩
        rw [show (⟨#[59]⟩ : ByteArray).data.toList = [59] from rfl, HFI.out]
        go_wp2_with fail
        go_ret2
        exact ⟨by rw [HR.out]; rfl, hb1⟩
    · have HR : Hid (takeE (((x, o) :: r).map (·.1)) = (⟨#[]⟩, 0)) := takeE_no hx
      have hx2 : ((x.toNat : Int) != 38) = true := by
        rw [bne_iff_ne]
        intro e
        exact hx (UInt8.toNat_inj.1 (by have : (38 : UInt8).toNat = 38 := rfl; omega))
      clear hx hl hn
      go_enter Tryz.func50, Tryz.ntmps50
      go_wp2_with fail
      go_ret2
      exact ⟨by rw [HR.out]; rfl, Below.refl _ _⟩

end Go.Proofs.YtdiifkmcbnhliaaGreat.mk

namespace Go.Proofs.YtdiifkmcbnhliaaGreat.mk
open Go.RowKit

theorem lowL_lowCh (l : Ch) : lowL l = lowCh l := rfl
theorem lowCh_length (l : Ch) : (lowCh l).length = l.length := lowL_length l
theorem endsT_none {l : Ch} {name : List UInt8} (h : l.length ≤ name.length + 2) : endsT l name = false := by
  unfold endsT
  rw [List.getElem?_eq_none h]
theorem endsT_some {l : Ch} {name : List UInt8} {c : UInt8 × Int} (h : l[name.length + 2]? = some c) : endsT l name = ((spcB c.1 || (c.1 == 47 || c.1 == 62)) && ((lowL (l.take (name.length + 2))).map (·.1) == [60, 47] ++ name)) := by
  unfold endsT
  rw [h]
theorem str_slash (s : ByteArray) : ((⟨#[60, 47]⟩ : ByteArray) ++ s).toList = [60, 47] ++ s.data.toList := by
  rw [ByteArray.toList_eq, ByteArray.data_append, Array.toList_append]

set_option maxHeartbeats 2000000 in
set_option maxRecDepth 100000 in
theorem refEnds_any (A : Option Addr) (n c : Nat) (l : Ch) (s : ByteArray) (w : World) (hl : Lies w w.heap.size A (chCells l)) (hn : l.length = n) (hnc : n ≤ c) (hs : s.size ≤ 268435456) :
    Calls Tryz.prog 30 #[.slice A n c, .string s] w fun e w' => e = .returned (.bool (endsT l s.data.toList)) ∧ Below w.heap.size w w' := by
  have hsl : s.data.toList.length = s.size := by rw [Array.length_toList]; rfl
  by_cases hk : n ≤ s.size + 2
  · have HV := Lib.hid (endsT_none (l := l) (name := s.data.toList) (by rw [hsl, hn]; exact hk))
    clear hl hsl hn
    have hk2 : (n : Int) ≤ (s.size : Int) + 2 := by omega
    go_enter Tryz.func30, Tryz.ntmps30
    go_wp2_with fail
    go_ret
    exact ⟨ret_bool' (by rw [HV.out]), Below.refl _ _⟩
  · obtain ⟨ad, b, o, rfl, hb0, hc1, hc2, HR⟩ := hl.ch (k := s.size + 2) (by omega)
    have HV := Lib.hid (endsT_some (l := l) (name := s.data.toList) (c := (b, o)) (by rw [hsl]; exact HR.out))
    have HS := Lib.hid (refSpace_any b)
    have HLT : Hid (Lies w w.heap.size (some ad) (chCells (l.take (s.size + 2)))) := by show Lies _ _ _ _; rw [chCells_take]; exact hl.take _
    have HTL : Hid ((l.take (s.size + 2)).length = s.size + 2) := by show _ = _; rw [List.length_take]; omega
    have HSL := Lib.hid hsl
    have hk2 : ¬ (n : Int) ≤ (s.size : Int) + 2 := by omega
    have hk3 : (s.size : Int) + 2 < (n : Int) := by omega
    clear hsl hl hn HR
    have e47 : ((b.toNat : Int) == 47) = (b == 47) := byte_beq b 47
    have e62 : ((b.toNat : Int) == 62) = (b == 62) := byte_beq b 62
    have h3 : Hid (((b.toNat : Int) != 47 && (b.toNat : Int) != 62) = (!(b == 47) && !(b == 62))) := by
      show _ = _
      unfold bne
      rw [e47, e62]
    generalize (b == 47) = q47 at *
    generalize (b == 62) = q62 at *
    generalize spcB b = sp at *
    go_enter Tryz.func30, Tryz.ntmps30
    cases sp <;> cases q47 <;> cases q62
    all_goals
      first | have g3 : ((b.toNat : Int) != 47 && (b.toNat : Int) != 62) = true := h3.out | have g3 : ((b.toNat : Int) != 47 && (b.toNat : Int) != 62) = false := h3.out
      go_wp2_with fail
      refine (HS.out _).mono ?_
      rintro e w' ⟨rfl, rfl⟩
      go_wp2_with fail
      all_goals first
        | (go_ret
           exact ⟨ret_bool' (by rw [HV.out]; rfl), Below.refl _ _⟩)
        | (exfalso
           first | exact (beq_eq_false_iff_ne.1 e47) ‹_› | exact (beq_eq_false_iff_ne.1 e62) ‹_›)
        | (refine (refLower_any (some ad) (s.size + 2) c (l.take (s.size + 2)) _ HLT.out HTL.out (by omega)).mono ?_
           rintro e w1 ⟨v1, rfl, ho1, hb1⟩
           rw [lowCh_length, HTL.out] at ho1
           obtain ⟨A1, c1, rfl, hA1, _, _⟩ := own_form ho1
           go_wp2_with fail
           refine (refText_any A1 (s.size + 2) c1 (lowCh (l.take (s.size + 2))) _ (Lies.own ho1) (by rw [lowCh_length, HTL.out]) (by omega)).mono ?_
           rintro e w2 ⟨rfl, hb2⟩
           go_wp2_with fail
           go_ret
           refine ⟨ret_bool' ?_, hb1.trans (hb2.mono hb1.size)⟩
           rw [HV.out, HSL.out, str_slash]
           rfl)

end Go.Proofs.YtdiifkmcbnhliaaGreat.mk

namespace Go.Proofs.YtdiifkmcbnhliaaGreat.mk
open Go.RowKit

/-- a row of bytes with origins, as it lies -/
structure RW where
  A : Option Addr
  n : Nat
  c : Nat
  ch : Ch
/-- an attribute of the reference -/
structure RA where
  nm : RW
  vl : RW
def RW.ok (w : World) (B : Nat) (r : RW) : Prop := Lies w B r.A (chCells r.ch) ∧ r.ch.length = r.n ∧ r.n ≤ r.c ∧ (r.A = none → r.c = 0) ∧ r.n ≤ 268435456
def RA.ok (w : World) (B : Nat) (a : RA) : Prop := a.nm.ok w B ∧ a.vl.ok w B
def RW.v (r : RW) : Value := .slice r.A r.n r.c
def RA.pa (a : RA) : PA := (a.nm.ch, a.vl.ch)
def raRow (a : RA) : List Value := [.slice a.nm.A a.nm.n a.nm.c, .slice a.vl.A a.vl.n a.vl.c]
def raCells (rs : List RA) : List Value := rs.flatMap raRow
theorem raCells_snoc (rs : List RA) (a : RA) : raCells (rs ++ [a]) = raCells rs ++ raRow a := by unfold raCells; rw [List.flatMap_append]; simp
theorem raCells_length (rs : List RA) : (raCells rs).length = rs.length * 2 := by
  induction rs with
  | nil => rfl
  | cons a rs ih =>
    show (raRow a ++ raCells rs).length = _
    rw [List.length_append, ih, List.length_cons]
    show 2 + _ = _
    omega
theorem raCells_at (rs : List RA) : ∀ (k : Nat) (a : RA), rs[k]? = some a → ∀ j, j < 2 → (raCells rs)[k * 2 + j]? = (raRow a)[j]? := by
  induction rs with
  | nil => intro k a h; simp at h
  | cons b rs ih =>
    intro k a h j hj
    show (raRow b ++ raCells rs)[k * 2 + j]? = _
    cases k with
    | zero =>
      simp at h
      subst h
      rw [List.getElem?_append_left (by show 0 * 2 + j < 2; omega), Nat.zero_mul, Nat.zero_add]
    | succ k =>
      rw [List.getElem?_append_right (by show 2 ≤ _; omega), show (k + 1) * 2 + j - (raRow b).length = k * 2 + j by show _ - 2 = _; omega]
      exact ih k a (by simpa using h) j hj
theorem RW.ok.below {w w' : World} {B : Nat} {r : RW} (h : r.ok w B) (hb : Below B w w') : r.ok w' B := ⟨h.1.below hb, h.2⟩
theorem RA.ok.below {w w' : World} {B : Nat} {a : RA} (h : a.ok w B) (hb : Below B w w') : a.ok w' B := ⟨h.1.below hb, h.2.below hb⟩
theorem Lies.ra {w : World} {B : Nat} {A : Option Addr} {rs : List RA} (h : Lies w B A (raCells rs)) {k : Nat} (hk : k < rs.length) :
    ∃ ad a, A = some ad ∧ ad.block < B ∧ w.cell? (ad.add (k * 2)) = some (.slice a.nm.A a.nm.n a.nm.c) ∧ w.cell? ⟨(ad.add (k * 2)).block, (ad.add (k * 2)).off + 1, none⟩ = some (.slice a.vl.A a.vl.n a.vl.c) ∧ Hid (rs[k]? = some a) := by
  have ht : rs[k]? = some rs[k] := List.getElem?_eq_getElem hk
  generalize rs[k] = a at ht
  obtain ⟨ad, e, hb, h0⟩ := h (k * 2) _ (by rw [show k * 2 = k * 2 + 0 from rfl, raCells_at rs k a ht 0 (by omega)]; rfl)
  subst e
  obtain ⟨ad', e, _, h1⟩ := h (k * 2 + 1) _ (by rw [raCells_at rs k a ht 1 (by omega)]; rfl)
  injection e with e
  subst e
  exact ⟨ad, a, rfl, hb, h0, by rw [← addr_next]; exact h1, ht⟩
theorem ra_info : (Tryz.prog.info? 75).map (fun i => (i.zero, i.size, i.bytes)) = some (some (.agg #[.slice none 0 0, .slice none 0 0]), 2, 48) := by kernel_rfl

def putR (rs : List RA) (a : RA) : List RA := if rs.any fun r => nmB r.pa == nmB a.pa then rs else rs ++ [a]
theorem putR_pa (rs : List RA) (a : RA) : (putR rs a).map RA.pa = putT (rs.map RA.pa) a.pa := by
  unfold putR putT
  rw [List.any_map]
  by_cases h : (rs.any fun r => nmB r.pa == nmB a.pa) = true
  · rw [if_pos h, if_pos (by exact h)]
  · rw [if_neg h, if_neg (by exact h), List.map_append]; rfl

end Go.Proofs.YtdiifkmcbnhliaaGreat.mk

namespace Go.Proofs.YtdiifkmcbnhliaaGreat.mk
open Go.RowKit

/-- of a row of the call's own: what another row of its own may be behind it -/
def Grows (w w' : World) (v v' : Value) : Prop := Moved (fun g => v.ownBlock = some g) w w' ∧ (v'.ownBlock = v.ownBlock ∨ ∀ g, v'.ownBlock = some g → w.heap.size ≤ g)
def RPutRel (rs : List RA) (a : RA) (n B : Nat) (w0 : World) (i : Value) (wr : World) : Prop :=
  ∃ k : Nat, k ≤ n ∧ i = .int .i64 (k : Int) ∧ (∀ j r, j < k → rs[j]? = some r → nmB r.pa ≠ nmB a.pa) ∧ Below B w0 wr

set_option maxHeartbeats 2000000 in
set_option maxRecDepth 100000 in
theorem refPut13_any (base n : Nat) (v : Value) (rs : List RA) (a : RA) (w : World) (hB : base ≤ w.heap.size) (hown : w.ownsRow base 75 2 v n (raCells rs)) (hn : rs.length = n) (hn2 : n ≤ 268435456) (hr : ∀ r ∈ rs, r.ok w w.heap.size) (ha : a.ok w w.heap.size) :
    Calls Tryz.prog 65 #[v, .agg #[a.nm.v, a.vl.v]] w fun e w' => ∃ v', e = .returned v' ∧ w'.ownsRow base 75 2 v' (putR rs a).length (raCells (putR rs a)) ∧ Grows w w' v v' := by
  obtain ⟨i0, hi, hz0, hz1, hz2⟩ := info_parts ra_info
  obtain ⟨A, c, rfl, hA, _, _⟩ := own_form hown
  obtain ⟨⟨hna, hnn, hnc, hnA, hnz⟩, hav⟩ := ha
  have HN := Lib.hid hn
  have HL := Lib.hid (Lies.own hown)
  have HO := Lib.hid hown
  have HR := Lib.hid hr
  have HNA := Lib.hid hna
  clear hn hown hr hna
  show Calls Tryz.prog 65 #[.slice A n c, .agg #[.slice a.nm.A a.nm.n a.nm.c, .slice a.vl.A a.vl.n a.vl.c]] w _
  go_enter Tryz.func65, Tryz.ntmps65
  go_wp2_with fail
  go_loopw [5] (RPutRel rs a n (w.heap.size + 1) (w.alloc (.cells #[.slice a.nm.A a.nm.n a.nm.c, .slice a.vl.A a.vl.n a.vl.c] 75))) (fun i _ => n - (intOf i).toNat)
  case atStart => exact ⟨0, Nat.zero_le _, rfl, fun j r h => by omega, Below.refl _ _⟩
  case round =>
    obtain ⟨k, hk, rfl, hno, hbl⟩ := hrel
    have HNO := Lib.hid hno
    have HBL := Lib.hid hbl
    have hws := hbl.size
    have hb0 : Below w.heap.size w wr := ((Below.refl _ _).alloc (Nat.le_refl _) _).trans (hbl.mono (by omega))
    have HB0 := Lib.hid hb0
    have hws0 := hb0.size
    clear hno hbl hb0
    have hbx : Whole wr w.heap.size 75 #[.slice a.nm.A a.nm.n a.nm.c, .slice a.vl.A a.vl.n a.vl.c] := (Whole.made w _ _).below HBL.out (by omega)
    by_cases hlt : k < n
    · obtain ⟨ad, r, rfl, hb, hc1, hc2, HRK⟩ := (HL.out.below HB0.out).ra (k := k) (by rw [HN.out]; exact hlt)
      have hk0 : (0 : Int) ≤ (k : Int) := Int.natCast_nonneg _
      have hk1 : (k : Int) < (n : Int) := by omega
      obtain ⟨⟨hra, hrn, hrc, hrA, hrz⟩, hrv⟩ := HR.out r (List.mem_of_getElem? HRK.out)
      have KS : ∀ w' : World, Below wr.heap.size wr w' → w'.cell? (ad.add (k * 2)) = some (.slice r.nm.A r.nm.n r.nm.c) ∧ w'.cell? ⟨w.heap.size, 0, none⟩ = some (.slice a.nm.A a.nm.n a.nm.c) ∧ Below wr.heap.size wr w' :=
        fun w' h => ⟨by rw [h.cell (by rw [addr_block]; omega)]; exact hc1, (hbx.below h hbx.lt).at_ 0, h⟩
      have HKS := Lib.hid KS
      have HR1 : Hid (∀ w', Below wr.heap.size wr w' → Calls Tryz.prog 29 #[.slice r.nm.A r.nm.n r.nm.c] w' fun e w'' => e = .returned (.string ⟨(r.nm.ch.map (·.1)).toArray⟩) ∧ Below w'.heap.size w' w'') :=
        fun w' h => refText_any r.nm.A r.nm.n r.nm.c r.nm.ch w' (((hra.below HB0.out).mono hws0).next h (Nat.le_refl _)) hrn (by omega)
      have HR2 : Hid (∀ w', Below wr.heap.size wr w' → Calls Tryz.prog 29 #[.slice a.nm.A a.nm.n a.nm.c] w' fun e w'' => e = .returned (.string ⟨(a.nm.ch.map (·.1)).toArray⟩) ∧ Below w'.heap.size w' w'') :=
        fun w' h => refText_any a.nm.A a.nm.n a.nm.c a.nm.ch w' (((HNA.out.below HB0.out).mono hws0).next h (Nat.le_refl _)) hnn (by omega)
      have hbxl := hbx.lt
      clear KS hbx hra hrv hc2
      have key : ∀ x y : List UInt8, ((⟨x.toArray⟩ : ByteArray).toList == (⟨y.toArray⟩ : ByteArray).toList) = (x == y) := fun x y => by rw [ByteArray.toList_mk, ByteArray.toList_mk]
      have KEY := Lib.hid key
      clear key
      go_wp2_with fail
      go_region_held3 (fun w' => w'.cell? (ad.add (k * 2)) = some (.slice r.nm.A r.nm.n r.nm.c) ∧ w'.cell? ⟨w.heap.size, 0, none⟩ = some (.slice a.nm.A a.nm.n a.nm.c) ∧ Below wr.heap.size wr w')
        (first
          | exact HKS.out _ (Below.drew (Below.refl _ _))
          | exact HKS.out _ hK
          | (go_split_ands; exact HKS.out _ (by assumption)))
        (first
          | (go_at_call_of 29 (r.nm.A); refine (HR1.out _ ?_).mono ?_; (go_split_ands; assumption); rintro e wa1 ⟨rfl, hb1⟩; have hK : Below wr.heap.size wr wa1 := (by go_split_ands; exact below_next (by assumption) (Nat.le_refl _) hb1))
          | (go_at_call_of 29 (a.nm.A); refine (HR2.out _ ?_).mono ?_; (go_split_ands; assumption); rintro e wa2 ⟨rfl, hb2⟩; have hK : Below wr.heap.size wr wa2 := (by go_split_ands; exact below_next (by assumption) (Nat.le_refl _) hb2)))
      all_goals
        have HK := Lib.hid hK
        have HKB : Hid (Below w.heap.size w wa2) := HB0.out.trans (hK.mono hws0)
        have HLK : Hid (Below (w.heap.size + 1) (w.alloc (.cells #[.slice a.nm.A a.nm.n a.nm.c, .slice a.vl.A a.vl.n a.vl.c] 75)) wa2) := HBL.out.trans (hK.mono hbxl)
        clear hK
        cases hq : (r.nm.ch.map (·.1) == a.nm.ch.map (·.1)) with
        | true =>
          have HP : Hid (putR rs a = rs) := by
            show _ = _
            unfold putR
            rw [if_pos (List.any_eq_true.2 ⟨r, List.mem_of_getElem? HRK.out, hq⟩)]
          go_wp2_with fail
          go_ret
          refine ⟨_, rfl, ?_, ?_, Or.inl rfl⟩
          · rw [HP.out, HN.out]; exact own_keep HO.out HKB.out
          · exact Moved.of_below HKB.out
        | false =>
          have HNX : Hid (∀ j r', j < k + 1 → rs[j]? = some r' → nmB r'.pa ≠ nmB a.pa) := by
            intro j r' hj hr'
            rcases Nat.lt_or_ge j k with h | h
            · exact HNO.out j r' h hr'
            · obtain rfl : j = k := by omega
              rw [HRK.out] at hr'
              injection hr' with hr'
              subst hr'
              exact beq_eq_false_iff_ne.1 hq
          go_wp2_with fail
          go_roundw
          case rel => exact ⟨k + 1, by omega, by go_num, HNX.out, HLK.out⟩
          case measure => simp [intOf]; omega
    · obtain rfl : k = n := by omega
      have HP : Hid (putR rs a = rs ++ [a]) := by
        show _ = _
        unfold putR
        rw [if_neg]
        intro h
        obtain ⟨r, hr, hq⟩ := List.any_eq_true.1 h
        obtain ⟨j, hj⟩ := List.mem_iff_getElem?.1 hr
        exact HNO.out j r (by have := (List.getElem?_eq_some_iff.1 hj).1; rw [HN.out] at this; exact this) hj (beq_iff_eq.1 hq)
      have b0 := hbx.at_ 0
      have b1 := hbx.at_ 1
      simp only [List.getElem?_toArray, List.getElem?_cons_zero, List.getElem?_cons_succ] at b0 b1
      have hown4 := Lib.hid (own_keep HO.out HB0.out)
      clear hbx
      go_wp2_with (at_builtin; refine wpList_append_own_at _ rfl _ _ 37 rfl base 75 i0 _ 2 48 Tryz.underlying37 hi hz0 hz1 hz2 rfl (by decide) (.slice A k c) k _ rfl (hown4.out.alloc _) ⟨wr.heap.size, 0, none⟩ 1 1 (raRow a) rfl rfl (cells_new wr _ _) (by simp [Value.oneCell', raRow]) (by simp only [maxLen]; omega) (by omega) (by simp; omega) ?_)
      intro v1 w1 hown1 hgrow _ hblk
      have HB1 := Lib.hid (HB0.out.alloc hws0 (.cells (raRow a).toArray 75))
      have HIN : Hid (w1.ownsRow base 75 2 v1 (putR rs a).length (raCells (putR rs a)) ∧ Grows w w1 (.slice A k c) v1) := by
        show _ ∧ _
        rw [HP.out, List.length_append, HN.out, raCells_snoc]
        refine ⟨hown1, ?_, ?_⟩
        · exact ⟨hgrow.os.trans HB1.out.os, hgrow.tape.trans HB1.out.tape, hgrow.output.trans HB1.out.output, Nat.le_trans HB1.out.size hgrow.size, fun g hg hs => (hgrow.block g (Nat.lt_of_lt_of_le hg HB1.out.size) (fun e => hs e.symm)).trans (HB1.out.block g hg)⟩
        · rcases hblk with h | h
          · exact Or.inl h
          · exact Or.inr fun g hg => by rw [h] at hg; injection hg; omega
      clear hgrow hown1 hblk
      go_wp2_with fail
      go_ret
      exact ⟨v1, rfl, HIN.out.1, HIN.out.2⟩

end Go.Proofs.YtdiifkmcbnhliaaGreat.mk

namespace Go.Proofs.YtdiifkmcbnhliaaGreat.mk
open Go.RowKit

theorem putE_all {o : Int} (p : List UInt8) (h : 0 ≤ o ∧ o ≤ 65536) : allCh p o = putE p o := by
  unfold allCh putE
  rw [nearO_in h.1 h.2]
def RDecRel (L : List (UInt8 × Int)) (B : Nat) (w0 : World) (v0 v3 : Value) (wr : World) : Prop :=
  ∃ (j : Nat) (A : Option Addr) (k c : Nat) (out : List (UInt8 × Int)), v0 = .slice A k c ∧ k + j = L.length ∧ (A = none → c = 0) ∧ k ≤ c ∧ Lies wr B A (chCells (L.drop j)) ∧ decE L = out ++ decE (L.drop j) ∧ wr.ownsRow B 65 2 v3 out.length (chCells out) ∧ Below B w0 wr

set_option maxHeartbeats 2000000 in
set_option maxRecDepth 100000 in
theorem refDecode_any (A : Option Addr) (n c : Nat) (L : List (UInt8 × Int)) (w : World) (hl : Lies w w.heap.size A (chCells L)) (hn : L.length = n) (hA : A = none → c = 0) (hnc : n ≤ c) (hin : InR L) (hn2 : n ≤ 268435456) :
    Calls Tryz.prog 27 #[.slice A n c] w fun e w' => ∃ v, e = .returned v ∧ w'.ownsRow w.heap.size 65 2 v (decE L).length (chCells (decE L)) ∧ Below w.heap.size w w' := by
  obtain ⟨i0, hi, hz0, hz1, hz2⟩ := info_parts ch_info
  have HN := Lib.hid hn
  have hrl := decE_len L
  rw [hn] at hrl
  clear hn
  go_enter Tryz.func27, Tryz.ntmps27
  go_wp2_with fail
  go_loopw [0, 3] (RDecRel L w.heap.size w) (fun v _ _ => sliceLen v)
  case atStart => exact ⟨0, A, n, c, [], rfl, by rw [HN.out]; rfl, hA, hnc, hl, by simp, by simpa [chCells] using World.ownsRow_nil _ _ _ _, Below.refl _ _⟩
  case round =>
    obtain ⟨j, A', k, c', out, rfl, hkj, hA', hkc, hl', hrep, hown, hbl⟩ := hrel
    rw [HN.out] at hkj
    have hws := hbl.size
    have HREP := Lib.hid hrep
    have hol : out.length ≤ n := by rw [hrep, List.length_append] at hrl; omega
    obtain ⟨A3, d3, rfl, _, _, _⟩ := own_form hown
    have hkj1 : k + j ≤ n := by omega
    have hlen : (L.drop j).length = k := by rw [List.length_drop, HN.out]; omega
    have HLEN := Lib.hid hlen
    have HKJ := Lib.hid hkj
    clear hrep hkj hlen
    by_cases hk : 0 < k
    · cases A' with
      | none => have := hA' rfl; omega
      | some ad =>
        go_wp2_with fail
        refine (refEntTake_any (some ad) k c' (L.drop j) _ (hl'.mono hws) HLEN.out hkc (by omega)).mono ?_
        cases hr : refer ((L.drop j).map (·.1)) with
        | none =>
          rw [takeE_none hr]
          rintro e w2 ⟨rfl, hb2⟩
          have hbl2 := hbl.trans (hb2.mono hws)
          obtain ⟨ad', b, o, e', hbk, hc1, hc2, HR⟩ := (hl'.below (hb2.mono hws)).ch (k := 0) (by rw [HLEN.out]; exact hk)
          injection e' with e'
          subst e'
          simp only [Nat.zero_mul] at hc1 hc2
          rw [show ad.add 0 = ad by unfold Addr.add; rfl] at hc1 hc2
          have hoin : 0 ≤ o := ((hin.drop j) o (List.mem_map.2 ⟨_, List.mem_of_getElem? HR.out, rfl⟩)).1
          have HRP : Hid (decE L = (out ++ [(b, o)]) ++ decE (L.drop (j + 1))) := by show _ = _; rw [HREP.out, decE_one HR.out hoin hr, List.drop_drop, List.append_assoc]
          have HLD : Hid (c' ≠ 1 → Lies wr w.heap.size (some (ad.add (1 * 2))) (chCells (L.drop (j + 1)))) := fun _ => by rw [← List.drop_drop, chCells_drop]; exact hl'.drop _
          have HLE : Hid (c' = 1 → L.drop (j + 1) = []) := fun h => List.drop_of_length_le (by rw [HN.out]; have := HKJ.out; omega)
          have HOW := Lib.hid (own_keep hown hb2)
          have hz2' := hb2.size
          generalize hz : out.length = z at *
          have HZ := Lib.hid hz
          clear hz hown hr
          have hk1 : (1 : Int) ≤ (k : Int) := by omega
          have hk2 : (0 : Int) < (k : Int) := by omega
          go_wp2_with (at_builtin; refine wpList_append_own_at _ rfl _ _ 31 rfl w.heap.size 65 i0 _ 2 16 Tryz.underlying31 hi hz0 hz1 hz2 rfl (by decide) (.slice A3 z d3) z _ rfl (HOW.out.alloc _) ⟨w2.heap.size, 0, none⟩ 1 1 [.int .u8 b.toNat, .int .i64 o] rfl rfl (cells_new w2 _ _) (by simp [Value.oneCell']) (by simp only [maxLen]; omega) (by omega) (by simp; omega) ?_)
          intro v1 w1 hown1 hgrow _ _
          have hbl1' : Below w.heap.size wr w1 := ((hb2.mono hws).alloc (by omega) _).grown hgrow (by simp; omega) (fun x hx => (HOW.out.lt x hx).1)
          have hbl1 := hbl.trans hbl1'
          clear hgrow hbl2
          by_cases hcm : c' = 1
          · subst hcm
            have hkm : k = 1 := by omega
            subst hkm
            go_wp2_with fail
            go_roundw
            case rel => exact ⟨j + 1, _, 0, 0, out ++ [(b, o)], rfl, by have := HKJ.out; rw [HN.out]; omega, (fun h => by cases h), Nat.le_refl _, by rw [HLE.out rfl]; exact Lies.empty _ _ _, HRP.out, by rw [List.length_append, HZ.out, chCells_snoc]; exact hown1, hbl1⟩
            case measure => simp [sliceLen]
          · have hcm2 : (c' == 1) = false := by rw [beq_eq_false_iff_ne]; exact hcm
            go_wp2_with fail
            go_roundw
            case rel => exact ⟨j + 1, _, k - 1, c' - 1, out ++ [(b, o)], rfl, by have := HKJ.out; rw [HN.out]; omega, (fun h => by cases h), by omega, (HLD.out hcm).below hbl1', HRP.out, by rw [List.length_append, HZ.out, chCells_snoc]; exact hown1, hbl1⟩
            case measure => simp [sliceLen]; omega
        | some p =>
          obtain ⟨v, m⟩ := p
          rw [takeE_some hr]
          rintro e w2 ⟨rfl, hb2⟩
          have hrb := refer_bd hr
          rw [List.length_map, HLEN.out] at hrb
          obtain ⟨hm4, hb2k⟩ := hrb
          have hbl2 := hbl.trans (hb2.mono hws)
          have hm0 : (0 : Int) ≤ (m : Int) := Int.natCast_nonneg _
          have hmz : ((m : Int) == 0) = false := by rw [beq_eq_false_iff_ne]; omega
          have hmk : (m : Int) ≤ (k : Int) := by omega
          have hmc : (m : Int) ≤ (c' : Int) := by omega
          have hmc' : m ≤ c' := by omega
          have HDL : Hid (((L.drop j).drop m) = L.drop (j + m)) := by show _ = _; rw [List.drop_drop]
          have HTL : Hid (((L.drop j).take m).length = m) := by show _ = _; rw [List.length_take, HLEN.out]; omega
          have HLD : Hid (c' ≠ m → Lies wr w.heap.size (some (ad.add (m * 2))) (chCells (L.drop (j + m)))) := fun _ => by rw [← List.drop_drop, chCells_drop]; exact hl'.drop _
          have HLE : Hid (c' = m → L.drop (j + m) = []) := fun h => List.drop_of_length_le (by rw [HN.out]; have := HKJ.out; omega)
          have HLK : Hid (Lies w2 w.heap.size (some ad) (chCells ((L.drop j).take m))) := by show Lies _ _ _ _; rw [chCells_take]; exact (hl'.below (hb2.mono hws)).take _
          have HOW := Lib.hid (own_keep hown hb2)
          have hoin : 0 ≤ worstO (((L.drop j).take m).map (·.2)) ∧ worstO (((L.drop j).take m).map (·.2)) ≤ 65536 := worstO_in ((hin.drop j).take m)
          have HRP : Hid (decE L = (out ++ putE (numB v).data.toList (worstO (((L.drop j).take m).map (·.2)))) ++ decE (L.drop (j + m))) := by show _ = _; rw [HREP.out, decE_ref hr, HDL.out, List.append_assoc]
          have hz2' := hb2.size
          have hnz := numB_le v
          generalize hz : out.length = z at *
          have HZ := Lib.hid hz
          clear hz hown hr
          generalize numB v = nb at *
          have hnl : nb.data.toList.length = nb.size := by rw [Array.length_toList]; rfl
          have HNL := Lib.hid hnl
          clear hnl
          go_wp2_with fail
          refine (refWorst_any (some ad) m c' ((L.drop j).take m) _ (HLK.out.mono (by omega)) HTL.out (by omega)).mono ?_
          rintro e w' ⟨rfl, rfl⟩
          generalize worstO (((L.drop j).take m).map (·.2)) = o' at *
          go_wp2_with fail
          refine (all_any nb o' _ (by omega)).mono ?_
          rintro e w0 ⟨v0, rfl, hown0, hbl0⟩
          rw [putE_all _ hoin] at hown0
          obtain ⟨A0, c0, rfl, hA0, _, _⟩ := own_form hown0
          have HOW0 := Lib.hid (own_keep HOW.out hbl0)
          have HO0 := Lib.hid hown0
          have hz0' := hbl0.size
          clear hown0
          have s1 := Lib.hid (show (chCells (putE nb.data.toList o')).length = nb.size * 2 by rw [chCells_length, putE_len, HNL.out])
          have s3 : Hid (z + nb.size ≤ maxLen) := by show _ ≤ _; simp only [maxLen]; omega
          have s4 : Hid ((z + nb.size) * 16 ≤ 140737488355328) := by show _ ≤ _; omega
          have s5 : Hid (w.heap.size ≤ w0.heap.size) := by show _ ≤ _; omega
          go_wp2_with (at_builtin; refine wpList_append_src _ rfl _ _ 31 rfl w.heap.size 65 i0 _ 2 16 Tryz.underlying31 hi hz0 hz1 hz2 rfl (by decide) (.slice A3 z d3) z _ rfl HOW0.out w0.heap.size A0 nb.size c0 (chCells (putE nb.data.toList o')) rfl hA0 s1.out (Lies.own HO0.out) (chCells_one' _) s3.out s4.out s5.out ?_)
          intro v1 w1 hown1 hgrow _
          have hbl1' : Below w.heap.size wr w1 := ((hb2.mono hws).trans (hbl0.mono (by omega))).trans ((Below.refl _ _).grown hgrow s5.out (fun x hx => (HOW0.out.lt x hx).1))
          have hbl1 := hbl.trans hbl1'
          clear hgrow
          by_cases hcm : c' = m
          · subst hcm
            have hkm : k = c' := by omega
            subst hkm
            go_wp2_with fail
            go_roundw
            case rel => exact ⟨j + k, _, 0, 0, out ++ putE nb.data.toList o', rfl, by have := HKJ.out; rw [HN.out]; omega, (fun h => by cases h), Nat.le_refl _, by rw [HLE.out rfl]; exact Lies.empty _ _ _, HRP.out, by rw [List.length_append, HZ.out, chCells_append, putE_len, HNL.out]; exact hown1, hbl1⟩
            case measure => simp [sliceLen]; omega
          · have hcm2 : (c' == m) = false := by rw [beq_eq_false_iff_ne]; exact hcm
            go_wp2_with fail
            go_roundw
            case rel => exact ⟨j + m, _, k - m, c' - m, out ++ putE nb.data.toList o', rfl, by have := HKJ.out; rw [HN.out]; omega, (fun h => by cases h), by omega, (HLD.out hcm).below hbl1', HRP.out, by rw [List.length_append, HZ.out, chCells_append, putE_len, HNL.out]; exact hown1, hbl1⟩
            case measure => simp [sliceLen]; omega
    · have hl0 : L.drop j = [] := List.eq_nil_of_length_eq_zero (by rw [HLEN.out]; omega)
      have hout : decE L = out := by rw [HREP.out, hl0, decE_nil, List.append_nil]
      have HOUT := Lib.hid hout
      have hk0 : k = 0 := by omega
      subst hk0
      clear hl0 hout
      have HOW := Lib.hid hown
      generalize hz : out.length = z at *
      clear hown
      go_wp2_with fail
      go_ret
      exact ⟨_, rfl, by rw [HOUT.out]; rw [hz]; exact HOW.out, hbl⟩

end Go.Proofs.YtdiifkmcbnhliaaGreat.mk

namespace Go.Proofs.YtdiifkmcbnhliaaGreat.mk
open Go.RowKit

def RW.own (w : World) (base : Nat) (r : RW) : Prop := r.ch.length = r.n ∧ r.n ≤ 268435456 ∧ w.ownsRow base 65 2 (.slice r.A r.n r.c) r.n (chCells r.ch)
def RA.own (w : World) (base : Nat) (a : RA) : Prop := a.nm.own w base ∧ a.vl.own w base
theorem RW.own.ok {w : World} {base : Nat} {r : RW} (h : r.own w base) : r.ok w w.heap.size := by
  obtain ⟨A, c, e, hA, _, hc⟩ := own_form h.2.2
  injection e with e1 _ e3
  exact ⟨Lies.own h.2.2, h.1, by rw [e3]; exact hc, fun h0 => by rw [e3]; exact hA (by rw [← e1]; exact h0), h.2.1⟩
theorem RA.own.ok {w : World} {base : Nat} {a : RA} (h : a.own w base) : a.ok w w.heap.size := ⟨h.1.ok, h.2.ok⟩
theorem RW.own.below {w w' : World} {base : Nat} {r : RW} (h : r.own w base) (hb : Below w.heap.size w w') : r.own w' base := ⟨h.1, h.2.1, own_keep h.2.2 hb⟩
theorem RA.own.below {w w' : World} {base : Nat} {a : RA} (h : a.own w base) (hb : Below w.heap.size w w') : a.own w' base := ⟨h.1.below hb, h.2.below hb⟩
theorem RW.own.grows {w w' : World} {base base' n : Nat} {r : RW} {v v' : Value} {xs : List Value} (h : r.own w base) (hg : Grows w w' v v') (hv : w.ownsRow base' 75 2 v n xs) : r.own w' base := by
  refine ⟨h.1, h.2.1, hg.1.own h.2.2 fun g hg' hs => ?_⟩
  obtain ⟨c1, h1⟩ := own_kind h.2.2 hg'
  obtain ⟨c2, h2⟩ := own_kind hv hs
  rw [h1] at h2
  injection h2 with h2
  injection h2 with _ h2 _
  exact absurd h2 (by decide)
theorem RA.own.grows {w w' : World} {base base' n : Nat} {a : RA} {v v' : Value} {xs : List Value} (h : a.own w base) (hg : Grows w w' v v') (hv : w.ownsRow base' 75 2 v n xs) : a.own w' base := ⟨h.1.grows hg hv, h.2.grows hg hv⟩

set_option maxHeartbeats 2000000 in
set_option maxRecDepth 100000 in
theorem refDone_any (base n : Nat) (v : Value) (rs : List RA) (a : RA) (w : World) (hB : base ≤ w.heap.size) (hown : w.ownsRow base 75 2 v n (raCells rs)) (hn : rs.length = n) (hn2 : n ≤ 268435456) (hr : ∀ r ∈ rs, r.own w base) (ha : a.own w base) (hin : InR a.vl.ch) :
    Calls Tryz.prog 40 #[v, .agg #[.slice a.nm.A a.nm.n a.nm.c, .slice a.vl.A a.vl.n a.vl.c]] w fun e w' => ∃ v' rs', e = .returned v' ∧ w'.ownsRow base 75 2 v' rs'.length (raCells rs') ∧ rs'.map RA.pa = doneT (rs.map RA.pa) a.pa ∧ (∀ r ∈ rs', r.own w' base) ∧ Grows w w' v v' := by
  obtain ⟨A, c, rfl, hA, _, _⟩ := own_form hown
  have hok := ha.ok
  obtain ⟨⟨hna, hnn, hnc, hnA, hnz⟩, ⟨hva, hvn, hvc, hvA, hvz⟩⟩ := hok
  have HO := Lib.hid hown
  have HR := Lib.hid hr
  have HA := Lib.hid ha
  have HNA := Lib.hid hna
  have HVA := Lib.hid hva
  have HNN := Lib.hid hnn
  have HVN := Lib.hid hvn
  have HIN := Lib.hid hin
  have HN := Lib.hid hn
  clear hown hr ha hna hva hin hn hnn hvn
  by_cases hz : a.nm.n = 0
  · have HD : Hid (doneT (rs.map RA.pa) a.pa = rs.map RA.pa) := by
      show _ = _
      unfold doneT
      rw [if_pos (show a.pa.1 = [] from List.length_eq_zero_iff.1 (HNN.out.trans hz))]
    have HB : Hid (∀ o, Below w.heap.size w (w.alloc o)) := fun o => (Below.refl _ _).alloc (Nat.le_refl _) o
    have hz2 : ((a.nm.n : Int) == 0) = true := by rw [hz]; rfl
    go_enter Tryz.func40, Tryz.ntmps40
    go_wp2_with fail
    go_ret
    exact ⟨_, rs, rfl, by rw [HN.out]; exact own_keep HO.out (HB.out _), HD.out.symm, fun r hr => (HR.out r hr).below (HB.out _), Moved.of_below (HB.out _), Or.inl rfl⟩
  · have HD : Hid (doneT (rs.map RA.pa) a.pa = putT (rs.map RA.pa) (lowL a.nm.ch, decE a.vl.ch)) := by
      show _ = _
      unfold doneT
      rw [if_neg]
      · rfl
      · intro h
        exact hz (by rw [← HNN.out]; exact List.length_eq_zero_iff.2 h)
    have hz2 : ((a.nm.n : Int) == 0) = false := by rw [beq_eq_false_iff_ne]; omega
    have hl := decE_len a.vl.ch
    rw [HVN.out] at hl
    have HLN : Hid ((lowCh a.nm.ch).length = a.nm.n) := by show _ = _; rw [show lowCh a.nm.ch = lowL a.nm.ch from rfl, lowL_length, HNN.out]
    go_enter Tryz.func40, Tryz.ntmps40
    go_wp2_with fail
    generalize hw1 : w.alloc (.cells #[.slice a.nm.A a.nm.n a.nm.c, .slice a.vl.A a.vl.n a.vl.c] 75) = w1 at *
    have hbx : Whole w1 w.heap.size 75 #[.slice a.nm.A a.nm.n a.nm.c, .slice a.vl.A a.vl.n a.vl.c] := by rw [← hw1]; exact Whole.made w _ _
    have hb1 : Below w.heap.size w w1 := by rw [← hw1]; exact (Below.refl _ _).alloc (Nat.le_refl _) _
    have hs1 : w1.heap.size = w.heap.size + 1 := by rw [← hw1]; simp
    clear hw1
    have HB1 := Lib.hid hb1
    have HBX := Lib.hid hbx
    have hws := hb1.size
    clear hb1 hbx
    have KS : ∀ w', Below w1.heap.size w1 w' → w'.cell? ⟨w.heap.size, 0, none⟩ = some (.slice a.nm.A a.nm.n a.nm.c) ∧ w'.cell? ⟨w.heap.size, 1, none⟩ = some (.slice a.vl.A a.vl.n a.vl.c) :=
      fun w' h => ⟨(HBX.out.below h HBX.out.lt).at_ 0, (HBX.out.below h HBX.out.lt).at_ 1⟩
    have HKS := Lib.hid KS
    clear KS
    have HLW : Hid (∀ w', Below w1.heap.size w1 w' → Calls Tryz.prog 38 #[.slice a.nm.A a.nm.n a.nm.c] w' fun e w'' => (∃ r : RW, e = .returned (.slice r.A r.n r.c) ∧ r.ch = lowL a.nm.ch ∧ r.own w'' base) ∧ Below w'.heap.size w' w'') := by
      intro w' h
      refine (refLower_any a.nm.A a.nm.n a.nm.c a.nm.ch w' ((HNA.out.next HB1.out (Nat.le_refl _)).next h (Nat.le_refl _)) HNN.out (by omega)).mono ?_
      rintro e w2 ⟨v2, rfl, ho2, hb2⟩
      rw [HLN.out] at ho2
      obtain ⟨A2, c2, rfl, _, _, _⟩ := own_form ho2
      exact ⟨⟨⟨A2, a.nm.n, c2, lowCh a.nm.ch⟩, rfl, rfl, HLN.out, hnz, own_mono ho2 (Nat.le_trans hB (Nat.le_trans hws h.size))⟩, hb2⟩
    have HDE : Hid (∀ w', Below w1.heap.size w1 w' → Calls Tryz.prog 27 #[.slice a.vl.A a.vl.n a.vl.c] w' fun e w'' => (∃ r : RW, e = .returned (.slice r.A r.n r.c) ∧ r.ch = decE a.vl.ch ∧ r.own w'' base) ∧ Below w'.heap.size w' w'') := by
      intro w' h
      refine (refDecode_any a.vl.A a.vl.n a.vl.c a.vl.ch w' ((HVA.out.next HB1.out (Nat.le_refl _)).next h (Nat.le_refl _)) HVN.out hvA hvc HIN.out hvz).mono ?_
      rintro e w2 ⟨v2, rfl, ho2, hb2⟩
      obtain ⟨A2, c2, rfl, _, _, _⟩ := own_form ho2
      exact ⟨⟨⟨A2, (decE a.vl.ch).length, c2, decE a.vl.ch⟩, rfl, rfl, rfl, Nat.le_trans hl hvz, own_mono ho2 (Nat.le_trans hB (Nat.le_trans hws h.size))⟩, hb2⟩
    have HPU : Hid (∀ w' (x y : RW), Below w1.heap.size w1 w' → x.own w' base → y.own w' base → x.ch = lowL a.nm.ch → y.ch = decE a.vl.ch → Calls Tryz.prog 65 #[.slice A n c, .agg #[.slice x.A x.n x.c, .slice y.A y.n y.c]] w' fun e w'' => (∃ v' rs', e = .returned v' ∧ w''.ownsRow base 75 2 v' rs'.length (raCells rs') ∧ rs'.map RA.pa = doneT (rs.map RA.pa) a.pa ∧ (∀ r ∈ rs', r.own w'' base) ∧ Grows w w'' (.slice A n c) v') ∧ w''.cell? ⟨w.heap.size, 0, none⟩ = some (.slice a.nm.A a.nm.n a.nm.c) ∧ w''.cell? ⟨w.heap.size, 1, none⟩ = some (.slice a.vl.A a.vl.n a.vl.c)) := by
      intro w' x y h hx hy hxc hyc
      have hbw := below_next HB1.out (Nat.le_refl _) h
      have hO' := own_keep HO.out hbw
      refine (refPut13_any base n (.slice A n c) rs ⟨x, y⟩ w' (Nat.le_trans hB hbw.size) hO' HN.out hn2 (fun r hr => ((HR.out r hr).below hbw).ok) ⟨hx.ok, hy.ok⟩).mono ?_
      rintro e w2 ⟨v', rfl, ho2, hg⟩
      have hS : ¬ (Value.slice A n c).ownBlock = some w.heap.size := fun e => by have := (HO.out.lt _ e).2; omega
      have hbox := hg.1.whole (HBX.out.below h HBX.out.lt) hS
      refine ⟨⟨v', putR rs ⟨x, y⟩, rfl, ho2, ?_, ?_, ?_⟩, hbox.at_ 0, hbox.at_ 1⟩
      · rw [putR_pa, HD.out, show RA.pa ⟨x, y⟩ = (x.ch, y.ch) from rfl, hxc, hyc]
      · intro r hr
        unfold putR at hr
        split at hr
        · exact ((HR.out r hr).below hbw).grows hg hO'
        · rcases List.mem_append.1 hr with hr | hr
          · exact ((HR.out r hr).below hbw).grows hg hO'
          · simp at hr
            subst hr
            exact RA.own.grows ⟨hx, hy⟩ hg hO'
      · refine ⟨(Moved.of_below hbw).trans hg.1, ?_⟩
        rcases hg.2 with h1 | h1
        · exact Or.inl h1
        · exact Or.inr fun g hg2 => Nat.le_trans hbw.size (h1 g hg2)
    clear HNA HVA HNN HVN HIN HLN hl
    go_region_held3 (fun w' => w'.cell? ⟨w.heap.size, 0, none⟩ = some (.slice a.nm.A a.nm.n a.nm.c) ∧ w'.cell? ⟨w.heap.size, 1, none⟩ = some (.slice a.vl.A a.vl.n a.vl.c))
      (first
        | exact HKS.out _ (Below.drew (Below.refl _ _))
        | exact HKS.out _ hK
        | exact hP)
      (first
        | (go_at_call 38; refine (HLW.out _ (by first | exact hK | exact Below.drew (Below.refl _ _))).mono ?_; rintro e wa1 ⟨⟨x, rfl, hxc, hx⟩, hba⟩; have hK : Below w1.heap.size w1 wa1 := (by first | exact below_next hK (Nat.le_refl _) hba | exact below_next (Below.drew (Below.refl _ _)) (Nat.le_refl _) hba))
        | (go_at_call 27; refine (HDE.out _ (by first | exact hK | exact Below.drew (Below.refl _ _))).mono ?_; rintro e wa2 ⟨⟨y, rfl, hyc, hy⟩, hbb⟩; have hK : Below w1.heap.size w1 wa2 := (by first | exact below_next hK (Nat.le_refl _) hbb | exact below_next (Below.drew (Below.refl _ _)) (Nat.le_refl _) hbb))
        | (go_at_call 65; refine (HPU.out _ x y hK (by first | exact hx | exact hx.below hbb) (by first | exact hy | exact hy.below hba) hxc hyc).mono ?_; rintro e wa3 ⟨⟨v', rs', rfl, hQ⟩, hP⟩))
    all_goals
      go_wp2_with fail
      go_ret
      exact ⟨v', rs', rfl, hQ⟩

end Go.Proofs.YtdiifkmcbnhliaaGreat.mk

namespace Go.Proofs.YtdiifkmcbnhliaaGreat.mk
open Go.RowKit

/-- a row of bytes that stays: it lies below what is made, or is one of the call's own -/
def RW.far (w : World) (base : Nat) (r : RW) : Prop := r.ok w base ∨ r.own w base
theorem RW.far.ok {w : World} {base : Nat} {r : RW} (h : r.far w base) (hB : base ≤ w.heap.size) : r.ok w w.heap.size := by
  rcases h with h | h
  · exact ⟨h.1.mono hB, h.2⟩
  · exact h.ok
theorem RW.far.below {w w' : World} {base : Nat} {r : RW} (h : r.far w base) (hB : base ≤ w.heap.size) (hb : Below w.heap.size w w') : r.far w' base := by
  rcases h with h | h
  · exact Or.inl (h.below (hb.mono hB))
  · exact Or.inr (h.below hb)
theorem RW.far.moved {w w' : World} {base n size : Nat} {r : RW} {v : Value} {xs : List Value} {e : TypeId} (h : r.far w base) (hB : base ≤ w.heap.size) (hg : Moved (fun g => v.ownBlock = some g) w w') (hv : w.ownsRow base e size v n xs) (he : 65 ≠ e) : r.far w' base := by
  rcases h with h | h
  · refine Or.inl ⟨h.1.below (hg.below hB fun k hk hs => ?_), h.2⟩
    have := (hv.lt k hs).1
    omega
  · refine Or.inr ⟨h.1, h.2.1, hg.own h.2.2 fun g hg' hs => ?_⟩
    obtain ⟨c1, h1⟩ := own_kind h.2.2 hg'
    obtain ⟨c2, h2⟩ := own_kind hv hs
    rw [h1] at h2
    injection h2 with h2
    injection h2 with _ h2 _
    exact he h2

/-- a token of the reference -/
structure RT where
  kind : Nat
  nm : RW
  aA : Option Addr
  an : Nat
  ac : Nat
  ats : List RA
  close : Bool
  tx : RW
def RT.pt (t : RT) : PTok := ⟨t.kind, t.nm.ch, t.ats.map RA.pa, t.close, t.tx.ch⟩
def rtRow (t : RT) : List Value := [.int .i64 (t.kind : Int), .slice t.nm.A t.nm.n t.nm.c, .slice t.aA t.an t.ac, .bool t.close, .slice t.tx.A t.tx.n t.tx.c]
def rtCells (ts : List RT) : List Value := ts.flatMap rtRow
theorem rtCells_snoc (ts : List RT) (t : RT) : rtCells (ts ++ [t]) = rtCells ts ++ rtRow t := by unfold rtCells; rw [List.flatMap_append]; simp
theorem rtCells_length (ts : List RT) : (rtCells ts).length = ts.length * 5 := by
  induction ts with
  | nil => rfl
  | cons a ts ih =>
    show (rtRow a ++ rtCells ts).length = _
    rw [List.length_append, ih, List.length_cons]
    show 5 + _ = _
    omega
theorem rtCells_at (ts : List RT) : ∀ (k : Nat) (t : RT), ts[k]? = some t → ∀ j, j < 5 → (rtCells ts)[k * 5 + j]? = (rtRow t)[j]? := by
  induction ts with
  | nil => intro k t h; simp at h
  | cons b ts ih =>
    intro k t h j hj
    show (rtRow b ++ rtCells ts)[k * 5 + j]? = _
    cases k with
    | zero =>
      simp at h
      subst h
      rw [List.getElem?_append_left (by show 0 * 5 + j < 5; omega), Nat.zero_mul, Nat.zero_add]
    | succ k =>
      rw [List.getElem?_append_right (by show 5 ≤ _; omega), show (k + 1) * 5 + j - (rtRow b).length = k * 5 + j by show _ - 5 = _; omega]
      exact ih k t (by simpa using h) j hj
theorem rtCells_take (ts : List RT) (k : Nat) : rtCells (ts.take k) = (rtCells ts).take (k * 5) := by
  by_cases h : k ≤ ts.length
  · have e : rtCells ts = rtCells (ts.take k) ++ rtCells (ts.drop k) := by unfold rtCells; rw [← List.flatMap_append, List.take_append_drop]
    rw [e, List.take_left' (by rw [rtCells_length, List.length_take]; omega)]
  · rw [List.take_of_length_le (by omega), List.take_of_length_le (by rw [rtCells_length]; omega)]
theorem rt_info : (Tryz.prog.info? 39).map (fun i => (i.zero, i.size, i.bytes)) = some (some (.agg #[.int .i64 0, .slice none 0 0, .slice none 0 0, .bool false, .slice none 0 0]), 5, 88) := by kernel_rfl

def RT.ok (w : World) (base : Nat) (t : RT) : Prop :=
  t.nm.far w base ∧ t.tx.far w base ∧ w.ownsRow base 75 2 (.slice t.aA t.an t.ac) t.an (raCells t.ats) ∧ t.ats.length = t.an ∧ ∀ r ∈ t.ats, r.own w base
theorem RT.ok.below {w w' : World} {base : Nat} {t : RT} (h : t.ok w base) (hB : base ≤ w.heap.size) (hb : Below w.heap.size w w') : t.ok w' base :=
  ⟨h.1.below hB hb, h.2.1.below hB hb, own_keep h.2.2.1 hb, h.2.2.2.1, fun r hr => (h.2.2.2.2 r hr).below hb⟩
/-- a row of tokens of the call's own moves: what they reach stays -/
theorem RT.ok.moved {w w' : World} {base n : Nat} {t : RT} {v : Value} {xs : List Value} (h : t.ok w base) (hB : base ≤ w.heap.size) (hg : Moved (fun g => v.ownBlock = some g) w w') (hv : w.ownsRow base 39 5 v n xs) : t.ok w' base := by
  have key : ∀ {e : TypeId} {size m : Nat} {u : Value} {ys : List Value}, w.ownsRow base e size u m ys → e ≠ 39 → w'.ownsRow base e size u m ys := by
    intro e size m u ys hu he
    refine hg.own hu fun g hg' hs => ?_
    obtain ⟨c1, h1⟩ := own_kind hu hg'
    obtain ⟨c2, h2⟩ := own_kind hv hs
    rw [h1] at h2
    injection h2 with h2
    injection h2 with _ h2 _
    exact he h2
  exact ⟨h.1.moved hB hg hv (by decide), h.2.1.moved hB hg hv (by decide), key h.2.2.1 (by decide), h.2.2.2.1,
    fun r hr => ⟨⟨(h.2.2.2.2 r hr).1.1, (h.2.2.2.2 r hr).1.2.1, key (h.2.2.2.2 r hr).1.2.2 (by decide)⟩, ⟨(h.2.2.2.2 r hr).2.1, (h.2.2.2.2 r hr).2.2.1, key (h.2.2.2.2 r hr).2.2.2 (by decide)⟩⟩⟩
theorem Lies.rt {w : World} {B : Nat} {A : Option Addr} {ts : List RT} (h : Lies w B A (rtCells ts)) {k : Nat} (hk : k < ts.length) :
    ∃ ad t, A = some ad ∧ ad.block < B ∧ w.cell? (ad.add (k * 5)) = some (.int .i64 (t.kind : Int)) ∧ w.cell? ⟨(ad.add (k * 5)).block, (ad.add (k * 5)).off + 4, none⟩ = some (.slice t.tx.A t.tx.n t.tx.c) ∧ Hid (ts[k]? = some t) := by
  have ht : ts[k]? = some ts[k] := List.getElem?_eq_getElem hk
  generalize ts[k] = t at ht
  obtain ⟨ad, e, hb, h0⟩ := h (k * 5) _ (by rw [show k * 5 = k * 5 + 0 from rfl, rtCells_at ts k t ht 0 (by omega)]; rfl)
  subst e
  obtain ⟨ad', e, _, h1⟩ := h (k * 5 + 4) _ (by rw [rtCells_at ts k t ht 4 (by omega)]; rfl)
  injection e with e
  subst e
  refine ⟨ad, t, rfl, hb, h0, ?_, ht⟩
  rw [← h1, addr_next ad (k * 5 + 3), addr_next ad (k * 5 + 2), addr_next ad (k * 5 + 1), addr_next ad (k * 5)]

end Go.Proofs.YtdiifkmcbnhliaaGreat.mk

namespace Go.Proofs.YtdiifkmcbnhliaaGreat.mk
open Go.RowKit

def noRW : RW := ⟨none, 0, 0, []⟩
theorem noRW_own (w : World) (base : Nat) : noRW.own w base := ⟨rfl, by decide, World.ownsRow_nil _ _ _ _⟩
/-- data as a token -/
def dataR (x : RW) : RT := ⟨3, noRW, none, 0, 0, [], false, x⟩
theorem dataR_ok {w : World} {base : Nat} {x : RW} (h : x.far w base) : (dataR x).ok w base := ⟨Or.inr (noRW_own _ _), h, World.ownsRow_nil _ _ _ _, rfl, fun r hr => by simp [dataR] at hr⟩

theorem rtCells_one (ts : List RT) : ∀ u ∈ rtCells ts, u.oneCell' = true := by
  intro u hu
  unfold rtCells at hu
  rw [List.mem_flatMap] at hu
  obtain ⟨t, _, h⟩ := hu
  revert u
  simp [Value.oneCell', rtRow]
theorem dataT_join {ts : List RT} {t : RT} {l : Ch} {p : Nat} (hl : ts.length = p + 1) (ht : ts[p]? = some t) (hk : t.kind = 3) (h : ¬ l = []) : dataT (ts.map RT.pt) l = (ts.take p).map RT.pt ++ [⟨3, [], [], false, t.tx.ch ++ l⟩] := by
  have hg : (ts.map RT.pt).getLast? = some t.pt := by rw [List.getLast?_eq_getElem?, List.length_map, hl, List.getElem?_map, Nat.add_sub_cancel, ht]; rfl
  unfold dataT
  rw [if_neg h, hg]
  show (if t.kind = 3 then _ else _) = _
  rw [if_pos hk, List.dropLast_eq_take, List.length_map, hl, Nat.add_sub_cancel, List.map_take]
  rfl
theorem dataT_more {ts : List RT} {t : RT} {l : Ch} {p : Nat} (hl : ts.length = p + 1) (ht : ts[p]? = some t) (hk : ¬ t.kind = 3) (h : ¬ l = []) : dataT (ts.map RT.pt) l = ts.map RT.pt ++ [⟨3, [], [], false, l⟩] := by
  have hg : (ts.map RT.pt).getLast? = some t.pt := by rw [List.getLast?_eq_getElem?, List.length_map, hl, List.getElem?_map, Nat.add_sub_cancel, ht]; rfl
  unfold dataT
  rw [if_neg h, hg]
  show (if t.kind = 3 then _ else _) = _
  rw [if_neg hk]
theorem dataT_nil {l : Ch} (h : ¬ l = []) : dataT [] l = [⟨3, [], [], false, l⟩] := by
  unfold dataT
  rw [if_neg h]
  rfl

set_option maxHeartbeats 2000000 in
set_option maxRecDepth 100000 in
theorem refTextD_any (base n : Nat) (v : Value) (ts : List RT) (x : RW) (w : World) (hB : base ≤ w.heap.size) (hown : w.ownsRow base 39 5 v n (rtCells ts)) (hn : ts.length = n) (hn2 : n ≤ 268435456) (hts : ∀ t ∈ ts, t.ok w base) (hx : x.far w base) (hsz : ∀ t ∈ ts, t.tx.n + x.n ≤ 268435456) :
    Calls Tryz.prog 26 #[v, .slice x.A x.n x.c] w fun e w' => ∃ v' ts', e = .returned v' ∧ w'.ownsRow base 39 5 v' ts'.length (rtCells ts') ∧ ts'.map RT.pt = dataT (ts.map RT.pt) x.ch ∧ (∀ t ∈ ts', t.ok w' base) ∧ Grows w w' v v' := by
  obtain ⟨i0, hi, hz0, hz1, hz2⟩ := info_parts rt_info
  obtain ⟨A, c, rfl, hA, _, hnc⟩ := own_form hown
  have HO := Lib.hid hown
  have HN := Lib.hid hn
  have HT := Lib.hid hts
  have HX := Lib.hid hx
  obtain ⟨hxl, hxn, hxc, hxA, hxz⟩ := hx.ok hB
  have HXL := Lib.hid hxl
  have HXN := Lib.hid hxn
  clear hown hn hts hx hxl hxn
  by_cases hz : x.n = 0
  · have hxz2 : ((x.n : Int) == 0) = true := by rw [hz]; rfl
    have HD : Hid (ts.map RT.pt = dataT (ts.map RT.pt) x.ch) := by
      show _ = _
      unfold dataT
      rw [if_pos (List.length_eq_zero_iff.1 (HXN.out.trans hz))]
    clear hz
    go_enter Tryz.func26, Tryz.ntmps26
    go_wp2_with fail
    go_ret
    exact ⟨_, ts, rfl, by rw [HN.out]; exact HO.out, HD.out, HT.out, Moved.refl _ _, Or.inl rfl⟩
  · have hxz2 : ((x.n : Int) == 0) = false := by rw [beq_eq_false_iff_ne]; omega
    have HXE : Hid (¬ x.ch = []) := fun h => hz (by rw [← HXN.out, h]; rfl)
    rcases Nat.eq_zero_or_pos n with hn0 | hnp
    · have HD : Hid (dataT (ts.map RT.pt) x.ch = ts.map RT.pt ++ [⟨3, [], [], false, x.ch⟩]) := by
        show _ = _
        rw [List.length_eq_zero_iff.1 (HN.out.trans hn0)]
        exact dataT_nil HXE.out
      have hp : ¬ (0 : Int) ≤ (n : Int) - 1 := by omega
      clear hn0
      have HE : Hid (RT.ok w base (dataR x)) := dataR_ok HX.out
      go_enter Tryz.func26, Tryz.ntmps26
      go_wp2_with (at_builtin; refine wpList_append_own_at _ rfl _ _ 29 rfl base 39 i0 _ 5 88 Tryz.underlying29 hi hz0 hz1 hz2 rfl (by decide) (.slice A n c) n _ rfl (HO.out.alloc _) ⟨w.heap.size, 0, none⟩ 1 1 (rtRow (dataR x)) rfl rfl (cells_new w _ _) (by simp [Value.oneCell', rtRow, dataR, noRW]) (by simp only [maxLen]; omega) (by omega) (by simp; omega) ?_)
      intro v3 w3 hown3 hg3 _ hblk
      have hA2 := Below.alloc (Below.refl w.heap.size w) (Nat.le_refl _) (.cells (rtRow (dataR x)).toArray 39)
      have hM : Moved (fun g => (Value.slice A n c).ownBlock = some g) w w3 := ⟨hg3.os.trans hA2.os, hg3.tape.trans hA2.tape, hg3.output.trans hA2.output, Nat.le_trans hA2.size hg3.size, fun g hg hs => (hg3.block g (Nat.lt_of_lt_of_le hg hA2.size) (fun e => hs e.symm)).trans (hA2.block g hg)⟩
      have HIN : Hid (w3.ownsRow base 39 5 v3 (ts ++ [dataR x]).length (rtCells (ts ++ [dataR x])) ∧ (ts ++ [dataR x]).map RT.pt = dataT (ts.map RT.pt) x.ch ∧ (∀ t' ∈ ts ++ [dataR x], t'.ok w3 base) ∧ Grows w w3 (.slice A n c) v3) := by
        show _ ∧ _
        rw [List.length_append, HN.out, rtCells_snoc]
        refine ⟨hown3, ?_, ?_, hM, ?_⟩
        · rw [HD.out, List.map_append]; rfl
        · intro t' ht'
          rcases List.mem_append.1 ht' with h | h
          · exact (HT.out t' h).moved hB hM HO.out
          · simp at h
            subst h
            exact HE.out.moved hB hM HO.out
        · rcases hblk with h | h
          · exact Or.inl h
          · exact Or.inr fun g hg => by rw [h] at hg; injection hg; omega
      clear hM hA2 hg3 hown3 hblk
      go_wp2_with fail
      go_ret
      exact ⟨v3, _, rfl, HIN.out⟩
    · obtain ⟨p, rfl⟩ : ∃ p, n = p + 1 := ⟨n - 1, by omega⟩
      obtain ⟨ad, t, rfl, hb, hc0, hc4, HTP⟩ := (Lies.own HO.out).rt (k := p) (by rw [HN.out]; omega)
      have hp1 : ((p + 1 : Nat) : Int) - 1 = (p : Int) := by omega
      by_cases hk3 : t.kind = 3
      · have hk : ((t.kind : Int) == 3) = true := by rw [hk3]; rfl
        have HK3 := Lib.hid hk3
        clear hk3
        go_enter Tryz.func26, Tryz.ntmps26
        have h00 := Lib.hid (World.ownsRow_lit (base := w.heap.size) (e := 39) (size := 5) w #[] 0 (Nat.le_refl _) (by simp) rfl)
        have hlt : Lies w w.heap.size (some ad) (rtCells (ts.take p)) := by rw [rtCells_take]; exact (Lies.own HO.out).take _
        have ha1 := Lib.hid (hlt.alloc (Nat.le_refl _) (.cells #[] 39))
        have s1 : Hid ((rtCells (ts.take p)).length = p * 5) := by show _ = _; rw [rtCells_length, List.length_take, HN.out]; congr 1; omega
        have s3 : Hid (0 + p ≤ maxLen) := by show _ ≤ _; simp only [maxLen]; omega
        have s4 : Hid ((0 + p) * 88 ≤ 140737488355328) := by show _ ≤ _; omega
        obtain ⟨_, ht, _⟩ := HT.out t (List.mem_of_getElem? HTP.out)
        have HTX := Lib.hid ht
        have hszt := hsz t (List.mem_of_getElem? HTP.out)
        clear hlt ht hsz
        go_wp2_with (at_builtin; refine wpList_append_src _ rfl _ _ 29 rfl w.heap.size 39 i0 _ 5 88 Tryz.underlying29 hi hz0 hz1 hz2 rfl (by decide) (.slice (some ⟨w.heap.size, 0, none⟩) 0 0) 0 [] rfl h00.out w.heap.size (some ad) p c (rtCells (ts.take p)) rfl (fun h => by cases h) s1.out ha1.out (rtCells_one _) s3.out s4.out (by simp) ?_)
        intro v1 w1 hown1 hg1 _
        have hb1 : Below w.heap.size w w1 := ((Below.refl _ _).alloc (Nat.le_refl _) _).grown hg1 (by simp) (by simp [Value.ownBlock])
        have hz' := hb1.size
        have HB1 := Lib.hid hb1
        have HO1 := Lib.hid hown1
        have k4 : w1.cell? ⟨(ad.add (p * 5)).block, (ad.add (p * 5)).off + 4, none⟩ = some (.slice t.tx.A t.tx.n t.tx.c) := by rw [hb1.cell (by show (ad.add (p * 5)).block < _; rw [addr_block]; exact hb)]; exact hc4
        obtain ⟨htl, htn, htc, htA, htz⟩ := (HTX.out.below hB hb1).ok (Nat.le_trans hB hz')
        obtain ⟨hyl, hyn, _, _, _⟩ := (HX.out.below hB hb1).ok (Nat.le_trans hB hz')
        have HTL := Lib.hid htl
        have HYL := Lib.hid hyl
        have HTN := Lib.hid htn
        obtain ⟨A1, c1, rfl, hA1, _, _⟩ := own_form hown1
        clear hg1 hb1 hown1 htl hyl hyn htn hc0 hc4
        go_wp2_with fail
        refine (refCat_any t.tx.A x.A t.tx.n x.n t.tx.c x.c t.tx.ch x.ch _ HTL.out HYL.out htA hxA HTN.out HXN.out (by omega) (by omega)).mono ?_
        rintro e w2 ⟨v2, rfl, ho2, hb2⟩
        obtain ⟨A2, c2, rfl, _, _, hc2⟩ := own_form ho2
        have HO2 := Lib.hid (own_keep HO1.out hb2)
        have hz2' := hb2.size
        have HB2 := Lib.hid (below_next HB1.out (Nat.le_refl _) hb2)
        have HR2 := Lib.hid ho2
        clear ho2 hb2
        go_wp2_with (at_builtin; refine wpList_append_own_at _ rfl _ _ 29 rfl w.heap.size 39 i0 _ 5 88 Tryz.underlying29 hi hz0 hz1 hz2 rfl (by decide) (.slice A1 p c1) p _ rfl (HO2.out.alloc _) ⟨w2.heap.size, 0, none⟩ 1 1 (rtRow (dataR ⟨A2, t.tx.n + x.n, c2, t.tx.ch ++ x.ch⟩)) rfl rfl (cells_new w2 _ _) (by simp [Value.oneCell', rtRow, dataR, noRW]) (by simp only [maxLen]; omega) (by omega) (by simp; omega) ?_)
        intro v3 w3 hown3 hg3 _ hblk
        have hM : Moved (fun g => (Value.slice A1 p c1).ownBlock = some g) (w2.alloc (.cells (rtRow (dataR ⟨A2, t.tx.n + x.n, c2, t.tx.ch ++ x.ch⟩)).toArray 39)) w3 := ⟨hg3.os, hg3.tape, hg3.output, hg3.size, fun g hg hs => hg3.block g hg (fun e => hs e.symm)⟩
        have hA2 := Below.alloc (Below.refl w2.heap.size w2) (Nat.le_refl _) (.cells (rtRow (dataR ⟨A2, t.tx.n + x.n, c2, t.tx.ch ++ x.ch⟩)).toArray 39)
        have hy : RW.own w2 base ⟨A2, t.tx.n + x.n, c2, t.tx.ch ++ x.ch⟩ := ⟨by rw [List.length_append, HTN.out, HXN.out], hszt, own_mono HR2.out (Nat.le_trans hB hz')⟩
        have hy3 : RW.far w3 base ⟨A2, t.tx.n + x.n, c2, t.tx.ch ++ x.ch⟩ := RW.far.moved (Or.inr (hy.below hA2)) (Nat.le_trans hB (Nat.le_trans hz' (Nat.le_trans hz2' hA2.size))) hM (own_mono (HO2.out.alloc _) hB) (by decide)
        have hb3 : Below w.heap.size w w3 := (HB2.out.alloc (Nat.le_trans hz' hz2') _).grown hg3 (by have := HB2.out.size; simp; omega) (fun k hk => (HO2.out.lt k hk).1)
        have HIN : Hid (w3.ownsRow base 39 5 v3 (ts.take p ++ [dataR ⟨A2, t.tx.n + x.n, c2, t.tx.ch ++ x.ch⟩]).length (rtCells (ts.take p ++ [dataR ⟨A2, t.tx.n + x.n, c2, t.tx.ch ++ x.ch⟩])) ∧ (ts.take p ++ [dataR ⟨A2, t.tx.n + x.n, c2, t.tx.ch ++ x.ch⟩]).map RT.pt = dataT (ts.map RT.pt) x.ch ∧ (∀ t' ∈ ts.take p ++ [dataR ⟨A2, t.tx.n + x.n, c2, t.tx.ch ++ x.ch⟩], t'.ok w3 base) ∧ Grows w w3 (.slice (some ad) (p + 1) c) v3) := by
          show _ ∧ _
          rw [List.length_append, List.length_take, HN.out, rtCells_snoc, show min p (p + 1) + [dataR ⟨A2, t.tx.n + x.n, c2, t.tx.ch ++ x.ch⟩].length = p + 1 by show min p (p + 1) + 1 = _; omega]
          refine ⟨own_mono hown3 hB, ?_, ?_, Moved.of_below hb3, ?_⟩
          · rw [dataT_join HN.out HTP.out HK3.out HXE.out, List.map_append]; rfl
          · intro t' ht'
            rcases List.mem_append.1 ht' with h | h
            · exact (HT.out t' (List.mem_of_mem_take h)).below hB hb3
            · simp at h
              subst h
              exact dataR_ok hy3
          · refine Or.inr fun g hg => ?_
            exact (hown3.lt g hg).1
        clear hM hA2 hy hy3 hb3 hg3 hown3 hblk
        go_wp2_with fail
        go_ret
        exact ⟨v3, _, rfl, HIN.out⟩
      · have hk : ((t.kind : Int) == 3) = false := by rw [beq_eq_false_iff_ne]; omega
        have HD : Hid (dataT (ts.map RT.pt) x.ch = ts.map RT.pt ++ [⟨3, [], [], false, x.ch⟩]) := dataT_more HN.out HTP.out hk3 HXE.out
        clear hk3
        have HE : Hid (RT.ok w base (dataR x)) := dataR_ok HX.out
        go_enter Tryz.func26, Tryz.ntmps26
        go_wp2_with (at_builtin; refine wpList_append_own_at _ rfl _ _ 29 rfl base 39 i0 _ 5 88 Tryz.underlying29 hi hz0 hz1 hz2 rfl (by decide) (.slice (some ad) (p + 1) c) (p + 1) _ rfl (HO.out.alloc _) ⟨w.heap.size, 0, none⟩ 1 1 (rtRow (dataR x)) rfl rfl (cells_new w _ _) (by simp [Value.oneCell', rtRow, dataR, noRW]) (by simp only [maxLen]; omega) (by omega) (by simp; omega) ?_)
        intro v3 w3 hown3 hg3 _ hblk
        have hA2 := Below.alloc (Below.refl w.heap.size w) (Nat.le_refl _) (.cells (rtRow (dataR x)).toArray 39)
        have hM : Moved (fun g => (Value.slice (some ad) (p + 1) c).ownBlock = some g) w w3 := ⟨hg3.os.trans hA2.os, hg3.tape.trans hA2.tape, hg3.output.trans hA2.output, Nat.le_trans hA2.size hg3.size, fun g hg hs => (hg3.block g (Nat.lt_of_lt_of_le hg hA2.size) (fun e => hs e.symm)).trans (hA2.block g hg)⟩
        have HIN : Hid (w3.ownsRow base 39 5 v3 (ts ++ [dataR x]).length (rtCells (ts ++ [dataR x])) ∧ (ts ++ [dataR x]).map RT.pt = dataT (ts.map RT.pt) x.ch ∧ (∀ t' ∈ ts ++ [dataR x], t'.ok w3 base) ∧ Grows w w3 (.slice (some ad) (p + 1) c) v3) := by
          show _ ∧ _
          rw [List.length_append, HN.out, rtCells_snoc]
          refine ⟨hown3, ?_, ?_, hM, ?_⟩
          · rw [HD.out, List.map_append]; rfl
          · intro t' ht'
            rcases List.mem_append.1 ht' with h | h
            · exact (HT.out t' h).moved hB hM HO.out
            · simp at h
              subst h
              exact HE.out.moved hB hM HO.out
          · rcases hblk with h | h
            · exact Or.inl h
            · exact Or.inr fun g hg => by rw [h] at hg; injection hg; omega
        clear hM hA2 hg3 hown3 hblk
        go_wp2_with fail
        go_ret
        exact ⟨v3, _, rfl, HIN.out⟩

end Go.Proofs.YtdiifkmcbnhliaaGreat.mk
