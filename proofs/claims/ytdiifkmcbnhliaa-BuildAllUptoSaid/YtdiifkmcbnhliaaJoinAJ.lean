/-
  The contract of entity's Decode.
-/
import Derived.Test.YtdiifkmcbnhliaaJoinAF
import Derived.Test.YtdiifkmcbnhliaaJoinAE
import Derived.Test.YtdiifkmcbnhliaaJoinP
import Derived.Deep.RegionHeld3
import Derived.Deep.DeepCutAuto
import Derived.Test.YtdiifkmcbnhliaaJoinK
import Derived.Test.YtdiifkmcbnhliaaJoinS
namespace Go.Proofs.Ytdiifkmcbnhliaa.mk
open Go.RowKit

def NmRel (inner : List UInt8) (w0 : World) (i : Value) (wr : World) : Prop :=
  ∃ k : Nat, k ≤ 6 ∧ i = .int .i64 (k : Int) ∧ (∀ (j : Nat) (nm : List UInt8) (c : Int), j < k → nameL[j]? = some (nm, c) → nmC inner nm = false) ∧ Below w0.heap.size w0 wr

def FmRel (inner : List UInt8) (w0 : World) (i : Value) (wr : World) : Prop :=
  ∃ k : Nat, k ≤ 3 ∧ i = .int .i64 (k : Int) ∧ (∀ (j : Nat) (bg : List UInt8) (base : Int), j < k → formL[j]? = some (bg, base) → fmC inner bg base = false) ∧ Below w0.heap.size w0 wr
theorem ret_si {a : ByteArray} {x y : Int} (h : x = y) : Ending.returned (.tuple #[.string a, .int .i64 x]) = .returned (.tuple #[.string a, .int .i64 y]) := by rw [h]
theorem nmC_of {t p : ByteArray} {nm : List UInt8} (h : p.data.toList = nm ++ [59]) : (t.data.toList.take p.size == p.data.toList) = nmC t.data.toList nm := by
  have e : p.size = nm.length + 1 := by
    have := congrArg List.length h
    rw [Array.length_toList, List.length_append] at this
    exact this
  unfold nmC
  rw [e, h]

set_option maxHeartbeats 2000000 in
set_option maxRecDepth 100000 in
theorem entTake_any (s : ByteArray) (hs : s.size ≤ 4294967296) (w : World) :
    Calls Try.prog 106 #[.string s] w fun e w' => e = .returned (.tuple #[.string (takeE s.data.toList).1, .int .i64 ((takeE s.data.toList).2 : Nat)]) ∧ Below w.heap.size w w' := by
  cases hp : (s.data.toList.take 1 == [38]) with
  | false =>
    have HR : Hid (takeE s.data.toList = (⟨#[]⟩, 0)) := by
      refine takeE_none ?_
      cases hl : s.data.toList with
      | nil => rfl
      | cons x r => rw [hl] at hp; exact refer_not (by intro e; subst e; simp at hp)
    have hc := cut_no s ⟨#[38]⟩ hp
    go_enter Try.func106, Try.ntmps106
    go_wp2_with fail
    refine (hc _).mono ?_
    rintro e w' ⟨rfl, rfl⟩
    go_wp2_with fail
    go_ret2
    exact ⟨by rw [HR.out]; rfl, Below.refl _ _⟩
  | true =>
    have hl : ∃ r, s.data.toList = 38 :: r := by
      cases hl : s.data.toList with
      | nil => rw [hl] at hp; simp at hp
      | cons x r => rw [hl] at hp; simp at hp; subst hp; exact ⟨r, rfl⟩
    obtain ⟨inner, hl⟩ := hl
    have hc := cut_yes s ⟨#[38]⟩ hp
    have ht : (s.extract 1 s.size).data.toList = inner := by rw [ba_rest, hl]; rfl
    have htz : (s.extract 1 s.size).size ≤ s.size := by rw [ByteArray.size_extract]; omega
    rw [hl]
    change ∀ (w : World), Calls Try.prog 66 #[.string s, .string ⟨#[38]⟩] w fun e w' => e = .returned (.tuple #[.string (s.extract 1 s.size), .bool true]) ∧ w = w' at hc
    generalize s.extract 1 s.size = t at *
    have HC := Lib.hid hc
    have HT := Lib.hid ht
    clear hc hp hl
    subst ht
    have HPF : Hid (∀ (p nb : ByteArray), p.data.toList = nb.data.toList ++ [59] → ∀ w : World, Calls Try.prog 72 #[.string t, .string p] w fun e w' => e = .returned (.bool (nmC t.data.toList nb.data.toList)) ∧ w = w') := fun p nb h w => by
      have h2 := hasPrefix_any t p w
      rw [nmC_of h] at h2
      exact h2
    go_enter Try.func106, Try.ntmps106
    go_wp2_with fail
    refine (HC.out _).mono ?_
    rintro e w' ⟨rfl, rfl⟩
    go_wp2_with fail
    refine (characters_any _).mono ?_
    rintro e w1 ⟨rfl, hb1⟩
    have HCH := Lib.hid char_at
    generalize charV = cv at *
    go_wp2_with fail
    obtain ⟨wo, rfl⟩ : ∃ wo : World, wo = w1 := ⟨_, rfl⟩
    go_loopw [22] (NmRel t.data.toList w) (fun i _ => 6 - (intOf i).toNat)
    case atStart => exact ⟨0, Nat.zero_le _, rfl, fun j _ _ h => by omega, hb1⟩
    case round =>
      obtain ⟨k, hk, rfl, hno, hbl⟩ := hrel
      have HNO := Lib.hid hno
      clear hno
      have hws := hbl.size
      by_cases hlt : k < 6
      · obtain ⟨nb, c, hn, hz, ft⟩ := HCH.out k hlt
        have hk3 : (k : Int) < 6 := by omega
        have HN := Lib.hid hn
        clear hn
        go_wp2_with fail
        with_reducible refine (HPF.out (nb ++ ⟨#[59]⟩) nb (by rw [ByteArray.data_append, Array.toList_append]) _).mono ?_
        rintro e w' ⟨rfl, rfl⟩
        obtain ⟨g, hg⟩ : ∃ g, g = wr.heap.size := ⟨_, rfl⟩
        have y0 : Whole (wr.alloc (.cells #[.string nb, .int .i64 c] 151)) g 151 #[.string nb, .int .i64 c] := by rw [hg]; exact Whole.made _ _ _
        have hbl4 : Below w.heap.size w (wr.alloc (.cells #[.string nb, .int .i64 c] 151)) := hbl.alloc hws _
        rw [← hg]
        clear hg
        generalize wr.alloc (.cells #[.string nb, .int .i64 c] 151) = w4 at *
        cases hm : nmC t.data.toList nb.data.toList with
        | false =>
          have HNX : Hid (∀ (j : Nat) (nm : List UInt8) (d : Int), j < k + 1 → nameL[j]? = some (nm, d) → nmC t.data.toList nm = false) := by
            intro j nm d hj hjn
            rcases Nat.lt_or_ge j k with h | h
            · exact HNO.out j nm d h hjn
            · obtain rfl : j = k := by omega
              have := HN.out.symm.trans hjn
              injection this with this
              injection this with h1 h2
              rw [← h1]; exact hm
          clear hm
          go_wp2_with fail
          go_roundw
          case rel => exact ⟨k + 1, by omega, by go_num, HNX.out, hbl4⟩
          case measure => simp [intOf]; omega
        | true =>
          have hr := name_hit HN.out hm
          have HR : Hid (takeE (38 :: t.data.toList) = (numB c, nb.data.toList.length + 2)) := takeE_some hr
          have hnl : nb.data.toList.length = nb.size := by rw [Array.length_toList]; rfl
          have HNL := Lib.hid hnl
          have c0 : w4.cell? ⟨g, 0, none⟩ = some (.string nb) := y0.at_ 0
          have c1 : w4.cell? ⟨g, 1, none⟩ = some (.int .i64 c) := y0.at_ 1
          have HKS : Hid (∀ w', Below w4.heap.size w4 w' → w'.cell? ⟨g, 0, none⟩ = some (.string nb) ∧ w'.cell? ⟨g, 1, none⟩ = some (.int .i64 c) ∧ Below w4.heap.size w4 w') := fun w' h => ⟨(h.cell y0.lt).trans (y0.at_ 0), (h.cell y0.lt).trans (y0.at_ 1), h⟩
          have e1 : IntKind.i64.wrap (1 + (nb.size : Int)) = 1 + (nb.size : Int) := IntWalk.i64_in _ (by omega)
          have e2 : IntKind.i64.wrap (1 + (nb.size : Int) + 1) = 1 + (nb.size : Int) + 1 := IntWalk.i64_in _ (by omega)
          clear hm hr hnl y0
          go_wp2_with fail
          go_region_held3 (fun w' => w'.cell? ⟨g, 0, none⟩ = some (.string nb) ∧ w'.cell? ⟨g, 1, none⟩ = some (.int .i64 c) ∧ Below w4.heap.size w4 w')
            (first
              | exact HKS.out _ (Below.drew (Below.refl _ _))
              | (go_split_ands; exact HKS.out _ (by assumption))
              | (go_split_ands; exact HKS.out _ (below_next (by assumption) (Nat.le_refl _) (by assumption))))
            (first
              | (go_at_call 121; refine (number_any c _).mono ?_; rintro e w5 ⟨rfl, hb5⟩))
          all_goals
            go_wp2_with fail
            go_ret2
            exact ⟨by rw [HR.out]; exact ret_si (by rw [HNL.out]; omega), below_next hbl4.drew (Nat.le_refl _) hb5⟩
      · have HMISS : Hid (∀ (j : Nat) (nm : List UInt8) (c : Int), nameL[j]? = some (nm, c) → nmC t.data.toList nm = false) := fun j nm c h => HNO.out j nm c (by have h6 : j < 6 := (List.getElem?_eq_some_iff.1 h).1; omega) h
        clear HNO
        go_wp2_with fail
        refine (forms_any _).mono ?_
        rintro e w2 ⟨rfl, hb2⟩
        have hbl2 := below_next hbl (Nat.le_refl _) hb2
        have HFM := Lib.hid form_at
        generalize formV = fv at *
        clear hbl hb2
        go_wp2_with fail
        obtain ⟨wo, rfl⟩ : ∃ wo : World, wo = w2 := ⟨_, rfl⟩
        go_loopw [40] (FmRel t.data.toList w) (fun i _ => 3 - (intOf i).toNat)
        case atStart => exact ⟨0, Nat.zero_le _, rfl, fun j _ _ h => by omega, hbl2⟩
        case round =>
          obtain ⟨k, hk, rfl, hno, hbl⟩ := hrel
          have HNO := Lib.hid hno
          clear hno hbl2
          have hws := hbl.size
          by_cases hlt : k < 3
          · obtain ⟨nb, base, hn, hz, ft⟩ := HFM.out k hlt
            have hk3 : (k : Int) < 3 := by omega
            have HN := Lib.hid hn
            have hbs : base = 10 ∨ base = 16 := (formL_no hn).2.1
            have HBS := Lib.hid hbs
            have hnl : nb.data.toList.length = nb.size := by rw [Array.length_toList]; rfl
            have HNL := Lib.hid hnl
            obtain ⟨g, hg⟩ : ∃ g, g = wr.heap.size := ⟨_, rfl⟩
            have y0 : Whole (wr.alloc (.cells #[.string nb, .int .i64 base] 156)) g 156 #[.string nb, .int .i64 base] := by rw [hg]; exact Whole.made _ _ _
            have hbl4 : Below w.heap.size w (wr.alloc (.cells #[.string nb, .int .i64 base] 156)) := hbl.alloc hws _
            have c0 := y0.at_ 0
            have c1 := y0.at_ 1
            have HGO : Hid (fmC t.data.toList nb.data.toList base = false → ∀ (j : Nat) (bg : List UInt8) (d : Int), j < k + 1 → formL[j]? = some (bg, d) → fmC t.data.toList bg d = false) := by
              intro hm j nm d hj hjn
              rcases Nat.lt_or_ge j k with h | h
              · exact HNO.out j nm d h hjn
              · obtain rfl : j = k := by omega
                have := HN.out.symm.trans hjn
                injection this with this
                injection this with h1 h2
                rw [← h1, ← h2]; exact hm
            clear hn hnl hbs
            cases hpre : (t.data.toList.take nb.size == nb.data.toList) with
            | false =>
              have hcn := cut_no t nb hpre
              have hm : fmC t.data.toList nb.data.toList base = false := by
                unfold fmC
                rw [HNL.out, hpre]
                rfl
              have HNX := Lib.hid (HGO.out hm)
              clear hm hpre
              have HCN := Lib.hid hcn
              clear hcn
              go_wp2_with fail
              rw [← hg]
              clear hg
              generalize wr.alloc (.cells #[.string nb, .int .i64 base] 156) = w4 at *
              refine (HCN.out _).mono ?_
              rintro e w' ⟨rfl, rfl⟩
              go_wp2_with fail
              refine (numDig_any t base HBS.out (by omega) _).mono ?_
              rintro e w' ⟨rfl, rfl⟩
              generalize spanN t.data.toList (digV base) = d at *
              generalize valC 1114112 base (t.data.toList.take d) = v at *
              go_wp2_with fail
              go_roundw
              case rel => exact ⟨k + 1, by omega, by go_num, HNX.out, hbl4⟩
              case measure => simp [intOf]; omega
            | true =>
              have hcy := cut_yes t nb hpre
              have HRL : Hid ((t.extract nb.size t.size).data.toList = rsF t.data.toList nb.data.toList) := by
                show _ = _
                unfold rsF
                rw [ba_rest, HNL.out]
              have hrz : (t.extract nb.size t.size).size ≤ t.size := by rw [ByteArray.size_extract]; omega
              generalize t.extract nb.size t.size = r at *
              have HFC : Hid (fmC t.data.toList nb.data.toList base = (decide (0 < spanN r.data.toList (digV base)) && ((r.data.toList.drop (spanN r.data.toList (digV base))).take 1 == [59]))) := by
                show _ = _
                unfold fmC dgF
                rw [HNL.out, hpre, HRL.out, Bool.true_and]
              have hdz := spanN_le r.data.toList (digV base)
              rw [Array.length_toList] at hdz
              have HCY := Lib.hid hcy
              clear hcy hpre
              go_wp2_with fail
              rw [← hg]
              clear hg
              generalize wr.alloc (.cells #[.string nb, .int .i64 base] 156) = w4 at *
              refine (HCY.out _).mono ?_
              rintro e w' ⟨rfl, rfl⟩
              go_wp2_with fail
              refine (numDig_any r base HBS.out (by omega) _).mono ?_
              rintro e w' ⟨rfl, rfl⟩
              have HHIT : Hid (fmC t.data.toList nb.data.toList base = true → takeE (38 :: t.data.toList) = (numB (valC 1114112 base (r.data.toList.take (spanN r.data.toList (digV base)))), nb.size + spanN r.data.toList (digV base) + 2)) := by
                intro h
                have h2 := form_hit HN.out h
                have hb1 : 1 ≤ base := by have := HBS.out; omega
                rw [takeE_some h2.1]
                unfold dgF at h2 ⊢
                rw [← HRL.out] at h2 ⊢
                rw [numB_val (by omega) hb1 _ h2.2, HNL.out]
              generalize spanN r.data.toList (digV base) = d at *
              generalize valC 1114112 base (r.data.toList.take d) = v at *
              have hdz2 : d ≤ r.size := hdz
              by_cases hd : 0 < d
              · have hsem : ((r.extract d r.size).data.toList.take (ByteArray.mk #[59]).size == (ByteArray.mk #[59]).data.toList) = ((r.data.toList.drop d).take 1 == [59]) := by
                  rw [ba_rest]
                  rfl
                have HF2 : Hid (fmC t.data.toList nb.data.toList base = ((r.data.toList.drop d).take 1 == [59])) := by
                  show _ = _
                  rw [HFC.out, decide_eq_true hd, Bool.true_and]
                have hhp := fun w' => hasPrefix_any (r.extract d r.size) ⟨#[59]⟩ w'
                rw [hsem] at hhp
                generalize ((r.data.toList.drop d).take 1 == [59]) = q at *
                have HHP := Lib.hid hhp
                have hd0 : (0 : Int) ≤ (d : Int) := Int.natCast_nonneg _
                have hd1 : (0 : Int) < (d : Int) := by omega
                have hd2 : (d : Int) ≤ (r.size : Int) := by omega
                clear hhp hsem hdz HFC
                go_wp2_with fail
                refine (HHP.out _).mono ?_
                rintro e w' ⟨rfl, rfl⟩
                cases q with
                | false =>
                  have HNX := Lib.hid (HGO.out HF2.out)
                  go_wp2_with fail
                  go_roundw
                  case rel => exact ⟨k + 1, by omega, by go_num, HNX.out, hbl4⟩
                  case measure => simp [intOf]; omega
                | true =>
                  have HR := Lib.hid (HHIT.out HF2.out)
                  have HKS : Hid (∀ w', Below w4.heap.size w4 w' → w'.cell? ⟨g, 0, none⟩ = some (.string nb) ∧ w'.cell? ⟨g, 1, none⟩ = some (.int .i64 base) ∧ Below w4.heap.size w4 w') := fun w' h => ⟨(h.cell y0.lt).trans (y0.at_ 0), (h.cell y0.lt).trans (y0.at_ 1), h⟩
                  have e1 : IntKind.i64.wrap (1 + (nb.size : Int)) = 1 + (nb.size : Int) := IntWalk.i64_in _ (by omega)
                  have e2 : IntKind.i64.wrap (1 + (nb.size : Int) + (d : Int)) = 1 + (nb.size : Int) + (d : Int) := IntWalk.i64_in _ (by omega)
                  have e3 : IntKind.i64.wrap (1 + (nb.size : Int) + (d : Int) + 1) = 1 + (nb.size : Int) + (d : Int) + 1 := IntWalk.i64_in _ (by omega)
                  clear y0
                  go_wp2_with fail
                  go_region_held3 (fun w' => w'.cell? ⟨g, 0, none⟩ = some (.string nb) ∧ w'.cell? ⟨g, 1, none⟩ = some (.int .i64 base) ∧ Below w4.heap.size w4 w')
                    (first
                      | exact HKS.out _ (Below.drew (Below.refl _ _))
                      | (go_split_ands; exact HKS.out _ (by assumption))
                      | (go_split_ands; exact HKS.out _ (below_next (by assumption) (Nat.le_refl _) (by assumption))))
                    (first
                      | (go_at_call 121; refine (number_any v _).mono ?_; rintro e w5 ⟨rfl, hb5⟩))
                  all_goals
                    go_wp2_with fail
                    go_ret2
                    exact ⟨by rw [HR.out]; exact ret_si (by omega), below_next hbl4.drew (Nat.le_refl _) hb5⟩
              · obtain rfl : d = 0 := by omega
                have HNX := Lib.hid (HGO.out (by rw [HFC.out]; rfl))
                clear hdz hdz2 HHIT HFC
                go_wp2_with fail
                go_roundw
                case rel => exact ⟨k + 1, by omega, by go_num, HNX.out, hbl4⟩
                case measure => simp [intOf]; omega
          · have HR : Hid (takeE (38 :: t.data.toList) = (⟨#[]⟩, 0)) := takeE_none (refer_miss HMISS.out (fun j bg base h => HNO.out j bg base (by have h6 : j < 3 := (List.getElem?_eq_some_iff.1 h).1; omega) h))
            go_wp2_with fail
            go_ret2
            exact ⟨by rw [HR.out]; rfl, hbl⟩
end Go.Proofs.Ytdiifkmcbnhliaa.mk

namespace Go.Proofs.Ytdiifkmcbnhliaa.mk
open Go.RowKit

theorem ba_first (s : ByteArray) (n : Nat) : (s.extract 0 n).data.toList = s.data.toList.take n := by
  rw [ByteArray.data_extract, Array.toList_extract, List.extract_eq_take_drop]
  simp
theorem ba_ext {a b : ByteArray} (h : a.data.toList = b.data.toList) : a = b := by
  cases a with | mk a => cases b with | mk b => congr 1; exact Array.toList_inj.1 h

set_option maxHeartbeats 400000 in
set_option maxRecDepth 100000 in
theorem entNext_any (s : ByteArray) (hs0 : 1 ≤ s.size) (hs : s.size ≤ 4294967296) (w : World) :
    Calls Try.prog 92 #[.string s] w fun e w' => e = .returned (.tuple #[.string ⟨(nextE s.data.toList).1.toArray⟩, .int .i64 ((nextE s.data.toList).2 : Nat)]) ∧ Below w.heap.size w w' := by
  go_enter Try.func92, Try.ntmps92
  go_wp2_with fail
  refine (entTake_any s hs _).mono ?_
  cases hr : refer s.data.toList with
  | none =>
    rw [takeE_none hr]
    rintro e w1 ⟨rfl, hb1⟩
    have HX : Hid ((nextE s.data.toList) = (s.data.toList.take 1, 1)) := nextE_none hr
    have HE : Hid (s.extract 0 1 = ⟨(s.data.toList.take 1).toArray⟩) := by
      show _ = _
      refine ba_ext ?_
      rw [ba_first]
    have h1 : (1 : Int) ≤ (s.size : Int) := by omega
    clear hr
    go_wp2_with fail
    go_ret2
    exact ⟨by rw [HX.out, ← HE.out]; rfl, hb1⟩
  | some p =>
    obtain ⟨n, k⟩ := p
    rw [takeE_some hr]
    rintro e w1 ⟨rfl, hb1⟩
    have HX : Hid ((nextE s.data.toList) = ((numB n).data.toList, k)) := nextE_some hr
    have hk := (refer_bd hr).1
    have hk1 : (0 : Int) < (k : Int) := by omega
    clear hr
    generalize numB n = b at *
    go_wp2_with fail
    go_ret2
    exact ⟨by rw [HX.out]; rfl, hb1⟩

/-! names -/
def namedB (l : List UInt8) : ByteArray := match nameN l with | some n => numB n | none => ⟨#[]⟩
def NdRel (s : ByteArray) (w0 : World) (i : Value) (wr : World) : Prop :=
  ∃ k : Nat, k ≤ 6 ∧ i = .int .i64 (k : Int) ∧ (∀ (j : Nat) (nm : List UInt8) (c : Int), j < k → nameL[j]? = some (nm, c) → nm ≠ s.data.toList) ∧ Below w0.heap.size w0 wr
theorem namedB_hit {l : List UInt8} {k : Nat} {c : Int} (h : nameL[k]? = some (l, c)) : namedB l = numB c := by unfold namedB; rw [nameN_at h]
theorem namedB_miss {l : List UInt8} (h : ∀ (j : Nat) (nm : List UInt8) (c : Int), nameL[j]? = some (nm, c) → nm ≠ l) : namedB l = ⟨#[]⟩ := by
  unfold namedB
  cases hn : nameN l with
  | none => rfl
  | some m =>
    obtain ⟨k, _, hk⟩ := nameN_some hn
    exact absurd rfl (h k l m hk)

end Go.Proofs.Ytdiifkmcbnhliaa.mk

namespace Go.Proofs.Ytdiifkmcbnhliaa.mk
open Go.RowKit

def noS : Nat → Prop := fun _ => False
theorem RwSt.lies {N : Nat} {qs : List (Int × Int)} {ta : Value} {w0 : World} {bs : List UInt8} {os : List Int} {v : Value} {w : World} (h : RwSt N noS qs ta w0 bs os v w) {t : TypeId} {cs : Array Value} {g : Nat} (hg : g < N + 2) (hw : Whole w0 g t cs) : Whole w g t cs :=
  hw.same (h.2.2.2.2.1.block g hg (fun h => h))

/-- what stands between two bytes: lf bytes are still to come of those that p stands for -/
def EdMid (L out : List (UInt8 × Int)) (k lf : Nat) (wo : Int) (p : List UInt8) (e z : Nat) : Prop :=
  0 < lf ∧ (1 ≤ p.length ∧ p.length ≤ 4) ∧ e ≤ k ∧ e + z = k + lf ∧ wo = worT (L.drop e) (k - e) ∧ decE L = out ++ (putE p (worT (L.drop e) z) ++ decE (L.drop (k + lf))) ∧ k + lf ≤ L.length
theorem EdMid.start {L out : List (UInt8 × Int)} {k : Nat} (h : L.drop k ≠ []) (hd : decE L = out ++ decE (L.drop k)) : EdMid L out k (nxE (L.drop k)).2 0 (nxE (L.drop k)).1 k (nxE (L.drop k)).2 := by
  have hb := nxE_bd h
  have hb2 := hb.2.1
  rw [List.length_drop] at hb2
  refine ⟨hb.1, ⟨hb.2.2.1, hb.2.2.2.2⟩, Nat.le_refl _, rfl, by rw [Nat.sub_self]; rfl, ?_, by omega⟩
  rw [hd, decE_next h, List.drop_drop]
theorem EdMid.next {L out : List (UInt8 × Int)} {k lf : Nat} {wo : Int} {p : List UInt8} {e z : Nat} {c : UInt8 × Int} (h : EdMid L out k lf wo p e z) (hc : L[k]? = some c) (hl : lf ≠ 1) : EdMid L out (k + 1) (lf - 1) (max wo c.2) p e z := by
  obtain ⟨h1, h2, h3, h4, h5, h6, h7⟩ := h
  refine ⟨by omega, h2, by omega, by omega, ?_, ?_, by omega⟩
  · have hx : (L.drop e)[k - e]? = some c := by rw [List.getElem?_drop, show e + (k - e) = k by omega]; exact hc
    rw [show k + 1 - e = (k - e) + 1 by omega, worT_next hx, h5]
  · rw [show k + 1 + (lf - 1) = k + lf by omega]; exact h6
theorem EdMid.last {L out : List (UInt8 × Int)} {k : Nat} {wo : Int} {p : List UInt8} {e z : Nat} {c : UInt8 × Int} (h : EdMid L out k 1 wo p e z) (hc : L[k]? = some c) : decE L = (out ++ putE p (max wo c.2)) ++ decE (L.drop (k + 1)) := by
  obtain ⟨h1, h2, h3, h4, h5, h6, h7⟩ := h
  have hx : (L.drop e)[k - e]? = some c := by rw [List.getElem?_drop, show e + (k - e) = k by omega]; exact hc
  have hz : z = (k - e) + 1 := by omega
  rw [hz, worT_next hx, ← h5] at h6
  rw [h6, List.append_assoc]

def EdK (N : Nat) (L : List (UInt8 × Int)) (sz : Nat) (qs : List (Int × Int)) (ta : Value) (w0 : World) (k : Nat) (v at_ part left worst : Value) (wr : World) : Prop :=
  at_ = .int .i64 (k : Int) ∧ k ≤ sz ∧ ∃ (lf : Nat) (wo : Int) (pb : ByteArray) (out : List (UInt8 × Int)), left = .int .i64 (lf : Int) ∧ worst = .int .i64 wo ∧ part = .string pb ∧
    ((lf = 0 ∧ decE L = out ++ decE (L.drop k) ∧ RwSt N noS qs ta w0 (out.map (·.1)) (out.map (·.2)) v wr) ∨
      (∃ e z, EdMid L out k lf wo pb.data.toList e z ∧ RwSt N noS qs ta w0 (out.map (·.1) ++ pb.data.toList) (out.map (·.2)) v wr))
theorem EdK.st {N : Nat} {L : List (UInt8 × Int)} {sz : Nat} {qs : List (Int × Int)} {ta : Value} {w0 : World} {k : Nat} {v at_ part left worst : Value} {wr : World} (h : EdK N L sz qs ta w0 k v at_ part left worst wr) :
    ∃ bs os, RwSt N noS qs ta w0 bs os v wr := by
  obtain ⟨_, _, lf, wo, pb, out, _, _, _, h | ⟨e, z, _, h⟩⟩ := h
  · exact ⟨_, _, h.2.2⟩
  · exact ⟨_, _, h⟩
theorem EdK.below {N : Nat} {L : List (UInt8 × Int)} {sz : Nat} {qs : List (Int × Int)} {ta : Value} {w0 : World} {k : Nat} {v at_ part left worst : Value} {wr w' : World} (h : EdK N L sz qs ta w0 k v at_ part left worst wr) (hb : Below wr.heap.size wr w') : EdK N L sz qs ta w0 k v at_ part left worst w' := by
  obtain ⟨h1, h2, lf, wo, pb, out, h3, h4, h5, h | ⟨e, z, hm, h⟩⟩ := h
  · exact ⟨h1, h2, lf, wo, pb, out, h3, h4, h5, .inl ⟨h.1, h.2.1, h.2.2.below hb⟩⟩
  · exact ⟨h1, h2, lf, wo, pb, out, h3, h4, h5, .inr ⟨e, z, hm, h.below hb⟩⟩
def EdOut (N : Nat) (L : List (UInt8 × Int)) (sz : Nat) (qs : List (Int × Int)) (ta : Value) (w0 : World) (v at_ part left worst i : Value) (wr : World) : Prop :=
  ∃ j : Nat, j ≤ qs.length ∧ i = .int .i64 (j : Int) ∧ EdK N L sz qs ta w0 (expand (qs.take j)).length v at_ part left worst wr
def EdIn (N : Nat) (L : List (UInt8 × Int)) (sz : Nat) (qs : List (Int × Int)) (ta : Value) (w0 : World) (r d : Nat) (l o : Int) (v at_ part left worst i : Value) (wr : World) : Prop :=
  ∃ m k : Nat, k = d + m ∧ (m : Int) ≤ l ∧ i = .int .i64 (m : Int) ∧ EdK N L sz qs ta w0 k v at_ part left worst wr ∧ Whole wr r 61 #[.int .i64 l, .int .i64 o] ∧ v.ownBlock ≠ some r

end Go.Proofs.Ytdiifkmcbnhliaa.mk
