/-
  The contract of the reference's stands.
-/
import Derived.Test.YtagpdcgcjallhaaEntRefN
import Derived.Deep.DeepCutAuto
namespace Go.Proofs.Ytagpdcgcjallhaa.mk
open Go.RowKit

def standsB (l : List UInt8) : ByteArray := match standsN l with | some n => numB n | none => ⟨#[]⟩
theorem standsB_name {l : List UInt8} (h : numS l = none) : standsB l = namedB l := by
  unfold standsB standsN namedB
  cases nameN l with
  | some n => rfl
  | none => simp only [h]
theorem standsB_hash (t : List UInt8) : standsB (35 :: t) = match numS (35 :: t) with | some n => numB n | none => ⟨#[]⟩ := by
  unfold standsB
  rw [standsN_hash]
def digsB (base : Int) (u : List UInt8) : ByteArray := match digs base u with | some n => numB n | none => ⟨#[]⟩
theorem digsB_ok {base : Int} (hb : base = 10 ∨ base = 16) {u : List UInt8} (h1 : u ≠ []) (h2 : ∀ b ∈ u, digV base b = true) : digsB base u = numB (valC 2000000 base u) := by
  unfold digsB
  rw [digs_of h1 h2, numB_val (by omega) (by omega) u h2]
theorem digsB_no {base : Int} {u : List UInt8} {k : Nat} {x : UInt8} (h : u[k]? = some x) (hx : digV base x = false) : digsB base u = ⟨#[]⟩ := by
  unfold digsB digs
  rw [if_neg]
  rintro ⟨_, ha⟩
  have := List.all_eq_true.1 ha x (List.mem_of_getElem? h)
  rw [hx] at this
  cases this
theorem digsB_nil (base : Int) : digsB base [] = ⟨#[]⟩ := by
  unfold digsB digs
  rw [if_neg (fun h => h.1 rfl)]
def isHex (t : List UInt8) : Bool := match t with | x :: _ => x == 120 || x == 88 | [] => false
theorem isHex_yes {t : List UInt8} (h : isHex t = true) : standsB (35 :: t) = digsB 16 (t.drop 1) ∧ 1 ≤ t.length := by
  cases t with
  | nil => cases h
  | cons x u =>
    have hx : x = 120 ∨ x = 88 := by
      have h2 : (x == 120 || x == 88) = true := h
      simpa using h2
    refine ⟨?_, by simp⟩
    rw [standsB_hash]
    show (match (if (35 : UInt8) = 35 then (if x = 120 ∨ x = 88 then digs 16 u else digs 10 (x :: u)) else none) with | some n => numB n | none => ⟨#[]⟩) = _
    rw [if_pos rfl, if_pos hx]
    rfl
theorem isHex_no {t : List UInt8} (h : isHex t = false) : standsB (35 :: t) = digsB 10 t := by
  rw [standsB_hash]
  cases t with
  | nil =>
    rw [digsB_nil]
    rfl
  | cons x u =>
    have hx : ¬ (x = 120 ∨ x = 88) := by
      have h2 : (x == 120 || x == 88) = false := h
      simpa using h2
    show (match (if (35 : UInt8) = 35 then (if x = 120 ∨ x = 88 then digs 16 u else digs 10 (x :: u)) else none) with | some n => numB n | none => ⟨#[]⟩) = _
    rw [if_pos rfl, if_neg hx]
    rfl

def StdCut (l : List UInt8) (z : Nat) (v0 v3 : Value) : Prop :=
  ∃ (tb : ByteArray) (base : Int), v0 = .string tb ∧ v3 = .int .i64 base ∧ (base = 10 ∨ base = 16) ∧ standsB l = digsB base tb.data.toList ∧ tb.size ≤ z
def StdRel (base : Int) (l : List UInt8) (n i : Value) : Prop :=
  ∃ k : Nat, k ≤ l.length ∧ n = .int .i64 (valC 2000000 base (l.take k)) ∧ i = .int .i64 (k : Int) ∧ ∀ y ∈ l.take k, digV base y = true
theorem valC_bd2 {base : Int} (hb : 1 ≤ base) {l : List UInt8} (h : ∀ b ∈ l, digV base b = true) : 0 ≤ valC 2000000 base l ∧ valC 2000000 base l ≤ 2000000 := by
  have := valC_eq (top := 2000000) (by omega) hb l h
  omega

set_option maxHeartbeats 1000000 in
set_option maxRecDepth 100000 in
theorem refStands_any (s : ByteArray) (hs : s.size ≤ 4294967296) (w : World) :
    Calls Try.prog 27 #[.string s] w fun e w' => e = .returned (.string (standsB s.data.toList)) ∧ Below w.heap.size w w' := by
  have hsl : s.data.toList.length = s.size := by rw [Array.length_toList]; rfl
  have hte : s.toList = s.data.toList := ByteArray.toList_eq ..
  by_cases hz : s.size = 0
  · have hnil : s.data.toList = [] := List.eq_nil_of_length_eq_zero (by omega)
    have HR : Hid (standsB s.data.toList = namedB s.data.toList) := standsB_name (by rw [hnil]; rfl)
    have he : (s.toList == []) = true := by rw [hte, hnil]; rfl
    clear hte hsl hnil
    go_enter Try.func27, Try.ntmps27
    go_wp2_with fail
    refine (refNamed_any s _).mono ?_
    rintro e w1 ⟨rfl, hb1⟩
    rw [← HR.out]
    go_wp2_with fail
    go_ret
    exact ⟨rfl, hb1⟩
  · have hp : 0 < s.size := by omega
    have hcons : s.data.toList = s[0]'hp :: s.data.toList.drop 1 := by
      have h1 : s.data.toList[0]? = some (s[0]'hp) := by
        rw [List.getElem?_eq_getElem (by rw [hsl]; exact hp)]
        rfl
      cases hl : s.data.toList with
      | nil => rw [hl] at h1; cases h1
      | cons a b =>
        rw [hl] at h1
        injection h1 with h1
        rw [← h1]; rfl
    have he : (s.toList == []) = false := by
      rw [hte, hcons]; rfl
    have HTE := Lib.hid hte
    clear hte
    by_cases hx35 : s[0]'hp = 35
    · have hb35 : ((s[0]'hp).toNat : Int) = 35 := by rw [hx35]; rfl
      have htl : (s.extract 1 s.size).data.toList = s.data.toList.drop 1 := ba_rest s 1
      rw [hx35] at hcons
      rw [hcons]
      have htz : (s.extract 1 s.size).size + 1 = s.size := by rw [ByteArray.size_extract]; omega
      obtain ⟨tb, htb⟩ : ∃ tb, tb = s.extract 1 s.size := ⟨_, rfl⟩
      rw [← htb] at htl htz
      rw [← htl]
      have HTB := Lib.hid htb
      clear hcons htl hsl hx35 htb
      have h1s : (1 : Int) ≤ (s.size : Int) := by omega
      have hte2 : tb.toList = tb.data.toList := ByteArray.toList_eq ..
      have htbl : tb.data.toList.length = tb.size := by rw [Array.length_toList]; rfl
      generalize ht : tb.data.toList = t at *
      go_enter Try.func27, Try.ntmps27
      go_upto_region 5 with (fail)
      rw [← HTB.out]
      go_cut [28] (fun s28 wx => s28 = .bool (isHex t) ∧ wx = w)
      case first =>
        cases t with
        | nil =>
          have hie : tb.toList.isEmpty = true := by rw [hte2]; rfl
          clear hte2
          go_wp2_with fail
          go_meet
          exact ⟨rfl, rfl⟩
        | cons x u =>
          have hie : tb.toList.isEmpty = false := by rw [hte2]; rfl
          have hq : 0 < tb.size := by rw [← htbl]; simp
          have hsk : tb[0]'hq = x := by
            have h1 : tb.data.toList[0]? = some (tb[0]'hq) := by
              rw [List.getElem?_eq_getElem (by rw [ht]; simp)]
              rfl
            rw [ht] at h1
            injection h1 with h1
            exact h1.symm
          have h0t : (0 : Int) < (tb.size : Int) := by omega
          clear hte2 ht htbl
          by_cases hx : x = 120
          · subst hx
            have hb : ((tb[0]'hq).toNat : Int) = 120 := by rw [hsk]; rfl
            go_wp2_with fail
            go_meet
            exact ⟨rfl, rfl⟩
          · by_cases hx2 : x = 88
            · subst hx2
              have hb : ((tb[0]'hq).toNat : Int) = 88 := by rw [hsk]; rfl
              go_wp2_with fail
              go_meet
              exact ⟨rfl, rfl⟩
            · have hn1 : ((x.toNat : Int) == 120) = false := by
                rw [beq_eq_false_iff_ne]
                intro e
                exact hx (UInt8.toNat_inj.1 (by have : (120 : UInt8).toNat = 120 := rfl; omega))
              have hn2 : ((x.toNat : Int) == 88) = false := by
                rw [beq_eq_false_iff_ne]
                intro e
                exact hx2 (UInt8.toNat_inj.1 (by have : (88 : UInt8).toNat = 88 := rfl; omega))
              have hih : isHex (x :: u) = false := by
                show (x == 120 || x == 88) = false
                simp [hx, hx2]
              have HIH := Lib.hid hih
              clear hih
              go_wp2_with fail
              go_meet
              exact ⟨by rw [HIH.out], rfl⟩
      case rest =>
        obtain ⟨rfl, rfl⟩ := hcut
        obtain ⟨wd, rfl⟩ : ∃ wd : World, wd = wc := ⟨_, rfl⟩
        have HXD : Hid (isHex t = true → standsB (35 :: t) = digsB 16 (tb.extract 1 tb.size).data.toList ∧ 1 ≤ tb.size) := fun h => by
          have h2 := isHex_yes h
          rw [ba_rest, ht]
          exact ⟨h2.1, by rw [← htbl]; exact h2.2⟩
        have HXN : Hid (isHex t = false → standsB (35 :: t) = digsB 10 tb.data.toList) := fun h => by
          rw [ht]; exact isHex_no h
        clear hte2 htbl ht
        generalize hih : isHex t = ih at *
        clear hih
        go_upto_if 28 with (fail)
        go_cut [0, 3] (fun s0 s3 wx => StdCut (35 :: t) s.size s0 s3 ∧ wx = wd)
        case first =>
          cases ih with
          | true =>
            obtain ⟨h1, h2⟩ := HXD.out rfl
            have h3 : (1 : Int) ≤ (tb.size : Int) := by omega
            have hrz : (tb.extract 1 tb.size).size ≤ s.size := by rw [ByteArray.size_extract]; omega
            have HSC : Hid (StdCut (35 :: t) s.size (.string (tb.extract 1 tb.size)) (.int .i64 16)) := ⟨_, 16, rfl, rfl, .inr rfl, h1, hrz⟩
            clear h1 hrz
            go_wp2_with fail
            go_meet
            exact ⟨HSC.out, rfl⟩
          | false =>
            have HSC : Hid (StdCut (35 :: t) s.size (.string tb) (.int .i64 10)) := ⟨_, 10, rfl, rfl, .inl rfl, HXN.out rfl, by omega⟩
            go_wp2_with fail
            go_meet
            exact ⟨HSC.out, rfl⟩
        case rest =>
          obtain ⟨⟨ub, base, rfl, rfl, hbase, hst, huz⟩, rfl⟩ := hcut
          have HST := Lib.hid hst
          clear HXD HXN hst htz
          have hul : ub.data.toList.length = ub.size := by rw [Array.length_toList]; rfl
          have hute : ub.toList = ub.data.toList := ByteArray.toList_eq ..
          have hb1 : 1 ≤ base := by omega
          have hb2 : base ≤ 16 := by omega
          by_cases huz0 : ub.size = 0
          · have hnil : ub.data.toList = [] := List.eq_nil_of_length_eq_zero (by omega)
            have hie : (ub.toList == []) = true := by rw [hute, hnil]; rfl
            have HR : Hid (standsB (35 :: t) = ⟨#[]⟩) := by
              show _ = _
              rw [HST.out, hnil]; exact digsB_nil base
            clear hute hnil hul
            go_wp2_with fail
            go_ret
            exact ⟨by rw [HR.out]; rfl, Below.refl _ _⟩
          · have hie : (ub.toList == []) = false := by
              rw [hute]
              cases hl : ub.data.toList with
              | nil => rw [hl] at hul; exact absurd hul.symm huz0
              | cons a b => rfl
            have HUL := Lib.hid hul
            have HB := Lib.hid hbase
            have HOK : Hid ((∀ y ∈ ub.data.toList, digV base y = true) → digsB base ub.data.toList = numB (valC 2000000 base ub.data.toList)) := fun h => digsB_ok HB.out (by intro e; rw [e] at hul; exact huz0 hul.symm) h
            clear hul hute hbase
            go_wp2_with fail
            go_loop [4, 5] (StdRel base ub.data.toList) (fun _ i => ub.size - (intOf i).toNat)
            case atStart => exact ⟨0, Nat.zero_le _, rfl, rfl, by simp⟩
            case round =>
              obtain ⟨k, hk, rfl, rfl, hall⟩ := hrel
              rw [HUL.out] at hk
              have hvb := valC_bd2 hb1 hall
              have HALL := Lib.hid hall
              clear hall
              have hk0 : (0 : Int) ≤ (k : Int) := Int.natCast_nonneg _
              by_cases hlt : k < ub.size
              · have hk1 : (k : Int) < (ub.size : Int) := by omega
                have HSK : Hid (ub.data.toList[k]? = some (ub[k]'hlt)) := by
                  show _ = _
                  rw [List.getElem?_eq_getElem (by rw [HUL.out]; exact hlt)]
                  rfl
                have HNX : Hid (ub.data.toList.take (k + 1) = ub.data.toList.take k ++ [ub[k]'hlt]) := take_next HSK.out
                generalize hsk : ub[k]'hlt = x at *
                have hxb := hexB_bd x
                have hrv := refV_bd x
                have hdv := refV_dig (base := base) (by omega) x
                cases hq : digV base x with
                | true =>
                  rw [hq] at hdv
                  have hv1 : refV x < base := of_decide_eq_true hdv.symm
                  have hrh : refV x = hexB x := by
                    have := (digV_bd hq).1
                    unfold refV
                    rw [if_neg (by omega)]
                  have HV : Hid (valC 2000000 base (ub.data.toList.take (k + 1)) = min (valC 2000000 base (ub.data.toList.take k) * base + refV x) 2000000) := by show _ = _; rw [HNX.out, valC_snoc, hrh]
                  have HA2 : Hid (∀ y ∈ ub.data.toList.take (k + 1), digV base y = true) := by
                    intro y hy
                    rw [HNX.out] at hy
                    rcases List.mem_append.1 hy with hy | hy
                    · exact HALL.out y hy
                    · simp at hy; subst hy; exact hq
                  generalize valC 2000000 base (ub.data.toList.take k) = n at *
                  obtain ⟨hn0, hn1⟩ := hvb
                  have hm0 : 0 ≤ n * base := Int.mul_nonneg hn0 (by omega)
                  have hm1 : n * base ≤ 2000000 * base := Int.mul_le_mul_of_nonneg_right hn1 (by omega)
                  have hm2 : n * base ≤ 32000000 := by omega
                  have HVX : Hid (∀ w, Calls Try.prog 50 #[.int .u8 x.toNat] w fun e w' => e = .returned (.int .i64 (refV x)) ∧ w' = w) := fun w => refValue_any x w
                  clear hm1 hq hdv hrh hxb
                  generalize refV x = v at *
                  have hv3 : ¬ base ≤ v := by omega
                  go_wp2_with fail
                  refine (HVX.out _).mono ?_
                  rintro e w' ⟨rfl, rfl⟩
                  go_wp2_with fail
                  refine (HVX.out _).mono ?_
                  rintro e w' ⟨rfl, rfl⟩
                  go_wp2_with fail
                  go_round
                  case rel => exact ⟨k + 1, by rw [HUL.out]; omega, by rw [HV.out], by go_num, HA2.out⟩
                  case measure => simp [intOf]; omega
                | false =>
                  rw [hq] at hdv
                  have hv1 : base ≤ refV x := by
                    have := of_decide_eq_false hdv.symm
                    omega
                  have HR : Hid (standsB (35 :: t) = ⟨#[]⟩) := HST.out.trans (digsB_no HSK.out hq)
                  have HVX : Hid (∀ w, Calls Try.prog 50 #[.int .u8 x.toNat] w fun e w' => e = .returned (.int .i64 (refV x)) ∧ w' = w) := fun w => refValue_any x w
                  clear hq hdv hxb hvb
                  generalize refV x = v at *
                  go_wp2_with fail
                  refine (HVX.out _).mono ?_
                  rintro e w' ⟨rfl, rfl⟩
                  go_wp2_with fail
                  go_ret
                  exact ⟨by rw [HR.out]; rfl, Below.refl _ _⟩
              · obtain rfl : k = ub.size := by omega
                have HR : Hid (standsB (35 :: t) = numB (valC 2000000 base (ub.data.toList.take ub.size))) := by
                  have ht : ub.data.toList.take ub.size = ub.data.toList := List.take_of_length_le (by rw [HUL.out]; exact Nat.le_refl _)
                  show _ = _
                  rw [ht, HST.out]
                  refine HOK.out fun y hy => HALL.out y ?_
                  rw [ht]; exact hy
                generalize valC 2000000 base (ub.data.toList.take ub.size) = n at *
                go_wp2_with fail
                refine (refNumber_any n _).mono ?_
                rintro e w1 ⟨rfl, hb1⟩
                rw [← HR.out]
                go_wp2_with fail
                go_ret
                exact ⟨rfl, hb1⟩
    · have hb35 : (((s[0]'hp).toNat : Int) != 35) = true := by
        rw [bne_iff_ne]
        intro e
        exact hx35 (UInt8.toNat_inj.1 (by have : (35 : UInt8).toNat = 35 := rfl; omega))
      have HR : Hid (standsB s.data.toList = namedB s.data.toList) := standsB_name (by
        rw [hcons]
        show (if s[0]'hp = 35 then _ else none) = none
        rw [if_neg hx35])
      clear hcons hsl
      generalize hx : s[0]'hp = x at *
      have h0s : (0 : Int) < (s.size : Int) := by omega
      go_enter Try.func27, Try.ntmps27
      go_wp2_with fail
      refine (refNamed_any s _).mono ?_
      rintro e w1 ⟨rfl, hb1⟩
      rw [← HR.out]
      go_wp2_with fail
      go_ret
      exact ⟨rfl, hb1⟩

end Go.Proofs.Ytagpdcgcjallhaa.mk
