/-
  Contracts of the reference's Text and Take.
-/
import Derived.Test.YtagpdcgcjallhaaEntRefS
import Derived.Test.YtagpdcgcjallhaaSeekRefIdx
import Derived.Test.YtagpdcgcjallhaaMarkRefStr
import Derived.Test.YtagpdcgcjallhaaMarkFix
import Derived.Test.YtagpdcgcjallhaaLiesCut
import Derived.Test.YtagpdcgcjallhaaFirst
namespace Go.Proofs.Ytagpdcgcjallhaa.mk
open Go.RowKit

theorem refText_any (A : Option Addr) (n c : Nat) (l : List (UInt8 × Int)) (w : World) (hl : Lies w w.heap.size A (chCells l)) (hn : l.length = n) (hn2 : n ≤ 4294967296) :
    Calls Try.prog 28 #[.slice A n c] w fun e w' => e = .returned (.string ⟨(l.map (·.1)).toArray⟩) ∧ Below w.heap.size w w' := by
  go_enter Try.func28, Try.ntmps28
  go_wp2_with fail
  refine (refStr_any A n c l _ hl hn (by omega)).mono ?_
  rintro e w1 ⟨v, rfl, hown, hb⟩
  obtain ⟨A1, c1, rfl, _, _, _⟩ := own_form hown
  have ft := fun w' => field_text ⟨(l.map (·.1)).toArray⟩ A1 (comp (l.map (·.2))).length c1 w'
  clear hown
  generalize (comp (l.map (·.2))).length = z at *
  go_wp2_with fail
  go_ret
  exact ⟨rfl, hb⟩

theorem bodyE_take {t : List UInt8} (h : (bodyE t).length < t.length) : t.take (bodyE t).length = bodyE t := by
  obtain ⟨r, hr⟩ := bodyE_split h
  generalize bodyE t = b at *
  rw [hr, List.take_left]
theorem semi_find (t : List UInt8) : findI (38 :: t) [59] 0 = if (bodyE t).length < t.length then ((bodyE t).length : Int) + 1 else -1 := by
  have ha : (0 : Nat) = atN (38 :: t).length 0 := by unfold atN; omega
  have hn : ∀ j, 0 ≤ j → j < (bodyE t).length + 1 → Lib.occAt (38 :: t) [59] j = false := fun j _ hj => by
    rw [occ_one, beq_eq_false_iff_ne]
    cases j with
    | zero => rw [List.getElem?_cons_zero]; intro e; injection e with e; revert e; decide
    | succ j =>
      rw [List.getElem?_cons_succ]
      intro e
      have hj2 : j < (bodyE t).length := by omega
      have h1 : t[j]? = (bodyE t)[j]? := by
        unfold bodyE at hj2 ⊢
        conv => lhs; rw [← List.takeWhile_append_dropWhile (p := (· != 59)) (l := t)]
        rw [List.getElem?_append_left hj2]
      rw [h1] at e
      have h2 := bodyE_no t 59 (List.mem_of_getElem? e)
      revert h2; decide
  split
  · rename_i h
    obtain ⟨r, hr⟩ := bodyE_split h
    have h2 : (38 :: t)[(bodyE t).length + 1]? = some 59 := by
      rw [List.getElem?_cons_succ]
      generalize bodyE t = b at *
      rw [hr, List.getElem?_append_right (Nat.le_refl _), Nat.sub_self]
      rfl
    have h3 := findI_first (l := 38 :: t) (p := [59]) ha (Nat.zero_le _) (i := (bodyE t).length + 1) (by simp; omega) (by rw [occ_one, h2]; rfl) hn
    rw [h3]
    rfl
  · rename_i h
    have := bodyE_le t
    exact findI_none (i := (bodyE t).length + 1) ha (by simp; omega) hn

theorem takeE_no {x : UInt8} {t : List UInt8} (h : x ≠ 38) : takeE (x :: t) = (⟨#[]⟩, 0) := takeE_none (refer_not h)
theorem takeE_open {t : List UInt8} (h : ¬ (bodyE t).length < t.length) : takeE (38 :: t) = (⟨#[]⟩, 0) := takeE_none (refer_open h)
theorem takeE_amp {t : List UInt8} (h : (bodyE t).length < t.length) : ((standsB (bodyE t)).size = 0 ∧ takeE (38 :: t) = (⟨#[]⟩, 0)) ∨ (1 ≤ (standsB (bodyE t)).size ∧ takeE (38 :: t) = (standsB (bodyE t), (bodyE t).length + 2)) := by
  unfold standsB
  cases hs : standsN (bodyE t) with
  | none =>
    left
    refine ⟨rfl, takeE_none ?_⟩
    rw [refer_amp h, hs]
    rfl
  | some n =>
    right
    refine ⟨numB_pos n, takeE_some ?_⟩
    rw [refer_amp h, hs]
    rfl

set_option maxHeartbeats 1000000 in
set_option maxRecDepth 100000 in
theorem refEntTake_any (A : Option Addr) (n c : Nat) (l : List (UInt8 × Int)) (w : World) (hl : Lies w w.heap.size A (chCells l)) (hn : l.length = n) (hnc : n ≤ c) (hn2 : n ≤ 4294967296) :
    Calls Try.prog 9 #[.slice A n c] w fun e w' => e = .returned (.tuple #[.string (takeE (l.map (·.1))).1, .int .i64 ((takeE (l.map (·.1))).2 : Nat)]) ∧ Below w.heap.size w w' := by
  cases l with
  | nil =>
    obtain rfl : n = 0 := by rw [← hn]; rfl
    have HR : Hid (takeE (([] : List (UInt8 × Int)).map (·.1)) = (⟨#[]⟩, 0)) := takeE_none rfl
    go_enter Try.func9, Try.ntmps9
    go_wp2_with fail
    go_ret2
    exact ⟨by rw [HR.out]; rfl, Below.refl _ _⟩
  | cons p r =>
    obtain ⟨ad, x, o, rfl, hbk, hc1, hc2, HRX⟩ := hl.ch (k := 0) (by simp)
    simp only [Nat.zero_mul] at hc1
    rw [show ad.add 0 = ad by unfold Addr.add; rfl] at hc1
    have hpx : p = (x, o) := by
      have h := HRX.out
      rw [List.getElem?_cons_zero] at h
      injection h
    subst hpx
    clear hc2
    have hn0 : 0 < n := by rw [← hn]; simp
    by_cases hx : x = 38
    · subst hx
      have HFI : Hid (findI ((((38 : UInt8), o) :: r).map (·.1)) [59] 0 = if (bodyE (r.map (·.1))).length < (r.map (·.1)).length then ((bodyE (r.map (·.1))).length : Int) + 1 else -1) := by
        show _ = _
        exact semi_find (List.map (fun x : UInt8 × Int => x.1) r)
      have hrn : r.length + 1 = n := by rw [← hn]; rfl
      have HN := Lib.hid hn
      have HL := Lib.hid hl
      have hsm := bodyE_le (r.map (·.1))
      rw [List.length_map] at hsm HFI
      by_cases hb : (bodyE (r.map (·.1))).length < r.length
      · rw [if_pos hb] at HFI
        have hb' : (bodyE (r.map (·.1))).length < (r.map (·.1)).length := by rw [List.length_map]; exact hb
        have HTK : Hid (((standsB (bodyE (r.map (·.1)))).size = 0 ∧ takeE ((((38 : UInt8), o) :: r).map (·.1)) = (⟨#[]⟩, 0)) ∨ (1 ≤ (standsB (bodyE (r.map (·.1)))).size ∧ takeE ((((38 : UInt8), o) :: r).map (·.1)) = (standsB (bodyE (r.map (·.1))), (bodyE (r.map (·.1))).length + 2))) := by
          show _ ∨ _
          exact takeE_amp hb'
        have HBT : Hid ((r.take (bodyE (r.map (·.1))).length).map (·.1) = bodyE (r.map (·.1))) := by
          show _ = _
          rw [List.map_take, bodyE_take hb']
        have HLB : Hid (Lies w w.heap.size (some (ad.add 2)) (chCells (r.take (bodyE (r.map (·.1))).length))) := by
          show Lies _ _ _ _
          rw [chCells_take]
          refine Lies.take ?_ _
          have h := hl.drop 2
          rw [show ((chCells (((38 : UInt8), o) :: r)).drop 2) = chCells r from rfl] at h
          exact h
        have HBL : Hid ((r.take (bodyE (r.map (·.1))).length).length = (bodyE (r.map (·.1))).length) := by show _ = _; rw [List.length_take]; omega
        clear hl hn hb'
        generalize hbd : bodyE (r.map (·.1)) = b at *
        generalize hm : b.length = m at *
        have HM := Lib.hid hm
        clear hbd hm
        have h1c : ¬ c = 1 := by omega
        have h1cb : (c == 1) = false := by rw [beq_eq_false_iff_ne]; exact h1c
        have hm0 : ¬ ((m : Int) + 1 < 0) := by omega
        have hmn : (m : Int) + 1 ≤ (n : Int) := by omega
        have hmc : (m : Int) + 1 ≤ (c : Int) := by omega
        have hm1 : (1 : Int) ≤ (m : Int) + 1 := by omega
        go_enter Try.func9, Try.ntmps9
        go_wp2_with fail
        refine (refIndex_any (some ad) n c (((38 : UInt8), o) :: r) ⟨#[59]⟩ 0 _ HL.out HN.out hn2 (by decide)).mono ?_
        rintro e w1 ⟨rfl, hb1⟩
        rw [show (⟨#[59]⟩ : ByteArray).data.toList = [59] from rfl, HFI.out]
        have HLB1 := Lib.hid (HLB.out.below hb1)
        go_wp2_with fail
        refine (refText_any (some (ad.add 2)) m (c - 1) (r.take m) _ (HLB1.out.mono hb1.size) HBL.out (by omega)).mono ?_
        rw [HBT.out]
        rintro e w2 ⟨rfl, hb2⟩
        have hbz : (⟨b.toArray⟩ : ByteArray).size ≤ 4294967296 := by
          show b.length ≤ _
          rw [HM.out]; omega
        have HST : Hid (∀ W, Calls Try.prog 27 #[.string ⟨b.toArray⟩] W fun e w' => e = .returned (.string (standsB b)) ∧ Below W.heap.size W w') := fun W => refStands_any ⟨b.toArray⟩ hbz W
        clear hbz
        generalize (⟨b.toArray⟩ : ByteArray) = bb at *
        generalize standsB b = q at *
        go_wp2_with fail
        refine (HST.out _).mono ?_
        rintro e w3 ⟨rfl, hb3⟩
        have hbf : Below w.heap.size w w3 := below_next (below_next hb1 (Nat.le_refl _) hb2) (Nat.le_refl _) hb3
        have hql : q.data.toList.length = q.size := by rw [Array.length_toList]; rfl
        have hqe : q.toList = q.data.toList := ByteArray.toList_eq ..
        rcases HTK.out with ⟨hz, ht⟩ | ⟨hz, ht⟩
        · have he : (q.toList == []) = true := by
            rw [hqe, List.eq_nil_of_length_eq_zero (l := q.data.toList) (by omega)]; rfl
          have HR := Lib.hid ht
          clear ht hql hqe
          go_wp2_with fail
          go_ret2
          exact ⟨by rw [HR.out]; rfl, hbf⟩
        · have he : (q.toList == []) = false := by
            rw [hqe]
            cases hl : q.data.toList with
            | nil => rw [hl] at hql; simp at hql; omega
            | cons a b => rfl
          have HR := Lib.hid ht
          clear ht hql hqe
          go_wp2_with fail
          go_ret2
          exact ⟨by rw [HR.out]; exact ret_si (by omega), hbf⟩
      · rw [if_neg hb] at HFI
        have HR : Hid (takeE ((((38 : UInt8), o) :: r).map (·.1)) = (⟨#[]⟩, 0)) := takeE_open (by rw [List.length_map]; exact hb)
        clear hl hn hsm hb
        go_enter Try.func9, Try.ntmps9
        go_wp2_with fail
        refine (refIndex_any (some ad) n c (((38 : UInt8), o) :: r) ⟨#[59]⟩ 0 _ HL.out HN.out hn2 (by decide)).mono ?_
        rintro e w1 ⟨rfl, hb1⟩
        rw [show (⟨#[59]⟩ : ByteArray).data.toList = [59] from rfl, HFI.out]
        go_wp2_with fail
        go_ret2
        exact ⟨by rw [HR.out]; rfl, hb1⟩
    · have HR : Hid (takeE (((x, o) :: r).map (·.1)) = (⟨#[]⟩, 0)) := takeE_no hx
      have hx2 : ((x.toNat : Int) != 38) = true := by
        rw [bne_iff_ne]
        intro e
        exact hx (UInt8.toNat_inj.1 (by have : (38 : UInt8).toNat = 38 := rfl; omega))
      clear hx hl hn
      go_enter Try.func9, Try.ntmps9
      go_wp2_with fail
      go_ret2
      exact ⟨by rw [HR.out]; rfl, Below.refl _ _⟩

end Go.Proofs.Ytagpdcgcjallhaa.mk
