/-
  UtfRunes: whatever the two numbers: runes of unlike numbers that may be are unlike, and each reads as one right sequence.
  Conditions: none.
-/
import Derived.Test.YtkapkoehmofpcaaUtfAlive
import Derived.Test.YtkapkoehmofpcaaLaw
namespace Go.Proofs.Ytkapkoehmofpcaa.mk
open Go.RowKit

theorem runeB_bad : runeB 65533 = ⟨#[239, 191, 189]⟩ := by
  unfold runeB
  rw [show runeN 65533 = 65533 by decide]
  rfl
theorem runeN_of {n : Int} (h : (runeB n).data.toList ≠ [239, 191, 189]) : runeN n = n := by
  by_cases hn : 1 ≤ n ∧ n ≤ 1114111 ∧ ¬ (55296 ≤ n ∧ n ≤ 57343)
  · unfold runeN; rw [if_pos hn]
  · exfalso
    apply h
    have : runeB n = runeB 65533 := by unfold runeB; rw [show runeN n = runeN 65533 by rw [show runeN 65533 = 65533 by decide]; unfold runeN; rw [if_neg hn]]
    rw [this, runeB_bad]
theorem tmod_bd (a : Int) : -1114111 < a.tmod 1114111 ∧ a.tmod 1114111 < 1114111 := by
  have h1 := Int.tmod_lt_of_pos a (show (0 : Int) < 1114111 by decide)
  have h2 := Int.tmod_lt_of_pos (-a) (show (0 : Int) < 1114111 by decide)
  rw [Int.neg_tmod] at h2
  omega

set_option maxHeartbeats 1000000 in
set_option maxRecDepth 100000 in
theorem runes_any (a b : Int) (w : World) :
    Calls Try.prog 6 #[.int .i64 a, .int .i64 b] w fun e w' => e = .returned (.bool true) ∧ Below w.heap.size w w' := by
  obtain ⟨ha1, ha2⟩ := tmod_bd a
  obtain ⟨hb1, hb2⟩ := tmod_bd b
  go_enter Try.func6, Try.ntmps6
  go_wp2_with fail
  refine (alive2_any _).mono ?_
  rintro e w1 ⟨rfl, hbl1⟩
  go_wp2_with fail
  refine (rune_any _ _).mono ?_
  rintro e w' ⟨rfl, rfl⟩
  go_wp2_with fail
  refine (rune_any _ _).mono ?_
  rintro e w' ⟨rfl, rfl⟩
  go_wp2_with fail
  generalize a.tmod 1114111 % 1114111 + 1 = p
  generalize b.tmod 1114111 % 1114111 + 1 = q
  have hpq : (runeB p).data.toList ≠ [239, 191, 189] → (runeB q).data.toList ≠ [239, 191, 189] → (runeB p).data.toList = (runeB q).data.toList → p = q := fun h1 h2 h => by
    have := runeB_inj h
    rw [runeN_of h1, runeN_of h2] at this
    exact this
  have HPQ := Lib.hid hpq
  have hx4 := runeB_le4 p
  have HX1 := Lib.hid (runeB_nx p)
  have HX2 := Lib.hid (runeB_cnt p)
  have HE : Hid (p = q → runeB p = runeB q) := fun h => by rw [h]
  clear hpq ha1 ha2 hb1 hb2
  generalize runeB p = x at *
  generalize runeB q = y at *
  refine (next_any x _ (by omega)).mono ?_
  rintro e w' ⟨rfl, rfl⟩
  rw [HX1.out]
  have hcnt : Hid (∀ w', Calls Try.prog 20 #[.string x] w' fun e w'' => e = .returned (.int .i64 1) ∧ Below w'.heap.size w' w'') := fun w' => by
    have h := count_any x w' (by omega)
    rw [HX2.out] at h
    exact h
  by_cases hx : x.data.toList = [239, 191, 189]
  · have hx' : (x.toList == [239, 191, 189]) = true := by rw [ByteArray.toList_eq, hx]; rfl
    clear hx
    go_wp2_with fail
    refine (hcnt.out _).mono ?_
    rintro e w2 ⟨rfl, hb2⟩
    go_wp2_with fail
    go_ret
    exact ⟨rfl, below_next hbl1 (Nat.le_refl _) hb2⟩
  · have hx' : (x.toList == [239, 191, 189]) = false := by rw [ByteArray.toList_eq, beq_eq_false_iff_ne]; exact hx
    by_cases hy : y.data.toList = [239, 191, 189]
    · have hy' : (y.toList == [239, 191, 189]) = true := by rw [ByteArray.toList_eq, hy]; rfl
      clear hx hy
      go_wp2_with fail
      refine (hcnt.out _).mono ?_
      rintro e w2 ⟨rfl, hb2⟩
      go_wp2_with fail
      go_ret
      exact ⟨rfl, below_next hbl1 (Nat.le_refl _) hb2⟩
    · have hy' : (y.toList == [239, 191, 189]) = false := by rw [ByteArray.toList_eq, beq_eq_false_iff_ne]; exact hy
      by_cases he : p = q
      · have hxy : x = y := HE.out he
        subst he
        subst hxy
        clear hx hy
        go_wp2_with fail
        refine (hcnt.out _).mono ?_
        rintro e w2 ⟨rfl, hb2⟩
        go_wp2_with fail
        go_ret
        exact ⟨rfl, below_next hbl1 (Nat.le_refl _) hb2⟩
      · have hxy : (x.toList == y.toList) = false := by
          rw [ByteArray.toList_eq, ByteArray.toList_eq, beq_eq_false_iff_ne]
          exact fun h => he (HPQ.out hx hy h)
        have he' : (p == q) = false := by rw [beq_eq_false_iff_ne]; exact he
        clear hx hy he
        go_wp2_with fail
        refine (hcnt.out _).mono ?_
        rintro e w2 ⟨rfl, hb2⟩
        go_wp2_with fail
        go_ret
        exact ⟨rfl, below_next hbl1 (Nat.le_refl _) hb2⟩

end Go.Proofs.Ytkapkoehmofpcaa.mk
namespace Go.Proofs.Ytkapkoehmofpcaa.utfRunes
open Go.ChangeShapes Go.WideShapes Go.ChangeAt Go.RowKit Go.Proofs.Ytkapkoehmofpcaa.mk

set_option maxRecDepth 100000 in
theorem lifted (os : Os) (started : os.Started) (H : Type) (enc : TypeId × Value → H) :
    ReturnsInHanded {} Try.checked os 6 .any (Rows.utfRunesSpec.pre6 enc Try.prog Try.f6 Rows.utfRunesRow.domain false) (Rows.utfRunesSpec.post enc Try.prog Try.f6 false true false false) := by
  refine returnsInHanded_of_change (C := Try.checked) own started (by kernel_rfl) Try.func6
    (ChangeSpec.witness6 (enc := enc) (C := Try.checked) false ⟨#[], #[.int .i64 0, .int .i64 0], []⟩ 8 (by kernel_rfl) (by kernel_rfl) (by kernel_rfl) (by kernel_rfl)) ?_
  intro W base args ds gs before hval0 hW hcnd _
  have hval : ∀ (j : Nat) t v, Try.f6.params[j]? = some t → args[j]? = some v → Value.okWide Try.prog W .any base t v := hval0
  obtain ⟨p, q, hA0, hV, rfl, hfz, hnd⟩ := id hW
  have hA : DataW.TrodAll enc Try.prog W 0 (fun _ => true) true Try.f6.params.toList args.toList ds p := hA0
  rw [Try.params6] at hA hval
  obtain ⟨v0, vs0, d0, ds0, p0, q0, hargs, rfl, rfl, h0, r0⟩ := trodAll_cons hA
  obtain ⟨v1, vs1, d1, ds1, p1, q1, rfl, rfl, rfl, h1, r1⟩ := trodAll_cons r0
  obtain ⟨rfl, rfl, rfl⟩ := trodAll_nil r1
  obtain rfl : args = #[v0, v1] := by cases args; simp_all
  obtain ⟨a, rfl⟩ := okWide_int Try.underlying3 (hval 0 3 v0 rfl rfl)
  obtain ⟨b, rfl⟩ := okWide_int Try.underlying3 (hval 1 3 v1 rfl rfl)
  refine (runes_any a b W).mono fun e W' ⟨he, hb⟩ => ?_
  subst he
  exact ⟨_, rfl, law_post (tb := 4) laidOut hW rfl ⟨rfl, rfl, rfl⟩ (by rw [Try.params6]; exact readable_all (by kernel_rfl)) rfl Try.underlying4 hb⟩

theorem proved : Rows.UtfRunesSaid :=
  OpenClaim.holds_of_wide 6 Try.f6 rfl rfl rfl rfl rfl rfl rfl ⟨rfl, rfl, rfl, rfl, rfl⟩ rfl rfl rfl rfl rfl (by kernel_rfl) Try.func6 (by kernel_rfl)
    (of_decide_eq_true (by kernel_rfl)) (by unfold Func.isWrapper; first | (rw [if_pos (by decide +kernel)]; kernel_rfl) | (rw [if_neg (by decide +kernel)]; exact ⟨rfl, rfl⟩))
    (fun os started H enc _ => lifted os started H enc)

end Go.Proofs.Ytkapkoehmofpcaa.utfRunes
