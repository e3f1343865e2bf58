/-
  The walk of MarkTells.
-/
import Derived.Test.YtamnoenjpphkcaaMarkEnds
namespace Go.Proofs.Ytamnoenjpphkcaa.mk
open Go.RowKit

theorem ins_own {W : World} {base base' : Nat} {v : Value} {os : List Int} {p : Int} {m : Nat} (h : W.ownsRow base 3 1 v (0 + m + 1 + (os.length - m)) ([] ++ intCells (os.take m) ++ [.int .i64 p] ++ intCells (os.drop m))) (hm : m ≤ os.length) (hb : base' ≤ base) :
    W.ownsRow base' 3 1 v (os.take m ++ [p] ++ os.drop m).length (intCells (os.take m ++ [p] ++ os.drop m)) := by
  have e1 : (os.take m ++ [p] ++ os.drop m).length = 0 + m + 1 + (os.length - m) := by simp; omega
  have e2 : intCells (os.take m ++ [p] ++ os.drop m) = [] ++ intCells (os.take m) ++ [.int .i64 p] ++ intCells (os.drop m) := by simp [intCells]
  rw [e1, e2]
  exact own_mono h hb
theorem ins_own0 {W : World} {base base' : Nat} {v : Value} {os : List Int} {p : Int} {m : Nat} (h : W.ownsRow base 3 1 v (0 + m + 1 + 0) ([] ++ intCells (os.take m) ++ [.int .i64 p] ++ intCells (os.drop m))) (hm : m ≤ os.length) (hm2 : os.length ≤ m) (hb : base' ≤ base) :
    W.ownsRow base' 3 1 v (os.take m ++ [p] ++ os.drop m).length (intCells (os.take m ++ [p] ++ os.drop m)) :=
  ins_own (by rw [Nat.sub_eq_zero_of_le hm2]; exact h) hm hb
theorem intCells_one' (l : List Int) : ∀ u ∈ intCells l, u.oneCell' = true := by
  intro u hu
  obtain ⟨x, _, rfl⟩ := List.mem_map.1 hu
  rfl
theorem intCells_take (l : List Int) (m : Nat) : intCells (l.take m) = (intCells l).take m := by simp [intCells]
theorem intCells_drop (l : List Int) (m : Nat) : intCells (l.drop m) = (intCells l).drop m := by simp [intCells]

theorem whole0 {X : World} {g : Nat} {cs : Array Value} {t : TypeId} (hg : g = X.heap.size) : Whole (X.alloc (.cells cs t)) g t cs := hg ▸ Whole.made X t cs
theorem whole1 {X : World} {o : Obj} {g : Nat} {cs : Array Value} {t : TypeId} (hg : g = X.heap.size) : Whole ((X.alloc (.cells cs t)).alloc o) g t cs := (whole0 hg).alloc o
theorem whole2 {X : World} {o : Obj} {g : Nat} {cs : Array Value} {t : TypeId} (hg : g = X.heap.size + 1) : Whole ((X.alloc o).alloc (.cells cs t)) g t cs := whole0 (by rw [hg, World.size_alloc])

def TellsRel (a : LT) (wv : World) (v i : Value) (wr : World) : Prop :=
  ∃ (k : Nat) (os : List Int), k ≤ a.s.size ∧ i = .int .i64 k ∧ os.length ≤ k ∧ wr.ownsRow wv.heap.size 3 1 v os.length (intCells os) ∧ os.Pairwise (· < ·) ∧ (∀ x, x ∈ os ↔ x ∈ a.os.take k) ∧ Below wv.heap.size wv wr
def TellsIn (os : List Int) (p : Int) (wk : World) (v : Value) (wr : World) : Prop :=
  ∃ (m q : Nat), m ≤ os.length ∧ v = .int .i64 m ∧ (∀ x ∈ os.take m, x < p) ∧ wr = wk.drewN q

set_option maxHeartbeats 4000000 in
set_option maxRecDepth 100000 in
theorem tells_any (a : LT) (i : Int) (tx : ByteArray) (o : Int) (w : World) (ha : a.ok w w.heap.size) (hsz : tx.size ≤ 4294967296) :
    Calls Try.prog 3 #[.agg #[.string a.s, .slice a.A a.n a.c], .int .i64 i, .string tx, .int .i64 o] w fun e w' => e = .returned (.bool true) ∧ Below w.heap.size w w' := by
  have HA := Lib.hid ha
  clear ha
  go_enter Try.func3, Try.ntmps3
  go_wp2_with fail
  refine (alive_any _).mono ?_
  rintro e w0 ⟨rfl, hal⟩
  have y0 : Whole w0 w.heap.size 24 #[.string a.s, .slice a.A a.n a.c] := (Whole.made w _ _).below hal (by simp)
  have hb0 : Below w.heap.size w w0 := ((Below.refl _ _).alloc (Nat.le_refl _) _).trans (hal.mono (by simp))
  have HLA := Lib.hid (HA.out.next hb0 (Nat.le_refl _))
  clear hal
  have c0 : w0.cell? ⟨w.heap.size, 0, none⟩ = some (.string a.s) := y0.at_ 0
  have c1 : w0.cell? ⟨w.heap.size, 1, none⟩ = some (.slice a.A a.n a.c) := y0.at_ 1
  go_wp2_with fail
  refine (refOf_any a.s a.A a.n a.c a.rs _ HLA.out.1 HLA.out.2.1 HLA.out.2.2.2 HLA.out.2.2.1).mono ?_
  rintro e w1 ⟨v1, rfl, h1, hb1⟩
  obtain ⟨A1, d1, rfl, hA1, hd1, hd1'⟩ := own_form h1
  have H1 : Hid (w1.ownsRow w0.heap.size 29 2 (.slice A1 a.s.size d1) a.s.size (chCells a.ch)) := h1
  have HN1 := Lib.hid (LT.ch_length a)
  have HKA := Lib.hid hA1
  have hs32 := HLA.out.2.2.2
  clear h1 hA1 c0 c1
  go_upto_region 5 with (fail)
  go_cut [25] (fun s25 wx => s25 = .bool (decide (0 ≤ i ∧ i < (a.s.size : Int))) ∧ wx = w1)
  case first =>
    by_cases h0 : 0 ≤ i
    · by_cases h9 : i < (a.s.size : Int)
      · have hd0 : decide (0 ≤ i) = true := by simpa using h0
        have hd9 : decide (i < (a.s.size : Int)) = true := by simpa using h9
        go_wp2_with fail
        go_meet
        exact ⟨congrArg Value.bool (decide_eq_true (And.intro (by omega) (by omega))).symm, rfl⟩
      · have hd0 : decide (0 ≤ i) = true := by simpa using h0
        have hd9 : decide (i < (a.s.size : Int)) = false := by simpa using h9
        go_wp2_with fail
        go_meet
        exact ⟨congrArg Value.bool (decide_eq_false (by omega)).symm, rfl⟩
    · have hd0 : decide (0 ≤ i) = false := by simpa using h0
      go_wp2_with fail
      go_meet
      exact ⟨congrArg Value.bool (decide_eq_false (by omega)).symm, rfl⟩
  case rest =>
    obtain ⟨rfl, hwx⟩ := hcut
    subst hwx
    obtain ⟨w1, rfl⟩ : ∃ w1 : World, w1 = wc := ⟨_, rfl⟩
    go_upto_if 25 with (fail)
    go_cut [10] (fun s10 wx => s10 = .int .i64 (atO a.s.size a.rs i) ∧ wx = w1)
    case first =>
      by_cases hin : 0 ≤ i ∧ i < (a.s.size : Int)
      · obtain ⟨k, rfl⟩ : ∃ k : Nat, i = k := ⟨i.toNat, by omega⟩
        have hks : k < a.s.size := by omega
        obtain ⟨ad, b1, p1, hAD, hbA, hc1, hc2, HR⟩ := (Lies.own H1.out).ch (k := k) (by rw [HN1.out]; exact hks)
        subst hAD
        have HO : Hid (p1 = atO a.s.size a.rs k) := by
          show _ = _
          refine (atO_of hks ?_).symm
          have := LT.ch_snd a
          unfold LT.os at this
          rw [← this, List.getElem?_map, HR.out]
          rfl
        have hd : decide (0 ≤ (k : Int) ∧ (k : Int) < (a.s.size : Int)) = true := decide_eq_true hin
        have hk0 : (0 : Int) ≤ (k : Int) := Int.natCast_nonneg _
        have hk1 : (k : Int) < (a.s.size : Int) := by omega
        rw [hd]
        clear hd hin
        go_wp2_with fail
        go_meet
        exact ⟨by rw [HO.out], rfl⟩
      · have hd : decide (0 ≤ i ∧ i < (a.s.size : Int)) = false := decide_eq_false hin
        have HO := Lib.hid (atO_none (rs := a.rs) hin)
        rw [hd]
        clear hd hin
        go_wp2_with fail
        go_meet
        exact ⟨by rw [HO.out], rfl⟩
    case rest =>
      obtain ⟨rfl, hwx⟩ := hcut
      subst hwx
      obtain ⟨wv, rfl⟩ : ∃ wv : World, wv = wc := ⟨_, rfl⟩
      go_wp2_with fail
      go_loopw [11, 12] (TellsRel a wv) (fun _ i _ => a.s.size - (intOf i).toNat)
      case atStart => exact ⟨0, [], Nat.zero_le _, rfl, Nat.le_refl _, by simpa [intCells] using World.ownsRow_nil _ _ _ _, List.Pairwise.nil, by simp, Below.refl _ _⟩
      case round =>
        obtain ⟨k, os, hk, rfl, hosk, hown, hpw, hmem, hbl⟩ := hrel
        have hws := hbl.size
        obtain ⟨A3, d3, rfl, hA3, hd3, hd3'⟩ := own_form hown
        have HPW := Lib.hid hpw
        have HMEM := Lib.hid hmem
        have HA3 := Lib.hid hA3
        have HOWN := Lib.hid hown
        have HBL := Lib.hid hbl
        clear hpw hmem hA3
        obtain ⟨wk, rfl⟩ : ∃ wk : World, wk = wr := ⟨_, rfl⟩
        by_cases hlt : k < a.s.size
        · obtain ⟨ad, b1, p1, hAD, hbA, hc1, hc2, HR⟩ := ((Lies.own H1.out).below hbl).ch (k := k) (by rw [HN1.out]; exact hlt)
          subst hAD
          have HOS : Hid (a.os.take (k + 1) = a.os.take k ++ [p1]) := by
            show _ = _
            refine take_next ?_
            rw [← LT.ch_snd, List.getElem?_map, HR.out]
            rfl
          have hk0 : (0 : Int) ≤ (k : Int) := Int.natCast_nonneg _
          have hk1 : (k : Int) < (a.s.size : Int) := by omega
          clear hown hbl
          go_wp2_with fail
          go_loopw [13] (TellsIn os p1 wk) (fun i _ => os.length - (intOf i).toNat)
          case atStart => exact ⟨0, 0, Nat.zero_le _, rfl, by simp, rfl⟩
          case round =>
            obtain ⟨m, q, hm, rfl, hless, rfl⟩ := hrel
            have HLESS := Lib.hid hless
            clear hless
            by_cases hml : m < os.length
            · obtain ⟨ad2, x, hAD2, hb2, hx, HX⟩ := (Lies.own HOWN.out).int (k := m) hml
              subst hAD2
              have hm0 : (0 : Int) ≤ (m : Int) := Int.natCast_nonneg _
              have hm1 : (m : Int) < (os.length : Int) := by omega
              have hdm : decide ((m : Int) < (os.length : Int)) = true := by simpa using hm1
              by_cases hxp : x < p1
              · have hdx : decide (x < p1) = true := by simpa using hxp
                go_wp2_with fail
                go_quiet (fail)
                go_wp2_with fail
                go_roundw
                case rel => exact ⟨m + 1, _, by omega, by go_num, take_lt HLESS.out HX.out hxp, rfl⟩
                case measure => simp [intOf]; omega
              · have hdx : decide (x < p1) = false := by simpa using hxp
                have hde : ((m : Int) == (os.length : Int)) = false := by rw [beq_eq_false_iff_ne]; omega
                by_cases hxe : x = p1
                · have hdn : (x != p1) = false := by rw [bne_eq_false_iff_eq]; exact hxe
                  have HP : Hid (p1 ∈ os) := by
                    show _ ∈ _
                    rw [← hxe]
                    exact List.mem_of_getElem? HX.out
                  go_wp2_with fail
                  go_quiet (fail)
                  go_wp2_with fail
                  go_quiet (fail)
                  go_wp2_with fail
                  go_roundw
                  case rel => exact ⟨k + 1, os, by omega, by go_num, by omega, HOWN.out, HPW.out, by rw [HOS.out]; exact mem_keep HMEM.out HP.out, HBL.out.drewN _⟩
                  case measure => simp [intOf]; omega
                · have hdn : (x != p1) = true := by rw [bne_iff_ne]; exact hxe
                  have HR1 := Lib.hid (rise_ins (m := m) (p := p1) HPW.out HLESS.out (fun y hy => by rw [HX.out] at hy; injection hy with hy; omega))
                  have HM1 : Hid (∀ x, x ∈ os.take m ++ [p1] ++ os.drop m ↔ x ∈ a.os.take (k + 1)) := by intro x; rw [HOS.out]; exact mem_ins HMEM.out x
                  have hmc : (d3 = m) = False := by simp; omega
                  have hm2 : (m : Int) ≤ (d3 : Int) := by omega
                  have hm3 : (m : Int) ≤ (os.length : Int) := by omega
                  obtain ⟨i0, hi, hz0, hz1, hz2⟩ := info_parts int_info
                  go_wp2_with fail
                  go_quiet (fail)
                  go_wp2_with fail
                  go_quiet (fail)
                  go_wp2_with fail
                  have LTK := Lib.hid (show Lies wk wk.heap.size (some ad2) (intCells (os.take m)) by rw [intCells_take]; exact (Lies.own HOWN.out).take m)
                  have LDR := Lib.hid (show Lies wk wk.heap.size (some (ad2.add m)) (intCells (os.drop m)) by rw [intCells_drop]; exact (Lies.own HOWN.out).drop m)
                  have KS : ∀ w', Below wk.heap.size wk w' → w'.cell? ⟨(ad.add (k * 2)).block, (ad.add (k * 2)).off + 1, none⟩ = some (.int .i64 p1) ∧ Below wk.heap.size wk w' := fun w' h => ⟨(h.cell (by rw [addr_block]; exact Nat.lt_of_lt_of_le hbA hws)).trans hc2, h⟩
                  have HKS := Lib.hid KS
                  clear KS
                  go_region_held3 (fun w' => w'.cell? ⟨(ad.add (k * 2)).block, (ad.add (k * 2)).off + 1, none⟩ = some (.int .i64 p1) ∧ Below wk.heap.size wk w')
                    (first
                      | exact HKS.out _ (Below.drew ((((Below.refl _ _).drewN _).drewN _).drewN _))
                      | exact HKS.out _ ((Below.refl _ _).drewN _)
                      | exact HKS.out _ (below_al ((Below.refl _ _).drewN _) (Nat.le_refl _) _)
                      | exact HKS.out _ (below_al (below_al ((Below.refl _ _).drewN _) (Nat.le_refl _) _) (Nat.le_refl _) _)
                      | exact HKS.out _ hB4
                      | exact HKS.out _ (below_al hB2 (Nat.le_refl _) _)
                      | exact HKS.out _ hB3
                      | exact HKS.out _ hB2
                      | (go_split_ands; exact HKS.out _ (by assumption))
                      | (go_split_ands; exact HKS.out _ (below_al (by assumption) (Nat.le_refl _) _)))
                    (first
                      | (refine step_append_src _ (by rfl) (.tmp 71) (.tmp 74) 30 (by rfl) wk.heap.size 3 i0 _ 1 8 Try.underlying30 hi hz0 hz1 hz2 rfl (by omega) (.slice (some ⟨wk.heap.size, 0, none⟩) 0 0) 0 [] (by rfl) ?_ wk.heap.size (some ad2) m d3 (intCells (os.take m)) (by rfl) (by simp) (by rw [intCells_length, List.length_take]; omega) ?_ (intCells_one' _) (by simp only [maxLen]; omega) (by omega) ?_ ?_
                         · (first | exact lit_own (whole0 rfl) (Nat.le_refl _) | exact lit_own (whole1 rfl) (Nat.le_refl _) | exact lit_own (Whole.drew (whole0 rfl)) (Nat.le_refl _) | exact lit_own (Whole.drew (whole1 rfl)) (Nat.le_refl _))
                         · (go_split_ands; exact LTK.out.below (by assumption))
                         · (go_split_ands; exact Below.size (by assumption))
                         intro v1 w2 hown2 hg2 hat2
                         have hB2 : Below wk.heap.size wk w2 := (by go_split_ands; exact Below.grown (by assumption) hg2 (Below.size (by assumption)) (fun x hx => by simp [Value.ownBlock] at hx; omega))
                         (first | (have z1 : Whole w2 (wk.heap.size + 1) 3 #[.int .i64 p1] := Whole.grown (whole2 (by rfl)) hg2 (by simp [Value.ownBlock])) | skip))
                      | (refine step_append_src _ (by rfl) (.tmp 71) (.tmp 74) 30 (by rfl) wk.heap.size 3 i0 _ 1 8 Try.underlying30 hi hz0 hz1 hz2 rfl (by omega) (.slice (some ⟨wk.heap.size + 1, 0, none⟩) 0 0) 0 [] (by rfl) ?_ wk.heap.size (some ad2) m d3 (intCells (os.take m)) (by rfl) (by simp) (by rw [intCells_length, List.length_take]; omega) ?_ (intCells_one' _) (by simp only [maxLen]; omega) (by omega) ?_ ?_
                         · (first | exact lit_own (whole2 rfl) (Nat.le_succ _) | exact lit_own (Whole.drew (whole2 rfl)) (Nat.le_succ _))
                         · (go_split_ands; exact LTK.out.below (by assumption))
                         · (go_split_ands; exact Below.size (by assumption))
                         intro v1 w2 hown2 hg2 hat2
                         have hB2 : Below wk.heap.size wk w2 := (by go_split_ands; exact Below.grown (by assumption) hg2 (Below.size (by assumption)) (fun x hx => by simp [Value.ownBlock] at hx; omega))
                         have z1 : Whole w2 wk.heap.size 3 #[.int .i64 p1] := Whole.grown (whole1 (by rfl)) hg2 (by simp [Value.ownBlock]))
                      | (refine step_append_src _ (by rfl) (.tmp 75) (.tmp 81) 30 (by rfl) wk.heap.size 3 i0 _ 1 8 Try.underlying30 hi hz0 hz1 hz2 rfl (by omega) v1 (0 + m) _ (by rfl) (hown2.alloc _) (w2.heap.size + 1) (some ⟨w2.heap.size, 0, none⟩) 1 1 [.int .i64 p1] (by rfl) (by simp) (by rfl) ?_ (by simp [Value.oneCell']) (by simp only [maxLen]; omega) (by omega) ?_ ?_
                         · exact Lies.mono (lies_at (t := 3) (Whole.made w2 _ _)) (by simp)
                         · (go_split_ands; exact Below.size (by assumption))
                         intro v2 w3 hown3 hg3 hat3
                         have hB3 : Below wk.heap.size wk w3 := (by go_split_ands; exact Below.grown (by assumption) hg3 (Below.size (by assumption)) (fun x hx => (hown2.lt x hx).1)))
                      | (refine step_append_src _ (by rfl) (.tmp 75) (.tmp 81) 30 (by rfl) wk.heap.size 3 i0 _ 1 8 Try.underlying30 hi hz0 hz1 hz2 rfl (by omega) v1 (0 + m) _ (by rfl) hown2 (w2.heap.size + 1) (some ⟨wk.heap.size + 1, 0, none⟩) 1 1 [.int .i64 p1] (by rfl) (by simp) (by rfl) ?_ (by simp [Value.oneCell']) (by simp only [maxLen]; omega) (by omega) ?_ ?_
                         · exact Lies.mono (lies_at (t := 3) (z1)) (by simp)
                         · (go_split_ands; exact Below.size (by assumption))
                         intro v2 w3 hown3 hg3 hat3
                         have hB3 : Below wk.heap.size wk w3 := (by go_split_ands; exact Below.grown (by assumption) hg3 (Below.size (by assumption)) (fun x hx => (hown2.lt x hx).1)))
                      | (refine step_append_src _ (by rfl) (.tmp 75) (.tmp 81) 30 (by rfl) wk.heap.size 3 i0 _ 1 8 Try.underlying30 hi hz0 hz1 hz2 rfl (by omega) v1 (0 + m) _ (by rfl) hown2 (w2.heap.size + 1) (some ⟨wk.heap.size, 0, none⟩) 1 1 [.int .i64 p1] (by rfl) (by simp) (by rfl) ?_ (by simp [Value.oneCell']) (by simp only [maxLen]; omega) (by omega) ?_ ?_
                         · exact Lies.mono (lies_at (t := 3) (z1)) (by simp)
                         · (go_split_ands; exact Below.size (by assumption))
                         intro v2 w3 hown3 hg3 hat3
                         have hB3 : Below wk.heap.size wk w3 := (by go_split_ands; exact Below.grown (by assumption) hg3 (Below.size (by assumption)) (fun x hx => (hown2.lt x hx).1)))
                      | (refine step_append_src _ (by rfl) (.tmp 82) (.tmp 85) 30 (by rfl) wk.heap.size 3 i0 _ 1 8 Try.underlying30 hi hz0 hz1 hz2 rfl (by omega) v2 (0 + m + 1) _ (by rfl) hown3 wk.heap.size (some (ad2.add m)) (os.length - m) (d3 - m) (intCells (os.drop m)) (by rfl) (by simp) (by rw [intCells_length, List.length_drop]; omega) ?_ (intCells_one' _) (by simp only [maxLen]; omega) (by omega) ?_ ?_
                         · (go_split_ands; exact LDR.out.below (by assumption))
                         · (go_split_ands; exact Below.size (by assumption))
                         intro v3 w4 hown4 hg4 hat4
                         have hB4 : Below wk.heap.size wk w4 := (by go_split_ands; exact Below.grown (by assumption) hg4 (Below.size (by assumption)) (fun x hx => (hown3.lt x hx).1))))
                  all_goals
                    go_wp2
                    go_roundw
                    case rel => exact ⟨k + 1, os.take m ++ [p1] ++ os.drop m, by omega, by go_num, by simp; omega, ins_own hown4 hm hws, HR1.out, HM1.out, below_next HBL.out (Nat.le_refl _) hB4⟩
                    case measure => simp [intOf]; omega
            · have hdm : decide ((m : Int) < (os.length : Int)) = false := by simp; omega
              have hde : ((m : Int) == (os.length : Int)) = true := by rw [beq_iff_eq]; omega
              have HR1 := Lib.hid (rise_ins (m := m) (p := p1) HPW.out HLESS.out (fun y hy => by rw [List.getElem?_eq_none (by omega)] at hy; cases hy))
              have HM1 : Hid (∀ x, x ∈ os.take m ++ [p1] ++ os.drop m ↔ x ∈ a.os.take (k + 1)) := by intro x; rw [HOS.out]; exact mem_ins HMEM.out x
              have hm0 : (0 : Int) ≤ (m : Int) := Int.natCast_nonneg _
              have hm2 : (m : Int) ≤ (d3 : Int) := by omega
              have hm3 : (m : Int) ≤ (os.length : Int) := by omega
              obtain ⟨i0, hi, hz0, hz1, hz2⟩ := info_parts int_info
              by_cases hdc : d3 = m
              · obtain rfl : m = d3 := hdc.symm
                rcases A3 with _ | ad2
                · go_wp2_with fail
                  go_quiet (fail)
                  go_wp2_with fail
                  go_quiet (fail)
                  go_wp2_with fail
                  obtain rfl : m = 0 := HA3.out (by simp)
                  have LTK := Lib.hid (show Lies wk wk.heap.size none (intCells (os.take 0)) by rw [intCells_take]; exact (Lies.own HOWN.out).take 0)
                  have LDR := Lib.hid (show Lies wk wk.heap.size none (intCells (os.drop 0)) by rw [List.drop_eq_nil_of_le (by omega)]; exact Lies.empty _ _ _)
                  have KS : ∀ w', Below wk.heap.size wk w' → w'.cell? ⟨(ad.add (k * 2)).block, (ad.add (k * 2)).off + 1, none⟩ = some (.int .i64 p1) ∧ Below wk.heap.size wk w' := fun w' h => ⟨(h.cell (by rw [addr_block]; exact Nat.lt_of_lt_of_le hbA hws)).trans hc2, h⟩
                  have HKS := Lib.hid KS
                  clear KS
                  go_region_held3 (fun w' => w'.cell? ⟨(ad.add (k * 2)).block, (ad.add (k * 2)).off + 1, none⟩ = some (.int .i64 p1) ∧ Below wk.heap.size wk w')
                    (first
                      | exact HKS.out _ (Below.drew ((((Below.refl _ _).drewN _).drewN _).drewN _))
                      | exact HKS.out _ ((Below.refl _ _).drewN _)
                      | exact HKS.out _ (below_al ((Below.refl _ _).drewN _) (Nat.le_refl _) _)
                      | exact HKS.out _ (below_al (below_al ((Below.refl _ _).drewN _) (Nat.le_refl _) _) (Nat.le_refl _) _)
                      | exact HKS.out _ hB4
                      | exact HKS.out _ (below_al hB2 (Nat.le_refl _) _)
                      | exact HKS.out _ hB3
                      | exact HKS.out _ hB2
                      | (go_split_ands; exact HKS.out _ (by assumption))
                      | (go_split_ands; exact HKS.out _ (below_al (by assumption) (Nat.le_refl _) _)))
                    (first
                      | (refine step_append_src _ (by rfl) (.tmp 71) (.tmp 74) 30 (by rfl) wk.heap.size 3 i0 _ 1 8 Try.underlying30 hi hz0 hz1 hz2 rfl (by omega) (.slice (some ⟨wk.heap.size, 0, none⟩) 0 0) 0 [] (by rfl) ?_ wk.heap.size none 0 0 (intCells (os.take 0)) (by rfl) (fun _ => rfl) (by rw [intCells_length, List.length_take]; omega) ?_ (intCells_one' _) (by simp only [maxLen]; omega) (by omega) ?_ ?_
                         · (first | exact lit_own (whole0 rfl) (Nat.le_refl _) | exact lit_own (whole1 rfl) (Nat.le_refl _) | exact lit_own (Whole.drew (whole0 rfl)) (Nat.le_refl _) | exact lit_own (Whole.drew (whole1 rfl)) (Nat.le_refl _))
                         · (go_split_ands; exact LTK.out.below (by assumption))
                         · (go_split_ands; exact Below.size (by assumption))
                         intro v1 w2 hown2 hg2 hat2
                         have hB2 : Below wk.heap.size wk w2 := (by go_split_ands; exact Below.grown (by assumption) hg2 (Below.size (by assumption)) (fun x hx => by simp [Value.ownBlock] at hx; omega))
                         (first | (have z1 : Whole w2 (wk.heap.size + 1) 3 #[.int .i64 p1] := Whole.grown (whole2 (by rfl)) hg2 (by simp [Value.ownBlock])) | skip))
                      | (refine step_append_src _ (by rfl) (.tmp 71) (.tmp 74) 30 (by rfl) wk.heap.size 3 i0 _ 1 8 Try.underlying30 hi hz0 hz1 hz2 rfl (by omega) (.slice (some ⟨wk.heap.size + 1, 0, none⟩) 0 0) 0 [] (by rfl) ?_ wk.heap.size none 0 0 (intCells (os.take 0)) (by rfl) (fun _ => rfl) (by rw [intCells_length, List.length_take]; omega) ?_ (intCells_one' _) (by simp only [maxLen]; omega) (by omega) ?_ ?_
                         · (first | exact lit_own (whole2 rfl) (Nat.le_succ _) | exact lit_own (Whole.drew (whole2 rfl)) (Nat.le_succ _))
                         · (go_split_ands; exact LTK.out.below (by assumption))
                         · (go_split_ands; exact Below.size (by assumption))
                         intro v1 w2 hown2 hg2 hat2
                         have hB2 : Below wk.heap.size wk w2 := (by go_split_ands; exact Below.grown (by assumption) hg2 (Below.size (by assumption)) (fun x hx => by simp [Value.ownBlock] at hx; omega))
                         have z1 : Whole w2 wk.heap.size 3 #[.int .i64 p1] := Whole.grown (whole1 (by rfl)) hg2 (by simp [Value.ownBlock]))
                      | (refine step_append_src _ (by rfl) (.tmp 75) (.tmp 81) 30 (by rfl) wk.heap.size 3 i0 _ 1 8 Try.underlying30 hi hz0 hz1 hz2 rfl (by omega) v1 (0 + 0) _ (by rfl) (hown2.alloc _) (w2.heap.size + 1) (some ⟨w2.heap.size, 0, none⟩) 1 1 [.int .i64 p1] (by rfl) (by simp) (by rfl) ?_ (by simp [Value.oneCell']) (by simp only [maxLen]; omega) (by omega) ?_ ?_
                         · exact Lies.mono (lies_at (t := 3) (Whole.made w2 _ _)) (by simp)
                         · (go_split_ands; exact Below.size (by assumption))
                         intro v2 w3 hown3 hg3 hat3
                         have hB3 : Below wk.heap.size wk w3 := (by go_split_ands; exact Below.grown (by assumption) hg3 (Below.size (by assumption)) (fun x hx => (hown2.lt x hx).1)))
                      | (refine step_append_src _ (by rfl) (.tmp 75) (.tmp 81) 30 (by rfl) wk.heap.size 3 i0 _ 1 8 Try.underlying30 hi hz0 hz1 hz2 rfl (by omega) v1 (0 + 0) _ (by rfl) hown2 (w2.heap.size + 1) (some ⟨wk.heap.size + 1, 0, none⟩) 1 1 [.int .i64 p1] (by rfl) (by simp) (by rfl) ?_ (by simp [Value.oneCell']) (by simp only [maxLen]; omega) (by omega) ?_ ?_
                         · exact Lies.mono (lies_at (t := 3) (z1)) (by simp)
                         · (go_split_ands; exact Below.size (by assumption))
                         intro v2 w3 hown3 hg3 hat3
                         have hB3 : Below wk.heap.size wk w3 := (by go_split_ands; exact Below.grown (by assumption) hg3 (Below.size (by assumption)) (fun x hx => (hown2.lt x hx).1)))
                      | (refine step_append_src _ (by rfl) (.tmp 75) (.tmp 81) 30 (by rfl) wk.heap.size 3 i0 _ 1 8 Try.underlying30 hi hz0 hz1 hz2 rfl (by omega) v1 (0 + 0) _ (by rfl) hown2 (w2.heap.size + 1) (some ⟨wk.heap.size, 0, none⟩) 1 1 [.int .i64 p1] (by rfl) (by simp) (by rfl) ?_ (by simp [Value.oneCell']) (by simp only [maxLen]; omega) (by omega) ?_ ?_
                         · exact Lies.mono (lies_at (t := 3) (z1)) (by simp)
                         · (go_split_ands; exact Below.size (by assumption))
                         intro v2 w3 hown3 hg3 hat3
                         have hB3 : Below wk.heap.size wk w3 := (by go_split_ands; exact Below.grown (by assumption) hg3 (Below.size (by assumption)) (fun x hx => (hown2.lt x hx).1)))
                      | (refine step_append_src _ (by rfl) (.tmp 82) (.tmp 85) 30 (by rfl) wk.heap.size 3 i0 _ 1 8 Try.underlying30 hi hz0 hz1 hz2 rfl (by omega) v2 (0 + 0 + 1) _ (by rfl) hown3 wk.heap.size none 0 0 (intCells (os.drop 0)) (by rfl) (fun _ => rfl) (by rw [intCells_length, List.length_drop]; omega) ?_ (intCells_one' _) (by simp only [maxLen]; omega) (by omega) ?_ ?_
                         · (go_split_ands; exact LDR.out.below (by assumption))
                         · (go_split_ands; exact Below.size (by assumption))
                         intro v3 w4 hown4 hg4 hat4
                         have hB4 : Below wk.heap.size wk w4 := (by go_split_ands; exact Below.grown (by assumption) hg4 (Below.size (by assumption)) (fun x hx => (hown3.lt x hx).1))))
                  all_goals
                    go_wp2
                    go_roundw
                    case rel => exact ⟨k + 1, os.take 0 ++ [p1] ++ os.drop 0, by omega, by go_num, by simp; omega, ins_own0 hown4 hm (by omega) hws, HR1.out, HM1.out, below_next HBL.out (Nat.le_refl _) hB4⟩
                    case measure => simp [intOf]; omega
                · go_wp2_with fail
                  go_quiet (fail)
                  go_wp2_with fail
                  go_quiet (fail)
                  go_wp2_with fail
                  have LTK := Lib.hid (show Lies wk wk.heap.size (some ad2) (intCells (os.take m)) by rw [intCells_take]; exact (Lies.own HOWN.out).take m)
                  have LDR := Lib.hid (show Lies wk wk.heap.size (some ad2) (intCells (os.drop m)) by rw [List.drop_eq_nil_of_le (by omega)]; exact Lies.empty _ _ _)
                  have KS : ∀ w', Below wk.heap.size wk w' → w'.cell? ⟨(ad.add (k * 2)).block, (ad.add (k * 2)).off + 1, none⟩ = some (.int .i64 p1) ∧ Below wk.heap.size wk w' := fun w' h => ⟨(h.cell (by rw [addr_block]; exact Nat.lt_of_lt_of_le hbA hws)).trans hc2, h⟩
                  have HKS := Lib.hid KS
                  clear KS
                  go_region_held3 (fun w' => w'.cell? ⟨(ad.add (k * 2)).block, (ad.add (k * 2)).off + 1, none⟩ = some (.int .i64 p1) ∧ Below wk.heap.size wk w')
                    (first
                      | exact HKS.out _ (Below.drew ((((Below.refl _ _).drewN _).drewN _).drewN _))
                      | exact HKS.out _ ((Below.refl _ _).drewN _)
                      | exact HKS.out _ (below_al ((Below.refl _ _).drewN _) (Nat.le_refl _) _)
                      | exact HKS.out _ (below_al (below_al ((Below.refl _ _).drewN _) (Nat.le_refl _) _) (Nat.le_refl _) _)
                      | exact HKS.out _ hB4
                      | exact HKS.out _ (below_al hB2 (Nat.le_refl _) _)
                      | exact HKS.out _ hB3
                      | exact HKS.out _ hB2
                      | (go_split_ands; exact HKS.out _ (by assumption))
                      | (go_split_ands; exact HKS.out _ (below_al (by assumption) (Nat.le_refl _) _)))
                    (first
                      | (refine step_append_src _ (by rfl) (.tmp 71) (.tmp 74) 30 (by rfl) wk.heap.size 3 i0 _ 1 8 Try.underlying30 hi hz0 hz1 hz2 rfl (by omega) (.slice (some ⟨wk.heap.size, 0, none⟩) 0 0) 0 [] (by rfl) ?_ wk.heap.size (some ad2) m m (intCells (os.take m)) (by rfl) HA3.out (by rw [intCells_length, List.length_take]; omega) ?_ (intCells_one' _) (by simp only [maxLen]; omega) (by omega) ?_ ?_
                         · (first | exact lit_own (whole0 rfl) (Nat.le_refl _) | exact lit_own (whole1 rfl) (Nat.le_refl _) | exact lit_own (Whole.drew (whole0 rfl)) (Nat.le_refl _) | exact lit_own (Whole.drew (whole1 rfl)) (Nat.le_refl _))
                         · (go_split_ands; exact LTK.out.below (by assumption))
                         · (go_split_ands; exact Below.size (by assumption))
                         intro v1 w2 hown2 hg2 hat2
                         have hB2 : Below wk.heap.size wk w2 := (by go_split_ands; exact Below.grown (by assumption) hg2 (Below.size (by assumption)) (fun x hx => by simp [Value.ownBlock] at hx; omega))
                         (first | (have z1 : Whole w2 (wk.heap.size + 1) 3 #[.int .i64 p1] := Whole.grown (whole2 (by rfl)) hg2 (by simp [Value.ownBlock])) | skip))
                      | (refine step_append_src _ (by rfl) (.tmp 71) (.tmp 74) 30 (by rfl) wk.heap.size 3 i0 _ 1 8 Try.underlying30 hi hz0 hz1 hz2 rfl (by omega) (.slice (some ⟨wk.heap.size + 1, 0, none⟩) 0 0) 0 [] (by rfl) ?_ wk.heap.size (some ad2) m m (intCells (os.take m)) (by rfl) HA3.out (by rw [intCells_length, List.length_take]; omega) ?_ (intCells_one' _) (by simp only [maxLen]; omega) (by omega) ?_ ?_
                         · (first | exact lit_own (whole2 rfl) (Nat.le_succ _) | exact lit_own (Whole.drew (whole2 rfl)) (Nat.le_succ _))
                         · (go_split_ands; exact LTK.out.below (by assumption))
                         · (go_split_ands; exact Below.size (by assumption))
                         intro v1 w2 hown2 hg2 hat2
                         have hB2 : Below wk.heap.size wk w2 := (by go_split_ands; exact Below.grown (by assumption) hg2 (Below.size (by assumption)) (fun x hx => by simp [Value.ownBlock] at hx; omega))
                         have z1 : Whole w2 wk.heap.size 3 #[.int .i64 p1] := Whole.grown (whole1 (by rfl)) hg2 (by simp [Value.ownBlock]))
                      | (refine step_append_src _ (by rfl) (.tmp 75) (.tmp 81) 30 (by rfl) wk.heap.size 3 i0 _ 1 8 Try.underlying30 hi hz0 hz1 hz2 rfl (by omega) v1 (0 + m) _ (by rfl) (hown2.alloc _) (w2.heap.size + 1) (some ⟨w2.heap.size, 0, none⟩) 1 1 [.int .i64 p1] (by rfl) (by simp) (by rfl) ?_ (by simp [Value.oneCell']) (by simp only [maxLen]; omega) (by omega) ?_ ?_
                         · exact Lies.mono (lies_at (t := 3) (Whole.made w2 _ _)) (by simp)
                         · (go_split_ands; exact Below.size (by assumption))
                         intro v2 w3 hown3 hg3 hat3
                         have hB3 : Below wk.heap.size wk w3 := (by go_split_ands; exact Below.grown (by assumption) hg3 (Below.size (by assumption)) (fun x hx => (hown2.lt x hx).1)))
                      | (refine step_append_src _ (by rfl) (.tmp 75) (.tmp 81) 30 (by rfl) wk.heap.size 3 i0 _ 1 8 Try.underlying30 hi hz0 hz1 hz2 rfl (by omega) v1 (0 + m) _ (by rfl) hown2 (w2.heap.size + 1) (some ⟨wk.heap.size + 1, 0, none⟩) 1 1 [.int .i64 p1] (by rfl) (by simp) (by rfl) ?_ (by simp [Value.oneCell']) (by simp only [maxLen]; omega) (by omega) ?_ ?_
                         · exact Lies.mono (lies_at (t := 3) (z1)) (by simp)
                         · (go_split_ands; exact Below.size (by assumption))
                         intro v2 w3 hown3 hg3 hat3
                         have hB3 : Below wk.heap.size wk w3 := (by go_split_ands; exact Below.grown (by assumption) hg3 (Below.size (by assumption)) (fun x hx => (hown2.lt x hx).1)))
                      | (refine step_append_src _ (by rfl) (.tmp 75) (.tmp 81) 30 (by rfl) wk.heap.size 3 i0 _ 1 8 Try.underlying30 hi hz0 hz1 hz2 rfl (by omega) v1 (0 + m) _ (by rfl) hown2 (w2.heap.size + 1) (some ⟨wk.heap.size, 0, none⟩) 1 1 [.int .i64 p1] (by rfl) (by simp) (by rfl) ?_ (by simp [Value.oneCell']) (by simp only [maxLen]; omega) (by omega) ?_ ?_
                         · exact Lies.mono (lies_at (t := 3) (z1)) (by simp)
                         · (go_split_ands; exact Below.size (by assumption))
                         intro v2 w3 hown3 hg3 hat3
                         have hB3 : Below wk.heap.size wk w3 := (by go_split_ands; exact Below.grown (by assumption) hg3 (Below.size (by assumption)) (fun x hx => (hown2.lt x hx).1)))
                      | (refine step_append_src _ (by rfl) (.tmp 82) (.tmp 85) 30 (by rfl) wk.heap.size 3 i0 _ 1 8 Try.underlying30 hi hz0 hz1 hz2 rfl (by omega) v2 (0 + m + 1) _ (by rfl) hown3 wk.heap.size (some ad2) 0 0 (intCells (os.drop m)) (by rfl) (fun _ => rfl) (by rw [intCells_length, List.length_drop]; omega) ?_ (intCells_one' _) (by simp only [maxLen]; omega) (by omega) ?_ ?_
                         · (go_split_ands; exact LDR.out.below (by assumption))
                         · (go_split_ands; exact Below.size (by assumption))
                         intro v3 w4 hown4 hg4 hat4
                         have hB4 : Below wk.heap.size wk w4 := (by go_split_ands; exact Below.grown (by assumption) hg4 (Below.size (by assumption)) (fun x hx => (hown3.lt x hx).1))))
                  all_goals
                    go_wp2
                    go_roundw
                    case rel => exact ⟨k + 1, os.take m ++ [p1] ++ os.drop m, by omega, by go_num, by simp; omega, ins_own0 hown4 hm (by omega) hws, HR1.out, HM1.out, below_next HBL.out (Nat.le_refl _) hB4⟩
                    case measure => simp [intOf]; omega
              · have hmc : (d3 = m) = False := by simp [hdc]
                obtain ⟨ad2, rfl⟩ : ∃ ad2, A3 = some ad2 := by
                  rcases A3 with _ | ad2
                  · exact absurd (HA3.out rfl) (by omega)
                  · exact ⟨_, rfl⟩
                go_wp2_with fail
                go_quiet (fail)
                go_wp2_with fail
                go_quiet (fail)
                go_wp2_with fail
                have LTK := Lib.hid (show Lies wk wk.heap.size (some ad2) (intCells (os.take m)) by rw [intCells_take]; exact (Lies.own HOWN.out).take m)
                have LDR := Lib.hid (show Lies wk wk.heap.size (some (ad2.add m)) (intCells (os.drop m)) by rw [intCells_drop]; exact (Lies.own HOWN.out).drop m)
                have KS : ∀ w', Below wk.heap.size wk w' → w'.cell? ⟨(ad.add (k * 2)).block, (ad.add (k * 2)).off + 1, none⟩ = some (.int .i64 p1) ∧ Below wk.heap.size wk w' := fun w' h => ⟨(h.cell (by rw [addr_block]; exact Nat.lt_of_lt_of_le hbA hws)).trans hc2, h⟩
                have HKS := Lib.hid KS
                clear KS
                go_region_held3 (fun w' => w'.cell? ⟨(ad.add (k * 2)).block, (ad.add (k * 2)).off + 1, none⟩ = some (.int .i64 p1) ∧ Below wk.heap.size wk w')
                  (first
                    | exact HKS.out _ (Below.drew ((((Below.refl _ _).drewN _).drewN _).drewN _))
                    | exact HKS.out _ ((Below.refl _ _).drewN _)
                    | exact HKS.out _ (below_al ((Below.refl _ _).drewN _) (Nat.le_refl _) _)
                    | exact HKS.out _ (below_al (below_al ((Below.refl _ _).drewN _) (Nat.le_refl _) _) (Nat.le_refl _) _)
                    | exact HKS.out _ hB4
                    | exact HKS.out _ (below_al hB2 (Nat.le_refl _) _)
                    | exact HKS.out _ hB3
                    | exact HKS.out _ hB2
                    | (go_split_ands; exact HKS.out _ (by assumption))
                    | (go_split_ands; exact HKS.out _ (below_al (by assumption) (Nat.le_refl _) _)))
                  (first
                    | (refine step_append_src _ (by rfl) (.tmp 71) (.tmp 74) 30 (by rfl) wk.heap.size 3 i0 _ 1 8 Try.underlying30 hi hz0 hz1 hz2 rfl (by omega) (.slice (some ⟨wk.heap.size, 0, none⟩) 0 0) 0 [] (by rfl) ?_ wk.heap.size (some ad2) m d3 (intCells (os.take m)) (by rfl) (by simp) (by rw [intCells_length, List.length_take]; omega) ?_ (intCells_one' _) (by simp only [maxLen]; omega) (by omega) ?_ ?_
                       · (first | exact lit_own (whole0 rfl) (Nat.le_refl _) | exact lit_own (whole1 rfl) (Nat.le_refl _) | exact lit_own (Whole.drew (whole0 rfl)) (Nat.le_refl _) | exact lit_own (Whole.drew (whole1 rfl)) (Nat.le_refl _))
                       · (go_split_ands; exact LTK.out.below (by assumption))
                       · (go_split_ands; exact Below.size (by assumption))
                       intro v1 w2 hown2 hg2 hat2
                       have hB2 : Below wk.heap.size wk w2 := (by go_split_ands; exact Below.grown (by assumption) hg2 (Below.size (by assumption)) (fun x hx => by simp [Value.ownBlock] at hx; omega))
                       (first | (have z1 : Whole w2 (wk.heap.size + 1) 3 #[.int .i64 p1] := Whole.grown (whole2 (by rfl)) hg2 (by simp [Value.ownBlock])) | skip))
                    | (refine step_append_src _ (by rfl) (.tmp 71) (.tmp 74) 30 (by rfl) wk.heap.size 3 i0 _ 1 8 Try.underlying30 hi hz0 hz1 hz2 rfl (by omega) (.slice (some ⟨wk.heap.size + 1, 0, none⟩) 0 0) 0 [] (by rfl) ?_ wk.heap.size (some ad2) m d3 (intCells (os.take m)) (by rfl) (by simp) (by rw [intCells_length, List.length_take]; omega) ?_ (intCells_one' _) (by simp only [maxLen]; omega) (by omega) ?_ ?_
                       · (first | exact lit_own (whole2 rfl) (Nat.le_succ _) | exact lit_own (Whole.drew (whole2 rfl)) (Nat.le_succ _))
                       · (go_split_ands; exact LTK.out.below (by assumption))
                       · (go_split_ands; exact Below.size (by assumption))
                       intro v1 w2 hown2 hg2 hat2
                       have hB2 : Below wk.heap.size wk w2 := (by go_split_ands; exact Below.grown (by assumption) hg2 (Below.size (by assumption)) (fun x hx => by simp [Value.ownBlock] at hx; omega))
                       have z1 : Whole w2 wk.heap.size 3 #[.int .i64 p1] := Whole.grown (whole1 (by rfl)) hg2 (by simp [Value.ownBlock]))
                    | (refine step_append_src _ (by rfl) (.tmp 75) (.tmp 81) 30 (by rfl) wk.heap.size 3 i0 _ 1 8 Try.underlying30 hi hz0 hz1 hz2 rfl (by omega) v1 (0 + m) _ (by rfl) (hown2.alloc _) (w2.heap.size + 1) (some ⟨w2.heap.size, 0, none⟩) 1 1 [.int .i64 p1] (by rfl) (by simp) (by rfl) ?_ (by simp [Value.oneCell']) (by simp only [maxLen]; omega) (by omega) ?_ ?_
                       · exact Lies.mono (lies_at (t := 3) (Whole.made w2 _ _)) (by simp)
                       · (go_split_ands; exact Below.size (by assumption))
                       intro v2 w3 hown3 hg3 hat3
                       have hB3 : Below wk.heap.size wk w3 := (by go_split_ands; exact Below.grown (by assumption) hg3 (Below.size (by assumption)) (fun x hx => (hown2.lt x hx).1)))
                    | (refine step_append_src _ (by rfl) (.tmp 75) (.tmp 81) 30 (by rfl) wk.heap.size 3 i0 _ 1 8 Try.underlying30 hi hz0 hz1 hz2 rfl (by omega) v1 (0 + m) _ (by rfl) hown2 (w2.heap.size + 1) (some ⟨wk.heap.size + 1, 0, none⟩) 1 1 [.int .i64 p1] (by rfl) (by simp) (by rfl) ?_ (by simp [Value.oneCell']) (by simp only [maxLen]; omega) (by omega) ?_ ?_
                       · exact Lies.mono (lies_at (t := 3) (z1)) (by simp)
                       · (go_split_ands; exact Below.size (by assumption))
                       intro v2 w3 hown3 hg3 hat3
                       have hB3 : Below wk.heap.size wk w3 := (by go_split_ands; exact Below.grown (by assumption) hg3 (Below.size (by assumption)) (fun x hx => (hown2.lt x hx).1)))
                    | (refine step_append_src _ (by rfl) (.tmp 75) (.tmp 81) 30 (by rfl) wk.heap.size 3 i0 _ 1 8 Try.underlying30 hi hz0 hz1 hz2 rfl (by omega) v1 (0 + m) _ (by rfl) hown2 (w2.heap.size + 1) (some ⟨wk.heap.size, 0, none⟩) 1 1 [.int .i64 p1] (by rfl) (by simp) (by rfl) ?_ (by simp [Value.oneCell']) (by simp only [maxLen]; omega) (by omega) ?_ ?_
                       · exact Lies.mono (lies_at (t := 3) (z1)) (by simp)
                       · (go_split_ands; exact Below.size (by assumption))
                       intro v2 w3 hown3 hg3 hat3
                       have hB3 : Below wk.heap.size wk w3 := (by go_split_ands; exact Below.grown (by assumption) hg3 (Below.size (by assumption)) (fun x hx => (hown2.lt x hx).1)))
                    | (refine step_append_src _ (by rfl) (.tmp 82) (.tmp 85) 30 (by rfl) wk.heap.size 3 i0 _ 1 8 Try.underlying30 hi hz0 hz1 hz2 rfl (by omega) v2 (0 + m + 1) _ (by rfl) hown3 wk.heap.size (some (ad2.add m)) (os.length - m) (d3 - m) (intCells (os.drop m)) (by rfl) (by simp) (by rw [intCells_length, List.length_drop]; omega) ?_ (intCells_one' _) (by simp only [maxLen]; omega) (by omega) ?_ ?_
                       · (go_split_ands; exact LDR.out.below (by assumption))
                       · (go_split_ands; exact Below.size (by assumption))
                       intro v3 w4 hown4 hg4 hat4
                       have hB4 : Below wk.heap.size wk w4 := (by go_split_ands; exact Below.grown (by assumption) hg4 (Below.size (by assumption)) (fun x hx => (hown3.lt x hx).1))))
                all_goals
                  go_wp2
                  go_roundw
                  case rel => exact ⟨k + 1, os.take m ++ [p1] ++ os.drop m, by omega, by go_num, by simp; omega, ins_own hown4 hm hws, HR1.out, HM1.out, below_next HBL.out (Nat.le_refl _) hB4⟩
                  case measure => simp [intOf]; omega
        · obtain rfl : k = a.s.size := by omega
          have HE0 : Below w0.heap.size w0 wk := below_next hb1 (Nat.le_refl _) HBL.out
          have HBel := Lib.hid (hb0.trans (HE0.mono hb0.size))
          obtain ⟨x, y, q, l, hends⟩ := ends a i tx o A1 A3 d1 d3 os wk (HLA.out.next HE0 (Nat.le_refl _)) ((Lies.own H1.out).next HBL.out (Nat.le_refl _)) (Lies.own HOWN.out) HPW.out (by have h := HMEM.out; rwa [List.take_of_length_le (by rw [LT.os_length]; exact Nat.le_refl _)] at h) (by omega) hsz
          have HE := Lib.hid hends
          have hlt0 : w.heap.size < wk.heap.size := Nat.lt_of_lt_of_le y0.lt HE0.size
          have KS : ∀ w', Below wk.heap.size wk w' → w'.cell? ⟨w.heap.size, 0, none⟩ = some (.string a.s) ∧ w'.cell? ⟨w.heap.size, 1, none⟩ = some (.slice a.A a.n a.c) ∧ Below wk.heap.size wk w' := fun w' h =>
            ⟨(h.cell hlt0).trans ((HE0.cell y0.lt).trans (y0.at_ 0)), (h.cell hlt0).trans ((HE0.cell y0.lt).trans (y0.at_ 1)), h⟩
          have HKS := Lib.hid KS
          clear KS hends hown hbl HE0
          generalize os.length = n at *
          have hzz : (atO a.s.size a.rs i == atO a.s.size a.rs i) = true := by simp
          have hyy : (y == y) = true := by simp
          have hxx : ((x == 0) == (x == 0)) = true := by simp
          have hyb : ((y == 0) == (y == 0)) = true := by simp
          go_wp2_with fail
          go_region_held3 (fun w' => w'.cell? ⟨w.heap.size, 0, none⟩ = some (.string a.s) ∧ w'.cell? ⟨w.heap.size, 1, none⟩ = some (.slice a.A a.n a.c) ∧ Below wk.heap.size wk w')
            (first
              | exact HKS.out _ (Below.drew (Below.refl _ _))
              | exact HKS.out _ hK
              | (go_split_ands; exact HKS.out _ (by assumption)))
            (first
              | (go_at_call 10; refine (HE.out.fix _ ?_).mono ?_; (go_split_ands; assumption); rintro e w2 ⟨v2, rfl, h2, hb2⟩; obtain ⟨D2, k2, rfl, _, _, _⟩ := own_form h2; have hl2 := Lib.hid (Lies.own h2); clear h2; have hK : Below wk.heap.size wk w2 := (by go_split_ands; exact below_next (by assumption) (Nat.le_refl _) hb2))
              | (go_at_call_of 9 (D2); refine (HE.out.is1 _ D2 k2 ?_ hl2.out).mono ?_; (go_split_ands; assumption); rintro e w3 ⟨rfl, hb3⟩; have hK : Below wk.heap.size wk w3 := (by go_split_ands; exact below_next (by assumption) (Nat.le_refl _) hb3))
              | (go_at_call 11; refine (HE.out.chk _ ?_).mono ?_; (go_split_ands; assumption); rintro e w4 ⟨rfl, hb4⟩; have hK : Below wk.heap.size wk w4 := (by go_split_ands; exact below_next (by assumption) (Nat.le_refl _) hb4))
              | (go_at_call 12; refine (HE.out.at_ _ ?_).mono ?_; (go_split_ands; assumption); rintro e w6 ⟨rfl, hb6⟩; have hK : Below wk.heap.size wk w6 := (by go_split_ands; exact below_next (by assumption) (Nat.le_refl _) hb6))
              | (go_at_call 13; refine (HE.out.worst _ ?_).mono ?_; (go_split_ands; assumption); rintro e w7 ⟨rfl, hb7⟩; have hK : Below wk.heap.size wk w7 := (by go_split_ands; exact below_next (by assumption) (Nat.le_refl _) hb7))
              | (go_at_call 14; refine (HE.out.rworst _ ?_).mono ?_; (go_split_ands; assumption); rintro e w8 ⟨rfl, hb8⟩; have hK : Below wk.heap.size wk w8 := (by go_split_ands; exact below_next (by assumption) (Nat.le_refl _) hb8))
              | (go_at_call 15; refine (HE.out.pure _ ?_).mono ?_; (go_split_ands; assumption); rintro e w9 ⟨rfl, hb9⟩; have hK : Below wk.heap.size wk w9 := (by go_split_ands; exact below_next (by assumption) (Nat.le_refl _) hb9))
              | (go_at_call 17; refine (HE.out.ori _ ?_).mono ?_; (go_split_ands; assumption); rintro e w10 ⟨D5, k5, rfl, h5, hb10⟩; have hl5 := Lib.hid h5; clear h5; have hK : Below wk.heap.size wk w10 := (by go_split_ands; exact below_next (by assumption) (Nat.le_refl _) hb10))
              | (go_at_call 16; refine (HE.out.ints _ D5 k5 ?_ hl5.out).mono ?_; (go_split_ands; assumption); rintro e w11 ⟨rfl, hb11⟩; have hK : Below wk.heap.size wk w11 := (by go_split_ands; exact below_next (by assumption) (Nat.le_refl _) hb11))
              | (go_at_call 18; refine (HE.out.of _).mono ?_; rintro e w12 ⟨D6, k6, rfl, h6, hb12⟩; have hl6 := Lib.hid h6; clear h6; have hK : Below wk.heap.size wk w12 := (by go_split_ands; exact below_next (by assumption) (Nat.le_refl _) hb12))
              | (go_at_call 19; refine (HE.out.all _).mono ?_; rintro e w13 ⟨D7, k7, rfl, h7, hb13⟩; have hl7 := Lib.hid h7; have hl6' := Lib.hid (hl6.out.next hb13 (Nat.le_refl _)); clear h7; have hK : Below wk.heap.size wk w13 := (by go_split_ands; exact below_next (by assumption) (Nat.le_refl _) hb13))
              | (go_at_call_of 9 (D6); refine (HE.out.is3 _ D6 k6 D7 k7 hl6'.out hl7.out).mono ?_; rintro e w14 ⟨rfl, hb14⟩; have hK : Below wk.heap.size wk w14 := (by go_split_ands; exact below_next (by assumption) (Nat.le_refl _) hb14))
              | (go_at_call 9; refine (HE.out.is2 _ ?_).mono ?_; (go_split_ands; assumption); rintro e w5 ⟨rfl, hb5⟩; have hK : Below wk.heap.size wk w5 := (by go_split_ands; exact below_next (by assumption) (Nat.le_refl _) hb5)))
          all_goals
            go_wp2
            go_ret
            exact ⟨rfl, below_next HBel.out (by omega) hK⟩

end Go.Proofs.Ytamnoenjpphkcaa.mk
