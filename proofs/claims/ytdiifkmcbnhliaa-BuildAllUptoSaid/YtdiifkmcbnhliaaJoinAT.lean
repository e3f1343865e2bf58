/-
  BuildAll, where what comes in is of bulk at most 1048576: all texts of what Trees builds of tokens are the data among them, and all its tags the names that they start, in order.
  Conditions: none beside the bound that the statement itself names.
-/
import Derived.Test.YtdiifkmcbnhliaaJoinV
import Derived.Test.YtdiifkmcbnhliaaJoinAS
import Derived.Test.YtdiifkmcbnhliaaJoinAQ
import Derived.Test.YtdiifkmcbnhliaaJoinAO
import Derived.Test.YtdiifkmcbnhliaaJoinAA
import Derived.Test.YtdiifkmcbnhliaaJoinAI
namespace Go.Proofs.Ytdiifkmcbnhliaa.mk
open Go.RowKit Go.Maps

theorem data_words (ts : List KT) : catCh (dataKx ts) = (ts.map KT.ch).flatMap KP.word := by
  unfold catCh dataKx
  induction ts with
  | nil => rfl
  | cons t ts ih =>
    rw [List.map_cons, List.flatMap_cons, ← ih]
    by_cases h : t.kind = 3
    · rw [List.filter_cons_of_pos (by simpa using h), List.map_cons, List.flatMap_cons]
      congr 1
      exact (if_pos h).symm
    · rw [List.filter_cons_of_neg (by simpa using h), show t.ch.word = [] from if_neg h]
      rfl
/-- the names of what is opened, as texts -/
def opensX (ts : List KT) : List ByteArray := (ts.filter fun t => t.kind == 1 && !(t.nm.s.data.toList == [])).map fun t => t.nm.s
theorem nm_nil (t : KT) : t.ch.name = [] ↔ t.nm.s.data.toList = [] := by
  show t.nm.ch = [] ↔ t.nm.bs = []
  rw [← LT.ch_fst, List.map_eq_nil_iff]
theorem opensX_bytes (ts : List KT) : (opensX ts).map (fun s => s.data.toList) = (ts.map KT.ch).flatMap KP.opens := by
  unfold opensX
  induction ts with
  | nil => rfl
  | cons t ts ih =>
    rw [List.map_cons, List.flatMap_cons, ← ih]
    by_cases h : t.kind = 1 ∧ t.ch.name ≠ []
    · have h2 : ¬ t.nm.s.data.toList = [] := fun e => h.2 ((nm_nil t).2 e)
      rw [List.filter_cons_of_pos (by simpa [h.1] using h2), List.map_cons, List.map_cons, show t.ch.opens = [t.ch.nm] from if_pos h]
      show t.nm.bs :: _ = [t.nm.ch.map (·.1)] ++ _
      rw [LT.ch_fst]
      rfl
    · have h2 : t.kind = 1 → t.nm.s.data.toList = [] := fun h1 => (nm_nil t).1 (Classical.byContradiction fun h3 => h ⟨h1, h3⟩)
      rw [List.filter_cons_of_neg (by simpa using h2), show t.ch.opens = [] from if_neg h]
      rfl
theorem opensX_next {ts : List KT} {k : Nat} {t : KT} (h : ts[k]? = some t) : opensX (ts.take (k + 1)) = opensX (ts.take k) ++ (if t.kind = 1 ∧ ¬ t.nm.s.data.toList = [] then [t.nm.s] else []) := by
  rw [take_next h]
  unfold opensX
  rw [List.filter_append, List.map_append]
  congr 1
  by_cases hk : t.kind = 1 ∧ ¬ t.nm.s.data.toList = []
  · rw [if_pos hk, List.filter_cons_of_pos (by simpa [hk.1] using hk.2)]; rfl
  · rw [if_neg hk, List.filter_cons_of_neg (by simpa using hk)]; rfl
theorem opensX_len (ts : List KT) : (opensX ts).length ≤ ts.length := by unfold opensX; rw [List.length_map]; exact List.length_filter_le _ _
theorem bytesK_map {a b : List ByteArray} (h : a.map (fun s => s.data.toList) = b.map (fun s => s.data.toList)) : a = b :=
  (List.map_inj_right (fun x y h => by cases x; cases y; exact congrArg ByteArray.mk (Array.toList_inj.1 h))).1 h
def OpsRel (ts : List KT) (n : Nat) (w0 : World) (v i : Value) (wr : World) : Prop :=
  ∃ (k m : Nat), k ≤ n ∧ i = .int .i64 (k : Int) ∧ (opensX (ts.take k)).length = m ∧ m ≤ k ∧ wr.ownsRow w0.heap.size 9 1 v m (txCells (opensX (ts.take k))) ∧ Below w0.heap.size w0 wr

set_option maxHeartbeats 4000000 in
set_option maxRecDepth 100000 in
theorem buildAll_any (A : Option Addr) (n c : Nat) (ts : List KT) (w : World) (h : ToksIn (fun b => b < w.heap.size) w A n ts) (hc : n ≤ c) :
    Calls Try.prog 5 #[.slice A n c] w fun e w' => e = .returned (.bool true) ∧ Below w.heap.size w w' := by
  obtain ⟨i0, hi, iz0, iz1, iz2⟩ := info_parts string_info
  have H := Lib.hid h
  clear h
  go_enter Try.func5, Try.ntmps5
  go_wp2_with fail
  refine (alive14_any w).mono ?_
  rintro e w1 ⟨rfl, hb1⟩
  obtain ⟨m, ts', H', hm60⟩ : ∃ (m : Nat) (ts' : List KT), Hid (ToksIn (fun b => b < w.heap.size) w A m ts' ∧ (60 < n → m = 60) ∧ (¬ 60 < n → m = n)) ∧ m ≤ 60 := by
    by_cases h60 : 60 < n
    · refine ⟨60, ts.take 60, ⟨⟨?_, fun t ht => H.out.all t (List.mem_of_mem_take ht), by rw [List.length_take, H.out.len]; omega, ?_⟩, fun _ => rfl, fun h => absurd h60 h⟩, Nat.le_refl _⟩
      · intro j u hu
        refine H.out.lies j u ?_
        have e : ktCells ts = ktCells (ts.take 60) ++ ktCells (ts.drop 60) := by
          unfold ktCells
          rw [← List.flatMap_append, List.take_append_drop]
        rw [e, List.getElem?_append_left (List.getElem?_eq_some_iff.1 hu).1]
        exact hu
      · have h1 := H.out.bulk
        have e : kbL (ts.map KT.ch) = kbL ((ts.take 60).map KT.ch) + kbL ((ts.drop 60).map KT.ch) := by
          unfold kbL
          rw [← List.sum_append, ← List.map_append, ← List.map_append, List.take_append_drop]
        omega
    · exact ⟨n, ts, ⟨H.out, fun h => absurd h h60, fun _ => rfl⟩, by omega⟩
  have hcases : (60 < n ∧ m = 60) ∨ (¬ 60 < n ∧ n = m) := by
    by_cases h60 : 60 < n
    · exact .inl ⟨h60, H'.out.2.1 h60⟩
    · exact .inr ⟨h60, (H'.out.2.2 h60).symm⟩
  have HB1 := Lib.hid hb1
  have HI : Hid (ToksIn (fun b => b < w1.heap.size) w1 A m ts') := by
    have h := H'.out.1.keep (Stays.of hb1)
    exact ⟨h.lies.mono fun b hb _ => Nat.lt_of_lt_of_le hb hb1.size, fun t ht => (h.all t ht).mono fun b hb _ => Nat.lt_of_lt_of_le hb hb1.size, h.len, h.bulk⟩
  have hAc : m ≤ c := by rcases hcases with ⟨_, _⟩ | ⟨_, _⟩ <;> omega
  clear H H' hb1
  rcases hcases with ⟨h60, hm⟩ | ⟨h60, hm⟩
  case' inl =>
    have hh : (60 : Int) < (n : Int) := by omega
    have hcc : 60 ≤ c := by omega
    go_wp2_with fail
    rw [← hm]
    clear hh hcc
  case' inr =>
    obtain rfl : m = n := hm.symm
    have hh : ¬ (60 : Int) < (m : Int) := by omega
    go_wp2_with fail
    clear hh
  all_goals
    clear h60 hm
    obtain ⟨wo, rfl⟩ : ∃ wo : World, wo = w1 := ⟨_, rfl⟩
    go_loopw [3, 4] (OpsRel ts' m wo) (fun _ i _ => m - (intOf i).toNat)
    case atStart => exact ⟨0, 0, Nat.zero_le _, rfl, rfl, Nat.le_refl _, World.ownsRow_nil _ _ _ _, Below.refl _ _⟩
    case round =>
      obtain ⟨k, z, hk, rfl, hz, hzk, hown, hb⟩ := hrel
      obtain ⟨A4, c4, rfl, _, _, _⟩ := own_form hown
      have HZ := Lib.hid hz
      have HO := Lib.hid hown
      have HB := Lib.hid hb
      have hzr := hb.size
      have hk0 : (0 : Int) ≤ (k : Int) := Int.natCast_nonneg _
      clear hz hown
      by_cases hlt : k < m
      · obtain ⟨ad, t, rfl, hba, d0, d1, d2, d3, d4, d5, d6, HT⟩ := (HI.out.lies.keep (Stays.of hb)).lies.kt (k := k) (by rw [HI.out.len]; exact hlt)
        have hk1 : (k : Int) < (m : Int) := by omega
        have HNX := Lib.hid (opensX_next HT.out)
        clear d2 d3 d4 d5 d6 hb
        by_cases hkd : t.kind = 1
        · rw [hkd] at d0
          by_cases hnm : t.nm.s.data.toList = []
          · rw [if_neg (fun h => h.2 hnm), List.append_nil] at HNX
            have hx : (t.nm.s.toList == []) = true := by rw [beq_iff_eq, ByteArray.toList_eq]; exact hnm
            have hx2 : t.nm.s.toList.isEmpty = true := by rw [beq_iff_eq] at hx; rw [hx]; rfl
            clear hkd hnm
            go_wp2_with fail
            go_roundw
            case rel => exact ⟨k + 1, z, by omega, by go_num, by rw [HNX.out]; exact HZ.out, by omega, by rw [HNX.out]; exact HO.out, HB.out⟩
            case measure => simp [intOf]; omega
          · rw [if_pos ⟨hkd, hnm⟩] at HNX
            have hx : (t.nm.s.toList == []) = false := by rw [beq_eq_false_iff_ne, ByteArray.toList_eq]; exact hnm
            have hx2 : t.nm.s.toList.isEmpty = false := by
              cases hq : t.nm.s.toList with
              | nil => rw [hq] at hx; exact absurd hx (by decide)
              | cons a b => rfl
            clear hkd hnm
            go_wp2_with (at_builtin; refine wpList_append_own_at _ rfl _ _ 41 rfl wo.heap.size 9 i0 _ 1 16 Try.underlying41 hi iz0 iz1 iz2 rfl (by decide) (.slice A4 z c4) z _ rfl (HO.out.alloc _) ⟨wr.heap.size, 0, none⟩ 1 1 [.string t.nm.s] rfl rfl (cells_new wr _ _) (by simp [Value.oneCell']) (by simp only [maxLen]; omega) (by omega) (by simp; omega) ?_)
            intro v' w9 hown9 hgrow _ _
            obtain ⟨A10, c10, rfl, _, _, _⟩ := own_form hown9
            have HREL : Hid (OpsRel ts' m wo (.slice A10 (z + 1) c10) (.int .i64 ((k : Int) + 1)) w9) := by
              refine ⟨k + 1, z + 1, by omega, by simp, by rw [HNX.out, List.length_append, HZ.out]; rfl, by omega, ?_, ?_⟩
              · rw [HNX.out, show txCells (opensX (ts'.take k) ++ [t.nm.s]) = txCells (opensX (ts'.take k)) ++ [.string t.nm.s] by simp [txCells]]
                exact hown9
              · exact (HB.out.alloc hzr _).grown hgrow (by simp; omega) (fun g hg => (HO.out.lt g hg).1)
            clear hgrow hown9
            go_wp2_with fail
            go_roundw
            case rel => exact HREL.out
            case measure => simp [intOf]; omega
        · rw [if_neg (fun h => hkd h.1), List.append_nil] at HNX
          have q1 : (t.kind == 1) = false := by rw [beq_eq_false_iff_ne]; exact hkd
          clear hkd
          go_wp2_with fail
          go_roundw
          case rel => exact ⟨k + 1, z, by omega, by go_num, by rw [HNX.out]; exact HZ.out, by omega, by rw [HNX.out]; exact HO.out, HB.out⟩
          case measure => simp [intOf]; omega
      · obtain rfl : k = m := by omega
        have hk1 : ¬ (k : Int) < (k : Int) := by omega
        have HTA : Hid (opensX (ts'.take k) = opensX ts') := by rw [List.take_of_length_le (by rw [HI.out.len]; exact Nat.le_refl _)]; exact rfl
        have HIR : Hid (ToksIn (fun b => b < wr.heap.size) wr A k ts') := by
          have h := HI.out.keep (Stays.of hb)
          exact ⟨h.lies.mono fun b hb2 _ => Nat.lt_of_lt_of_le hb2 hb.size, fun t ht => (h.all t ht).mono fun b hb2 _ => Nat.lt_of_lt_of_le hb2 hb.size, h.len, h.bulk⟩
        have HTR := Lib.hid (trees_any A k c ts' wr HIR.out (fun b h => h))
        clear hb
        go_wp2_with fail
        refine HTR.out.mono ?_
        rintro e w2 ⟨K, kn, kc, kids, rfl, hin, hch, hb2⟩
        have HWD : Hid (wordsL (mergeP (chL kids)) = catCh (dataKx ts')) := by show _ = _; rw [hch, trees_merged, (trees_all _).1, data_words]
        have HTG : Hid (tagsL (mergeP (chL kids)) = (opensX ts').map (fun s => s.data.toList)) := by show _ = _; rw [hch, trees_merged, (trees_all _).2, opensX_bytes]
        have HLN : Hid ((catCh (dataKx ts')).length ≤ 4294967296) := by
          have h1 := words_small (chL kids)
          have h2 := hin.bulk
          rw [HWD.out] at h1
          show _ ≤ _
          omega
        have HWO : Hid (Calls Try.prog 23 #[.slice K kn kc] w2 (ToldO (catCh (dataKx ts')) w2)) := by
          refine (words_any K kn kc kids w2 hin.lies hin.all hin.len (fun _ h => h) hin.bulk).mono fun _ _ h => ?_
          rw [HWD.out] at h
          exact toldO_of (InR.cat13 _) HLN.out h
        have HIN := Lib.hid hin
        have HB2 := Lib.hid hb2
        clear hin hch hb2 HTR
        go_wp2_with fail
        refine HWO.out.mono ?_
        rintro e w3 ⟨u1, rfl, hu1, hb3⟩
        have hb03 := below_next HB2.out (Nat.le_refl _) hb3
        have HDA : Hid (Calls Try.prog 24 #[.slice A k c] w3 (ToldO (catCh (dataKx ts')) w3)) :=
          dataK_any A k c ts' w3 (HIR.out.lies.lies.next hb03 (Nat.le_refl _)) HIR.out.len (by omega) (fun t ht => (HIR.out.all t ht).tx.ok.next hb03 (Nat.le_refl _)) HLN.out
        have HU1 := Lib.hid hu1.out
        have HB3 := Lib.hid hb3
        have HB03 := Lib.hid hb03
        clear hu1 hb3 hb03 HWO
        go_wp2_with fail
        refine HDA.out.mono ?_
        rintro e w4 ⟨u2, rfl, hu2, hb4⟩
        have hpl := plainStr_any u1 u2 w4 (HU1.out.2.ok.next hb4 (Nat.le_refl _)) hu2.out.2.ok
        rw [decide_eq_true (by rw [HU1.out.1, hu2.out.1])] at hpl
        have HPL := Lib.hid hpl
        have HB4 := Lib.hid (below_next HB3.out (Nat.le_refl _) hb4)
        have HB04 := Lib.hid (below_next HB03.out (Nat.le_refl _) hb4)
        clear hu2 hb4 hpl HDA
        go_wp2_with fail
        refine HPL.out.mono ?_
        rintro e w5 ⟨rfl, hb5⟩
        have hin5 := HIN.out.next (below_next HB4.out (Nat.le_refl _) hb5)
        have HTS := Lib.hid (tags_any K kn kc kids w5 hin5.lies hin5.all hin5.len (fun _ h => h) hin5.bulk)
        have HB05 := Lib.hid (below_next HB04.out (Nat.le_refl _) hb5)
        clear hb5 hin5 HPL
        go_wp2_with fail
        refine HTS.out.mono ?_
        rintro e w6 ⟨A6, c6, ns, rfl, hown6, hns, hb6⟩
        obtain rfl : ns = opensX ts' := bytesK_map (hns.trans HTG.out)
        have hb06 := below_next HB05.out (Nat.le_refl _) hb6
        have HTT : Hid (Calls Try.prog 20 #[.slice A6 (opensX ts').length c6, .slice A4 z c4] w6 fun e w' => e = .returned (.bool true) ∧ Below w6.heap.size w6 w') := by
          have h1 := HO.out
          have h2 := HZ.out
          rw [HTA.out] at h1 h2
          subst h2
          exact texts_true A6 _ c6 (opensX ts') A4 c4 w6 (Lies.own hown6) ((Lies.own h1).next hb06 (Nat.le_refl _)) rfl (by omega)
        have HBA := Lib.hid (below_next (below_next HB1.out (Nat.le_refl _) HB.out) (Nat.le_refl _) hb06)
        clear hown6 hns hb6 hb06 HTS
        go_wp2_with fail
        refine HTT.out.mono ?_
        rintro e w7 ⟨rfl, hb7⟩
        have HBZ := Lib.hid (below_next HBA.out (Nat.le_refl _) hb7)
        clear hb7
        go_wp2_with fail
        go_ret
        exact ⟨rfl, HBZ.out⟩

end Go.Proofs.Ytdiifkmcbnhliaa.mk

namespace Go.Proofs.Ytdiifkmcbnhliaa.buildAll
open Go.ChangeShapes Go.WideShapes Go.ChangeAt Go.RowKit Go.Proofs.Ytdiifkmcbnhliaa.mk

set_option maxRecDepth 100000 in
theorem contract (H : Type) (enc : TypeId × Value → H) (W : World) (args : Array Value) (ds gs : List (DataW H)) (before : List MemPlace) (base : Nat)
    (hval : ∀ (j : Nat) t v, Try.f5.params[j]? = some t → args[j]? = some v → Value.okWide Try.prog W .any base t v)
    (hW : DataW.Whole enc Try.prog Try.f5.params.toList Rows.buildAllSpec.vars false W args.toList ds gs before) (hk : Rows.uptoSmall H (ds ++ gs) = true) :
    Calls Try.prog 5 args W fun e W' => ∃ v, e = .returned v ∧ Rows.buildAllSpec.post enc Try.prog Try.f5 false true false false W args v W' := by
  obtain ⟨p, q, hA0, hV, rfl, hfz, hnd⟩ := id hW
  have hA : DataW.TrodAll enc Try.prog W 0 (fun _ => true) true Try.f5.params.toList args.toList ds p := hA0
  rw [Try.params5] at hA hval
  obtain ⟨v0, vs0, d0, ds0, p0, q0, hargs, rfl, rfl, h0, r0⟩ := trodAll_cons hA
  obtain ⟨rfl, rfl, rfl⟩ := trodAll_nil r0
  obtain rfl : args = #[v0] := by cases args; simp_all
  obtain ⟨rfl, rfl⟩ := trodVars_none hV
  have hbk := bulk_bound hk
  simp only [List.append_nil, Rows.uptoBulkAll] at hbk
  have hbk2 : Rows.uptoBulk d0 ≤ 1048576 := by omega
  obtain ⟨fuel0, hf0⟩ := h0
  obtain ⟨L0, m0, c0, rfl⟩ := okWide_slice Try.underlying29 (hval 0 29 v0 rfl rfl)
  obtain ⟨L0', m0', c0', ts0, hv0, hl0, hm0, hLc0, hmc0, hok0, hsz0⟩ := open_toks hf0 (by show Rows.uptoBulk d0 ≤ 1048576; omega)
  cases hv0
  simp only at hsz0
  refine (buildAll_any L0 m0 c0 ts0 W ⟨hl0, hok0, hm0, (by omega)⟩ hmc0).mono fun e W' ⟨he, hb⟩ => ?_
  subst he
  exact ⟨_, rfl, law_post (tb := 4) laidOut hW rfl ⟨rfl, rfl, rfl⟩ (by rw [Try.params5]; exact readable_all (by kernel_rfl)) rfl Try.underlying4 hb⟩

set_option maxRecDepth 100000 in
theorem lifted (os : Os) (started : os.Started) (H : Type) (enc : TypeId × Value → H) (F : Stop.Interp) :
    ReturnsInHanded {} Try.checked os 5 .any ((Rows.OpenSpec.upto Rows.buildAllSpec).pre6 enc Try.prog Try.f5 Rows.buildAllUptoRow.domain false) (((Rows.OpenSpec.upto Rows.buildAllSpec).at F).post enc Try.prog Try.f5 false true false false) := by
  refine returnsInHanded_of_cond (C := Try.checked) (s := Rows.OpenSpec.upto Rows.buildAllSpec) (k := Rows.uptoSmall) rfl own started (by kernel_rfl) Try.func5
    (OpenSpec.witness (enc := enc) (C := Try.checked) (s := Rows.OpenSpec.upto Rows.buildAllSpec) (k := Rows.uptoSmall) rfl false ⟨#[], #[.slice none 0 0], []⟩ 8 (by kernel_rfl) (by kernel_rfl) (by kernel_rfl)
      (x := ([.nil], [], [])) (by kernel_rfl) rfl (by kernel_rfl)) ?_
  intro W base args ds gs before hval hW _ hk _
  exact contract H enc W args ds gs before base hval hW hk

theorem proved : Rows.BuildAllUptoSaid :=
  OpenClaim.holds_of_cond 5 Try.f5 rfl rfl rfl rfl rfl rfl rfl ⟨rfl, rfl, rfl, rfl, rfl⟩ rfl rfl rfl rfl rfl (by kernel_rfl) Try.func5 (by kernel_rfl)
    (of_decide_eq_true (by kernel_rfl)) (by unfold Func.isWrapper; first | (rw [if_pos (by decide +kernel)]; kernel_rfl) | (rw [if_neg (by decide +kernel)]; exact ⟨rfl, rfl⟩))
    (fun os started H enc _ F => lifted os started H enc F)

end Go.Proofs.Ytdiifkmcbnhliaa.buildAll
