/-
  BuildTells, where what comes in is of bulk at most 1048576: For every list of tokens of any shape (up to the size of the Upto form) glazierlaw14.BuildTells returns true: the trees that build.Trees makes of the first 60 of them are those of the law's own reading, merged, and build.Open tells the names that the law has open behind them.
  Conditions: none beside the bound that the statement itself names.
-/
import Derived.Test.YtddgabjhligeeaaJoinAE
import Derived.Test.YtddgabjhligeeaaJoinW
namespace Go.Proofs.Ytddgabjhligeeaa.mk
open Go.RowKit Go.Maps

/-- what the law's reading tells -/
def KidsM (S : Nat → Prop) (L : List KP) (i : Nat) (op : List Nm) (w : World) (e : Ending) (w' : World) : Prop :=
  ∃ (A : Option Addr) (m c j : Nat) (qs : List PT), e = .returned (.tuple #[.slice A m c, .int .i64 (j : Int)]) ∧ Hid (MRow S w' w.heap.size qs (.slice A m c) ∧ KidsR L i op [] qs j) ∧ Below w.heap.size w w'
theorem nm_no (t : KT) : t.ch.name ≠ [] ↔ ¬ t.nm.s.data.toList = [] := not_congr (KT.name_nil t)

set_option maxHeartbeats 40000000 in
set_option maxRecDepth 100000 in
theorem kids_any {S : Nat → Prop} (A : Option Addr) (n c : Nat) (ts : List KT) (hn : n ≤ 1048575) : ∀ (N i : Nat) (O : Option Addr) (on oc : Nat) (ns : List ByteArray) (w : World), n - i = N → ToksIn S w A n ts → (∀ b, S b → b < w.heap.size) → Lies w w.heap.size O (txCells ns) → ns.length = on → (O = none → oc = 0) → on ≤ i → i ≤ n →
    Calls Try.prog 5 #[.slice A n c, .int .i64 (i : Int), .slice O on oc] w (KidsM S (ts.map KT.ch) i (nmsOf ns) w) := by
  intro N
  induction N using Nat.strongRecOn with
  | _ N IH =>
  intro i O on oc ns w hN h hS hO hon hoc hio hin
  obtain ⟨i0, hi, hz0, hz1, hz2⟩ := info_parts tree_info
  obtain ⟨s0, hs, sz0, sz1, sz2⟩ := info_parts string_info
  have H := Lib.hid h
  have HS := Lib.hid hS
  have HO := Lib.hid hO
  have HON := Lib.hid hon
  have HOC := Lib.hid hoc
  have HIH : Hid (∀ (k : Nat), i ≤ k → k < n → ∀ O on oc ms V, Below w.heap.size w V → Lies V V.heap.size O (txCells ms) → ms.length = on → (O = none → oc = 0) → on ≤ k + 1 → Calls Try.prog 5 #[.slice A n c, .int .i64 ((k : Int) + 1), .slice O on oc] V (KidsM S (ts.map KT.ch) (k + 1) (nmsOf ms) V)) :=
    fun k hk hkn O on oc ms V hb hl h1 h2 h3 => IH (n - (k + 1)) (by omega) (k + 1) O on oc ms V rfl (H.out.keep (Stays.of hb)) (fun b h => Nat.lt_of_lt_of_le (HS.out b h) hb.size) hl h1 h2 h3 (by omega)
  have HBU := Lib.hid h.bulk
  clear h hS hO hon hoc IH hN
  go_enter Try.func5, Try.ntmps5
  go_wp2_with fail
  go_loopw [1, 8] (KidsRel S (ts.map KT.ch) i (nmsOf ns) w) (fun p _ _ => n - (intOf p).toNat)
  case atStart => exact KidsRel.start _ _ _ _ _
  case round =>
    obtain ⟨k, acc, hik, rfl, hrow, hK, hbk, hb⟩ := hrel
    have HB := Lib.hid hb
    have HK := Lib.hid hK
    have HBK := Lib.hid hbk
    have hzw := hb.size
    have HROW := Lib.hid hrow
    obtain ⟨A8, c8, us, rfl, hown, hall, hch⟩ := hrow
    have hzz : us.length ≤ 1048575 := by rw [← chL_length us, hch]; exact acc_small hbk HBU.out
    generalize hz8 : us.length = z at *
    have HZ8 := Lib.hid hz8
    have HOW := Lib.hid hown
    have HAL := Lib.hid hall
    have HCH := Lib.hid hch
    have HGB : Hid (∀ g, (Value.slice A8 z c8).ownBlock = some g → w.heap.size ≤ g ∧ g < wr.heap.size) := hown.lt
    clear hK hbk hown hall hch hz8
    by_cases hlt : k < n
    · obtain ⟨ad, t, rfl, hba, d0, d1, d2, d3, d4, d5, d6, HT⟩ := (H.out.lies.keep (Stays.of hb)).lies.kt (k := k) (by rw [H.out.len]; exact hlt)
      have hk0 : (0 : Int) ≤ (k : Int) := Int.natCast_nonneg _
      have hk1 : (k : Int) < (n : Int) := by omega
      have HTM : Hid (t ∈ ts) := List.mem_of_getElem? HT.out
      have HTL : Hid ((ts.map KT.ch)[k]? = some t.ch) := by show _ = _; rw [List.getElem?_map, HT.out]; rfl
      go_upto_region 5 with fail
      generalize hw4 : wr.alloc (.cells #[.int .i64 t.kind, .string t.nm.s, .slice t.nm.A t.nm.n t.nm.c, .slice t.A t.n t.c, .bool t.close, .string t.tx.s, .slice t.tx.A t.tx.n t.tx.c] 33) = w4
      have y4 : Whole w4 wr.heap.size 33 #[.int .i64 t.kind, .string t.nm.s, .slice t.nm.A t.nm.n t.nm.c, .slice t.A t.n t.c, .bool t.close, .string t.tx.s, .slice t.tx.A t.tx.n t.tx.c] := by rw [← hw4]; exact Whole.made _ _ _
      have hb4 : Below wr.heap.size wr w4 := by rw [← hw4]; exact (Below.refl _ _).alloc (Nat.le_refl _) _
      have hz4 : w4.heap.size = wr.heap.size + 1 := by rw [← hw4]; simp
      have HB4 := Lib.hid hb4
      have HBW4 : Hid (Below w.heap.size w w4) := below_next HB.out (Nat.le_refl _) HB4.out
      have HY4 := Lib.hid y4
      have HZ4 := Lib.hid hz4
      have HTI : Hid (∀ W, Below w4.heap.size w4 W → t.inS S W) := fun W h => (H.out.all t HTM.out).keep (Stays.of (below_next HBW4.out (Nat.le_refl _) h))
      have HROW4 : Hid (∀ W, Below w4.heap.size w4 W → MRow S W w.heap.size acc (.slice A8 z c8)) := fun W h => (HROW.out.keep HB4.out).keep h
      have HOW4 : Hid (∀ W, Below w4.heap.size w4 W → W.ownsRow w.heap.size 44 6 (.slice A8 z c8) z (treeCells us)) := fun W h => own_keep (own_keep HOW.out HB4.out) h
      have HAL4 : Hid (∀ W, Below w4.heap.size w4 W → AllS (OutS S w.heap.size (.slice A8 z c8)) W us) := fun W h => (HAL.out.keep (Stays.of HB4.out)).keep (Stays.of h)
      have HADD : Hid (∀ (T : TT) W W2 A' c', Below w4.heap.size w4 W → T.inS (OutS S w.heap.size (.slice A8 z c8)) W → AllS (OutS S w.heap.size (.slice A8 z c8)) W T.kids → W.grownBy W2 (Value.slice A8 z c8).ownBlock →
          ((Value.slice A' (z + 1) c').ownBlock = (Value.slice A8 z c8).ownBlock ∨ (Value.slice A' (z + 1) c').ownBlock = some W.heap.size) → W2.ownsRow w.heap.size 44 6 (.slice A' (z + 1) c') (z + 1) (treeCells us ++ treeRow T) →
          MRow S W2 w.heap.size (acc ++ [T.ch]) (.slice A' (z + 1) c') ∧ Below w.heap.size w W2) := fun T W W2 A' c' hb h1 h2 hg hv ho =>
        ⟨MRow.more (fun b hb => HS.out b hb) (fun g hg => (HGB.out g hg).1) HZ8.out (HAL4.out W hb) HCH.out h1 h2 hg hv ho, (below_next HBW4.out (Nat.le_refl _) hb).grown hg (Nat.le_trans HBW4.out.size hb.size) (fun g hg => (HGB.out g hg).1)⟩
      have HHT : Hid (∀ W, Below w4.heap.size w4 W → W.cell? ⟨wr.heap.size, 0, none⟩ = some (.int .i64 t.kind) ∧ W.cell? ⟨wr.heap.size, 1, none⟩ = some (.string t.nm.s)) := fun W h => by
        have y := HY4.out.below h HY4.out.lt
        exact ⟨y.at_ 0, y.at_ 1⟩
      have HSK : Hid (∀ W, Below w4.heap.size w4 W → (t.kind = 1 → t.ch.name = []) → (t.kind = 2 → lastI (nmsOf ns) t.nm.s.data.toList < 0) → t.kind ≠ 3 → KidsRel S (ts.map KT.ch) i (nmsOf ns) w (.int .i64 ((k : Int) + 1)) (.slice A8 z c8) W) := fun W h h1 h2 h3 =>
        KidsRel.skip hik HROW.out HK.out HBK.out HB.out HTL.out h1 (by rw [KT.nm_eq]; exact h2) h3 (below_next HB4.out (Nat.le_refl _) h)
      have HO2 : Hid (∀ W, Below w4.heap.size w4 W → ∀ s : ByteArray, Calls Try.prog 7 #[.slice O on oc, .string s] W fun e w' => e = .returned (.int .i64 (lastI (nmsOf ns) s.data.toList)) ∧ W = w') := fun W h s =>
        open2_any O on oc ns s W (HO.out.next (below_next HBW4.out (Nat.le_refl _) h) (Nat.le_refl _)) HON.out (by omega)
      have p0 := y4.at_ 0
      have p1 := y4.at_ 1
      have p2 := y4.at_ 2
      have p3 := y4.at_ 3
      have p5 := y4.at_ 5
      have p6 := y4.at_ 6
      clear hb hb4 y4 hz4 hw4 d0 d1 d2 d3 d4 d5 d6
      by_cases hkd : t.kind = 1
      · have HKD := Lib.hid hkd
        rw [hkd] at p0
        by_cases hnm : t.nm.s.data.toList = []
        · have hx : (t.nm.s.toList == []) = true := by rw [beq_iff_eq, ByteArray.toList_eq]; exact hnm
          have hx2 : t.nm.s.toList.isEmpty = true := by rw [beq_iff_eq] at hx; rw [hx]; rfl
          have HEN := Lib.hid (HSK.out w4 (Below.refl _ _) (fun _ => (KT.name_nil t).2 hnm) (fun e => by omega) (by omega))
          clear hnm hkd
          go_wp2_with fail
          go_roundw
          case rel => exact HEN.out
          case measure => simp [intOf]; omega
        · have hx : (t.nm.s.toList == []) = false := by rw [beq_eq_false_iff_ne, ByteArray.toList_eq]; exact hnm
          have hx2 : t.nm.s.toList.isEmpty = false := by
            cases hq : t.nm.s.toList with
            | nil => rw [hq] at hx; exact absurd hx (by decide)
            | cons a b => rfl
          have HNM : Hid (t.ch.name ≠ []) := (nm_no t).2 hnm
          clear hnm hkd
          have HV := Lib.hid (law14Void_any t.nm.s)
          go_upto_region 7 with fail
          generalize hw5 : w4.alloc (.cells #[.string t.nm.s, .slice t.nm.A t.nm.n t.nm.c, .slice t.A t.n t.c, .slice none 0 0, .string ⟨#[]⟩, .slice none 0 0] 44) = w5
          have y5 : Whole w5 w4.heap.size 44 #[.string t.nm.s, .slice t.nm.A t.nm.n t.nm.c, .slice t.A t.n t.c, .slice none 0 0, .string ⟨#[]⟩, .slice none 0 0] := by rw [← hw5]; exact Whole.made _ _ _
          have hb5 : Below w4.heap.size w4 w5 := by rw [← hw5]; exact (Below.refl _ _).alloc (Nat.le_refl _) _
          have HZ5 : Hid (w5.heap.size = w4.heap.size + 1) := by show _ = _; rw [← hw5]; simp
          have HB5 := Lib.hid hb5
          have HBW5 : Hid (Below w.heap.size w w5) := below_next HBW4.out (Nat.le_refl _) HB5.out
          have HY5 := Lib.hid y5
          have HS5 : Hid (∀ W, Below w5.heap.size w5 W → W.cell? ⟨wr.heap.size, 1, none⟩ = some (.string t.nm.s)) := fun W h => (HHT.out W (below_next HB5.out (Nat.le_refl _) h)).2
          have r1 : w5.cell? ⟨wr.heap.size, 1, none⟩ = some (.string t.nm.s) := HS5.out _ (Below.refl _ _)
          by_cases hv : voidB t.nm.s.data.toList = true
          · rw [hv] at HV
            have e0 := y5.at_ 0
            have e1 := y5.at_ 1
            have e2 := y5.at_ 2
            have e3 := y5.at_ 3
            have e4 := y5.at_ 4
            have e5 := y5.at_ 5
            have HVV : Hid (voidB t.ch.nm = true) := by show _ = _; rw [KT.nm_eq]; exact hv
            have hown5 := HOW4.out w5 hb5
            have hz45 : w.heap.size ≤ w5.heap.size := HBW5.out.size
            clear hv y5 hb5 hw5
            go_wp2_with fail
            refine (HV.out _).mono ?_
            rintro e wy ⟨rfl, rfl⟩
            go_wp2_with (at_builtin; refine wpList_append_own_at _ rfl _ _ 24 rfl w.heap.size 44 i0 _ 6 128 Try.underlying24 hi hz0 hz1 hz2 rfl (by decide) (.slice A8 z c8) z _ rfl (hown5.alloc _) ⟨w5.heap.size, 0, none⟩ 1 1 (treeRow (elK t)) rfl rfl (cells_new w5 _ _) (treeRow_one _) (by simp only [maxLen]; omega) (by omega) (by simp; omega) ?_)
            intro v' w7 hown7 hgrow _ hv7
            obtain ⟨A7, c7, rfl, _, _, _⟩ := own_form hown7
            have hba := (Below.refl w5.heap.size w5).alloc (Nat.le_refl _) (.cells (treeRow (elK t)).toArray 44)
            have HF := Lib.hid (HADD.out (elK t) _ w7 A7 c7 (below_next HB5.out (Nat.le_refl _) hba) (((elK_in (HTI.out _ (below_next HB5.out (Nat.le_refl _) hba))).get (by simp)).mono fun b hb _ => .inl hb) (AllS.nil _ _) hgrow (by rw [World.size_alloc]; exact hv7) hown7)
            rw [elK_ch] at HF
            have HREL : Hid (KidsRel S (ts.map KT.ch) i (nmsOf ns) w (.int .i64 ((k : Int) + 1)) (.slice A7 (z + 1) c7) w7) := KidsRel.void hik HK.out HBK.out HTL.out HKD.out HNM.out HVV.out HF.out.1 HF.out.2
            clear hgrow hv7 hown7 hown5 hba
            go_wp2_with fail
            go_roundw
            case rel => exact HREL.out
            case measure => simp [intOf]; omega
          · rw [Bool.not_eq_true] at hv
            rw [hv] at HV
            have HVV : Hid (voidB t.ch.nm = false) := by show _ = _; rw [KT.nm_eq]; exact hv
            clear hv y5 hb5 hw5
            go_wp2_with fail
            refine (HV.out _).mono ?_
            rintro e wy ⟨rfl, rfl⟩
            clear HV
            go_upto_region 9 with fail
            go_cut [1] (fun p wx => ∃ (a : Nat) (qs : List PT) (K : Option Addr) (kn kc : Nat), p = .int .i64 (a : Int) ∧ KidsR (ts.map KT.ch) (k + 1) (nmsOf ns ++ [t.ch.nm]) [] qs a ∧ Whole wx w4.heap.size 44 #[.string t.nm.s, .slice t.nm.A t.nm.n t.nm.c, .slice t.A t.n t.c, .slice K kn kc, .string ⟨#[]⟩, .slice none 0 0] ∧ MRow S wx w5.heap.size qs (.slice K kn kc) ∧ Below w4.heap.size w4 wx)
            case first =>
              clear HADD HSK HO2 HHT HROW HROW4 HOW HOW4 HAL HAL4 HCH HK HBK HTI r1
              have hbS : Below w5.heap.size w5 w5.drew := Below.drew (Below.refl _ _)
              have hS := HS5.out _ hbS
              have HBwS := Lib.hid hbS
              refine wp_region_lastB (S := (fun V => V.cell? ⟨wr.heap.size, 1, none⟩ = some (.string t.nm.s))) (Z := (fun i => decide (15 ≤ i))) (by kernel_rfl) ?_
              obtain ⟨wS, hwS⟩ : ∃ wS, w5.drew = wS := ⟨_, rfl⟩
              rw [hwS] at hbS hS HBwS ⊢
              clear hwS
              refine' wpAnyL_take (i := 0) ?hi1 (by kernel_rfl) (by kernel_rfl) (by kernel_rfl) (by kernel_rfl) ?hQ1 ?hy1 hS ?rest1
              case hi1 => simp only [List.getElem?_toArray, List.getElem?_cons_zero]; rfl
              case hQ1 => exact fun _ _ _ h => h
              case hy1 =>
                refine Or.inl ⟨by rfl, ?_⟩
                intro wq hq
                try dsimp only at hq
                try obtain ⟨hq0, hq1, hq2, hq3, hq4, hq5, hq6⟩ := hq
                try obtain ⟨hq0, hq1, hq2, hq3, hq4, hq5⟩ := hq
                try obtain ⟨hq0, hq1, hq2, hq3, hq4⟩ := hq
                try obtain ⟨hq0, hq1, hq2, hq3⟩ := hq
                try obtain ⟨hq0, hq1, hq2⟩ := hq
                try obtain ⟨hq0, hq1⟩ := hq
                go_simp
                try with_reducible rfl
              try simp only [Act.put, List.setIfInBounds_toArray, List.set_cons_zero, List.set_cons_succ]
              refine' wpAnyL_take (i := 1) ?hi2 (by kernel_rfl) (by kernel_rfl) (by kernel_rfl) (by kernel_rfl) ?hQ2 ?hy2 hS ?rest2
              case hi2 => simp only [List.getElem?_toArray, List.getElem?_cons_succ, List.getElem?_cons_zero]; rfl
              case hQ2 => exact fun _ _ _ h => h
              case hy2 =>
                refine Or.inl ⟨by rfl, ?_⟩
                intro wq hq
                try dsimp only at hq
                try obtain ⟨hq0, hq1, hq2, hq3, hq4, hq5, hq6⟩ := hq
                try obtain ⟨hq0, hq1, hq2, hq3, hq4, hq5⟩ := hq
                try obtain ⟨hq0, hq1, hq2, hq3, hq4⟩ := hq
                try obtain ⟨hq0, hq1, hq2, hq3⟩ := hq
                try obtain ⟨hq0, hq1, hq2⟩ := hq
                try obtain ⟨hq0, hq1⟩ := hq
                go_simp
                try with_reducible rfl
              try simp only [Act.put, List.setIfInBounds_toArray, List.set_cons_zero, List.set_cons_succ]
              refine' wpAnyL_take (i := 3) ?hi3 (by kernel_rfl) (by kernel_rfl) (by kernel_rfl) (by kernel_rfl) ?hQ3 ?hy3 hS ?rest3
              case hi3 => simp only [List.getElem?_toArray, List.getElem?_cons_succ, List.getElem?_cons_zero]; rfl
              case hQ3 => exact fun _ _ _ h => h
              case hy3 =>
                refine Or.inl ⟨by rfl, ?_⟩
                intro wq hq
                try dsimp only at hq
                try obtain ⟨hq0, hq1, hq2, hq3, hq4, hq5, hq6⟩ := hq
                try obtain ⟨hq0, hq1, hq2, hq3, hq4, hq5⟩ := hq
                try obtain ⟨hq0, hq1, hq2, hq3, hq4⟩ := hq
                try obtain ⟨hq0, hq1, hq2, hq3⟩ := hq
                try obtain ⟨hq0, hq1, hq2⟩ := hq
                try obtain ⟨hq0, hq1⟩ := hq
                go_simp
                try with_reducible rfl
              try simp only [Act.put, List.setIfInBounds_toArray, List.set_cons_zero, List.set_cons_succ]
              refine' wpAnyL_take (i := 5) ?hi4 (by kernel_rfl) (by kernel_rfl) (by kernel_rfl) (by kernel_rfl) ?hQ4 ?hy4 hS ?rest4
              case hi4 => simp only [List.getElem?_toArray, List.getElem?_cons_succ, List.getElem?_cons_zero]; rfl
              case hQ4 => exact fun _ _ _ h => h
              case hy4 =>
                refine Or.inl ⟨by rfl, ?_⟩
                intro wq hq
                try dsimp only at hq
                try obtain ⟨hq0, hq1, hq2, hq3, hq4, hq5, hq6⟩ := hq
                try obtain ⟨hq0, hq1, hq2, hq3, hq4, hq5⟩ := hq
                try obtain ⟨hq0, hq1, hq2, hq3, hq4⟩ := hq
                try obtain ⟨hq0, hq1, hq2, hq3⟩ := hq
                try obtain ⟨hq0, hq1, hq2⟩ := hq
                try obtain ⟨hq0, hq1⟩ := hq
                go_simp
                try with_reducible rfl
              try simp only [Act.put, List.setIfInBounds_toArray, List.set_cons_zero, List.set_cons_succ]
              refine' wpAnyL_take (i := 6) ?hi5 (by kernel_rfl) (by kernel_rfl) (by kernel_rfl) (by kernel_rfl) ?hQ5 ?hy5 hS ?rest5
              case hi5 => simp only [List.getElem?_toArray, List.getElem?_cons_succ, List.getElem?_cons_zero]; rfl
              case hQ5 => exact fun _ _ _ h => h
              case hy5 =>
                refine Or.inl ⟨by rfl, ?_⟩
                intro wq hq
                try dsimp only at hq
                try obtain ⟨hq0, hq1, hq2, hq3, hq4, hq5, hq6⟩ := hq
                try obtain ⟨hq0, hq1, hq2, hq3, hq4, hq5⟩ := hq
                try obtain ⟨hq0, hq1, hq2, hq3, hq4⟩ := hq
                try obtain ⟨hq0, hq1, hq2, hq3⟩ := hq
                try obtain ⟨hq0, hq1, hq2⟩ := hq
                try obtain ⟨hq0, hq1⟩ := hq
                go_simp
                try with_reducible rfl
              try simp only [Act.put, List.setIfInBounds_toArray, List.set_cons_zero, List.set_cons_succ]
              refine' wpAnyL_take (i := 7) ?hi6 (by kernel_rfl) (by kernel_rfl) (by kernel_rfl) (by kernel_rfl) ?hQ6 ?hy6 hS ?rest6
              case hi6 => simp only [List.getElem?_toArray, List.getElem?_cons_succ, List.getElem?_cons_zero]; rfl
              case hQ6 => exact fun _ _ _ h => h
              case hy6 =>
                refine Or.inl ⟨by rfl, ?_⟩
                intro wq hq
                try dsimp only at hq
                try obtain ⟨hq0, hq1, hq2, hq3, hq4, hq5, hq6⟩ := hq
                try obtain ⟨hq0, hq1, hq2, hq3, hq4, hq5⟩ := hq
                try obtain ⟨hq0, hq1, hq2, hq3, hq4⟩ := hq
                try obtain ⟨hq0, hq1, hq2, hq3⟩ := hq
                try obtain ⟨hq0, hq1, hq2⟩ := hq
                try obtain ⟨hq0, hq1⟩ := hq
                go_simp
                try with_reducible rfl
              try simp only [Act.put, List.setIfInBounds_toArray, List.set_cons_zero, List.set_cons_succ]
              clear hbS
              refine wpAnyL_ready (rs := [2, 8]) (by kernel_rfl) (by simp) ?_
              refine' ReadyL.cons ?ho7 (fun K hK => ?step7) ?more7
              case ho7 => simp only [List.getElem?_toArray, List.getElem?_cons_succ, List.getElem?_cons_zero]; rfl
              case step7 =>
                go_simp
                have hbwa : Below w5.heap.size w5 (wS.alloc (.cells #[] 9)) := HBwS.out.alloc HBwS.out.size _
                have HO46 := Lib.hid (World.ownsRow_lit (base := w5.heap.size) (e := 9) (size := 1) wS #[] 0 HBwS.out.size (by simp) rfl)
                refine hK.out _ _ (.inr (HS5.out _ hbwa)) ?_
                have hS := HS5.out _ hbwa

                generalize wS.alloc (.cells #[] 9) = wa at *
                obtain ⟨g46, hg46⟩ : ∃ g46, wS.heap.size = g46 := ⟨_, rfl⟩
                rw [hg46] at HO46
                try rw [hg46] at HNE
                rw [hg46]
                have HBwa := Lib.hid hbwa
                clear hK K hbwa hg46
                try simp only [Act.put, List.setIfInBounds_toArray, List.set_cons_zero, List.set_cons_succ]
                refine wpAnyL_ready (rs := [4, 8]) (by kernel_rfl) (by simp) ?_
                refine' ReadyL.cons ?ho8 (fun K hK => ?step8) ?more8
                case ho8 => simp only [List.getElem?_toArray, List.getElem?_cons_succ, List.getElem?_cons_zero]; rfl
                case step8 =>
                  refine step_append_src _ (by rfl) (.tmp 46) (.tmp 47) 27 (by rfl) w5.heap.size 9 s0 _ 1 16 Try.underlying27 hs sz0 sz1 sz2 rfl (by omega) (.slice (some ⟨g46, 0, none⟩) 0 0) 0 [] (by rfl) HO46.out _ O on oc (txCells ns) (by rfl) HOC.out (by rw [txCells_lenB, HON.out, Nat.mul_one]) (HO.out.next (below_next HBW5.out (Nat.le_refl _) HBwa.out) (Nat.le_refl _)) (txCells_oneB ns) (by simp only [maxLen]; omega) (by omega) HBwa.out.size ?_
                  intro v48 wb hown48 hgr48 _
                  have hbwb : Below w5.heap.size w5 wb := HBwa.out.grown hgr48 HBwa.out.size (fun g hg => (HO46.out.lt g hg).1)
                  rw [Nat.zero_add, List.nil_append] at hown48
                  have HO48 := Lib.hid hown48
                  refine hK.out _ _ (.inr (HS5.out _ hbwb)) ?_
                  have hS := HS5.out _ hbwb

                  have HBwb := Lib.hid hbwb
                  clear hK K hbwb hown48 hgr48
                  try simp only [Act.put, List.setIfInBounds_toArray, List.set_cons_zero, List.set_cons_succ]
                  refine wpAnyL_ready (rs := [8]) (by kernel_rfl) (by simp) ?_
                  refine' ReadyL.cons ?ho9 (fun K hK => ?step9) ?more9
                  case ho9 => simp only [List.getElem?_toArray, List.getElem?_cons_succ, List.getElem?_cons_zero]; rfl
                  case step9 =>
                    go_simp
                    have hbwc : Below w5.heap.size w5 (wb.alloc (.cells #[.string t.nm.s] 9)) := HBwb.out.alloc HBwb.out.size _
                    have HL52 := Lib.hid (lies_wholeB (Whole.made wb 9 #[.string t.nm.s]) (l := [.string t.nm.s]) rfl)
                    refine hK.out _ _ (.inr (HS5.out _ hbwc)) ?_
                    have hS := HS5.out _ hbwc
                    replace HO48 := Lib.hid (HO48.out.alloc (.cells #[.string t.nm.s] 9))
                    generalize wb.alloc (.cells #[.string t.nm.s] 9) = wc at *
                    obtain ⟨g52, hg52⟩ : ∃ g52, wb.heap.size = g52 := ⟨_, rfl⟩
                    rw [hg52] at HL52
                    try rw [hg52] at HNE
                    rw [hg52]
                    have HBwc := Lib.hid hbwc
                    clear hK K hbwc hg52
                    try simp only [Act.put, List.setIfInBounds_toArray, List.set_cons_zero, List.set_cons_succ]
                    refine wpAnyL_ready (rs := [9]) (by kernel_rfl) (by simp) ?_
                    refine' ReadyL.cons ?ho10 (fun K hK => ?step10) ?more10
                    case ho10 => simp only [List.getElem?_toArray, List.getElem?_cons_succ, List.getElem?_cons_zero]; rfl
                    case step10 =>
                      refine step_append_src _ (by rfl) (.tmp 48) (.tmp 52) 27 (by rfl) w5.heap.size 9 s0 _ 1 16 Try.underlying27 hs sz0 sz1 sz2 rfl (by omega) v48 on (txCells ns) (by rfl) HO48.out _ (some ⟨g52, 0, none⟩) 1 1 [.string t.nm.s] (by rfl) (by simp) (by rfl) HL52.out (by simp [Value.oneCell']) (by simp only [maxLen]; omega) (by omega) HBwc.out.size ?_
                      intro v53 w53 hown53 hgr53 _
                      obtain ⟨A53, c53, rfl, hA53, _, _⟩ := own_form hown53
                      have hb53 : Below w5.heap.size w5 w53 := HBwc.out.grown hgr53 HBwc.out.size (fun g hg => (HO48.out.lt g hg).1)
                      refine hK.out _ _ (.inr (HS5.out _ hb53)) ?_
                      have hS := HS5.out _ hb53
                      have HB53 := Lib.hid hb53
                      have HC53 : Hid (Calls Try.prog 5 #[.slice (some ad) n c, .int .i64 ((k : Int) + 1), .slice A53 (on + 1) c53] w53 (KidsM S (ts.map KT.ch) (k + 1) (nmsOf (ns ++ [t.nm.s])) w53)) :=
                        HIH.out k hik hlt A53 (on + 1) c53 (ns ++ [t.nm.s]) w53 (below_next HBW5.out (Nat.le_refl _) hb53) (by rw [txCells_snoc]; exact Lies.own hown53) (by rw [List.length_append, HON.out]; rfl) hA53 (by omega)
                      clear hK K hown53 hgr53 hb53
                      try simp only [Act.put, List.setIfInBounds_toArray, List.set_cons_zero, List.set_cons_succ]
                      refine wpAnyL_ready (rs := [10]) (by kernel_rfl) (by simp) ?_
                      refine' ReadyL.cons ?ho11 (fun K hK => ?step11) ?more11
                      case ho11 => simp only [List.getElem?_toArray, List.getElem?_cons_succ, List.getElem?_cons_zero]; rfl
                      case step11 =>
                        go_simp
                        refine HC53.out.mono ?_
                        rintro e w6 ⟨A6, m6, c6, j6, qs6, rfl, h6, hb6⟩
                        have HB6 : Hid (Below w5.heap.size w5 w6) := below_next HB53.out (Nat.le_refl _) hb6
                        have HY6 := Lib.hid (HY5.out.below HB6.out HY5.out.lt)
                        have HR6 : Hid (MRow S w6 w5.heap.size qs6 (.slice A6 m6 c6)) := by
                          obtain ⟨A', c', us', e', ho', ha', hq'⟩ := h6.out.1
                          refine ⟨A', c', us', e', own_mono ho' HB53.out.size, ha'.mono fun b hb _ => ?_, hq'⟩
                          rcases hb with hb | hb
                          · exact .inl hb
                          · exact .inr ⟨Nat.le_trans HB53.out.size hb.1, hb.2⟩
                        have HK6 := Lib.hid h6.out.2
                        refine hK.out _ _ (.inr (HS5.out _ HB6.out)) ?_
                        have hS := HS5.out _ HB6.out
                        clear hK K hb6 h6
                        try simp only [Act.put, List.setIfInBounds_toArray, List.set_cons_zero, List.set_cons_succ]
                        refine' wpAnyL_take (i := 11) ?hi12 (by kernel_rfl) (by kernel_rfl) (by kernel_rfl) (by kernel_rfl) ?hQ12 ?hy12 hS ?rest12
                        case hi12 => simp only [List.getElem?_toArray, List.getElem?_cons_succ, List.getElem?_cons_zero]; rfl
                        case hQ12 => exact fun _ _ _ h => h
                        case hy12 =>
                          refine Or.inl ⟨by rfl, ?_⟩
                          intro wq hq
                          try dsimp only at hq
                          try obtain ⟨hq0, hq1, hq2, hq3, hq4, hq5, hq6⟩ := hq
                          try obtain ⟨hq0, hq1, hq2, hq3, hq4, hq5⟩ := hq
                          try obtain ⟨hq0, hq1, hq2, hq3, hq4⟩ := hq
                          try obtain ⟨hq0, hq1, hq2, hq3⟩ := hq
                          try obtain ⟨hq0, hq1, hq2⟩ := hq
                          try obtain ⟨hq0, hq1⟩ := hq
                          go_simp
                          try with_reducible rfl
                        try simp only [Act.put, List.setIfInBounds_toArray, List.set_cons_zero, List.set_cons_succ]
                        refine' wpAnyL_take (i := 12) ?hi13 (by kernel_rfl) (by kernel_rfl) (by kernel_rfl) (by kernel_rfl) ?hQ13 ?hy13 hS ?rest13
                        case hi13 => simp only [List.getElem?_toArray, List.getElem?_cons_succ, List.getElem?_cons_zero]; rfl
                        case hQ13 => exact fun _ _ _ h => h
                        case hy13 =>
                          refine Or.inl ⟨by rfl, ?_⟩
                          intro wq hq
                          try dsimp only at hq
                          try obtain ⟨hq0, hq1, hq2, hq3, hq4, hq5, hq6⟩ := hq
                          try obtain ⟨hq0, hq1, hq2, hq3, hq4, hq5⟩ := hq
                          try obtain ⟨hq0, hq1, hq2, hq3, hq4⟩ := hq
                          try obtain ⟨hq0, hq1, hq2, hq3⟩ := hq
                          try obtain ⟨hq0, hq1, hq2⟩ := hq
                          try obtain ⟨hq0, hq1⟩ := hq
                          go_simp
                          try with_reducible rfl
                        try simp only [Act.put, List.setIfInBounds_toArray, List.set_cons_zero, List.set_cons_succ]
                        refine' wpAnyL_take (i := 14) ?hi14 (by kernel_rfl) (by kernel_rfl) (by kernel_rfl) (by kernel_rfl) ?hQ14 ?hy14 hS ?rest14
                        case hi14 => simp only [List.getElem?_toArray, List.getElem?_cons_succ, List.getElem?_cons_zero]; rfl
                        case hQ14 => exact fun _ _ _ h => h
                        case hy14 =>
                          refine Or.inl ⟨by rfl, ?_⟩
                          intro wq hq
                          try dsimp only at hq
                          try obtain ⟨hq0, hq1, hq2, hq3, hq4, hq5, hq6⟩ := hq
                          try obtain ⟨hq0, hq1, hq2, hq3, hq4, hq5⟩ := hq
                          try obtain ⟨hq0, hq1, hq2, hq3, hq4⟩ := hq
                          try obtain ⟨hq0, hq1, hq2, hq3⟩ := hq
                          try obtain ⟨hq0, hq1, hq2⟩ := hq
                          try obtain ⟨hq0, hq1⟩ := hq
                          go_simp
                          try with_reducible rfl
                        try simp only [Act.put, List.setIfInBounds_toArray, List.set_cons_zero, List.set_cons_succ]
                        have kf3 := HY6.out.free 3
                        have k3 := HY6.out.at_ 3
                        refine wpAnyL_ready (rs := [13, 15]) (by kernel_rfl) (by simp) ?_
                        refine' ReadyL.cons ?ho15 (fun K hK => ?step15) ?more15
                        case ho15 => simp only [List.getElem?_toArray, List.getElem?_cons_succ, List.getElem?_cons_zero]; rfl
                        case step15 =>
                          go_simp
                          refine hK.out _ _ (.inr hS) ?_
                          clear hK K
                          try simp only [Act.put, List.setIfInBounds_toArray, List.set_cons_zero, List.set_cons_succ]
                          refine wpAnyL_ready (rs := [15]) (by kernel_rfl) (by simp) ?_
                          refine' ReadyL.cons ?ho16 (fun K hK => ?step16) ?more16
                          case ho16 => simp only [List.getElem?_toArray, List.getElem?_cons_succ, List.getElem?_cons_zero]; rfl
                          case step16 =>
                            go_simp
                            refine hK.out _ _ (.inl (by decide)) ?_
                            clear hK K
                            try simp only [Act.put, List.setIfInBounds_toArray, List.set_cons_zero, List.set_cons_succ]
                            refine wpAnyL_ready (rs := [16]) (by kernel_rfl) (by simp) ?_
                            refine' ReadyL.cons ?ho17 (fun K hK => ?step17) ?more17
                            case ho17 => simp only [List.getElem?_toArray, List.getElem?_cons_succ, List.getElem?_cons_zero]; rfl
                            case step17 =>
                              go_simp
                              refine hK.out _ _ (.inl (by decide)) ?_
                              clear hK K
                              try simp only [Act.put, List.setIfInBounds_toArray, List.set_cons_zero, List.set_cons_succ]
                              refine wpAnyL_done (by kernel_rfl) ?_ _
                              go_wp2_with fail
                              go_meet
                              exact ⟨j6, qs6, A6, m6, c6, rfl, by rw [nmsOf_snoc, ← KT.nm_eq] at HK6; exact HK6, HY6.out.put 3 _, HR6.out.boxed (fun b hb => by have := HS.out b hb; have := HBW4.out.size; omega) (by have := HZ5.out; omega), (HB5.out.trans (HB6.out.mono HB5.out.size)).setCell (Nat.le_refl _) _⟩
                            exact ReadyL.nil
                          exact ReadyL.nil
                        refine' ReadyL.cons ?ho18 (fun K hK => ?step18) ?more18
                        case ho18 => simp only [List.getElem?_toArray, List.getElem?_cons_succ, List.getElem?_cons_zero]; rfl
                        case step18 =>
                          go_simp
                          refine hK.out _ _ (.inl (by decide)) ?_
                          clear hK K
                          try simp only [Act.put, List.setIfInBounds_toArray, List.set_cons_zero, List.set_cons_succ]
                          refine wpAnyL_ready (rs := [13]) (by kernel_rfl) (by simp) ?_
                          refine' ReadyL.cons ?ho19 (fun K hK => ?step19) ?more19
                          case ho19 => simp only [List.getElem?_toArray, List.getElem?_cons_succ, List.getElem?_cons_zero]; rfl
                          case step19 =>
                            go_simp
                            refine hK.out _ _ (.inr ((World.cell?_setCell_other _ _ _ _ (fun e => by injection e with e; have := HZ4.out; omega)).trans hS)) ?_
                            clear hK K
                            try simp only [Act.put, List.setIfInBounds_toArray, List.set_cons_zero, List.set_cons_succ]
                            refine wpAnyL_ready (rs := [16]) (by kernel_rfl) (by simp) ?_
                            refine' ReadyL.cons ?ho20 (fun K hK => ?step20) ?more20
                            case ho20 => simp only [List.getElem?_toArray, List.getElem?_cons_succ, List.getElem?_cons_zero]; rfl
                            case step20 =>
                              go_simp
                              refine hK.out _ _ (.inl (by decide)) ?_
                              clear hK K
                              try simp only [Act.put, List.setIfInBounds_toArray, List.set_cons_zero, List.set_cons_succ]
                              refine wpAnyL_done (by kernel_rfl) ?_ _
                              go_wp2_with fail
                              go_meet
                              exact ⟨j6, qs6, A6, m6, c6, rfl, by rw [nmsOf_snoc, ← KT.nm_eq] at HK6; exact HK6, HY6.out.put 3 _, HR6.out.boxed (fun b hb => by have := HS.out b hb; have := HBW4.out.size; omega) (by have := HZ5.out; omega), (HB5.out.trans (HB6.out.mono HB5.out.size)).setCell (Nat.le_refl _) _⟩
                            exact ReadyL.nil
                          exact ReadyL.nil
                        exact ReadyL.nil
                      exact ReadyL.nil
                    exact ReadyL.nil
                  exact ReadyL.nil
                refine' ReadyL.cons ?ho21 (fun K hK => ?step21) ?more21
                case ho21 => simp only [List.getElem?_toArray, List.getElem?_cons_succ, List.getElem?_cons_zero]; rfl
                case step21 =>
                  go_simp
                  have hbwb : Below w5.heap.size w5 (wa.alloc (.cells #[.string t.nm.s] 9)) := HBwa.out.alloc HBwa.out.size _
                  have HL52 := Lib.hid (lies_wholeB (Whole.made wa 9 #[.string t.nm.s]) (l := [.string t.nm.s]) rfl)
                  refine hK.out _ _ (.inr (HS5.out _ hbwb)) ?_
                  have hS := HS5.out _ hbwb
                  have HNE : Hid (g46 ≠ wa.heap.size) := by show _ ≠ _; have := (HO46.out.lt g46 rfl).2; omega
                  replace HO46 := Lib.hid (HO46.out.alloc (.cells #[.string t.nm.s] 9))
                  generalize wa.alloc (.cells #[.string t.nm.s] 9) = wb at *
                  obtain ⟨g52, hg52⟩ : ∃ g52, wa.heap.size = g52 := ⟨_, rfl⟩
                  rw [hg52] at HL52
                  try rw [hg52] at HNE
                  rw [hg52]
                  have HBwb := Lib.hid hbwb
                  clear hK K hbwb hg52
                  try simp only [Act.put, List.setIfInBounds_toArray, List.set_cons_zero, List.set_cons_succ]
                  refine wpAnyL_ready (rs := [4]) (by kernel_rfl) (by simp) ?_
                  refine' ReadyL.cons ?ho22 (fun K hK => ?step22) ?more22
                  case ho22 => simp only [List.getElem?_toArray, List.getElem?_cons_succ, List.getElem?_cons_zero]; rfl
                  case step22 =>
                    refine step_append_src _ (by rfl) (.tmp 46) (.tmp 47) 27 (by rfl) w5.heap.size 9 s0 _ 1 16 Try.underlying27 hs sz0 sz1 sz2 rfl (by omega) (.slice (some ⟨g46, 0, none⟩) 0 0) 0 [] (by rfl) HO46.out _ O on oc (txCells ns) (by rfl) HOC.out (by rw [txCells_lenB, HON.out, Nat.mul_one]) (HO.out.next (below_next HBW5.out (Nat.le_refl _) HBwb.out) (Nat.le_refl _)) (txCells_oneB ns) (by simp only [maxLen]; omega) (by omega) HBwb.out.size ?_
                    intro v48 wc hown48 hgr48 _
                    have hbwc : Below w5.heap.size w5 wc := HBwb.out.grown hgr48 HBwb.out.size (fun g hg => (HO46.out.lt g hg).1)
                    rw [Nat.zero_add, List.nil_append] at hown48
                    have HO48 := Lib.hid hown48
                    refine hK.out _ _ (.inr (HS5.out _ hbwc)) ?_
                    have hS := HS5.out _ hbwc
                    replace HL52 := Lib.hid (lies_grownB HL52.out (Nat.le_refl _) hgr48 (by show some g46 ≠ some g52; intro e; injection e with e; exact HNE.out e))
                    have HBwc := Lib.hid hbwc
                    clear hK K hbwc hown48 hgr48
                    try simp only [Act.put, List.setIfInBounds_toArray, List.set_cons_zero, List.set_cons_succ]
                    refine wpAnyL_ready (rs := [9]) (by kernel_rfl) (by simp) ?_
                    refine' ReadyL.cons ?ho23 (fun K hK => ?step23) ?more23
                    case ho23 => simp only [List.getElem?_toArray, List.getElem?_cons_succ, List.getElem?_cons_zero]; rfl
                    case step23 =>
                      refine step_append_src _ (by rfl) (.tmp 48) (.tmp 52) 27 (by rfl) w5.heap.size 9 s0 _ 1 16 Try.underlying27 hs sz0 sz1 sz2 rfl (by omega) v48 on (txCells ns) (by rfl) HO48.out _ (some ⟨g52, 0, none⟩) 1 1 [.string t.nm.s] (by rfl) (by simp) (by rfl) HL52.out (by simp [Value.oneCell']) (by simp only [maxLen]; omega) (by omega) HBwc.out.size ?_
                      intro v53 w53 hown53 hgr53 _
                      obtain ⟨A53, c53, rfl, hA53, _, _⟩ := own_form hown53
                      have hb53 : Below w5.heap.size w5 w53 := HBwc.out.grown hgr53 HBwc.out.size (fun g hg => (HO48.out.lt g hg).1)
                      refine hK.out _ _ (.inr (HS5.out _ hb53)) ?_
                      have hS := HS5.out _ hb53
                      have HB53 := Lib.hid hb53
                      have HC53 : Hid (Calls Try.prog 5 #[.slice (some ad) n c, .int .i64 ((k : Int) + 1), .slice A53 (on + 1) c53] w53 (KidsM S (ts.map KT.ch) (k + 1) (nmsOf (ns ++ [t.nm.s])) w53)) :=
                        HIH.out k hik hlt A53 (on + 1) c53 (ns ++ [t.nm.s]) w53 (below_next HBW5.out (Nat.le_refl _) hb53) (by rw [txCells_snoc]; exact Lies.own hown53) (by rw [List.length_append, HON.out]; rfl) hA53 (by omega)
                      clear hK K hown53 hgr53 hb53
                      try simp only [Act.put, List.setIfInBounds_toArray, List.set_cons_zero, List.set_cons_succ]
                      refine wpAnyL_ready (rs := [10]) (by kernel_rfl) (by simp) ?_
                      refine' ReadyL.cons ?ho24 (fun K hK => ?step24) ?more24
                      case ho24 => simp only [List.getElem?_toArray, List.getElem?_cons_succ, List.getElem?_cons_zero]; rfl
                      case step24 =>
                        go_simp
                        refine HC53.out.mono ?_
                        rintro e w6 ⟨A6, m6, c6, j6, qs6, rfl, h6, hb6⟩
                        have HB6 : Hid (Below w5.heap.size w5 w6) := below_next HB53.out (Nat.le_refl _) hb6
                        have HY6 := Lib.hid (HY5.out.below HB6.out HY5.out.lt)
                        have HR6 : Hid (MRow S w6 w5.heap.size qs6 (.slice A6 m6 c6)) := by
                          obtain ⟨A', c', us', e', ho', ha', hq'⟩ := h6.out.1
                          refine ⟨A', c', us', e', own_mono ho' HB53.out.size, ha'.mono fun b hb _ => ?_, hq'⟩
                          rcases hb with hb | hb
                          · exact .inl hb
                          · exact .inr ⟨Nat.le_trans HB53.out.size hb.1, hb.2⟩
                        have HK6 := Lib.hid h6.out.2
                        refine hK.out _ _ (.inr (HS5.out _ HB6.out)) ?_
                        have hS := HS5.out _ HB6.out
                        clear hK K hb6 h6
                        try simp only [Act.put, List.setIfInBounds_toArray, List.set_cons_zero, List.set_cons_succ]
                        refine' wpAnyL_take (i := 11) ?hi25 (by kernel_rfl) (by kernel_rfl) (by kernel_rfl) (by kernel_rfl) ?hQ25 ?hy25 hS ?rest25
                        case hi25 => simp only [List.getElem?_toArray, List.getElem?_cons_succ, List.getElem?_cons_zero]; rfl
                        case hQ25 => exact fun _ _ _ h => h
                        case hy25 =>
                          refine Or.inl ⟨by rfl, ?_⟩
                          intro wq hq
                          try dsimp only at hq
                          try obtain ⟨hq0, hq1, hq2, hq3, hq4, hq5, hq6⟩ := hq
                          try obtain ⟨hq0, hq1, hq2, hq3, hq4, hq5⟩ := hq
                          try obtain ⟨hq0, hq1, hq2, hq3, hq4⟩ := hq
                          try obtain ⟨hq0, hq1, hq2, hq3⟩ := hq
                          try obtain ⟨hq0, hq1, hq2⟩ := hq
                          try obtain ⟨hq0, hq1⟩ := hq
                          go_simp
                          try with_reducible rfl
                        try simp only [Act.put, List.setIfInBounds_toArray, List.set_cons_zero, List.set_cons_succ]
                        refine' wpAnyL_take (i := 12) ?hi26 (by kernel_rfl) (by kernel_rfl) (by kernel_rfl) (by kernel_rfl) ?hQ26 ?hy26 hS ?rest26
                        case hi26 => simp only [List.getElem?_toArray, List.getElem?_cons_succ, List.getElem?_cons_zero]; rfl
                        case hQ26 => exact fun _ _ _ h => h
                        case hy26 =>
                          refine Or.inl ⟨by rfl, ?_⟩
                          intro wq hq
                          try dsimp only at hq
                          try obtain ⟨hq0, hq1, hq2, hq3, hq4, hq5, hq6⟩ := hq
                          try obtain ⟨hq0, hq1, hq2, hq3, hq4, hq5⟩ := hq
                          try obtain ⟨hq0, hq1, hq2, hq3, hq4⟩ := hq
                          try obtain ⟨hq0, hq1, hq2, hq3⟩ := hq
                          try obtain ⟨hq0, hq1, hq2⟩ := hq
                          try obtain ⟨hq0, hq1⟩ := hq
                          go_simp
                          try with_reducible rfl
                        try simp only [Act.put, List.setIfInBounds_toArray, List.set_cons_zero, List.set_cons_succ]
                        refine' wpAnyL_take (i := 14) ?hi27 (by kernel_rfl) (by kernel_rfl) (by kernel_rfl) (by kernel_rfl) ?hQ27 ?hy27 hS ?rest27
                        case hi27 => simp only [List.getElem?_toArray, List.getElem?_cons_succ, List.getElem?_cons_zero]; rfl
                        case hQ27 => exact fun _ _ _ h => h
                        case hy27 =>
                          refine Or.inl ⟨by rfl, ?_⟩
                          intro wq hq
                          try dsimp only at hq
                          try obtain ⟨hq0, hq1, hq2, hq3, hq4, hq5, hq6⟩ := hq
                          try obtain ⟨hq0, hq1, hq2, hq3, hq4, hq5⟩ := hq
                          try obtain ⟨hq0, hq1, hq2, hq3, hq4⟩ := hq
                          try obtain ⟨hq0, hq1, hq2, hq3⟩ := hq
                          try obtain ⟨hq0, hq1, hq2⟩ := hq
                          try obtain ⟨hq0, hq1⟩ := hq
                          go_simp
                          try with_reducible rfl
                        try simp only [Act.put, List.setIfInBounds_toArray, List.set_cons_zero, List.set_cons_succ]
                        have kf3 := HY6.out.free 3
                        have k3 := HY6.out.at_ 3
                        refine wpAnyL_ready (rs := [13, 15]) (by kernel_rfl) (by simp) ?_
                        refine' ReadyL.cons ?ho28 (fun K hK => ?step28) ?more28
                        case ho28 => simp only [List.getElem?_toArray, List.getElem?_cons_succ, List.getElem?_cons_zero]; rfl
                        case step28 =>
                          go_simp
                          refine hK.out _ _ (.inr hS) ?_
                          clear hK K
                          try simp only [Act.put, List.setIfInBounds_toArray, List.set_cons_zero, List.set_cons_succ]
                          refine wpAnyL_ready (rs := [15]) (by kernel_rfl) (by simp) ?_
                          refine' ReadyL.cons ?ho29 (fun K hK => ?step29) ?more29
                          case ho29 => simp only [List.getElem?_toArray, List.getElem?_cons_succ, List.getElem?_cons_zero]; rfl
                          case step29 =>
                            go_simp
                            refine hK.out _ _ (.inl (by decide)) ?_
                            clear hK K
                            try simp only [Act.put, List.setIfInBounds_toArray, List.set_cons_zero, List.set_cons_succ]
                            refine wpAnyL_ready (rs := [16]) (by kernel_rfl) (by simp) ?_
                            refine' ReadyL.cons ?ho30 (fun K hK => ?step30) ?more30
                            case ho30 => simp only [List.getElem?_toArray, List.getElem?_cons_succ, List.getElem?_cons_zero]; rfl
                            case step30 =>
                              go_simp
                              refine hK.out _ _ (.inl (by decide)) ?_
                              clear hK K
                              try simp only [Act.put, List.setIfInBounds_toArray, List.set_cons_zero, List.set_cons_succ]
                              refine wpAnyL_done (by kernel_rfl) ?_ _
                              go_wp2_with fail
                              go_meet
                              exact ⟨j6, qs6, A6, m6, c6, rfl, by rw [nmsOf_snoc, ← KT.nm_eq] at HK6; exact HK6, HY6.out.put 3 _, HR6.out.boxed (fun b hb => by have := HS.out b hb; have := HBW4.out.size; omega) (by have := HZ5.out; omega), (HB5.out.trans (HB6.out.mono HB5.out.size)).setCell (Nat.le_refl _) _⟩
                            exact ReadyL.nil
                          exact ReadyL.nil
                        refine' ReadyL.cons ?ho31 (fun K hK => ?step31) ?more31
                        case ho31 => simp only [List.getElem?_toArray, List.getElem?_cons_succ, List.getElem?_cons_zero]; rfl
                        case step31 =>
                          go_simp
                          refine hK.out _ _ (.inl (by decide)) ?_
                          clear hK K
                          try simp only [Act.put, List.setIfInBounds_toArray, List.set_cons_zero, List.set_cons_succ]
                          refine wpAnyL_ready (rs := [13]) (by kernel_rfl) (by simp) ?_
                          refine' ReadyL.cons ?ho32 (fun K hK => ?step32) ?more32
                          case ho32 => simp only [List.getElem?_toArray, List.getElem?_cons_succ, List.getElem?_cons_zero]; rfl
                          case step32 =>
                            go_simp
                            refine hK.out _ _ (.inr ((World.cell?_setCell_other _ _ _ _ (fun e => by injection e with e; have := HZ4.out; omega)).trans hS)) ?_
                            clear hK K
                            try simp only [Act.put, List.setIfInBounds_toArray, List.set_cons_zero, List.set_cons_succ]
                            refine wpAnyL_ready (rs := [16]) (by kernel_rfl) (by simp) ?_
                            refine' ReadyL.cons ?ho33 (fun K hK => ?step33) ?more33
                            case ho33 => simp only [List.getElem?_toArray, List.getElem?_cons_succ, List.getElem?_cons_zero]; rfl
                            case step33 =>
                              go_simp
                              refine hK.out _ _ (.inl (by decide)) ?_
                              clear hK K
                              try simp only [Act.put, List.setIfInBounds_toArray, List.set_cons_zero, List.set_cons_succ]
                              refine wpAnyL_done (by kernel_rfl) ?_ _
                              go_wp2_with fail
                              go_meet
                              exact ⟨j6, qs6, A6, m6, c6, rfl, by rw [nmsOf_snoc, ← KT.nm_eq] at HK6; exact HK6, HY6.out.put 3 _, HR6.out.boxed (fun b hb => by have := HS.out b hb; have := HBW4.out.size; omega) (by have := HZ5.out; omega), (HB5.out.trans (HB6.out.mono HB5.out.size)).setCell (Nat.le_refl _) _⟩
                            exact ReadyL.nil
                          exact ReadyL.nil
                        exact ReadyL.nil
                      exact ReadyL.nil
                    exact ReadyL.nil
                  exact ReadyL.nil
                exact ReadyL.nil
              refine' ReadyL.cons ?ho34 (fun K hK => ?step34) ?more34
              case ho34 => simp only [List.getElem?_toArray, List.getElem?_cons_succ, List.getElem?_cons_zero]; rfl
              case step34 =>
                go_simp
                have hbwa : Below w5.heap.size w5 (wS.alloc (.cells #[.string t.nm.s] 9)) := HBwS.out.alloc HBwS.out.size _
                have HL52 := Lib.hid (lies_wholeB (Whole.made wS 9 #[.string t.nm.s]) (l := [.string t.nm.s]) rfl)
                refine hK.out _ _ (.inr (HS5.out _ hbwa)) ?_
                have hS := HS5.out _ hbwa

                generalize wS.alloc (.cells #[.string t.nm.s] 9) = wa at *
                obtain ⟨g52, hg52⟩ : ∃ g52, wS.heap.size = g52 := ⟨_, rfl⟩
                rw [hg52] at HL52
                try rw [hg52] at HNE
                rw [hg52]
                have HBwa := Lib.hid hbwa
                clear hK K hbwa hg52
                try simp only [Act.put, List.setIfInBounds_toArray, List.set_cons_zero, List.set_cons_succ]
                refine wpAnyL_ready (rs := [2]) (by kernel_rfl) (by simp) ?_
                refine' ReadyL.cons ?ho35 (fun K hK => ?step35) ?more35
                case ho35 => simp only [List.getElem?_toArray, List.getElem?_cons_succ, List.getElem?_cons_zero]; rfl
                case step35 =>
                  go_simp
                  have hbwb : Below w5.heap.size w5 (wa.alloc (.cells #[] 9)) := HBwa.out.alloc HBwa.out.size _
                  have HO46 := Lib.hid (World.ownsRow_lit (base := w5.heap.size) (e := 9) (size := 1) wa #[] 0 HBwa.out.size (by simp) rfl)
                  refine hK.out _ _ (.inr (HS5.out _ hbwb)) ?_
                  have hS := HS5.out _ hbwb
                  have HNE : Hid (wa.heap.size ≠ g52) := by show _ ≠ _; obtain ⟨ad7, e7, hb7, _⟩ := HL52.out 0 _ rfl; injection e7 with e7; subst e7; exact fun e => by subst e; exact absurd hb7 (Nat.lt_irrefl _)
                  replace HL52 := Lib.hid ((HL52.out.alloc (Nat.le_refl _) (.cells #[] 9)).mono (by simp : _ ≤ (wa.alloc (.cells #[] 9)).heap.size))
                  generalize wa.alloc (.cells #[] 9) = wb at *
                  obtain ⟨g46, hg46⟩ : ∃ g46, wa.heap.size = g46 := ⟨_, rfl⟩
                  rw [hg46] at HO46
                  try rw [hg46] at HNE
                  rw [hg46]
                  have HBwb := Lib.hid hbwb
                  clear hK K hbwb hg46
                  try simp only [Act.put, List.setIfInBounds_toArray, List.set_cons_zero, List.set_cons_succ]
                  refine wpAnyL_ready (rs := [4]) (by kernel_rfl) (by simp) ?_
                  refine' ReadyL.cons ?ho36 (fun K hK => ?step36) ?more36
                  case ho36 => simp only [List.getElem?_toArray, List.getElem?_cons_succ, List.getElem?_cons_zero]; rfl
                  case step36 =>
                    refine step_append_src _ (by rfl) (.tmp 46) (.tmp 47) 27 (by rfl) w5.heap.size 9 s0 _ 1 16 Try.underlying27 hs sz0 sz1 sz2 rfl (by omega) (.slice (some ⟨g46, 0, none⟩) 0 0) 0 [] (by rfl) HO46.out _ O on oc (txCells ns) (by rfl) HOC.out (by rw [txCells_lenB, HON.out, Nat.mul_one]) (HO.out.next (below_next HBW5.out (Nat.le_refl _) HBwb.out) (Nat.le_refl _)) (txCells_oneB ns) (by simp only [maxLen]; omega) (by omega) HBwb.out.size ?_
                    intro v48 wc hown48 hgr48 _
                    have hbwc : Below w5.heap.size w5 wc := HBwb.out.grown hgr48 HBwb.out.size (fun g hg => (HO46.out.lt g hg).1)
                    rw [Nat.zero_add, List.nil_append] at hown48
                    have HO48 := Lib.hid hown48
                    refine hK.out _ _ (.inr (HS5.out _ hbwc)) ?_
                    have hS := HS5.out _ hbwc
                    replace HL52 := Lib.hid (lies_grownB HL52.out (Nat.le_refl _) hgr48 (by show some g46 ≠ some g52; intro e; injection e with e; exact HNE.out e))
                    have HBwc := Lib.hid hbwc
                    clear hK K hbwc hown48 hgr48
                    try simp only [Act.put, List.setIfInBounds_toArray, List.set_cons_zero, List.set_cons_succ]
                    refine wpAnyL_ready (rs := [9]) (by kernel_rfl) (by simp) ?_
                    refine' ReadyL.cons ?ho37 (fun K hK => ?step37) ?more37
                    case ho37 => simp only [List.getElem?_toArray, List.getElem?_cons_succ, List.getElem?_cons_zero]; rfl
                    case step37 =>
                      refine step_append_src _ (by rfl) (.tmp 48) (.tmp 52) 27 (by rfl) w5.heap.size 9 s0 _ 1 16 Try.underlying27 hs sz0 sz1 sz2 rfl (by omega) v48 on (txCells ns) (by rfl) HO48.out _ (some ⟨g52, 0, none⟩) 1 1 [.string t.nm.s] (by rfl) (by simp) (by rfl) HL52.out (by simp [Value.oneCell']) (by simp only [maxLen]; omega) (by omega) HBwc.out.size ?_
                      intro v53 w53 hown53 hgr53 _
                      obtain ⟨A53, c53, rfl, hA53, _, _⟩ := own_form hown53
                      have hb53 : Below w5.heap.size w5 w53 := HBwc.out.grown hgr53 HBwc.out.size (fun g hg => (HO48.out.lt g hg).1)
                      refine hK.out _ _ (.inr (HS5.out _ hb53)) ?_
                      have hS := HS5.out _ hb53
                      have HB53 := Lib.hid hb53
                      have HC53 : Hid (Calls Try.prog 5 #[.slice (some ad) n c, .int .i64 ((k : Int) + 1), .slice A53 (on + 1) c53] w53 (KidsM S (ts.map KT.ch) (k + 1) (nmsOf (ns ++ [t.nm.s])) w53)) :=
                        HIH.out k hik hlt A53 (on + 1) c53 (ns ++ [t.nm.s]) w53 (below_next HBW5.out (Nat.le_refl _) hb53) (by rw [txCells_snoc]; exact Lies.own hown53) (by rw [List.length_append, HON.out]; rfl) hA53 (by omega)
                      clear hK K hown53 hgr53 hb53
                      try simp only [Act.put, List.setIfInBounds_toArray, List.set_cons_zero, List.set_cons_succ]
                      refine wpAnyL_ready (rs := [10]) (by kernel_rfl) (by simp) ?_
                      refine' ReadyL.cons ?ho38 (fun K hK => ?step38) ?more38
                      case ho38 => simp only [List.getElem?_toArray, List.getElem?_cons_succ, List.getElem?_cons_zero]; rfl
                      case step38 =>
                        go_simp
                        refine HC53.out.mono ?_
                        rintro e w6 ⟨A6, m6, c6, j6, qs6, rfl, h6, hb6⟩
                        have HB6 : Hid (Below w5.heap.size w5 w6) := below_next HB53.out (Nat.le_refl _) hb6
                        have HY6 := Lib.hid (HY5.out.below HB6.out HY5.out.lt)
                        have HR6 : Hid (MRow S w6 w5.heap.size qs6 (.slice A6 m6 c6)) := by
                          obtain ⟨A', c', us', e', ho', ha', hq'⟩ := h6.out.1
                          refine ⟨A', c', us', e', own_mono ho' HB53.out.size, ha'.mono fun b hb _ => ?_, hq'⟩
                          rcases hb with hb | hb
                          · exact .inl hb
                          · exact .inr ⟨Nat.le_trans HB53.out.size hb.1, hb.2⟩
                        have HK6 := Lib.hid h6.out.2
                        refine hK.out _ _ (.inr (HS5.out _ HB6.out)) ?_
                        have hS := HS5.out _ HB6.out
                        clear hK K hb6 h6
                        try simp only [Act.put, List.setIfInBounds_toArray, List.set_cons_zero, List.set_cons_succ]
                        refine' wpAnyL_take (i := 11) ?hi39 (by kernel_rfl) (by kernel_rfl) (by kernel_rfl) (by kernel_rfl) ?hQ39 ?hy39 hS ?rest39
                        case hi39 => simp only [List.getElem?_toArray, List.getElem?_cons_succ, List.getElem?_cons_zero]; rfl
                        case hQ39 => exact fun _ _ _ h => h
                        case hy39 =>
                          refine Or.inl ⟨by rfl, ?_⟩
                          intro wq hq
                          try dsimp only at hq
                          try obtain ⟨hq0, hq1, hq2, hq3, hq4, hq5, hq6⟩ := hq
                          try obtain ⟨hq0, hq1, hq2, hq3, hq4, hq5⟩ := hq
                          try obtain ⟨hq0, hq1, hq2, hq3, hq4⟩ := hq
                          try obtain ⟨hq0, hq1, hq2, hq3⟩ := hq
                          try obtain ⟨hq0, hq1, hq2⟩ := hq
                          try obtain ⟨hq0, hq1⟩ := hq
                          go_simp
                          try with_reducible rfl
                        try simp only [Act.put, List.setIfInBounds_toArray, List.set_cons_zero, List.set_cons_succ]
                        refine' wpAnyL_take (i := 12) ?hi40 (by kernel_rfl) (by kernel_rfl) (by kernel_rfl) (by kernel_rfl) ?hQ40 ?hy40 hS ?rest40
                        case hi40 => simp only [List.getElem?_toArray, List.getElem?_cons_succ, List.getElem?_cons_zero]; rfl
                        case hQ40 => exact fun _ _ _ h => h
                        case hy40 =>
                          refine Or.inl ⟨by rfl, ?_⟩
                          intro wq hq
                          try dsimp only at hq
                          try obtain ⟨hq0, hq1, hq2, hq3, hq4, hq5, hq6⟩ := hq
                          try obtain ⟨hq0, hq1, hq2, hq3, hq4, hq5⟩ := hq
                          try obtain ⟨hq0, hq1, hq2, hq3, hq4⟩ := hq
                          try obtain ⟨hq0, hq1, hq2, hq3⟩ := hq
                          try obtain ⟨hq0, hq1, hq2⟩ := hq
                          try obtain ⟨hq0, hq1⟩ := hq
                          go_simp
                          try with_reducible rfl
                        try simp only [Act.put, List.setIfInBounds_toArray, List.set_cons_zero, List.set_cons_succ]
                        refine' wpAnyL_take (i := 14) ?hi41 (by kernel_rfl) (by kernel_rfl) (by kernel_rfl) (by kernel_rfl) ?hQ41 ?hy41 hS ?rest41
                        case hi41 => simp only [List.getElem?_toArray, List.getElem?_cons_succ, List.getElem?_cons_zero]; rfl
                        case hQ41 => exact fun _ _ _ h => h
                        case hy41 =>
                          refine Or.inl ⟨by rfl, ?_⟩
                          intro wq hq
                          try dsimp only at hq
                          try obtain ⟨hq0, hq1, hq2, hq3, hq4, hq5, hq6⟩ := hq
                          try obtain ⟨hq0, hq1, hq2, hq3, hq4, hq5⟩ := hq
                          try obtain ⟨hq0, hq1, hq2, hq3, hq4⟩ := hq
                          try obtain ⟨hq0, hq1, hq2, hq3⟩ := hq
                          try obtain ⟨hq0, hq1, hq2⟩ := hq
                          try obtain ⟨hq0, hq1⟩ := hq
                          go_simp
                          try with_reducible rfl
                        try simp only [Act.put, List.setIfInBounds_toArray, List.set_cons_zero, List.set_cons_succ]
                        have kf3 := HY6.out.free 3
                        have k3 := HY6.out.at_ 3
                        refine wpAnyL_ready (rs := [13, 15]) (by kernel_rfl) (by simp) ?_
                        refine' ReadyL.cons ?ho42 (fun K hK => ?step42) ?more42
                        case ho42 => simp only [List.getElem?_toArray, List.getElem?_cons_succ, List.getElem?_cons_zero]; rfl
                        case step42 =>
                          go_simp
                          refine hK.out _ _ (.inr hS) ?_
                          clear hK K
                          try simp only [Act.put, List.setIfInBounds_toArray, List.set_cons_zero, List.set_cons_succ]
                          refine wpAnyL_ready (rs := [15]) (by kernel_rfl) (by simp) ?_
                          refine' ReadyL.cons ?ho43 (fun K hK => ?step43) ?more43
                          case ho43 => simp only [List.getElem?_toArray, List.getElem?_cons_succ, List.getElem?_cons_zero]; rfl
                          case step43 =>
                            go_simp
                            refine hK.out _ _ (.inl (by decide)) ?_
                            clear hK K
                            try simp only [Act.put, List.setIfInBounds_toArray, List.set_cons_zero, List.set_cons_succ]
                            refine wpAnyL_ready (rs := [16]) (by kernel_rfl) (by simp) ?_
                            refine' ReadyL.cons ?ho44 (fun K hK => ?step44) ?more44
                            case ho44 => simp only [List.getElem?_toArray, List.getElem?_cons_succ, List.getElem?_cons_zero]; rfl
                            case step44 =>
                              go_simp
                              refine hK.out _ _ (.inl (by decide)) ?_
                              clear hK K
                              try simp only [Act.put, List.setIfInBounds_toArray, List.set_cons_zero, List.set_cons_succ]
                              refine wpAnyL_done (by kernel_rfl) ?_ _
                              go_wp2_with fail
                              go_meet
                              exact ⟨j6, qs6, A6, m6, c6, rfl, by rw [nmsOf_snoc, ← KT.nm_eq] at HK6; exact HK6, HY6.out.put 3 _, HR6.out.boxed (fun b hb => by have := HS.out b hb; have := HBW4.out.size; omega) (by have := HZ5.out; omega), (HB5.out.trans (HB6.out.mono HB5.out.size)).setCell (Nat.le_refl _) _⟩
                            exact ReadyL.nil
                          exact ReadyL.nil
                        refine' ReadyL.cons ?ho45 (fun K hK => ?step45) ?more45
                        case ho45 => simp only [List.getElem?_toArray, List.getElem?_cons_succ, List.getElem?_cons_zero]; rfl
                        case step45 =>
                          go_simp
                          refine hK.out _ _ (.inl (by decide)) ?_
                          clear hK K
                          try simp only [Act.put, List.setIfInBounds_toArray, List.set_cons_zero, List.set_cons_succ]
                          refine wpAnyL_ready (rs := [13]) (by kernel_rfl) (by simp) ?_
                          refine' ReadyL.cons ?ho46 (fun K hK => ?step46) ?more46
                          case ho46 => simp only [List.getElem?_toArray, List.getElem?_cons_succ, List.getElem?_cons_zero]; rfl
                          case step46 =>
                            go_simp
                            refine hK.out _ _ (.inr ((World.cell?_setCell_other _ _ _ _ (fun e => by injection e with e; have := HZ4.out; omega)).trans hS)) ?_
                            clear hK K
                            try simp only [Act.put, List.setIfInBounds_toArray, List.set_cons_zero, List.set_cons_succ]
                            refine wpAnyL_ready (rs := [16]) (by kernel_rfl) (by simp) ?_
                            refine' ReadyL.cons ?ho47 (fun K hK => ?step47) ?more47
                            case ho47 => simp only [List.getElem?_toArray, List.getElem?_cons_succ, List.getElem?_cons_zero]; rfl
                            case step47 =>
                              go_simp
                              refine hK.out _ _ (.inl (by decide)) ?_
                              clear hK K
                              try simp only [Act.put, List.setIfInBounds_toArray, List.set_cons_zero, List.set_cons_succ]
                              refine wpAnyL_done (by kernel_rfl) ?_ _
                              go_wp2_with fail
                              go_meet
                              exact ⟨j6, qs6, A6, m6, c6, rfl, by rw [nmsOf_snoc, ← KT.nm_eq] at HK6; exact HK6, HY6.out.put 3 _, HR6.out.boxed (fun b hb => by have := HS.out b hb; have := HBW4.out.size; omega) (by have := HZ5.out; omega), (HB5.out.trans (HB6.out.mono HB5.out.size)).setCell (Nat.le_refl _) _⟩
                            exact ReadyL.nil
                          exact ReadyL.nil
                        exact ReadyL.nil
                      exact ReadyL.nil
                    exact ReadyL.nil
                  exact ReadyL.nil
                exact ReadyL.nil
              exact ReadyL.nil
            case rest =>
              obtain ⟨a, qs, K, kn, kc, rfl, hka, hy, hm, hbc⟩ := hcut
              have HKA := Lib.hid hka
              have HYC := Lib.hid hy
              have HM := Lib.hid hm
              have HBC := Lib.hid hbc
              have HSS : Hid (∀ W, Below wc.heap.size wc W → W.cell? ⟨wr.heap.size, 1, none⟩ = some (.string t.nm.s)) := fun W h => (HHT.out W (HBC.out.trans (h.mono HBC.out.size))).2
              have HOO : Hid (∀ W, Below wc.heap.size wc W → ∀ s : ByteArray, Calls Try.prog 7 #[.slice O on oc, .string s] W fun e w' => e = .returned (.int .i64 (lastI (nmsOf ns) s.data.toList)) ∧ W = w') := fun W h s => HO2.out W (HBC.out.trans (h.mono HBC.out.size)) s
              obtain ⟨us2, HEL⟩ : ∃ us2, Hid ((elKs t K kn kc us2).inS (OutS S w.heap.size (.slice A8 z c8)) wc ∧ AllS (OutS S w.heap.size (.slice A8 z c8)) wc us2 ∧ (elKs t K kn kc us2).ch = ⟨t.ch.name, t.ch.attrs, qs, []⟩) := by
                obtain ⟨us2, h1⟩ := elKs_in (v := .slice A8 z c8) (base := w.heap.size) (HTI.out wc hbc) hm (kids_small hka HBU.out) (HBW5.out.size) (fun g hg => by have := (HGB.out g hg).2; have := HB4.out.size; have := HB5.out.size; omega)
                exact ⟨us2, h1⟩
              have HBWC : Hid (Below w.heap.size w wc) := below_next HBW4.out (Nat.le_refl _) hbc
              obtain ⟨wd, rfl⟩ : ∃ wd : World, wd = wc := ⟨_, rfl⟩
              clear hka hy hm hbc HSK HTI HIH HROW4 HROW HAL4 HAL HCH HO2 HHT r1 p1 p2 p3 p5 p6
              go_upto_region 10 with fail
              go_cut [90] (fun p wx => p = .bool (endsAt (ts.map KT.ch) a (nmsOf ns) t.ch.nm) ∧ Below wd.heap.size wd wx)
              case first =>
                clear HADD HK HBK HKA HM HEL HYC
                have r1 := HSS.out _ (Below.refl _ _)
                have ha0 : (0 : Int) ≤ (a : Int) := Int.natCast_nonneg _
                by_cases hna : a < n
                · obtain ⟨ad', u, e', hba', f0, f1, f2, f3, f4, f5, f6, HU⟩ := (H.out.lies.keep (Stays.of HBWC.out)).lies.kt (k := a) (by rw [H.out.len]; exact hna)
                  injection e' with e'
                  subst e'
                  have hna1 : (a : Int) < (n : Int) := by omega
                  have HEQ : Hid (endsAt (ts.map KT.ch) a (nmsOf ns) t.ch.nm = (decide (lastI (nmsOf ns) u.nm.s.data.toList < 0) || u.nm.s.data.toList == t.nm.s.data.toList)) := by
                    show _ = _
                    unfold endsAt
                    rw [List.getElem?_map, HU.out]
                    show (decide (lastI (nmsOf ns) u.ch.nm < 0) || u.ch.nm == t.ch.nm) = _
                    rw [KT.nm_eq, KT.nm_eq]
                  have HUC : Hid (∀ V, Below wd.heap.size wd V → V.cell? ⟨(ad.add (a * 7)).block, (ad.add (a * 7)).off + 1, none⟩ = some (.string u.nm.s) ∧ V.cell? ⟨wr.heap.size, 1, none⟩ = some (.string t.nm.s) ∧ Below wd.heap.size wd V) := fun V h => by
                    obtain ⟨ad2, u2, e2, _, _, k1, _, _, _, _, _, hu2⟩ := (H.out.lies.keep (Stays.of (below_next HBWC.out (Nat.le_refl _) h))).lies.kt (k := a) (by rw [H.out.len]; exact hna)
                    injection e2 with e2
                    subst e2
                    have hu3 := hu2.out
                    rw [HU.out] at hu3
                    injection hu3 with hu3
                    subst hu3
                    exact ⟨k1, HSS.out V h, h⟩
                  clear f0 f2 f3 f4 f5 f6 hna
                  have hcase : (lastI (nmsOf ns) u.nm.s.data.toList < 0 ∧ endsAt (ts.map KT.ch) a (nmsOf ns) t.ch.nm = true) ∨ (¬ lastI (nmsOf ns) u.nm.s.data.toList < 0 ∧ (((u.nm.s.toList == t.nm.s.toList) = true ∧ endsAt (ts.map KT.ch) a (nmsOf ns) t.ch.nm = true) ∨ ((u.nm.s.toList == t.nm.s.toList) = false ∧ endsAt (ts.map KT.ch) a (nmsOf ns) t.ch.nm = false))) := by
                    rw [HEQ.out, ByteArray.toList_eq, ByteArray.toList_eq]
                    by_cases h1 : lastI (nmsOf ns) u.nm.s.data.toList < 0
                    · exact .inl ⟨h1, by rw [decide_eq_true h1]; rfl⟩
                    · refine .inr ⟨h1, ?_⟩
                      rw [decide_eq_false h1, Bool.false_or]
                      cases h2 : (u.nm.s.data.toList == t.nm.s.data.toList)
                      · exact .inr ⟨rfl, rfl⟩
                      · exact .inl ⟨rfl, rfl⟩
                  rcases hcase with ⟨h1, h2⟩ | ⟨h1, ⟨h3, h2⟩ | ⟨h3, h2⟩⟩
                  · have HE := Lib.hid h2
                    clear h2
                    refine wp_region_lastB (S := (fun V => V.cell? ⟨(ad.add (a * 7)).block, (ad.add (a * 7)).off + 1, none⟩ = some (.string u.nm.s) ∧ V.cell? ⟨wr.heap.size, 1, none⟩ = some (.string t.nm.s) ∧ Below wd.heap.size wd V)) (Z := (fun _ => false)) (by kernel_rfl) ?_
                    have hS := HUC.out _ (Below.drew (Below.refl _ _))
                    refine' wpAnyL_take (i := 0) ?hi48 (by kernel_rfl) (by kernel_rfl) (by kernel_rfl) (by kernel_rfl) ?hQ48 ?hy48 hS ?rest48
                    case hi48 => simp only [List.getElem?_toArray, List.getElem?_cons_zero]; rfl
                    case hQ48 => exact fun _ _ _ h => h
                    case hy48 =>
                      refine Or.inl ⟨by rfl, ?_⟩
                      intro wq hq
                      try dsimp only at hq
                      try obtain ⟨hq0, hq1, hq2, hq3, hq4, hq5, hq6⟩ := hq
                      try obtain ⟨hq0, hq1, hq2, hq3, hq4, hq5⟩ := hq
                      try obtain ⟨hq0, hq1, hq2, hq3, hq4⟩ := hq
                      try obtain ⟨hq0, hq1, hq2, hq3⟩ := hq
                      try obtain ⟨hq0, hq1, hq2⟩ := hq
                      try obtain ⟨hq0, hq1⟩ := hq
                      go_simp
                      try with_reducible rfl
                    try simp only [Act.put, List.setIfInBounds_toArray, List.set_cons_zero, List.set_cons_succ]
                    refine' wpAnyL_take (i := 1) ?hi49 (by kernel_rfl) (by kernel_rfl) (by kernel_rfl) (by kernel_rfl) ?hQ49 ?hy49 hS ?rest49
                    case hi49 => simp only [List.getElem?_toArray, List.getElem?_cons_succ, List.getElem?_cons_zero]; rfl
                    case hQ49 => exact fun _ _ _ h => h
                    case hy49 =>
                      refine Or.inl ⟨by rfl, ?_⟩
                      intro wq hq
                      try dsimp only at hq
                      try obtain ⟨hq0, hq1, hq2, hq3, hq4, hq5, hq6⟩ := hq
                      try obtain ⟨hq0, hq1, hq2, hq3, hq4, hq5⟩ := hq
                      try obtain ⟨hq0, hq1, hq2, hq3, hq4⟩ := hq
                      try obtain ⟨hq0, hq1, hq2, hq3⟩ := hq
                      try obtain ⟨hq0, hq1, hq2⟩ := hq
                      try obtain ⟨hq0, hq1⟩ := hq
                      go_simp
                      try with_reducible rfl
                    try simp only [Act.put, List.setIfInBounds_toArray, List.set_cons_zero, List.set_cons_succ]
                    refine' wpAnyL_take (i := 2) ?hi50 (by kernel_rfl) (by kernel_rfl) (by kernel_rfl) (by kernel_rfl) ?hQ50 ?hy50 hS ?rest50
                    case hi50 => simp only [List.getElem?_toArray, List.getElem?_cons_succ, List.getElem?_cons_zero]; rfl
                    case hQ50 => exact fun _ _ _ h => h
                    case hy50 =>
                      refine Or.inl ⟨by rfl, ?_⟩
                      intro wq hq
                      try dsimp only at hq
                      try obtain ⟨hq0, hq1, hq2, hq3, hq4, hq5, hq6⟩ := hq
                      try obtain ⟨hq0, hq1, hq2, hq3, hq4, hq5⟩ := hq
                      try obtain ⟨hq0, hq1, hq2, hq3, hq4⟩ := hq
                      try obtain ⟨hq0, hq1, hq2, hq3⟩ := hq
                      try obtain ⟨hq0, hq1, hq2⟩ := hq
                      try obtain ⟨hq0, hq1⟩ := hq
                      go_simp
                      try with_reducible rfl
                    try simp only [Act.put, List.setIfInBounds_toArray, List.set_cons_zero, List.set_cons_succ]
                    refine' wpAnyL_take (i := 3) ?hi51 (by kernel_rfl) (by kernel_rfl) (by kernel_rfl) (by kernel_rfl) ?hQ51 ?hy51 hS ?rest51
                    case hi51 => simp only [List.getElem?_toArray, List.getElem?_cons_succ, List.getElem?_cons_zero]; rfl
                    case hQ51 => exact fun _ _ _ h => h
                    case hy51 =>
                      refine Or.inl ⟨by rfl, ?_⟩
                      intro wq hq
                      try dsimp only at hq
                      try obtain ⟨hq0, hq1, hq2, hq3, hq4, hq5, hq6⟩ := hq
                      try obtain ⟨hq0, hq1, hq2, hq3, hq4, hq5⟩ := hq
                      try obtain ⟨hq0, hq1, hq2, hq3, hq4⟩ := hq
                      try obtain ⟨hq0, hq1, hq2, hq3⟩ := hq
                      try obtain ⟨hq0, hq1, hq2⟩ := hq
                      try obtain ⟨hq0, hq1⟩ := hq
                      go_simp
                      try with_reducible rfl
                    try simp only [Act.put, List.setIfInBounds_toArray, List.set_cons_zero, List.set_cons_succ]
                    refine' wpAnyL_take (i := 4) ?hi52 (by kernel_rfl) (by kernel_rfl) (by kernel_rfl) (by kernel_rfl) ?hQ52 ?hy52 hS ?rest52
                    case hi52 => simp only [List.getElem?_toArray, List.getElem?_cons_succ, List.getElem?_cons_zero]; rfl
                    case hQ52 => exact fun _ _ _ h => h
                    case hy52 =>
                      refine Or.inl ⟨by rfl, ?_⟩
                      intro wq hq
                      try dsimp only at hq
                      try obtain ⟨hq0, hq1, hq2, hq3, hq4, hq5, hq6⟩ := hq
                      try obtain ⟨hq0, hq1, hq2, hq3, hq4, hq5⟩ := hq
                      try obtain ⟨hq0, hq1, hq2, hq3, hq4⟩ := hq
                      try obtain ⟨hq0, hq1, hq2, hq3⟩ := hq
                      try obtain ⟨hq0, hq1, hq2⟩ := hq
                      try obtain ⟨hq0, hq1⟩ := hq
                      go_simp
                      try with_reducible rfl
                    try simp only [Act.put, List.setIfInBounds_toArray, List.set_cons_zero, List.set_cons_succ]
                    refine' wpAnyL_take (i := 5) ?hi53 (by kernel_rfl) (by kernel_rfl) (by kernel_rfl) (by kernel_rfl) ?hQ53 ?hy53 hS ?rest53
                    case hi53 => simp only [List.getElem?_toArray, List.getElem?_cons_succ, List.getElem?_cons_zero]; rfl
                    case hQ53 => exact fun _ _ _ h => h
                    case hy53 =>
                      refine Or.inl ⟨by rfl, ?_⟩
                      intro wq hq
                      try dsimp only at hq
                      try obtain ⟨hq0, hq1, hq2, hq3, hq4, hq5, hq6⟩ := hq
                      try obtain ⟨hq0, hq1, hq2, hq3, hq4, hq5⟩ := hq
                      try obtain ⟨hq0, hq1, hq2, hq3, hq4⟩ := hq
                      try obtain ⟨hq0, hq1, hq2, hq3⟩ := hq
                      try obtain ⟨hq0, hq1, hq2⟩ := hq
                      try obtain ⟨hq0, hq1⟩ := hq
                      go_simp
                      try with_reducible rfl
                    try simp only [Act.put, List.setIfInBounds_toArray, List.set_cons_zero, List.set_cons_succ]
                    refine' wpAnyL_take (i := 6) ?hi54 (by kernel_rfl) (by kernel_rfl) (by kernel_rfl) (by kernel_rfl) ?hQ54 ?hy54 hS ?rest54
                    case hi54 => simp only [List.getElem?_toArray, List.getElem?_cons_succ, List.getElem?_cons_zero]; rfl
                    case hQ54 => exact fun _ _ _ h => h
                    case hy54 =>
                      refine Or.inl ⟨by rfl, ?_⟩
                      intro wq hq
                      try dsimp only at hq
                      try obtain ⟨hq0, hq1, hq2, hq3, hq4, hq5, hq6⟩ := hq
                      try obtain ⟨hq0, hq1, hq2, hq3, hq4, hq5⟩ := hq
                      try obtain ⟨hq0, hq1, hq2, hq3, hq4⟩ := hq
                      try obtain ⟨hq0, hq1, hq2, hq3⟩ := hq
                      try obtain ⟨hq0, hq1, hq2⟩ := hq
                      try obtain ⟨hq0, hq1⟩ := hq
                      go_simp
                      try with_reducible rfl
                    try simp only [Act.put, List.setIfInBounds_toArray, List.set_cons_zero, List.set_cons_succ]
                    refine' wpAnyL_take (i := 7) ?hi55 (by kernel_rfl) (by kernel_rfl) (by kernel_rfl) (by kernel_rfl) ?hQ55 ?hy55 hS ?rest55
                    case hi55 => simp only [List.getElem?_toArray, List.getElem?_cons_succ, List.getElem?_cons_zero]; rfl
                    case hQ55 => exact fun _ _ _ h => h
                    case hy55 =>
                      refine Or.inl ⟨by rfl, ?_⟩
                      intro wq hq
                      try dsimp only at hq
                      try obtain ⟨hq0, hq1, hq2, hq3, hq4, hq5, hq6⟩ := hq
                      try obtain ⟨hq0, hq1, hq2, hq3, hq4, hq5⟩ := hq
                      try obtain ⟨hq0, hq1, hq2, hq3, hq4⟩ := hq
                      try obtain ⟨hq0, hq1, hq2, hq3⟩ := hq
                      try obtain ⟨hq0, hq1, hq2⟩ := hq
                      try obtain ⟨hq0, hq1⟩ := hq
                      go_simp
                      try with_reducible rfl
                    try simp only [Act.put, List.setIfInBounds_toArray, List.set_cons_zero, List.set_cons_succ]
                    refine' wpAnyL_take (i := 8) ?hi56 (by kernel_rfl) (by kernel_rfl) (by kernel_rfl) (by kernel_rfl) ?hQ56 ?hy56 hS ?rest56
                    case hi56 => simp only [List.getElem?_toArray, List.getElem?_cons_succ, List.getElem?_cons_zero]; rfl
                    case hQ56 => exact fun _ _ _ h => h
                    case hy56 =>
                      refine Or.inl ⟨by rfl, ?_⟩
                      intro wq hq
                      try dsimp only at hq
                      try obtain ⟨hq0, hq1, hq2, hq3, hq4, hq5, hq6⟩ := hq
                      try obtain ⟨hq0, hq1, hq2, hq3, hq4, hq5⟩ := hq
                      try obtain ⟨hq0, hq1, hq2, hq3, hq4⟩ := hq
                      try obtain ⟨hq0, hq1, hq2, hq3⟩ := hq
                      try obtain ⟨hq0, hq1, hq2⟩ := hq
                      try obtain ⟨hq0, hq1⟩ := hq
                      go_simp
                      try with_reducible rfl
                    try simp only [Act.put, List.setIfInBounds_toArray, List.set_cons_zero, List.set_cons_succ]
                    refine' wpAnyL_take (i := 9) ?hi57 (by kernel_rfl) (by kernel_rfl) (by kernel_rfl) (by kernel_rfl) ?hQ57 ?hy57 hS ?rest57
                    case hi57 => simp only [List.getElem?_toArray, List.getElem?_cons_succ, List.getElem?_cons_zero]; rfl
                    case hQ57 => exact fun _ _ _ h => h
                    case hy57 =>
                      refine Or.inl ⟨by rfl, ?_⟩
                      intro wq hq
                      try dsimp only at hq
                      try obtain ⟨hq0, hq1, hq2, hq3, hq4, hq5, hq6⟩ := hq
                      try obtain ⟨hq0, hq1, hq2, hq3, hq4, hq5⟩ := hq
                      try obtain ⟨hq0, hq1, hq2, hq3, hq4⟩ := hq
                      try obtain ⟨hq0, hq1, hq2, hq3⟩ := hq
                      try obtain ⟨hq0, hq1, hq2⟩ := hq
                      try obtain ⟨hq0, hq1⟩ := hq
                      go_simp
                      try with_reducible rfl
                    try simp only [Act.put, List.setIfInBounds_toArray, List.set_cons_zero, List.set_cons_succ]
                    refine' wpAnyL_take (i := 10) ?hi58 (by kernel_rfl) (by kernel_rfl) (by kernel_rfl) (by kernel_rfl) ?hQ58 ?hy58 hS ?rest58
                    case hi58 => simp only [List.getElem?_toArray, List.getElem?_cons_succ, List.getElem?_cons_zero]; rfl
                    case hQ58 => exact fun _ _ _ h => h
                    case hy58 =>
                      refine Or.inl ⟨by rfl, ?_⟩
                      intro wq hq
                      try dsimp only at hq
                      try obtain ⟨hq0, hq1, hq2, hq3, hq4, hq5, hq6⟩ := hq
                      try obtain ⟨hq0, hq1, hq2, hq3, hq4, hq5⟩ := hq
                      try obtain ⟨hq0, hq1, hq2, hq3, hq4⟩ := hq
                      try obtain ⟨hq0, hq1, hq2, hq3⟩ := hq
                      try obtain ⟨hq0, hq1, hq2⟩ := hq
                      try obtain ⟨hq0, hq1⟩ := hq
                      go_simp
                      try with_reducible rfl
                    try simp only [Act.put, List.setIfInBounds_toArray, List.set_cons_zero, List.set_cons_succ]
                    refine' wpAnyL_take (i := 11) ?hi59 (by kernel_rfl) (by kernel_rfl) (by kernel_rfl) (by kernel_rfl) ?hQ59 ?hy59 hS ?rest59
                    case hi59 => simp only [List.getElem?_toArray, List.getElem?_cons_succ, List.getElem?_cons_zero]; rfl
                    case hQ59 => exact fun _ _ _ h => h
                    case hy59 =>
                      refine Or.inl ⟨by rfl, ?_⟩
                      intro wq hq
                      try dsimp only at hq
                      try obtain ⟨hq0, hq1, hq2, hq3, hq4, hq5, hq6⟩ := hq
                      try obtain ⟨hq0, hq1, hq2, hq3, hq4, hq5⟩ := hq
                      try obtain ⟨hq0, hq1, hq2, hq3, hq4⟩ := hq
                      try obtain ⟨hq0, hq1, hq2, hq3⟩ := hq
                      try obtain ⟨hq0, hq1, hq2⟩ := hq
                      try obtain ⟨hq0, hq1⟩ := hq
                      go_simp
                      try with_reducible rfl
                    try simp only [Act.put, List.setIfInBounds_toArray, List.set_cons_zero, List.set_cons_succ]
                    refine wpAnyL_ready (rs := [12]) (by kernel_rfl) (by simp) ?_
                    refine' ReadyL.cons ?ho60 (fun K hK => ?step60) ?more60
                    case ho60 => simp only [List.getElem?_toArray, List.getElem?_cons_succ, List.getElem?_cons_zero]; rfl
                    case step60 =>
                      go_simp
                      refine (HOO.out _ (Below.drew (Below.refl _ _)) u.nm.s).mono ?_
                      rintro e w1 ⟨rfl, rfl⟩
                      refine hK.out _ _ (.inr hS) ?_
                      clear hK K
                      try simp only [Act.put, List.setIfInBounds_toArray, List.set_cons_zero, List.set_cons_succ]
                      refine' wpAnyL_take (i := 13) ?hi61 (by kernel_rfl) (by kernel_rfl) (by kernel_rfl) (by kernel_rfl) ?hQ61 ?hy61 hS ?rest61
                      case hi61 => simp only [List.getElem?_toArray, List.getElem?_cons_succ, List.getElem?_cons_zero]; rfl
                      case hQ61 => exact fun _ _ _ h => h
                      case hy61 =>
                        refine Or.inl ⟨by rfl, ?_⟩
                        intro wq hq
                        try dsimp only at hq
                        try obtain ⟨hq0, hq1, hq2, hq3, hq4, hq5, hq6⟩ := hq
                        try obtain ⟨hq0, hq1, hq2, hq3, hq4, hq5⟩ := hq
                        try obtain ⟨hq0, hq1, hq2, hq3, hq4⟩ := hq
                        try obtain ⟨hq0, hq1, hq2, hq3⟩ := hq
                        try obtain ⟨hq0, hq1, hq2⟩ := hq
                        try obtain ⟨hq0, hq1⟩ := hq
                        go_simp
                        try with_reducible rfl
                      try simp only [Act.put, List.setIfInBounds_toArray, List.set_cons_zero, List.set_cons_succ]
                      refine' wpAnyL_take (i := 14) ?hi62 (by kernel_rfl) (by kernel_rfl) (by kernel_rfl) (by kernel_rfl) ?hQ62 ?hy62 hS ?rest62
                      case hi62 => simp only [List.getElem?_toArray, List.getElem?_cons_succ, List.getElem?_cons_zero]; rfl
                      case hQ62 => exact fun _ _ _ h => h
                      case hy62 =>
                        refine Or.inl ⟨by rfl, ?_⟩
                        intro wq hq
                        try dsimp only at hq
                        try obtain ⟨hq0, hq1, hq2, hq3, hq4, hq5, hq6⟩ := hq
                        try obtain ⟨hq0, hq1, hq2, hq3, hq4, hq5⟩ := hq
                        try obtain ⟨hq0, hq1, hq2, hq3, hq4⟩ := hq
                        try obtain ⟨hq0, hq1, hq2, hq3⟩ := hq
                        try obtain ⟨hq0, hq1, hq2⟩ := hq
                        try obtain ⟨hq0, hq1⟩ := hq
                        go_simp
                        try with_reducible rfl
                      try simp only [Act.put, List.setIfInBounds_toArray, List.set_cons_zero, List.set_cons_succ]
                      refine' wpAnyL_take (i := 15) ?hi63 (by kernel_rfl) (by kernel_rfl) (by kernel_rfl) (by kernel_rfl) ?hQ63 ?hy63 hS ?rest63
                      case hi63 => simp only [List.getElem?_toArray, List.getElem?_cons_succ, List.getElem?_cons_zero]; rfl
                      case hQ63 => exact fun _ _ _ h => h
                      case hy63 =>
                        refine Or.inl ⟨by rfl, ?_⟩
                        intro wq hq
                        try dsimp only at hq
                        try obtain ⟨hq0, hq1, hq2, hq3, hq4, hq5, hq6⟩ := hq
                        try obtain ⟨hq0, hq1, hq2, hq3, hq4, hq5⟩ := hq
                        try obtain ⟨hq0, hq1, hq2, hq3, hq4⟩ := hq
                        try obtain ⟨hq0, hq1, hq2, hq3⟩ := hq
                        try obtain ⟨hq0, hq1, hq2⟩ := hq
                        try obtain ⟨hq0, hq1⟩ := hq
                        go_simp
                        try with_reducible rfl
                      try simp only [Act.put, List.setIfInBounds_toArray, List.set_cons_zero, List.set_cons_succ]
                      refine' wpAnyL_take (i := 16) ?hi64 (by kernel_rfl) (by kernel_rfl) (by kernel_rfl) (by kernel_rfl) ?hQ64 ?hy64 hS ?rest64
                      case hi64 => simp only [List.getElem?_toArray, List.getElem?_cons_succ, List.getElem?_cons_zero]; rfl
                      case hQ64 => exact fun _ _ _ h => h
                      case hy64 => exact Or.inr ⟨by rfl, rfl⟩
                      try simp only [Act.put, List.setIfInBounds_toArray, List.set_cons_zero, List.set_cons_succ]
                      refine' wpAnyL_take (i := 17) ?hi65 (by kernel_rfl) (by kernel_rfl) (by kernel_rfl) (by kernel_rfl) ?hQ65 ?hy65 hS ?rest65
                      case hi65 => simp only [List.getElem?_toArray, List.getElem?_cons_succ, List.getElem?_cons_zero]; rfl
                      case hQ65 => exact fun _ _ _ h => h
                      case hy65 => exact Or.inr ⟨by rfl, rfl⟩
                      try simp only [Act.put, List.setIfInBounds_toArray, List.set_cons_zero, List.set_cons_succ]
                      refine' wpAnyL_take (i := 18) ?hi66 (by kernel_rfl) (by kernel_rfl) (by kernel_rfl) (by kernel_rfl) ?hQ66 ?hy66 hS ?rest66
                      case hi66 => simp only [List.getElem?_toArray, List.getElem?_cons_succ, List.getElem?_cons_zero]; rfl
                      case hQ66 => exact fun _ _ _ h => h
                      case hy66 => exact Or.inr ⟨by rfl, rfl⟩
                      try simp only [Act.put, List.setIfInBounds_toArray, List.set_cons_zero, List.set_cons_succ]
                      refine' wpAnyL_take (i := 19) ?hi67 (by kernel_rfl) (by kernel_rfl) (by kernel_rfl) (by kernel_rfl) ?hQ67 ?hy67 hS ?rest67
                      case hi67 => simp only [List.getElem?_toArray, List.getElem?_cons_succ, List.getElem?_cons_zero]; rfl
                      case hQ67 => exact fun _ _ _ h => h
                      case hy67 => exact Or.inr ⟨by rfl, rfl⟩
                      try simp only [Act.put, List.setIfInBounds_toArray, List.set_cons_zero, List.set_cons_succ]
                      refine' wpAnyL_take (i := 20) ?hi68 (by kernel_rfl) (by kernel_rfl) (by kernel_rfl) (by kernel_rfl) ?hQ68 ?hy68 hS ?rest68
                      case hi68 => simp only [List.getElem?_toArray, List.getElem?_cons_succ, List.getElem?_cons_zero]; rfl
                      case hQ68 => exact fun _ _ _ h => h
                      case hy68 => exact Or.inr ⟨by rfl, rfl⟩
                      try simp only [Act.put, List.setIfInBounds_toArray, List.set_cons_zero, List.set_cons_succ]
                      refine' wpAnyL_take (i := 21) ?hi69 (by kernel_rfl) (by kernel_rfl) (by kernel_rfl) (by kernel_rfl) ?hQ69 ?hy69 hS ?rest69
                      case hi69 => simp only [List.getElem?_toArray, List.getElem?_cons_succ, List.getElem?_cons_zero]; rfl
                      case hQ69 => exact fun _ _ _ h => h
                      case hy69 => exact Or.inr ⟨by rfl, rfl⟩
                      try simp only [Act.put, List.setIfInBounds_toArray, List.set_cons_zero, List.set_cons_succ]
                      refine' wpAnyL_take (i := 22) ?hi70 (by kernel_rfl) (by kernel_rfl) (by kernel_rfl) (by kernel_rfl) ?hQ70 ?hy70 hS ?rest70
                      case hi70 => simp only [List.getElem?_toArray, List.getElem?_cons_succ, List.getElem?_cons_zero]; rfl
                      case hQ70 => exact fun _ _ _ h => h
                      case hy70 => exact Or.inr ⟨by rfl, rfl⟩
                      try simp only [Act.put, List.setIfInBounds_toArray, List.set_cons_zero, List.set_cons_succ]
                      refine' wpAnyL_take (i := 23) ?hi71 (by kernel_rfl) (by kernel_rfl) (by kernel_rfl) (by kernel_rfl) ?hQ71 ?hy71 hS ?rest71
                      case hi71 => simp only [List.getElem?_toArray, List.getElem?_cons_succ, List.getElem?_cons_zero]; rfl
                      case hQ71 => exact fun _ _ _ h => h
                      case hy71 => exact Or.inr ⟨by rfl, rfl⟩
                      try simp only [Act.put, List.setIfInBounds_toArray, List.set_cons_zero, List.set_cons_succ]
                      refine' wpAnyL_take (i := 24) ?hi72 (by kernel_rfl) (by kernel_rfl) (by kernel_rfl) (by kernel_rfl) ?hQ72 ?hy72 hS ?rest72
                      case hi72 => simp only [List.getElem?_toArray, List.getElem?_cons_succ, List.getElem?_cons_zero]; rfl
                      case hQ72 => exact fun _ _ _ h => h
                      case hy72 => exact Or.inr ⟨by rfl, rfl⟩
                      try simp only [Act.put, List.setIfInBounds_toArray, List.set_cons_zero, List.set_cons_succ]
                      refine' wpAnyL_take (i := 25) ?hi73 (by kernel_rfl) (by kernel_rfl) (by kernel_rfl) (by kernel_rfl) ?hQ73 ?hy73 hS ?rest73
                      case hi73 => simp only [List.getElem?_toArray, List.getElem?_cons_succ, List.getElem?_cons_zero]; rfl
                      case hQ73 => exact fun _ _ _ h => h
                      case hy73 => exact Or.inr ⟨by rfl, rfl⟩
                      try simp only [Act.put, List.setIfInBounds_toArray, List.set_cons_zero, List.set_cons_succ]
                      refine' wpAnyL_take (i := 26) ?hi74 (by kernel_rfl) (by kernel_rfl) (by kernel_rfl) (by kernel_rfl) ?hQ74 ?hy74 hS ?rest74
                      case hi74 => simp only [List.getElem?_toArray, List.getElem?_cons_succ, List.getElem?_cons_zero]; rfl
                      case hQ74 => exact fun _ _ _ h => h
                      case hy74 => exact Or.inr ⟨by rfl, rfl⟩
                      try simp only [Act.put, List.setIfInBounds_toArray, List.set_cons_zero, List.set_cons_succ]
                      refine' wpAnyL_take (i := 27) ?hi75 (by kernel_rfl) (by kernel_rfl) (by kernel_rfl) (by kernel_rfl) ?hQ75 ?hy75 hS ?rest75
                      case hi75 => simp only [List.getElem?_toArray, List.getElem?_cons_succ, List.getElem?_cons_zero]; rfl
                      case hQ75 => exact fun _ _ _ h => h
                      case hy75 => exact Or.inr ⟨by rfl, rfl⟩
                      try simp only [Act.put, List.setIfInBounds_toArray, List.set_cons_zero, List.set_cons_succ]
                      refine' wpAnyL_take (i := 28) ?hi76 (by kernel_rfl) (by kernel_rfl) (by kernel_rfl) (by kernel_rfl) ?hQ76 ?hy76 hS ?rest76
                      case hi76 => simp only [List.getElem?_toArray, List.getElem?_cons_succ, List.getElem?_cons_zero]; rfl
                      case hQ76 => exact fun _ _ _ h => h
                      case hy76 => exact Or.inr ⟨by rfl, rfl⟩
                      try simp only [Act.put, List.setIfInBounds_toArray, List.set_cons_zero, List.set_cons_succ]
                      refine' wpAnyL_take (i := 29) ?hi77 (by kernel_rfl) (by kernel_rfl) (by kernel_rfl) (by kernel_rfl) ?hQ77 ?hy77 hS ?rest77
                      case hi77 => simp only [List.getElem?_toArray, List.getElem?_cons_succ, List.getElem?_cons_zero]; rfl
                      case hQ77 => exact fun _ _ _ h => h
                      case hy77 => exact Or.inr ⟨by rfl, rfl⟩
                      try simp only [Act.put, List.setIfInBounds_toArray, List.set_cons_zero, List.set_cons_succ]
                      refine' wpAnyL_take (i := 30) ?hi78 (by kernel_rfl) (by kernel_rfl) (by kernel_rfl) (by kernel_rfl) ?hQ78 ?hy78 hS ?rest78
                      case hi78 => simp only [List.getElem?_toArray, List.getElem?_cons_succ, List.getElem?_cons_zero]; rfl
                      case hQ78 => exact fun _ _ _ h => h
                      case hy78 => exact Or.inr ⟨by rfl, rfl⟩
                      try simp only [Act.put, List.setIfInBounds_toArray, List.set_cons_zero, List.set_cons_succ]
                      refine' wpAnyL_take (i := 31) ?hi79 (by kernel_rfl) (by kernel_rfl) (by kernel_rfl) (by kernel_rfl) ?hQ79 ?hy79 hS ?rest79
                      case hi79 => simp only [List.getElem?_toArray, List.getElem?_cons_succ, List.getElem?_cons_zero]; rfl
                      case hQ79 => exact fun _ _ _ h => h
                      case hy79 => exact Or.inr ⟨by rfl, rfl⟩
                      try simp only [Act.put, List.setIfInBounds_toArray, List.set_cons_zero, List.set_cons_succ]
                      refine' wpAnyL_take (i := 32) ?hi80 (by kernel_rfl) (by kernel_rfl) (by kernel_rfl) (by kernel_rfl) ?hQ80 ?hy80 hS ?rest80
                      case hi80 => simp only [List.getElem?_toArray, List.getElem?_cons_succ, List.getElem?_cons_zero]; rfl
                      case hQ80 => exact fun _ _ _ h => h
                      case hy80 =>
                        refine Or.inl ⟨by rfl, ?_⟩
                        intro wq hq
                        try dsimp only at hq
                        try obtain ⟨hq0, hq1, hq2, hq3, hq4, hq5, hq6⟩ := hq
                        try obtain ⟨hq0, hq1, hq2, hq3, hq4, hq5⟩ := hq
                        try obtain ⟨hq0, hq1, hq2, hq3, hq4⟩ := hq
                        try obtain ⟨hq0, hq1, hq2, hq3⟩ := hq
                        try obtain ⟨hq0, hq1, hq2⟩ := hq
                        try obtain ⟨hq0, hq1⟩ := hq
                        go_simp
                        try with_reducible rfl
                      try simp only [Act.put, List.setIfInBounds_toArray, List.set_cons_zero, List.set_cons_succ]
                      refine wpAnyL_done (by kernel_rfl) ?_ _
                      go_wp2_with fail
                      go_meet
                      exact ⟨by rw [HE.out], Below.drew (Below.refl _ _)⟩
                    exact ReadyL.nil
                  · have HE := Lib.hid h2
                    clear h2
                    refine wp_region_lastB (S := (fun V => V.cell? ⟨(ad.add (a * 7)).block, (ad.add (a * 7)).off + 1, none⟩ = some (.string u.nm.s) ∧ V.cell? ⟨wr.heap.size, 1, none⟩ = some (.string t.nm.s) ∧ Below wd.heap.size wd V)) (Z := (fun _ => false)) (by kernel_rfl) ?_
                    have hS := HUC.out _ (Below.drew (Below.refl _ _))
                    refine' wpAnyL_take (i := 0) ?hi81 (by kernel_rfl) (by kernel_rfl) (by kernel_rfl) (by kernel_rfl) ?hQ81 ?hy81 hS ?rest81
                    case hi81 => simp only [List.getElem?_toArray, List.getElem?_cons_zero]; rfl
                    case hQ81 => exact fun _ _ _ h => h
                    case hy81 =>
                      refine Or.inl ⟨by rfl, ?_⟩
                      intro wq hq
                      try dsimp only at hq
                      try obtain ⟨hq0, hq1, hq2, hq3, hq4, hq5, hq6⟩ := hq
                      try obtain ⟨hq0, hq1, hq2, hq3, hq4, hq5⟩ := hq
                      try obtain ⟨hq0, hq1, hq2, hq3, hq4⟩ := hq
                      try obtain ⟨hq0, hq1, hq2, hq3⟩ := hq
                      try obtain ⟨hq0, hq1, hq2⟩ := hq
                      try obtain ⟨hq0, hq1⟩ := hq
                      go_simp
                      try with_reducible rfl
                    try simp only [Act.put, List.setIfInBounds_toArray, List.set_cons_zero, List.set_cons_succ]
                    refine' wpAnyL_take (i := 1) ?hi82 (by kernel_rfl) (by kernel_rfl) (by kernel_rfl) (by kernel_rfl) ?hQ82 ?hy82 hS ?rest82
                    case hi82 => simp only [List.getElem?_toArray, List.getElem?_cons_succ, List.getElem?_cons_zero]; rfl
                    case hQ82 => exact fun _ _ _ h => h
                    case hy82 =>
                      refine Or.inl ⟨by rfl, ?_⟩
                      intro wq hq
                      try dsimp only at hq
                      try obtain ⟨hq0, hq1, hq2, hq3, hq4, hq5, hq6⟩ := hq
                      try obtain ⟨hq0, hq1, hq2, hq3, hq4, hq5⟩ := hq
                      try obtain ⟨hq0, hq1, hq2, hq3, hq4⟩ := hq
                      try obtain ⟨hq0, hq1, hq2, hq3⟩ := hq
                      try obtain ⟨hq0, hq1, hq2⟩ := hq
                      try obtain ⟨hq0, hq1⟩ := hq
                      go_simp
                      try with_reducible rfl
                    try simp only [Act.put, List.setIfInBounds_toArray, List.set_cons_zero, List.set_cons_succ]
                    refine' wpAnyL_take (i := 2) ?hi83 (by kernel_rfl) (by kernel_rfl) (by kernel_rfl) (by kernel_rfl) ?hQ83 ?hy83 hS ?rest83
                    case hi83 => simp only [List.getElem?_toArray, List.getElem?_cons_succ, List.getElem?_cons_zero]; rfl
                    case hQ83 => exact fun _ _ _ h => h
                    case hy83 =>
                      refine Or.inl ⟨by rfl, ?_⟩
                      intro wq hq
                      try dsimp only at hq
                      try obtain ⟨hq0, hq1, hq2, hq3, hq4, hq5, hq6⟩ := hq
                      try obtain ⟨hq0, hq1, hq2, hq3, hq4, hq5⟩ := hq
                      try obtain ⟨hq0, hq1, hq2, hq3, hq4⟩ := hq
                      try obtain ⟨hq0, hq1, hq2, hq3⟩ := hq
                      try obtain ⟨hq0, hq1, hq2⟩ := hq
                      try obtain ⟨hq0, hq1⟩ := hq
                      go_simp
                      try with_reducible rfl
                    try simp only [Act.put, List.setIfInBounds_toArray, List.set_cons_zero, List.set_cons_succ]
                    refine' wpAnyL_take (i := 3) ?hi84 (by kernel_rfl) (by kernel_rfl) (by kernel_rfl) (by kernel_rfl) ?hQ84 ?hy84 hS ?rest84
                    case hi84 => simp only [List.getElem?_toArray, List.getElem?_cons_succ, List.getElem?_cons_zero]; rfl
                    case hQ84 => exact fun _ _ _ h => h
                    case hy84 =>
                      refine Or.inl ⟨by rfl, ?_⟩
                      intro wq hq
                      try dsimp only at hq
                      try obtain ⟨hq0, hq1, hq2, hq3, hq4, hq5, hq6⟩ := hq
                      try obtain ⟨hq0, hq1, hq2, hq3, hq4, hq5⟩ := hq
                      try obtain ⟨hq0, hq1, hq2, hq3, hq4⟩ := hq
                      try obtain ⟨hq0, hq1, hq2, hq3⟩ := hq
                      try obtain ⟨hq0, hq1, hq2⟩ := hq
                      try obtain ⟨hq0, hq1⟩ := hq
                      go_simp
                      try with_reducible rfl
                    try simp only [Act.put, List.setIfInBounds_toArray, List.set_cons_zero, List.set_cons_succ]
                    refine' wpAnyL_take (i := 4) ?hi85 (by kernel_rfl) (by kernel_rfl) (by kernel_rfl) (by kernel_rfl) ?hQ85 ?hy85 hS ?rest85
                    case hi85 => simp only [List.getElem?_toArray, List.getElem?_cons_succ, List.getElem?_cons_zero]; rfl
                    case hQ85 => exact fun _ _ _ h => h
                    case hy85 =>
                      refine Or.inl ⟨by rfl, ?_⟩
                      intro wq hq
                      try dsimp only at hq
                      try obtain ⟨hq0, hq1, hq2, hq3, hq4, hq5, hq6⟩ := hq
                      try obtain ⟨hq0, hq1, hq2, hq3, hq4, hq5⟩ := hq
                      try obtain ⟨hq0, hq1, hq2, hq3, hq4⟩ := hq
                      try obtain ⟨hq0, hq1, hq2, hq3⟩ := hq
                      try obtain ⟨hq0, hq1, hq2⟩ := hq
                      try obtain ⟨hq0, hq1⟩ := hq
                      go_simp
                      try with_reducible rfl
                    try simp only [Act.put, List.setIfInBounds_toArray, List.set_cons_zero, List.set_cons_succ]
                    refine' wpAnyL_take (i := 5) ?hi86 (by kernel_rfl) (by kernel_rfl) (by kernel_rfl) (by kernel_rfl) ?hQ86 ?hy86 hS ?rest86
                    case hi86 => simp only [List.getElem?_toArray, List.getElem?_cons_succ, List.getElem?_cons_zero]; rfl
                    case hQ86 => exact fun _ _ _ h => h
                    case hy86 =>
                      refine Or.inl ⟨by rfl, ?_⟩
                      intro wq hq
                      try dsimp only at hq
                      try obtain ⟨hq0, hq1, hq2, hq3, hq4, hq5, hq6⟩ := hq
                      try obtain ⟨hq0, hq1, hq2, hq3, hq4, hq5⟩ := hq
                      try obtain ⟨hq0, hq1, hq2, hq3, hq4⟩ := hq
                      try obtain ⟨hq0, hq1, hq2, hq3⟩ := hq
                      try obtain ⟨hq0, hq1, hq2⟩ := hq
                      try obtain ⟨hq0, hq1⟩ := hq
                      go_simp
                      try with_reducible rfl
                    try simp only [Act.put, List.setIfInBounds_toArray, List.set_cons_zero, List.set_cons_succ]
                    refine' wpAnyL_take (i := 6) ?hi87 (by kernel_rfl) (by kernel_rfl) (by kernel_rfl) (by kernel_rfl) ?hQ87 ?hy87 hS ?rest87
                    case hi87 => simp only [List.getElem?_toArray, List.getElem?_cons_succ, List.getElem?_cons_zero]; rfl
                    case hQ87 => exact fun _ _ _ h => h
                    case hy87 =>
                      refine Or.inl ⟨by rfl, ?_⟩
                      intro wq hq
                      try dsimp only at hq
                      try obtain ⟨hq0, hq1, hq2, hq3, hq4, hq5, hq6⟩ := hq
                      try obtain ⟨hq0, hq1, hq2, hq3, hq4, hq5⟩ := hq
                      try obtain ⟨hq0, hq1, hq2, hq3, hq4⟩ := hq
                      try obtain ⟨hq0, hq1, hq2, hq3⟩ := hq
                      try obtain ⟨hq0, hq1, hq2⟩ := hq
                      try obtain ⟨hq0, hq1⟩ := hq
                      go_simp
                      try with_reducible rfl
                    try simp only [Act.put, List.setIfInBounds_toArray, List.set_cons_zero, List.set_cons_succ]
                    refine' wpAnyL_take (i := 7) ?hi88 (by kernel_rfl) (by kernel_rfl) (by kernel_rfl) (by kernel_rfl) ?hQ88 ?hy88 hS ?rest88
                    case hi88 => simp only [List.getElem?_toArray, List.getElem?_cons_succ, List.getElem?_cons_zero]; rfl
                    case hQ88 => exact fun _ _ _ h => h
                    case hy88 =>
                      refine Or.inl ⟨by rfl, ?_⟩
                      intro wq hq
                      try dsimp only at hq
                      try obtain ⟨hq0, hq1, hq2, hq3, hq4, hq5, hq6⟩ := hq
                      try obtain ⟨hq0, hq1, hq2, hq3, hq4, hq5⟩ := hq
                      try obtain ⟨hq0, hq1, hq2, hq3, hq4⟩ := hq
                      try obtain ⟨hq0, hq1, hq2, hq3⟩ := hq
                      try obtain ⟨hq0, hq1, hq2⟩ := hq
                      try obtain ⟨hq0, hq1⟩ := hq
                      go_simp
                      try with_reducible rfl
                    try simp only [Act.put, List.setIfInBounds_toArray, List.set_cons_zero, List.set_cons_succ]
                    refine' wpAnyL_take (i := 8) ?hi89 (by kernel_rfl) (by kernel_rfl) (by kernel_rfl) (by kernel_rfl) ?hQ89 ?hy89 hS ?rest89
                    case hi89 => simp only [List.getElem?_toArray, List.getElem?_cons_succ, List.getElem?_cons_zero]; rfl
                    case hQ89 => exact fun _ _ _ h => h
                    case hy89 =>
                      refine Or.inl ⟨by rfl, ?_⟩
                      intro wq hq
                      try dsimp only at hq
                      try obtain ⟨hq0, hq1, hq2, hq3, hq4, hq5, hq6⟩ := hq
                      try obtain ⟨hq0, hq1, hq2, hq3, hq4, hq5⟩ := hq
                      try obtain ⟨hq0, hq1, hq2, hq3, hq4⟩ := hq
                      try obtain ⟨hq0, hq1, hq2, hq3⟩ := hq
                      try obtain ⟨hq0, hq1, hq2⟩ := hq
                      try obtain ⟨hq0, hq1⟩ := hq
                      go_simp
                      try with_reducible rfl
                    try simp only [Act.put, List.setIfInBounds_toArray, List.set_cons_zero, List.set_cons_succ]
                    refine' wpAnyL_take (i := 9) ?hi90 (by kernel_rfl) (by kernel_rfl) (by kernel_rfl) (by kernel_rfl) ?hQ90 ?hy90 hS ?rest90
                    case hi90 => simp only [List.getElem?_toArray, List.getElem?_cons_succ, List.getElem?_cons_zero]; rfl
                    case hQ90 => exact fun _ _ _ h => h
                    case hy90 =>
                      refine Or.inl ⟨by rfl, ?_⟩
                      intro wq hq
                      try dsimp only at hq
                      try obtain ⟨hq0, hq1, hq2, hq3, hq4, hq5, hq6⟩ := hq
                      try obtain ⟨hq0, hq1, hq2, hq3, hq4, hq5⟩ := hq
                      try obtain ⟨hq0, hq1, hq2, hq3, hq4⟩ := hq
                      try obtain ⟨hq0, hq1, hq2, hq3⟩ := hq
                      try obtain ⟨hq0, hq1, hq2⟩ := hq
                      try obtain ⟨hq0, hq1⟩ := hq
                      go_simp
                      try with_reducible rfl
                    try simp only [Act.put, List.setIfInBounds_toArray, List.set_cons_zero, List.set_cons_succ]
                    refine' wpAnyL_take (i := 10) ?hi91 (by kernel_rfl) (by kernel_rfl) (by kernel_rfl) (by kernel_rfl) ?hQ91 ?hy91 hS ?rest91
                    case hi91 => simp only [List.getElem?_toArray, List.getElem?_cons_succ, List.getElem?_cons_zero]; rfl
                    case hQ91 => exact fun _ _ _ h => h
                    case hy91 =>
                      refine Or.inl ⟨by rfl, ?_⟩
                      intro wq hq
                      try dsimp only at hq
                      try obtain ⟨hq0, hq1, hq2, hq3, hq4, hq5, hq6⟩ := hq
                      try obtain ⟨hq0, hq1, hq2, hq3, hq4, hq5⟩ := hq
                      try obtain ⟨hq0, hq1, hq2, hq3, hq4⟩ := hq
                      try obtain ⟨hq0, hq1, hq2, hq3⟩ := hq
                      try obtain ⟨hq0, hq1, hq2⟩ := hq
                      try obtain ⟨hq0, hq1⟩ := hq
                      go_simp
                      try with_reducible rfl
                    try simp only [Act.put, List.setIfInBounds_toArray, List.set_cons_zero, List.set_cons_succ]
                    refine' wpAnyL_take (i := 11) ?hi92 (by kernel_rfl) (by kernel_rfl) (by kernel_rfl) (by kernel_rfl) ?hQ92 ?hy92 hS ?rest92
                    case hi92 => simp only [List.getElem?_toArray, List.getElem?_cons_succ, List.getElem?_cons_zero]; rfl
                    case hQ92 => exact fun _ _ _ h => h
                    case hy92 =>
                      refine Or.inl ⟨by rfl, ?_⟩
                      intro wq hq
                      try dsimp only at hq
                      try obtain ⟨hq0, hq1, hq2, hq3, hq4, hq5, hq6⟩ := hq
                      try obtain ⟨hq0, hq1, hq2, hq3, hq4, hq5⟩ := hq
                      try obtain ⟨hq0, hq1, hq2, hq3, hq4⟩ := hq
                      try obtain ⟨hq0, hq1, hq2, hq3⟩ := hq
                      try obtain ⟨hq0, hq1, hq2⟩ := hq
                      try obtain ⟨hq0, hq1⟩ := hq
                      go_simp
                      try with_reducible rfl
                    try simp only [Act.put, List.setIfInBounds_toArray, List.set_cons_zero, List.set_cons_succ]
                    refine wpAnyL_ready (rs := [12]) (by kernel_rfl) (by simp) ?_
                    refine' ReadyL.cons ?ho93 (fun K hK => ?step93) ?more93
                    case ho93 => simp only [List.getElem?_toArray, List.getElem?_cons_succ, List.getElem?_cons_zero]; rfl
                    case step93 =>
                      go_simp
                      refine (HOO.out _ (Below.drew (Below.refl _ _)) u.nm.s).mono ?_
                      rintro e w1 ⟨rfl, rfl⟩
                      refine hK.out _ _ (.inr hS) ?_
                      clear hK K
                      try simp only [Act.put, List.setIfInBounds_toArray, List.set_cons_zero, List.set_cons_succ]
                      refine' wpAnyL_take (i := 13) ?hi94 (by kernel_rfl) (by kernel_rfl) (by kernel_rfl) (by kernel_rfl) ?hQ94 ?hy94 hS ?rest94
                      case hi94 => simp only [List.getElem?_toArray, List.getElem?_cons_succ, List.getElem?_cons_zero]; rfl
                      case hQ94 => exact fun _ _ _ h => h
                      case hy94 =>
                        refine Or.inl ⟨by rfl, ?_⟩
                        intro wq hq
                        try dsimp only at hq
                        try obtain ⟨hq0, hq1, hq2, hq3, hq4, hq5, hq6⟩ := hq
                        try obtain ⟨hq0, hq1, hq2, hq3, hq4, hq5⟩ := hq
                        try obtain ⟨hq0, hq1, hq2, hq3, hq4⟩ := hq
                        try obtain ⟨hq0, hq1, hq2, hq3⟩ := hq
                        try obtain ⟨hq0, hq1, hq2⟩ := hq
                        try obtain ⟨hq0, hq1⟩ := hq
                        go_simp
                        try with_reducible rfl
                      try simp only [Act.put, List.setIfInBounds_toArray, List.set_cons_zero, List.set_cons_succ]
                      refine' wpAnyL_take (i := 14) ?hi95 (by kernel_rfl) (by kernel_rfl) (by kernel_rfl) (by kernel_rfl) ?hQ95 ?hy95 hS ?rest95
                      case hi95 => simp only [List.getElem?_toArray, List.getElem?_cons_succ, List.getElem?_cons_zero]; rfl
                      case hQ95 => exact fun _ _ _ h => h
                      case hy95 =>
                        refine Or.inl ⟨by rfl, ?_⟩
                        intro wq hq
                        try dsimp only at hq
                        try obtain ⟨hq0, hq1, hq2, hq3, hq4, hq5, hq6⟩ := hq
                        try obtain ⟨hq0, hq1, hq2, hq3, hq4, hq5⟩ := hq
                        try obtain ⟨hq0, hq1, hq2, hq3, hq4⟩ := hq
                        try obtain ⟨hq0, hq1, hq2, hq3⟩ := hq
                        try obtain ⟨hq0, hq1, hq2⟩ := hq
                        try obtain ⟨hq0, hq1⟩ := hq
                        go_simp
                        try with_reducible rfl
                      try simp only [Act.put, List.setIfInBounds_toArray, List.set_cons_zero, List.set_cons_succ]
                      refine' wpAnyL_take (i := 15) ?hi96 (by kernel_rfl) (by kernel_rfl) (by kernel_rfl) (by kernel_rfl) ?hQ96 ?hy96 hS ?rest96
                      case hi96 => simp only [List.getElem?_toArray, List.getElem?_cons_succ, List.getElem?_cons_zero]; rfl
                      case hQ96 => exact fun _ _ _ h => h
                      case hy96 =>
                        refine Or.inl ⟨by rfl, ?_⟩
                        intro wq hq
                        try dsimp only at hq
                        try obtain ⟨hq0, hq1, hq2, hq3, hq4, hq5, hq6⟩ := hq
                        try obtain ⟨hq0, hq1, hq2, hq3, hq4, hq5⟩ := hq
                        try obtain ⟨hq0, hq1, hq2, hq3, hq4⟩ := hq
                        try obtain ⟨hq0, hq1, hq2, hq3⟩ := hq
                        try obtain ⟨hq0, hq1, hq2⟩ := hq
                        try obtain ⟨hq0, hq1⟩ := hq
                        go_simp
                        try with_reducible rfl
                      try simp only [Act.put, List.setIfInBounds_toArray, List.set_cons_zero, List.set_cons_succ]
                      refine' wpAnyL_take (i := 16) ?hi97 (by kernel_rfl) (by kernel_rfl) (by kernel_rfl) (by kernel_rfl) ?hQ97 ?hy97 hS ?rest97
                      case hi97 => simp only [List.getElem?_toArray, List.getElem?_cons_succ, List.getElem?_cons_zero]; rfl
                      case hQ97 => exact fun _ _ _ h => h
                      case hy97 =>
                        refine Or.inl ⟨by rfl, ?_⟩
                        intro wq hq
                        try dsimp only at hq
                        try obtain ⟨hq0, hq1, hq2, hq3, hq4, hq5, hq6⟩ := hq
                        try obtain ⟨hq0, hq1, hq2, hq3, hq4, hq5⟩ := hq
                        try obtain ⟨hq0, hq1, hq2, hq3, hq4⟩ := hq
                        try obtain ⟨hq0, hq1, hq2, hq3⟩ := hq
                        try obtain ⟨hq0, hq1, hq2⟩ := hq
                        try obtain ⟨hq0, hq1⟩ := hq
                        go_simp
                        try with_reducible rfl
                      try simp only [Act.put, List.setIfInBounds_toArray, List.set_cons_zero, List.set_cons_succ]
                      refine' wpAnyL_take (i := 17) ?hi98 (by kernel_rfl) (by kernel_rfl) (by kernel_rfl) (by kernel_rfl) ?hQ98 ?hy98 hS ?rest98
                      case hi98 => simp only [List.getElem?_toArray, List.getElem?_cons_succ, List.getElem?_cons_zero]; rfl
                      case hQ98 => exact fun _ _ _ h => h
                      case hy98 =>
                        refine Or.inl ⟨by rfl, ?_⟩
                        intro wq hq
                        try dsimp only at hq
                        try obtain ⟨hq0, hq1, hq2, hq3, hq4, hq5, hq6⟩ := hq
                        try obtain ⟨hq0, hq1, hq2, hq3, hq4, hq5⟩ := hq
                        try obtain ⟨hq0, hq1, hq2, hq3, hq4⟩ := hq
                        try obtain ⟨hq0, hq1, hq2, hq3⟩ := hq
                        try obtain ⟨hq0, hq1, hq2⟩ := hq
                        try obtain ⟨hq0, hq1⟩ := hq
                        go_simp
                        try with_reducible rfl
                      try simp only [Act.put, List.setIfInBounds_toArray, List.set_cons_zero, List.set_cons_succ]
                      refine' wpAnyL_take (i := 18) ?hi99 (by kernel_rfl) (by kernel_rfl) (by kernel_rfl) (by kernel_rfl) ?hQ99 ?hy99 hS ?rest99
                      case hi99 => simp only [List.getElem?_toArray, List.getElem?_cons_succ, List.getElem?_cons_zero]; rfl
                      case hQ99 => exact fun _ _ _ h => h
                      case hy99 =>
                        refine Or.inl ⟨by rfl, ?_⟩
                        intro wq hq
                        try dsimp only at hq
                        try obtain ⟨hq0, hq1, hq2, hq3, hq4, hq5, hq6⟩ := hq
                        try obtain ⟨hq0, hq1, hq2, hq3, hq4, hq5⟩ := hq
                        try obtain ⟨hq0, hq1, hq2, hq3, hq4⟩ := hq
                        try obtain ⟨hq0, hq1, hq2, hq3⟩ := hq
                        try obtain ⟨hq0, hq1, hq2⟩ := hq
                        try obtain ⟨hq0, hq1⟩ := hq
                        go_simp
                        try with_reducible rfl
                      try simp only [Act.put, List.setIfInBounds_toArray, List.set_cons_zero, List.set_cons_succ]
                      refine' wpAnyL_take (i := 19) ?hi100 (by kernel_rfl) (by kernel_rfl) (by kernel_rfl) (by kernel_rfl) ?hQ100 ?hy100 hS ?rest100
                      case hi100 => simp only [List.getElem?_toArray, List.getElem?_cons_succ, List.getElem?_cons_zero]; rfl
                      case hQ100 => exact fun _ _ _ h => h
                      case hy100 =>
                        refine Or.inl ⟨by rfl, ?_⟩
                        intro wq hq
                        try dsimp only at hq
                        try obtain ⟨hq0, hq1, hq2, hq3, hq4, hq5, hq6⟩ := hq
                        try obtain ⟨hq0, hq1, hq2, hq3, hq4, hq5⟩ := hq
                        try obtain ⟨hq0, hq1, hq2, hq3, hq4⟩ := hq
                        try obtain ⟨hq0, hq1, hq2, hq3⟩ := hq
                        try obtain ⟨hq0, hq1, hq2⟩ := hq
                        try obtain ⟨hq0, hq1⟩ := hq
                        go_simp
                        try with_reducible rfl
                      try simp only [Act.put, List.setIfInBounds_toArray, List.set_cons_zero, List.set_cons_succ]
                      refine' wpAnyL_take (i := 20) ?hi101 (by kernel_rfl) (by kernel_rfl) (by kernel_rfl) (by kernel_rfl) ?hQ101 ?hy101 hS ?rest101
                      case hi101 => simp only [List.getElem?_toArray, List.getElem?_cons_succ, List.getElem?_cons_zero]; rfl
                      case hQ101 => exact fun _ _ _ h => h
                      case hy101 =>
                        refine Or.inl ⟨by rfl, ?_⟩
                        intro wq hq
                        try dsimp only at hq
                        try obtain ⟨hq0, hq1, hq2, hq3, hq4, hq5, hq6⟩ := hq
                        try obtain ⟨hq0, hq1, hq2, hq3, hq4, hq5⟩ := hq
                        try obtain ⟨hq0, hq1, hq2, hq3, hq4⟩ := hq
                        try obtain ⟨hq0, hq1, hq2, hq3⟩ := hq
                        try obtain ⟨hq0, hq1, hq2⟩ := hq
                        try obtain ⟨hq0, hq1⟩ := hq
                        go_simp
                        try with_reducible rfl
                      try simp only [Act.put, List.setIfInBounds_toArray, List.set_cons_zero, List.set_cons_succ]
                      refine' wpAnyL_take (i := 21) ?hi102 (by kernel_rfl) (by kernel_rfl) (by kernel_rfl) (by kernel_rfl) ?hQ102 ?hy102 hS ?rest102
                      case hi102 => simp only [List.getElem?_toArray, List.getElem?_cons_succ, List.getElem?_cons_zero]; rfl
                      case hQ102 => exact fun _ _ _ h => h
                      case hy102 =>
                        refine Or.inl ⟨by rfl, ?_⟩
                        intro wq hq
                        try dsimp only at hq
                        try obtain ⟨hq0, hq1, hq2, hq3, hq4, hq5, hq6⟩ := hq
                        try obtain ⟨hq0, hq1, hq2, hq3, hq4, hq5⟩ := hq
                        try obtain ⟨hq0, hq1, hq2, hq3, hq4⟩ := hq
                        try obtain ⟨hq0, hq1, hq2, hq3⟩ := hq
                        try obtain ⟨hq0, hq1, hq2⟩ := hq
                        try obtain ⟨hq0, hq1⟩ := hq
                        go_simp
                        try with_reducible rfl
                      try simp only [Act.put, List.setIfInBounds_toArray, List.set_cons_zero, List.set_cons_succ]
                      refine' wpAnyL_take (i := 22) ?hi103 (by kernel_rfl) (by kernel_rfl) (by kernel_rfl) (by kernel_rfl) ?hQ103 ?hy103 hS ?rest103
                      case hi103 => simp only [List.getElem?_toArray, List.getElem?_cons_succ, List.getElem?_cons_zero]; rfl
                      case hQ103 => exact fun _ _ _ h => h
                      case hy103 =>
                        refine Or.inl ⟨by rfl, ?_⟩
                        intro wq hq
                        try dsimp only at hq
                        try obtain ⟨hq0, hq1, hq2, hq3, hq4, hq5, hq6⟩ := hq
                        try obtain ⟨hq0, hq1, hq2, hq3, hq4, hq5⟩ := hq
                        try obtain ⟨hq0, hq1, hq2, hq3, hq4⟩ := hq
                        try obtain ⟨hq0, hq1, hq2, hq3⟩ := hq
                        try obtain ⟨hq0, hq1, hq2⟩ := hq
                        try obtain ⟨hq0, hq1⟩ := hq
                        go_simp
                        try with_reducible rfl
                      try simp only [Act.put, List.setIfInBounds_toArray, List.set_cons_zero, List.set_cons_succ]
                      refine' wpAnyL_take (i := 23) ?hi104 (by kernel_rfl) (by kernel_rfl) (by kernel_rfl) (by kernel_rfl) ?hQ104 ?hy104 hS ?rest104
                      case hi104 => simp only [List.getElem?_toArray, List.getElem?_cons_succ, List.getElem?_cons_zero]; rfl
                      case hQ104 => exact fun _ _ _ h => h
                      case hy104 =>
                        refine Or.inl ⟨by rfl, ?_⟩
                        intro wq hq
                        try dsimp only at hq
                        try obtain ⟨hq0, hq1, hq2, hq3, hq4, hq5, hq6⟩ := hq
                        try obtain ⟨hq0, hq1, hq2, hq3, hq4, hq5⟩ := hq
                        try obtain ⟨hq0, hq1, hq2, hq3, hq4⟩ := hq
                        try obtain ⟨hq0, hq1, hq2, hq3⟩ := hq
                        try obtain ⟨hq0, hq1, hq2⟩ := hq
                        try obtain ⟨hq0, hq1⟩ := hq
                        go_simp
                        try with_reducible rfl
                      try simp only [Act.put, List.setIfInBounds_toArray, List.set_cons_zero, List.set_cons_succ]
                      refine' wpAnyL_take (i := 24) ?hi105 (by kernel_rfl) (by kernel_rfl) (by kernel_rfl) (by kernel_rfl) ?hQ105 ?hy105 hS ?rest105
                      case hi105 => simp only [List.getElem?_toArray, List.getElem?_cons_succ, List.getElem?_cons_zero]; rfl
                      case hQ105 => exact fun _ _ _ h => h
                      case hy105 =>
                        refine Or.inl ⟨by rfl, ?_⟩
                        intro wq hq
                        try dsimp only at hq
                        try obtain ⟨hq0, hq1, hq2, hq3, hq4, hq5, hq6⟩ := hq
                        try obtain ⟨hq0, hq1, hq2, hq3, hq4, hq5⟩ := hq
                        try obtain ⟨hq0, hq1, hq2, hq3, hq4⟩ := hq
                        try obtain ⟨hq0, hq1, hq2, hq3⟩ := hq
                        try obtain ⟨hq0, hq1, hq2⟩ := hq
                        try obtain ⟨hq0, hq1⟩ := hq
                        go_simp
                        try with_reducible rfl
                      try simp only [Act.put, List.setIfInBounds_toArray, List.set_cons_zero, List.set_cons_succ]
                      refine' wpAnyL_take (i := 25) ?hi106 (by kernel_rfl) (by kernel_rfl) (by kernel_rfl) (by kernel_rfl) ?hQ106 ?hy106 hS ?rest106
                      case hi106 => simp only [List.getElem?_toArray, List.getElem?_cons_succ, List.getElem?_cons_zero]; rfl
                      case hQ106 => exact fun _ _ _ h => h
                      case hy106 =>
                        refine Or.inl ⟨by rfl, ?_⟩
                        intro wq hq
                        try dsimp only at hq
                        try obtain ⟨hq0, hq1, hq2, hq3, hq4, hq5, hq6⟩ := hq
                        try obtain ⟨hq0, hq1, hq2, hq3, hq4, hq5⟩ := hq
                        try obtain ⟨hq0, hq1, hq2, hq3, hq4⟩ := hq
                        try obtain ⟨hq0, hq1, hq2, hq3⟩ := hq
                        try obtain ⟨hq0, hq1, hq2⟩ := hq
                        try obtain ⟨hq0, hq1⟩ := hq
                        go_simp
                        try with_reducible rfl
                      try simp only [Act.put, List.setIfInBounds_toArray, List.set_cons_zero, List.set_cons_succ]
                      refine' wpAnyL_take (i := 26) ?hi107 (by kernel_rfl) (by kernel_rfl) (by kernel_rfl) (by kernel_rfl) ?hQ107 ?hy107 hS ?rest107
                      case hi107 => simp only [List.getElem?_toArray, List.getElem?_cons_succ, List.getElem?_cons_zero]; rfl
                      case hQ107 => exact fun _ _ _ h => h
                      case hy107 =>
                        refine Or.inl ⟨by rfl, ?_⟩
                        intro wq hq
                        try dsimp only at hq
                        try obtain ⟨hq0, hq1, hq2, hq3, hq4, hq5, hq6⟩ := hq
                        try obtain ⟨hq0, hq1, hq2, hq3, hq4, hq5⟩ := hq
                        try obtain ⟨hq0, hq1, hq2, hq3, hq4⟩ := hq
                        try obtain ⟨hq0, hq1, hq2, hq3⟩ := hq
                        try obtain ⟨hq0, hq1, hq2⟩ := hq
                        try obtain ⟨hq0, hq1⟩ := hq
                        go_simp
                        try with_reducible rfl
                      try simp only [Act.put, List.setIfInBounds_toArray, List.set_cons_zero, List.set_cons_succ]
                      refine' wpAnyL_take (i := 27) ?hi108 (by kernel_rfl) (by kernel_rfl) (by kernel_rfl) (by kernel_rfl) ?hQ108 ?hy108 hS ?rest108
                      case hi108 => simp only [List.getElem?_toArray, List.getElem?_cons_succ, List.getElem?_cons_zero]; rfl
                      case hQ108 => exact fun _ _ _ h => h
                      case hy108 =>
                        refine Or.inl ⟨by rfl, ?_⟩
                        intro wq hq
                        try dsimp only at hq
                        try obtain ⟨hq0, hq1, hq2, hq3, hq4, hq5, hq6⟩ := hq
                        try obtain ⟨hq0, hq1, hq2, hq3, hq4, hq5⟩ := hq
                        try obtain ⟨hq0, hq1, hq2, hq3, hq4⟩ := hq
                        try obtain ⟨hq0, hq1, hq2, hq3⟩ := hq
                        try obtain ⟨hq0, hq1, hq2⟩ := hq
                        try obtain ⟨hq0, hq1⟩ := hq
                        go_simp
                        try with_reducible rfl
                      try simp only [Act.put, List.setIfInBounds_toArray, List.set_cons_zero, List.set_cons_succ]
                      refine' wpAnyL_take (i := 28) ?hi109 (by kernel_rfl) (by kernel_rfl) (by kernel_rfl) (by kernel_rfl) ?hQ109 ?hy109 hS ?rest109
                      case hi109 => simp only [List.getElem?_toArray, List.getElem?_cons_succ, List.getElem?_cons_zero]; rfl
                      case hQ109 => exact fun _ _ _ h => h
                      case hy109 =>
                        refine Or.inl ⟨by rfl, ?_⟩
                        intro wq hq
                        try dsimp only at hq
                        try obtain ⟨hq0, hq1, hq2, hq3, hq4, hq5, hq6⟩ := hq
                        try obtain ⟨hq0, hq1, hq2, hq3, hq4, hq5⟩ := hq
                        try obtain ⟨hq0, hq1, hq2, hq3, hq4⟩ := hq
                        try obtain ⟨hq0, hq1, hq2, hq3⟩ := hq
                        try obtain ⟨hq0, hq1, hq2⟩ := hq
                        try obtain ⟨hq0, hq1⟩ := hq
                        go_simp
                        try with_reducible rfl
                      try simp only [Act.put, List.setIfInBounds_toArray, List.set_cons_zero, List.set_cons_succ]
                      refine' wpAnyL_take (i := 29) ?hi110 (by kernel_rfl) (by kernel_rfl) (by kernel_rfl) (by kernel_rfl) ?hQ110 ?hy110 hS ?rest110
                      case hi110 => simp only [List.getElem?_toArray, List.getElem?_cons_succ, List.getElem?_cons_zero]; rfl
                      case hQ110 => exact fun _ _ _ h => h
                      case hy110 =>
                        refine Or.inl ⟨by rfl, ?_⟩
                        intro wq hq
                        try dsimp only at hq
                        try obtain ⟨hq0, hq1, hq2, hq3, hq4, hq5, hq6⟩ := hq
                        try obtain ⟨hq0, hq1, hq2, hq3, hq4, hq5⟩ := hq
                        try obtain ⟨hq0, hq1, hq2, hq3, hq4⟩ := hq
                        try obtain ⟨hq0, hq1, hq2, hq3⟩ := hq
                        try obtain ⟨hq0, hq1, hq2⟩ := hq
                        try obtain ⟨hq0, hq1⟩ := hq
                        go_simp
                        try with_reducible rfl
                      try simp only [Act.put, List.setIfInBounds_toArray, List.set_cons_zero, List.set_cons_succ]
                      refine' wpAnyL_take (i := 30) ?hi111 (by kernel_rfl) (by kernel_rfl) (by kernel_rfl) (by kernel_rfl) ?hQ111 ?hy111 hS ?rest111
                      case hi111 => simp only [List.getElem?_toArray, List.getElem?_cons_succ, List.getElem?_cons_zero]; rfl
                      case hQ111 => exact fun _ _ _ h => h
                      case hy111 =>
                        refine Or.inl ⟨by rfl, ?_⟩
                        intro wq hq
                        try dsimp only at hq
                        try obtain ⟨hq0, hq1, hq2, hq3, hq4, hq5, hq6⟩ := hq
                        try obtain ⟨hq0, hq1, hq2, hq3, hq4, hq5⟩ := hq
                        try obtain ⟨hq0, hq1, hq2, hq3, hq4⟩ := hq
                        try obtain ⟨hq0, hq1, hq2, hq3⟩ := hq
                        try obtain ⟨hq0, hq1, hq2⟩ := hq
                        try obtain ⟨hq0, hq1⟩ := hq
                        go_simp
                        try with_reducible rfl
                      try simp only [Act.put, List.setIfInBounds_toArray, List.set_cons_zero, List.set_cons_succ]
                      refine' wpAnyL_take (i := 31) ?hi112 (by kernel_rfl) (by kernel_rfl) (by kernel_rfl) (by kernel_rfl) ?hQ112 ?hy112 hS ?rest112
                      case hi112 => simp only [List.getElem?_toArray, List.getElem?_cons_succ, List.getElem?_cons_zero]; rfl
                      case hQ112 => exact fun _ _ _ h => h
                      case hy112 =>
                        refine Or.inl ⟨by rfl, ?_⟩
                        intro wq hq
                        try dsimp only at hq
                        try obtain ⟨hq0, hq1, hq2, hq3, hq4, hq5, hq6⟩ := hq
                        try obtain ⟨hq0, hq1, hq2, hq3, hq4, hq5⟩ := hq
                        try obtain ⟨hq0, hq1, hq2, hq3, hq4⟩ := hq
                        try obtain ⟨hq0, hq1, hq2, hq3⟩ := hq
                        try obtain ⟨hq0, hq1, hq2⟩ := hq
                        try obtain ⟨hq0, hq1⟩ := hq
                        go_simp
                        try with_reducible rfl
                      try simp only [Act.put, List.setIfInBounds_toArray, List.set_cons_zero, List.set_cons_succ]
                      refine' wpAnyL_take (i := 32) ?hi113 (by kernel_rfl) (by kernel_rfl) (by kernel_rfl) (by kernel_rfl) ?hQ113 ?hy113 hS ?rest113
                      case hi113 => simp only [List.getElem?_toArray, List.getElem?_cons_succ, List.getElem?_cons_zero]; rfl
                      case hQ113 => exact fun _ _ _ h => h
                      case hy113 =>
                        refine Or.inl ⟨by rfl, ?_⟩
                        intro wq hq
                        try dsimp only at hq
                        try obtain ⟨hq0, hq1, hq2, hq3, hq4, hq5, hq6⟩ := hq
                        try obtain ⟨hq0, hq1, hq2, hq3, hq4, hq5⟩ := hq
                        try obtain ⟨hq0, hq1, hq2, hq3, hq4⟩ := hq
                        try obtain ⟨hq0, hq1, hq2, hq3⟩ := hq
                        try obtain ⟨hq0, hq1, hq2⟩ := hq
                        try obtain ⟨hq0, hq1⟩ := hq
                        go_simp
                        try with_reducible rfl
                      try simp only [Act.put, List.setIfInBounds_toArray, List.set_cons_zero, List.set_cons_succ]
                      refine wpAnyL_done (by kernel_rfl) ?_ _
                      go_wp2_with fail
                      go_meet
                      exact ⟨by rw [HE.out], Below.drew (Below.refl _ _)⟩
                    exact ReadyL.nil
                  · have HE := Lib.hid h2
                    clear h2
                    refine wp_region_lastB (S := (fun V => V.cell? ⟨(ad.add (a * 7)).block, (ad.add (a * 7)).off + 1, none⟩ = some (.string u.nm.s) ∧ V.cell? ⟨wr.heap.size, 1, none⟩ = some (.string t.nm.s) ∧ Below wd.heap.size wd V)) (Z := (fun _ => false)) (by kernel_rfl) ?_
                    have hS := HUC.out _ (Below.drew (Below.refl _ _))
                    refine' wpAnyL_take (i := 0) ?hi114 (by kernel_rfl) (by kernel_rfl) (by kernel_rfl) (by kernel_rfl) ?hQ114 ?hy114 hS ?rest114
                    case hi114 => simp only [List.getElem?_toArray, List.getElem?_cons_zero]; rfl
                    case hQ114 => exact fun _ _ _ h => h
                    case hy114 =>
                      refine Or.inl ⟨by rfl, ?_⟩
                      intro wq hq
                      try dsimp only at hq
                      try obtain ⟨hq0, hq1, hq2, hq3, hq4, hq5, hq6⟩ := hq
                      try obtain ⟨hq0, hq1, hq2, hq3, hq4, hq5⟩ := hq
                      try obtain ⟨hq0, hq1, hq2, hq3, hq4⟩ := hq
                      try obtain ⟨hq0, hq1, hq2, hq3⟩ := hq
                      try obtain ⟨hq0, hq1, hq2⟩ := hq
                      try obtain ⟨hq0, hq1⟩ := hq
                      go_simp
                      try with_reducible rfl
                    try simp only [Act.put, List.setIfInBounds_toArray, List.set_cons_zero, List.set_cons_succ]
                    refine' wpAnyL_take (i := 1) ?hi115 (by kernel_rfl) (by kernel_rfl) (by kernel_rfl) (by kernel_rfl) ?hQ115 ?hy115 hS ?rest115
                    case hi115 => simp only [List.getElem?_toArray, List.getElem?_cons_succ, List.getElem?_cons_zero]; rfl
                    case hQ115 => exact fun _ _ _ h => h
                    case hy115 =>
                      refine Or.inl ⟨by rfl, ?_⟩
                      intro wq hq
                      try dsimp only at hq
                      try obtain ⟨hq0, hq1, hq2, hq3, hq4, hq5, hq6⟩ := hq
                      try obtain ⟨hq0, hq1, hq2, hq3, hq4, hq5⟩ := hq
                      try obtain ⟨hq0, hq1, hq2, hq3, hq4⟩ := hq
                      try obtain ⟨hq0, hq1, hq2, hq3⟩ := hq
                      try obtain ⟨hq0, hq1, hq2⟩ := hq
                      try obtain ⟨hq0, hq1⟩ := hq
                      go_simp
                      try with_reducible rfl
                    try simp only [Act.put, List.setIfInBounds_toArray, List.set_cons_zero, List.set_cons_succ]
                    refine' wpAnyL_take (i := 2) ?hi116 (by kernel_rfl) (by kernel_rfl) (by kernel_rfl) (by kernel_rfl) ?hQ116 ?hy116 hS ?rest116
                    case hi116 => simp only [List.getElem?_toArray, List.getElem?_cons_succ, List.getElem?_cons_zero]; rfl
                    case hQ116 => exact fun _ _ _ h => h
                    case hy116 =>
                      refine Or.inl ⟨by rfl, ?_⟩
                      intro wq hq
                      try dsimp only at hq
                      try obtain ⟨hq0, hq1, hq2, hq3, hq4, hq5, hq6⟩ := hq
                      try obtain ⟨hq0, hq1, hq2, hq3, hq4, hq5⟩ := hq
                      try obtain ⟨hq0, hq1, hq2, hq3, hq4⟩ := hq
                      try obtain ⟨hq0, hq1, hq2, hq3⟩ := hq
                      try obtain ⟨hq0, hq1, hq2⟩ := hq
                      try obtain ⟨hq0, hq1⟩ := hq
                      go_simp
                      try with_reducible rfl
                    try simp only [Act.put, List.setIfInBounds_toArray, List.set_cons_zero, List.set_cons_succ]
                    refine' wpAnyL_take (i := 3) ?hi117 (by kernel_rfl) (by kernel_rfl) (by kernel_rfl) (by kernel_rfl) ?hQ117 ?hy117 hS ?rest117
                    case hi117 => simp only [List.getElem?_toArray, List.getElem?_cons_succ, List.getElem?_cons_zero]; rfl
                    case hQ117 => exact fun _ _ _ h => h
                    case hy117 =>
                      refine Or.inl ⟨by rfl, ?_⟩
                      intro wq hq
                      try dsimp only at hq
                      try obtain ⟨hq0, hq1, hq2, hq3, hq4, hq5, hq6⟩ := hq
                      try obtain ⟨hq0, hq1, hq2, hq3, hq4, hq5⟩ := hq
                      try obtain ⟨hq0, hq1, hq2, hq3, hq4⟩ := hq
                      try obtain ⟨hq0, hq1, hq2, hq3⟩ := hq
                      try obtain ⟨hq0, hq1, hq2⟩ := hq
                      try obtain ⟨hq0, hq1⟩ := hq
                      go_simp
                      try with_reducible rfl
                    try simp only [Act.put, List.setIfInBounds_toArray, List.set_cons_zero, List.set_cons_succ]
                    refine' wpAnyL_take (i := 4) ?hi118 (by kernel_rfl) (by kernel_rfl) (by kernel_rfl) (by kernel_rfl) ?hQ118 ?hy118 hS ?rest118
                    case hi118 => simp only [List.getElem?_toArray, List.getElem?_cons_succ, List.getElem?_cons_zero]; rfl
                    case hQ118 => exact fun _ _ _ h => h
                    case hy118 =>
                      refine Or.inl ⟨by rfl, ?_⟩
                      intro wq hq
                      try dsimp only at hq
                      try obtain ⟨hq0, hq1, hq2, hq3, hq4, hq5, hq6⟩ := hq
                      try obtain ⟨hq0, hq1, hq2, hq3, hq4, hq5⟩ := hq
                      try obtain ⟨hq0, hq1, hq2, hq3, hq4⟩ := hq
                      try obtain ⟨hq0, hq1, hq2, hq3⟩ := hq
                      try obtain ⟨hq0, hq1, hq2⟩ := hq
                      try obtain ⟨hq0, hq1⟩ := hq
                      go_simp
                      try with_reducible rfl
                    try simp only [Act.put, List.setIfInBounds_toArray, List.set_cons_zero, List.set_cons_succ]
                    refine' wpAnyL_take (i := 5) ?hi119 (by kernel_rfl) (by kernel_rfl) (by kernel_rfl) (by kernel_rfl) ?hQ119 ?hy119 hS ?rest119
                    case hi119 => simp only [List.getElem?_toArray, List.getElem?_cons_succ, List.getElem?_cons_zero]; rfl
                    case hQ119 => exact fun _ _ _ h => h
                    case hy119 =>
                      refine Or.inl ⟨by rfl, ?_⟩
                      intro wq hq
                      try dsimp only at hq
                      try obtain ⟨hq0, hq1, hq2, hq3, hq4, hq5, hq6⟩ := hq
                      try obtain ⟨hq0, hq1, hq2, hq3, hq4, hq5⟩ := hq
                      try obtain ⟨hq0, hq1, hq2, hq3, hq4⟩ := hq
                      try obtain ⟨hq0, hq1, hq2, hq3⟩ := hq
                      try obtain ⟨hq0, hq1, hq2⟩ := hq
                      try obtain ⟨hq0, hq1⟩ := hq
                      go_simp
                      try with_reducible rfl
                    try simp only [Act.put, List.setIfInBounds_toArray, List.set_cons_zero, List.set_cons_succ]
                    refine' wpAnyL_take (i := 6) ?hi120 (by kernel_rfl) (by kernel_rfl) (by kernel_rfl) (by kernel_rfl) ?hQ120 ?hy120 hS ?rest120
                    case hi120 => simp only [List.getElem?_toArray, List.getElem?_cons_succ, List.getElem?_cons_zero]; rfl
                    case hQ120 => exact fun _ _ _ h => h
                    case hy120 =>
                      refine Or.inl ⟨by rfl, ?_⟩
                      intro wq hq
                      try dsimp only at hq
                      try obtain ⟨hq0, hq1, hq2, hq3, hq4, hq5, hq6⟩ := hq
                      try obtain ⟨hq0, hq1, hq2, hq3, hq4, hq5⟩ := hq
                      try obtain ⟨hq0, hq1, hq2, hq3, hq4⟩ := hq
                      try obtain ⟨hq0, hq1, hq2, hq3⟩ := hq
                      try obtain ⟨hq0, hq1, hq2⟩ := hq
                      try obtain ⟨hq0, hq1⟩ := hq
                      go_simp
                      try with_reducible rfl
                    try simp only [Act.put, List.setIfInBounds_toArray, List.set_cons_zero, List.set_cons_succ]
                    refine' wpAnyL_take (i := 7) ?hi121 (by kernel_rfl) (by kernel_rfl) (by kernel_rfl) (by kernel_rfl) ?hQ121 ?hy121 hS ?rest121
                    case hi121 => simp only [List.getElem?_toArray, List.getElem?_cons_succ, List.getElem?_cons_zero]; rfl
                    case hQ121 => exact fun _ _ _ h => h
                    case hy121 =>
                      refine Or.inl ⟨by rfl, ?_⟩
                      intro wq hq
                      try dsimp only at hq
                      try obtain ⟨hq0, hq1, hq2, hq3, hq4, hq5, hq6⟩ := hq
                      try obtain ⟨hq0, hq1, hq2, hq3, hq4, hq5⟩ := hq
                      try obtain ⟨hq0, hq1, hq2, hq3, hq4⟩ := hq
                      try obtain ⟨hq0, hq1, hq2, hq3⟩ := hq
                      try obtain ⟨hq0, hq1, hq2⟩ := hq
                      try obtain ⟨hq0, hq1⟩ := hq
                      go_simp
                      try with_reducible rfl
                    try simp only [Act.put, List.setIfInBounds_toArray, List.set_cons_zero, List.set_cons_succ]
                    refine' wpAnyL_take (i := 8) ?hi122 (by kernel_rfl) (by kernel_rfl) (by kernel_rfl) (by kernel_rfl) ?hQ122 ?hy122 hS ?rest122
                    case hi122 => simp only [List.getElem?_toArray, List.getElem?_cons_succ, List.getElem?_cons_zero]; rfl
                    case hQ122 => exact fun _ _ _ h => h
                    case hy122 =>
                      refine Or.inl ⟨by rfl, ?_⟩
                      intro wq hq
                      try dsimp only at hq
                      try obtain ⟨hq0, hq1, hq2, hq3, hq4, hq5, hq6⟩ := hq
                      try obtain ⟨hq0, hq1, hq2, hq3, hq4, hq5⟩ := hq
                      try obtain ⟨hq0, hq1, hq2, hq3, hq4⟩ := hq
                      try obtain ⟨hq0, hq1, hq2, hq3⟩ := hq
                      try obtain ⟨hq0, hq1, hq2⟩ := hq
                      try obtain ⟨hq0, hq1⟩ := hq
                      go_simp
                      try with_reducible rfl
                    try simp only [Act.put, List.setIfInBounds_toArray, List.set_cons_zero, List.set_cons_succ]
                    refine' wpAnyL_take (i := 9) ?hi123 (by kernel_rfl) (by kernel_rfl) (by kernel_rfl) (by kernel_rfl) ?hQ123 ?hy123 hS ?rest123
                    case hi123 => simp only [List.getElem?_toArray, List.getElem?_cons_succ, List.getElem?_cons_zero]; rfl
                    case hQ123 => exact fun _ _ _ h => h
                    case hy123 =>
                      refine Or.inl ⟨by rfl, ?_⟩
                      intro wq hq
                      try dsimp only at hq
                      try obtain ⟨hq0, hq1, hq2, hq3, hq4, hq5, hq6⟩ := hq
                      try obtain ⟨hq0, hq1, hq2, hq3, hq4, hq5⟩ := hq
                      try obtain ⟨hq0, hq1, hq2, hq3, hq4⟩ := hq
                      try obtain ⟨hq0, hq1, hq2, hq3⟩ := hq
                      try obtain ⟨hq0, hq1, hq2⟩ := hq
                      try obtain ⟨hq0, hq1⟩ := hq
                      go_simp
                      try with_reducible rfl
                    try simp only [Act.put, List.setIfInBounds_toArray, List.set_cons_zero, List.set_cons_succ]
                    refine' wpAnyL_take (i := 10) ?hi124 (by kernel_rfl) (by kernel_rfl) (by kernel_rfl) (by kernel_rfl) ?hQ124 ?hy124 hS ?rest124
                    case hi124 => simp only [List.getElem?_toArray, List.getElem?_cons_succ, List.getElem?_cons_zero]; rfl
                    case hQ124 => exact fun _ _ _ h => h
                    case hy124 =>
                      refine Or.inl ⟨by rfl, ?_⟩
                      intro wq hq
                      try dsimp only at hq
                      try obtain ⟨hq0, hq1, hq2, hq3, hq4, hq5, hq6⟩ := hq
                      try obtain ⟨hq0, hq1, hq2, hq3, hq4, hq5⟩ := hq
                      try obtain ⟨hq0, hq1, hq2, hq3, hq4⟩ := hq
                      try obtain ⟨hq0, hq1, hq2, hq3⟩ := hq
                      try obtain ⟨hq0, hq1, hq2⟩ := hq
                      try obtain ⟨hq0, hq1⟩ := hq
                      go_simp
                      try with_reducible rfl
                    try simp only [Act.put, List.setIfInBounds_toArray, List.set_cons_zero, List.set_cons_succ]
                    refine' wpAnyL_take (i := 11) ?hi125 (by kernel_rfl) (by kernel_rfl) (by kernel_rfl) (by kernel_rfl) ?hQ125 ?hy125 hS ?rest125
                    case hi125 => simp only [List.getElem?_toArray, List.getElem?_cons_succ, List.getElem?_cons_zero]; rfl
                    case hQ125 => exact fun _ _ _ h => h
                    case hy125 =>
                      refine Or.inl ⟨by rfl, ?_⟩
                      intro wq hq
                      try dsimp only at hq
                      try obtain ⟨hq0, hq1, hq2, hq3, hq4, hq5, hq6⟩ := hq
                      try obtain ⟨hq0, hq1, hq2, hq3, hq4, hq5⟩ := hq
                      try obtain ⟨hq0, hq1, hq2, hq3, hq4⟩ := hq
                      try obtain ⟨hq0, hq1, hq2, hq3⟩ := hq
                      try obtain ⟨hq0, hq1, hq2⟩ := hq
                      try obtain ⟨hq0, hq1⟩ := hq
                      go_simp
                      try with_reducible rfl
                    try simp only [Act.put, List.setIfInBounds_toArray, List.set_cons_zero, List.set_cons_succ]
                    refine wpAnyL_ready (rs := [12]) (by kernel_rfl) (by simp) ?_
                    refine' ReadyL.cons ?ho126 (fun K hK => ?step126) ?more126
                    case ho126 => simp only [List.getElem?_toArray, List.getElem?_cons_succ, List.getElem?_cons_zero]; rfl
                    case step126 =>
                      go_simp
                      refine (HOO.out _ (Below.drew (Below.refl _ _)) u.nm.s).mono ?_
                      rintro e w1 ⟨rfl, rfl⟩
                      refine hK.out _ _ (.inr hS) ?_
                      clear hK K
                      try simp only [Act.put, List.setIfInBounds_toArray, List.set_cons_zero, List.set_cons_succ]
                      refine' wpAnyL_take (i := 13) ?hi127 (by kernel_rfl) (by kernel_rfl) (by kernel_rfl) (by kernel_rfl) ?hQ127 ?hy127 hS ?rest127
                      case hi127 => simp only [List.getElem?_toArray, List.getElem?_cons_succ, List.getElem?_cons_zero]; rfl
                      case hQ127 => exact fun _ _ _ h => h
                      case hy127 =>
                        refine Or.inl ⟨by rfl, ?_⟩
                        intro wq hq
                        try dsimp only at hq
                        try obtain ⟨hq0, hq1, hq2, hq3, hq4, hq5, hq6⟩ := hq
                        try obtain ⟨hq0, hq1, hq2, hq3, hq4, hq5⟩ := hq
                        try obtain ⟨hq0, hq1, hq2, hq3, hq4⟩ := hq
                        try obtain ⟨hq0, hq1, hq2, hq3⟩ := hq
                        try obtain ⟨hq0, hq1, hq2⟩ := hq
                        try obtain ⟨hq0, hq1⟩ := hq
                        go_simp
                        try with_reducible rfl
                      try simp only [Act.put, List.setIfInBounds_toArray, List.set_cons_zero, List.set_cons_succ]
                      refine' wpAnyL_take (i := 14) ?hi128 (by kernel_rfl) (by kernel_rfl) (by kernel_rfl) (by kernel_rfl) ?hQ128 ?hy128 hS ?rest128
                      case hi128 => simp only [List.getElem?_toArray, List.getElem?_cons_succ, List.getElem?_cons_zero]; rfl
                      case hQ128 => exact fun _ _ _ h => h
                      case hy128 =>
                        refine Or.inl ⟨by rfl, ?_⟩
                        intro wq hq
                        try dsimp only at hq
                        try obtain ⟨hq0, hq1, hq2, hq3, hq4, hq5, hq6⟩ := hq
                        try obtain ⟨hq0, hq1, hq2, hq3, hq4, hq5⟩ := hq
                        try obtain ⟨hq0, hq1, hq2, hq3, hq4⟩ := hq
                        try obtain ⟨hq0, hq1, hq2, hq3⟩ := hq
                        try obtain ⟨hq0, hq1, hq2⟩ := hq
                        try obtain ⟨hq0, hq1⟩ := hq
                        go_simp
                        try with_reducible rfl
                      try simp only [Act.put, List.setIfInBounds_toArray, List.set_cons_zero, List.set_cons_succ]
                      refine' wpAnyL_take (i := 15) ?hi129 (by kernel_rfl) (by kernel_rfl) (by kernel_rfl) (by kernel_rfl) ?hQ129 ?hy129 hS ?rest129
                      case hi129 => simp only [List.getElem?_toArray, List.getElem?_cons_succ, List.getElem?_cons_zero]; rfl
                      case hQ129 => exact fun _ _ _ h => h
                      case hy129 =>
                        refine Or.inl ⟨by rfl, ?_⟩
                        intro wq hq
                        try dsimp only at hq
                        try obtain ⟨hq0, hq1, hq2, hq3, hq4, hq5, hq6⟩ := hq
                        try obtain ⟨hq0, hq1, hq2, hq3, hq4, hq5⟩ := hq
                        try obtain ⟨hq0, hq1, hq2, hq3, hq4⟩ := hq
                        try obtain ⟨hq0, hq1, hq2, hq3⟩ := hq
                        try obtain ⟨hq0, hq1, hq2⟩ := hq
                        try obtain ⟨hq0, hq1⟩ := hq
                        go_simp
                        try with_reducible rfl
                      try simp only [Act.put, List.setIfInBounds_toArray, List.set_cons_zero, List.set_cons_succ]
                      refine' wpAnyL_take (i := 16) ?hi130 (by kernel_rfl) (by kernel_rfl) (by kernel_rfl) (by kernel_rfl) ?hQ130 ?hy130 hS ?rest130
                      case hi130 => simp only [List.getElem?_toArray, List.getElem?_cons_succ, List.getElem?_cons_zero]; rfl
                      case hQ130 => exact fun _ _ _ h => h
                      case hy130 =>
                        refine Or.inl ⟨by rfl, ?_⟩
                        intro wq hq
                        try dsimp only at hq
                        try obtain ⟨hq0, hq1, hq2, hq3, hq4, hq5, hq6⟩ := hq
                        try obtain ⟨hq0, hq1, hq2, hq3, hq4, hq5⟩ := hq
                        try obtain ⟨hq0, hq1, hq2, hq3, hq4⟩ := hq
                        try obtain ⟨hq0, hq1, hq2, hq3⟩ := hq
                        try obtain ⟨hq0, hq1, hq2⟩ := hq
                        try obtain ⟨hq0, hq1⟩ := hq
                        go_simp
                        try with_reducible rfl
                      try simp only [Act.put, List.setIfInBounds_toArray, List.set_cons_zero, List.set_cons_succ]
                      refine' wpAnyL_take (i := 17) ?hi131 (by kernel_rfl) (by kernel_rfl) (by kernel_rfl) (by kernel_rfl) ?hQ131 ?hy131 hS ?rest131
                      case hi131 => simp only [List.getElem?_toArray, List.getElem?_cons_succ, List.getElem?_cons_zero]; rfl
                      case hQ131 => exact fun _ _ _ h => h
                      case hy131 =>
                        refine Or.inl ⟨by rfl, ?_⟩
                        intro wq hq
                        try dsimp only at hq
                        try obtain ⟨hq0, hq1, hq2, hq3, hq4, hq5, hq6⟩ := hq
                        try obtain ⟨hq0, hq1, hq2, hq3, hq4, hq5⟩ := hq
                        try obtain ⟨hq0, hq1, hq2, hq3, hq4⟩ := hq
                        try obtain ⟨hq0, hq1, hq2, hq3⟩ := hq
                        try obtain ⟨hq0, hq1, hq2⟩ := hq
                        try obtain ⟨hq0, hq1⟩ := hq
                        go_simp
                        try with_reducible rfl
                      try simp only [Act.put, List.setIfInBounds_toArray, List.set_cons_zero, List.set_cons_succ]
                      refine' wpAnyL_take (i := 18) ?hi132 (by kernel_rfl) (by kernel_rfl) (by kernel_rfl) (by kernel_rfl) ?hQ132 ?hy132 hS ?rest132
                      case hi132 => simp only [List.getElem?_toArray, List.getElem?_cons_succ, List.getElem?_cons_zero]; rfl
                      case hQ132 => exact fun _ _ _ h => h
                      case hy132 =>
                        refine Or.inl ⟨by rfl, ?_⟩
                        intro wq hq
                        try dsimp only at hq
                        try obtain ⟨hq0, hq1, hq2, hq3, hq4, hq5, hq6⟩ := hq
                        try obtain ⟨hq0, hq1, hq2, hq3, hq4, hq5⟩ := hq
                        try obtain ⟨hq0, hq1, hq2, hq3, hq4⟩ := hq
                        try obtain ⟨hq0, hq1, hq2, hq3⟩ := hq
                        try obtain ⟨hq0, hq1, hq2⟩ := hq
                        try obtain ⟨hq0, hq1⟩ := hq
                        go_simp
                        try with_reducible rfl
                      try simp only [Act.put, List.setIfInBounds_toArray, List.set_cons_zero, List.set_cons_succ]
                      refine' wpAnyL_take (i := 19) ?hi133 (by kernel_rfl) (by kernel_rfl) (by kernel_rfl) (by kernel_rfl) ?hQ133 ?hy133 hS ?rest133
                      case hi133 => simp only [List.getElem?_toArray, List.getElem?_cons_succ, List.getElem?_cons_zero]; rfl
                      case hQ133 => exact fun _ _ _ h => h
                      case hy133 =>
                        refine Or.inl ⟨by rfl, ?_⟩
                        intro wq hq
                        try dsimp only at hq
                        try obtain ⟨hq0, hq1, hq2, hq3, hq4, hq5, hq6⟩ := hq
                        try obtain ⟨hq0, hq1, hq2, hq3, hq4, hq5⟩ := hq
                        try obtain ⟨hq0, hq1, hq2, hq3, hq4⟩ := hq
                        try obtain ⟨hq0, hq1, hq2, hq3⟩ := hq
                        try obtain ⟨hq0, hq1, hq2⟩ := hq
                        try obtain ⟨hq0, hq1⟩ := hq
                        go_simp
                        try with_reducible rfl
                      try simp only [Act.put, List.setIfInBounds_toArray, List.set_cons_zero, List.set_cons_succ]
                      refine' wpAnyL_take (i := 20) ?hi134 (by kernel_rfl) (by kernel_rfl) (by kernel_rfl) (by kernel_rfl) ?hQ134 ?hy134 hS ?rest134
                      case hi134 => simp only [List.getElem?_toArray, List.getElem?_cons_succ, List.getElem?_cons_zero]; rfl
                      case hQ134 => exact fun _ _ _ h => h
                      case hy134 =>
                        refine Or.inl ⟨by rfl, ?_⟩
                        intro wq hq
                        try dsimp only at hq
                        try obtain ⟨hq0, hq1, hq2, hq3, hq4, hq5, hq6⟩ := hq
                        try obtain ⟨hq0, hq1, hq2, hq3, hq4, hq5⟩ := hq
                        try obtain ⟨hq0, hq1, hq2, hq3, hq4⟩ := hq
                        try obtain ⟨hq0, hq1, hq2, hq3⟩ := hq
                        try obtain ⟨hq0, hq1, hq2⟩ := hq
                        try obtain ⟨hq0, hq1⟩ := hq
                        go_simp
                        try with_reducible rfl
                      try simp only [Act.put, List.setIfInBounds_toArray, List.set_cons_zero, List.set_cons_succ]
                      refine' wpAnyL_take (i := 21) ?hi135 (by kernel_rfl) (by kernel_rfl) (by kernel_rfl) (by kernel_rfl) ?hQ135 ?hy135 hS ?rest135
                      case hi135 => simp only [List.getElem?_toArray, List.getElem?_cons_succ, List.getElem?_cons_zero]; rfl
                      case hQ135 => exact fun _ _ _ h => h
                      case hy135 =>
                        refine Or.inl ⟨by rfl, ?_⟩
                        intro wq hq
                        try dsimp only at hq
                        try obtain ⟨hq0, hq1, hq2, hq3, hq4, hq5, hq6⟩ := hq
                        try obtain ⟨hq0, hq1, hq2, hq3, hq4, hq5⟩ := hq
                        try obtain ⟨hq0, hq1, hq2, hq3, hq4⟩ := hq
                        try obtain ⟨hq0, hq1, hq2, hq3⟩ := hq
                        try obtain ⟨hq0, hq1, hq2⟩ := hq
                        try obtain ⟨hq0, hq1⟩ := hq
                        go_simp
                        try with_reducible rfl
                      try simp only [Act.put, List.setIfInBounds_toArray, List.set_cons_zero, List.set_cons_succ]
                      refine' wpAnyL_take (i := 22) ?hi136 (by kernel_rfl) (by kernel_rfl) (by kernel_rfl) (by kernel_rfl) ?hQ136 ?hy136 hS ?rest136
                      case hi136 => simp only [List.getElem?_toArray, List.getElem?_cons_succ, List.getElem?_cons_zero]; rfl
                      case hQ136 => exact fun _ _ _ h => h
                      case hy136 =>
                        refine Or.inl ⟨by rfl, ?_⟩
                        intro wq hq
                        try dsimp only at hq
                        try obtain ⟨hq0, hq1, hq2, hq3, hq4, hq5, hq6⟩ := hq
                        try obtain ⟨hq0, hq1, hq2, hq3, hq4, hq5⟩ := hq
                        try obtain ⟨hq0, hq1, hq2, hq3, hq4⟩ := hq
                        try obtain ⟨hq0, hq1, hq2, hq3⟩ := hq
                        try obtain ⟨hq0, hq1, hq2⟩ := hq
                        try obtain ⟨hq0, hq1⟩ := hq
                        go_simp
                        try with_reducible rfl
                      try simp only [Act.put, List.setIfInBounds_toArray, List.set_cons_zero, List.set_cons_succ]
                      refine' wpAnyL_take (i := 23) ?hi137 (by kernel_rfl) (by kernel_rfl) (by kernel_rfl) (by kernel_rfl) ?hQ137 ?hy137 hS ?rest137
                      case hi137 => simp only [List.getElem?_toArray, List.getElem?_cons_succ, List.getElem?_cons_zero]; rfl
                      case hQ137 => exact fun _ _ _ h => h
                      case hy137 =>
                        refine Or.inl ⟨by rfl, ?_⟩
                        intro wq hq
                        try dsimp only at hq
                        try obtain ⟨hq0, hq1, hq2, hq3, hq4, hq5, hq6⟩ := hq
                        try obtain ⟨hq0, hq1, hq2, hq3, hq4, hq5⟩ := hq
                        try obtain ⟨hq0, hq1, hq2, hq3, hq4⟩ := hq
                        try obtain ⟨hq0, hq1, hq2, hq3⟩ := hq
                        try obtain ⟨hq0, hq1, hq2⟩ := hq
                        try obtain ⟨hq0, hq1⟩ := hq
                        go_simp
                        try with_reducible rfl
                      try simp only [Act.put, List.setIfInBounds_toArray, List.set_cons_zero, List.set_cons_succ]
                      refine' wpAnyL_take (i := 24) ?hi138 (by kernel_rfl) (by kernel_rfl) (by kernel_rfl) (by kernel_rfl) ?hQ138 ?hy138 hS ?rest138
                      case hi138 => simp only [List.getElem?_toArray, List.getElem?_cons_succ, List.getElem?_cons_zero]; rfl
                      case hQ138 => exact fun _ _ _ h => h
                      case hy138 =>
                        refine Or.inl ⟨by rfl, ?_⟩
                        intro wq hq
                        try dsimp only at hq
                        try obtain ⟨hq0, hq1, hq2, hq3, hq4, hq5, hq6⟩ := hq
                        try obtain ⟨hq0, hq1, hq2, hq3, hq4, hq5⟩ := hq
                        try obtain ⟨hq0, hq1, hq2, hq3, hq4⟩ := hq
                        try obtain ⟨hq0, hq1, hq2, hq3⟩ := hq
                        try obtain ⟨hq0, hq1, hq2⟩ := hq
                        try obtain ⟨hq0, hq1⟩ := hq
                        go_simp
                        try with_reducible rfl
                      try simp only [Act.put, List.setIfInBounds_toArray, List.set_cons_zero, List.set_cons_succ]
                      refine' wpAnyL_take (i := 25) ?hi139 (by kernel_rfl) (by kernel_rfl) (by kernel_rfl) (by kernel_rfl) ?hQ139 ?hy139 hS ?rest139
                      case hi139 => simp only [List.getElem?_toArray, List.getElem?_cons_succ, List.getElem?_cons_zero]; rfl
                      case hQ139 => exact fun _ _ _ h => h
                      case hy139 =>
                        refine Or.inl ⟨by rfl, ?_⟩
                        intro wq hq
                        try dsimp only at hq
                        try obtain ⟨hq0, hq1, hq2, hq3, hq4, hq5, hq6⟩ := hq
                        try obtain ⟨hq0, hq1, hq2, hq3, hq4, hq5⟩ := hq
                        try obtain ⟨hq0, hq1, hq2, hq3, hq4⟩ := hq
                        try obtain ⟨hq0, hq1, hq2, hq3⟩ := hq
                        try obtain ⟨hq0, hq1, hq2⟩ := hq
                        try obtain ⟨hq0, hq1⟩ := hq
                        go_simp
                        try with_reducible rfl
                      try simp only [Act.put, List.setIfInBounds_toArray, List.set_cons_zero, List.set_cons_succ]
                      refine' wpAnyL_take (i := 26) ?hi140 (by kernel_rfl) (by kernel_rfl) (by kernel_rfl) (by kernel_rfl) ?hQ140 ?hy140 hS ?rest140
                      case hi140 => simp only [List.getElem?_toArray, List.getElem?_cons_succ, List.getElem?_cons_zero]; rfl
                      case hQ140 => exact fun _ _ _ h => h
                      case hy140 =>
                        refine Or.inl ⟨by rfl, ?_⟩
                        intro wq hq
                        try dsimp only at hq
                        try obtain ⟨hq0, hq1, hq2, hq3, hq4, hq5, hq6⟩ := hq
                        try obtain ⟨hq0, hq1, hq2, hq3, hq4, hq5⟩ := hq
                        try obtain ⟨hq0, hq1, hq2, hq3, hq4⟩ := hq
                        try obtain ⟨hq0, hq1, hq2, hq3⟩ := hq
                        try obtain ⟨hq0, hq1, hq2⟩ := hq
                        try obtain ⟨hq0, hq1⟩ := hq
                        go_simp
                        try with_reducible rfl
                      try simp only [Act.put, List.setIfInBounds_toArray, List.set_cons_zero, List.set_cons_succ]
                      refine' wpAnyL_take (i := 27) ?hi141 (by kernel_rfl) (by kernel_rfl) (by kernel_rfl) (by kernel_rfl) ?hQ141 ?hy141 hS ?rest141
                      case hi141 => simp only [List.getElem?_toArray, List.getElem?_cons_succ, List.getElem?_cons_zero]; rfl
                      case hQ141 => exact fun _ _ _ h => h
                      case hy141 =>
                        refine Or.inl ⟨by rfl, ?_⟩
                        intro wq hq
                        try dsimp only at hq
                        try obtain ⟨hq0, hq1, hq2, hq3, hq4, hq5, hq6⟩ := hq
                        try obtain ⟨hq0, hq1, hq2, hq3, hq4, hq5⟩ := hq
                        try obtain ⟨hq0, hq1, hq2, hq3, hq4⟩ := hq
                        try obtain ⟨hq0, hq1, hq2, hq3⟩ := hq
                        try obtain ⟨hq0, hq1, hq2⟩ := hq
                        try obtain ⟨hq0, hq1⟩ := hq
                        go_simp
                        try with_reducible rfl
                      try simp only [Act.put, List.setIfInBounds_toArray, List.set_cons_zero, List.set_cons_succ]
                      refine' wpAnyL_take (i := 28) ?hi142 (by kernel_rfl) (by kernel_rfl) (by kernel_rfl) (by kernel_rfl) ?hQ142 ?hy142 hS ?rest142
                      case hi142 => simp only [List.getElem?_toArray, List.getElem?_cons_succ, List.getElem?_cons_zero]; rfl
                      case hQ142 => exact fun _ _ _ h => h
                      case hy142 =>
                        refine Or.inl ⟨by rfl, ?_⟩
                        intro wq hq
                        try dsimp only at hq
                        try obtain ⟨hq0, hq1, hq2, hq3, hq4, hq5, hq6⟩ := hq
                        try obtain ⟨hq0, hq1, hq2, hq3, hq4, hq5⟩ := hq
                        try obtain ⟨hq0, hq1, hq2, hq3, hq4⟩ := hq
                        try obtain ⟨hq0, hq1, hq2, hq3⟩ := hq
                        try obtain ⟨hq0, hq1, hq2⟩ := hq
                        try obtain ⟨hq0, hq1⟩ := hq
                        go_simp
                        try with_reducible rfl
                      try simp only [Act.put, List.setIfInBounds_toArray, List.set_cons_zero, List.set_cons_succ]
                      refine' wpAnyL_take (i := 29) ?hi143 (by kernel_rfl) (by kernel_rfl) (by kernel_rfl) (by kernel_rfl) ?hQ143 ?hy143 hS ?rest143
                      case hi143 => simp only [List.getElem?_toArray, List.getElem?_cons_succ, List.getElem?_cons_zero]; rfl
                      case hQ143 => exact fun _ _ _ h => h
                      case hy143 =>
                        refine Or.inl ⟨by rfl, ?_⟩
                        intro wq hq
                        try dsimp only at hq
                        try obtain ⟨hq0, hq1, hq2, hq3, hq4, hq5, hq6⟩ := hq
                        try obtain ⟨hq0, hq1, hq2, hq3, hq4, hq5⟩ := hq
                        try obtain ⟨hq0, hq1, hq2, hq3, hq4⟩ := hq
                        try obtain ⟨hq0, hq1, hq2, hq3⟩ := hq
                        try obtain ⟨hq0, hq1, hq2⟩ := hq
                        try obtain ⟨hq0, hq1⟩ := hq
                        go_simp
                        try with_reducible rfl
                      try simp only [Act.put, List.setIfInBounds_toArray, List.set_cons_zero, List.set_cons_succ]
                      refine' wpAnyL_take (i := 30) ?hi144 (by kernel_rfl) (by kernel_rfl) (by kernel_rfl) (by kernel_rfl) ?hQ144 ?hy144 hS ?rest144
                      case hi144 => simp only [List.getElem?_toArray, List.getElem?_cons_succ, List.getElem?_cons_zero]; rfl
                      case hQ144 => exact fun _ _ _ h => h
                      case hy144 =>
                        refine Or.inl ⟨by rfl, ?_⟩
                        intro wq hq
                        try dsimp only at hq
                        try obtain ⟨hq0, hq1, hq2, hq3, hq4, hq5, hq6⟩ := hq
                        try obtain ⟨hq0, hq1, hq2, hq3, hq4, hq5⟩ := hq
                        try obtain ⟨hq0, hq1, hq2, hq3, hq4⟩ := hq
                        try obtain ⟨hq0, hq1, hq2, hq3⟩ := hq
                        try obtain ⟨hq0, hq1, hq2⟩ := hq
                        try obtain ⟨hq0, hq1⟩ := hq
                        go_simp
                        try with_reducible rfl
                      try simp only [Act.put, List.setIfInBounds_toArray, List.set_cons_zero, List.set_cons_succ]
                      refine' wpAnyL_take (i := 31) ?hi145 (by kernel_rfl) (by kernel_rfl) (by kernel_rfl) (by kernel_rfl) ?hQ145 ?hy145 hS ?rest145
                      case hi145 => simp only [List.getElem?_toArray, List.getElem?_cons_succ, List.getElem?_cons_zero]; rfl
                      case hQ145 => exact fun _ _ _ h => h
                      case hy145 =>
                        refine Or.inl ⟨by rfl, ?_⟩
                        intro wq hq
                        try dsimp only at hq
                        try obtain ⟨hq0, hq1, hq2, hq3, hq4, hq5, hq6⟩ := hq
                        try obtain ⟨hq0, hq1, hq2, hq3, hq4, hq5⟩ := hq
                        try obtain ⟨hq0, hq1, hq2, hq3, hq4⟩ := hq
                        try obtain ⟨hq0, hq1, hq2, hq3⟩ := hq
                        try obtain ⟨hq0, hq1, hq2⟩ := hq
                        try obtain ⟨hq0, hq1⟩ := hq
                        go_simp
                        try with_reducible rfl
                      try simp only [Act.put, List.setIfInBounds_toArray, List.set_cons_zero, List.set_cons_succ]
                      refine' wpAnyL_take (i := 32) ?hi146 (by kernel_rfl) (by kernel_rfl) (by kernel_rfl) (by kernel_rfl) ?hQ146 ?hy146 hS ?rest146
                      case hi146 => simp only [List.getElem?_toArray, List.getElem?_cons_succ, List.getElem?_cons_zero]; rfl
                      case hQ146 => exact fun _ _ _ h => h
                      case hy146 =>
                        refine Or.inl ⟨by rfl, ?_⟩
                        intro wq hq
                        try dsimp only at hq
                        try obtain ⟨hq0, hq1, hq2, hq3, hq4, hq5, hq6⟩ := hq
                        try obtain ⟨hq0, hq1, hq2, hq3, hq4, hq5⟩ := hq
                        try obtain ⟨hq0, hq1, hq2, hq3, hq4⟩ := hq
                        try obtain ⟨hq0, hq1, hq2, hq3⟩ := hq
                        try obtain ⟨hq0, hq1, hq2⟩ := hq
                        try obtain ⟨hq0, hq1⟩ := hq
                        go_simp
                        try with_reducible rfl
                      try simp only [Act.put, List.setIfInBounds_toArray, List.set_cons_zero, List.set_cons_succ]
                      refine wpAnyL_done (by kernel_rfl) ?_ _
                      go_wp2_with fail
                      go_meet
                      exact ⟨by rw [HE.out], Below.drew (Below.refl _ _)⟩
                    exact ReadyL.nil
                · have hna1 : ¬ (a : Int) < (n : Int) := by omega
                  have HE : Hid (endsAt (ts.map KT.ch) a (nmsOf ns) t.ch.nm = false) := by
                    show _ = _
                    unfold endsAt
                    rw [List.getElem?_eq_none_iff.2 (by rw [List.length_map, H.out.len]; omega)]
                  clear hna
                  refine wp_region_lastB (S := (fun V => Below wd.heap.size wd V)) (Z := (fun _ => false)) (by kernel_rfl) ?_
                  have hS : Below wd.heap.size wd wd.drew := Below.drew (Below.refl _ _)
                  refine' wpAnyL_take (i := 0) ?hi147 (by kernel_rfl) (by kernel_rfl) (by kernel_rfl) (by kernel_rfl) ?hQ147 ?hy147 hS ?rest147
                  case hi147 => simp only [List.getElem?_toArray, List.getElem?_cons_zero]; rfl
                  case hQ147 => exact fun _ _ _ h => h
                  case hy147 =>
                    refine Or.inl ⟨by rfl, ?_⟩
                    intro wq hq
                    try dsimp only at hq
                    try obtain ⟨hq0, hq1, hq2, hq3, hq4, hq5, hq6⟩ := hq
                    try obtain ⟨hq0, hq1, hq2, hq3, hq4, hq5⟩ := hq
                    try obtain ⟨hq0, hq1, hq2, hq3, hq4⟩ := hq
                    try obtain ⟨hq0, hq1, hq2, hq3⟩ := hq
                    try obtain ⟨hq0, hq1, hq2⟩ := hq
                    try obtain ⟨hq0, hq1⟩ := hq
                    go_simp
                    try with_reducible rfl
                  try simp only [Act.put, List.setIfInBounds_toArray, List.set_cons_zero, List.set_cons_succ]
                  refine' wpAnyL_take (i := 1) ?hi148 (by kernel_rfl) (by kernel_rfl) (by kernel_rfl) (by kernel_rfl) ?hQ148 ?hy148 hS ?rest148
                  case hi148 => simp only [List.getElem?_toArray, List.getElem?_cons_succ, List.getElem?_cons_zero]; rfl
                  case hQ148 => exact fun _ _ _ h => h
                  case hy148 =>
                    refine Or.inl ⟨by rfl, ?_⟩
                    intro wq hq
                    try dsimp only at hq
                    try obtain ⟨hq0, hq1, hq2, hq3, hq4, hq5, hq6⟩ := hq
                    try obtain ⟨hq0, hq1, hq2, hq3, hq4, hq5⟩ := hq
                    try obtain ⟨hq0, hq1, hq2, hq3, hq4⟩ := hq
                    try obtain ⟨hq0, hq1, hq2, hq3⟩ := hq
                    try obtain ⟨hq0, hq1, hq2⟩ := hq
                    try obtain ⟨hq0, hq1⟩ := hq
                    go_simp
                    try with_reducible rfl
                  try simp only [Act.put, List.setIfInBounds_toArray, List.set_cons_zero, List.set_cons_succ]
                  refine' wpAnyL_take (i := 2) ?hi149 (by kernel_rfl) (by kernel_rfl) (by kernel_rfl) (by kernel_rfl) ?hQ149 ?hy149 hS ?rest149
                  case hi149 => simp only [List.getElem?_toArray, List.getElem?_cons_succ, List.getElem?_cons_zero]; rfl
                  case hQ149 => exact fun _ _ _ h => h
                  case hy149 =>
                    refine Or.inl ⟨by rfl, ?_⟩
                    intro wq hq
                    try dsimp only at hq
                    try obtain ⟨hq0, hq1, hq2, hq3, hq4, hq5, hq6⟩ := hq
                    try obtain ⟨hq0, hq1, hq2, hq3, hq4, hq5⟩ := hq
                    try obtain ⟨hq0, hq1, hq2, hq3, hq4⟩ := hq
                    try obtain ⟨hq0, hq1, hq2, hq3⟩ := hq
                    try obtain ⟨hq0, hq1, hq2⟩ := hq
                    try obtain ⟨hq0, hq1⟩ := hq
                    go_simp
                    try with_reducible rfl
                  try simp only [Act.put, List.setIfInBounds_toArray, List.set_cons_zero, List.set_cons_succ]
                  refine' wpAnyL_take (i := 3) ?hi150 (by kernel_rfl) (by kernel_rfl) (by kernel_rfl) (by kernel_rfl) ?hQ150 ?hy150 hS ?rest150
                  case hi150 => simp only [List.getElem?_toArray, List.getElem?_cons_succ, List.getElem?_cons_zero]; rfl
                  case hQ150 => exact fun _ _ _ h => h
                  case hy150 =>
                    refine Or.inl ⟨by rfl, ?_⟩
                    intro wq hq
                    try dsimp only at hq
                    try obtain ⟨hq0, hq1, hq2, hq3, hq4, hq5, hq6⟩ := hq
                    try obtain ⟨hq0, hq1, hq2, hq3, hq4, hq5⟩ := hq
                    try obtain ⟨hq0, hq1, hq2, hq3, hq4⟩ := hq
                    try obtain ⟨hq0, hq1, hq2, hq3⟩ := hq
                    try obtain ⟨hq0, hq1, hq2⟩ := hq
                    try obtain ⟨hq0, hq1⟩ := hq
                    go_simp
                    try with_reducible rfl
                  try simp only [Act.put, List.setIfInBounds_toArray, List.set_cons_zero, List.set_cons_succ]
                  refine' wpAnyL_take (i := 4) ?hi151 (by kernel_rfl) (by kernel_rfl) (by kernel_rfl) (by kernel_rfl) ?hQ151 ?hy151 hS ?rest151
                  case hi151 => simp only [List.getElem?_toArray, List.getElem?_cons_succ, List.getElem?_cons_zero]; rfl
                  case hQ151 => exact fun _ _ _ h => h
                  case hy151 =>
                    refine Or.inl ⟨by rfl, ?_⟩
                    intro wq hq
                    try dsimp only at hq
                    try obtain ⟨hq0, hq1, hq2, hq3, hq4, hq5, hq6⟩ := hq
                    try obtain ⟨hq0, hq1, hq2, hq3, hq4, hq5⟩ := hq
                    try obtain ⟨hq0, hq1, hq2, hq3, hq4⟩ := hq
                    try obtain ⟨hq0, hq1, hq2, hq3⟩ := hq
                    try obtain ⟨hq0, hq1, hq2⟩ := hq
                    try obtain ⟨hq0, hq1⟩ := hq
                    go_simp
                    try with_reducible rfl
                  try simp only [Act.put, List.setIfInBounds_toArray, List.set_cons_zero, List.set_cons_succ]
                  refine' wpAnyL_take (i := 5) ?hi152 (by kernel_rfl) (by kernel_rfl) (by kernel_rfl) (by kernel_rfl) ?hQ152 ?hy152 hS ?rest152
                  case hi152 => simp only [List.getElem?_toArray, List.getElem?_cons_succ, List.getElem?_cons_zero]; rfl
                  case hQ152 => exact fun _ _ _ h => h
                  case hy152 => exact Or.inr ⟨by rfl, rfl⟩
                  try simp only [Act.put, List.setIfInBounds_toArray, List.set_cons_zero, List.set_cons_succ]
                  refine' wpAnyL_take (i := 6) ?hi153 (by kernel_rfl) (by kernel_rfl) (by kernel_rfl) (by kernel_rfl) ?hQ153 ?hy153 hS ?rest153
                  case hi153 => simp only [List.getElem?_toArray, List.getElem?_cons_succ, List.getElem?_cons_zero]; rfl
                  case hQ153 => exact fun _ _ _ h => h
                  case hy153 => exact Or.inr ⟨by rfl, rfl⟩
                  try simp only [Act.put, List.setIfInBounds_toArray, List.set_cons_zero, List.set_cons_succ]
                  refine' wpAnyL_take (i := 7) ?hi154 (by kernel_rfl) (by kernel_rfl) (by kernel_rfl) (by kernel_rfl) ?hQ154 ?hy154 hS ?rest154
                  case hi154 => simp only [List.getElem?_toArray, List.getElem?_cons_succ, List.getElem?_cons_zero]; rfl
                  case hQ154 => exact fun _ _ _ h => h
                  case hy154 => exact Or.inr ⟨by rfl, rfl⟩
                  try simp only [Act.put, List.setIfInBounds_toArray, List.set_cons_zero, List.set_cons_succ]
                  refine' wpAnyL_take (i := 8) ?hi155 (by kernel_rfl) (by kernel_rfl) (by kernel_rfl) (by kernel_rfl) ?hQ155 ?hy155 hS ?rest155
                  case hi155 => simp only [List.getElem?_toArray, List.getElem?_cons_succ, List.getElem?_cons_zero]; rfl
                  case hQ155 => exact fun _ _ _ h => h
                  case hy155 => exact Or.inr ⟨by rfl, rfl⟩
                  try simp only [Act.put, List.setIfInBounds_toArray, List.set_cons_zero, List.set_cons_succ]
                  refine' wpAnyL_take (i := 9) ?hi156 (by kernel_rfl) (by kernel_rfl) (by kernel_rfl) (by kernel_rfl) ?hQ156 ?hy156 hS ?rest156
                  case hi156 => simp only [List.getElem?_toArray, List.getElem?_cons_succ, List.getElem?_cons_zero]; rfl
                  case hQ156 => exact fun _ _ _ h => h
                  case hy156 => exact Or.inr ⟨by rfl, rfl⟩
                  try simp only [Act.put, List.setIfInBounds_toArray, List.set_cons_zero, List.set_cons_succ]
                  refine' wpAnyL_take (i := 10) ?hi157 (by kernel_rfl) (by kernel_rfl) (by kernel_rfl) (by kernel_rfl) ?hQ157 ?hy157 hS ?rest157
                  case hi157 => simp only [List.getElem?_toArray, List.getElem?_cons_succ, List.getElem?_cons_zero]; rfl
                  case hQ157 => exact fun _ _ _ h => h
                  case hy157 => exact Or.inr ⟨by rfl, rfl⟩
                  try simp only [Act.put, List.setIfInBounds_toArray, List.set_cons_zero, List.set_cons_succ]
                  refine' wpAnyL_take (i := 11) ?hi158 (by kernel_rfl) (by kernel_rfl) (by kernel_rfl) (by kernel_rfl) ?hQ158 ?hy158 hS ?rest158
                  case hi158 => simp only [List.getElem?_toArray, List.getElem?_cons_succ, List.getElem?_cons_zero]; rfl
                  case hQ158 => exact fun _ _ _ h => h
                  case hy158 => exact Or.inr ⟨by rfl, rfl⟩
                  try simp only [Act.put, List.setIfInBounds_toArray, List.set_cons_zero, List.set_cons_succ]
                  refine' wpAnyL_take (i := 12) ?hi159 (by kernel_rfl) (by kernel_rfl) (by kernel_rfl) (by kernel_rfl) ?hQ159 ?hy159 hS ?rest159
                  case hi159 => simp only [List.getElem?_toArray, List.getElem?_cons_succ, List.getElem?_cons_zero]; rfl
                  case hQ159 => exact fun _ _ _ h => h
                  case hy159 => exact Or.inr ⟨by rfl, rfl⟩
                  try simp only [Act.put, List.setIfInBounds_toArray, List.set_cons_zero, List.set_cons_succ]
                  refine' wpAnyL_take (i := 13) ?hi160 (by kernel_rfl) (by kernel_rfl) (by kernel_rfl) (by kernel_rfl) ?hQ160 ?hy160 hS ?rest160
                  case hi160 => simp only [List.getElem?_toArray, List.getElem?_cons_succ, List.getElem?_cons_zero]; rfl
                  case hQ160 => exact fun _ _ _ h => h
                  case hy160 => exact Or.inr ⟨by rfl, rfl⟩
                  try simp only [Act.put, List.setIfInBounds_toArray, List.set_cons_zero, List.set_cons_succ]
                  refine' wpAnyL_take (i := 14) ?hi161 (by kernel_rfl) (by kernel_rfl) (by kernel_rfl) (by kernel_rfl) ?hQ161 ?hy161 hS ?rest161
                  case hi161 => simp only [List.getElem?_toArray, List.getElem?_cons_succ, List.getElem?_cons_zero]; rfl
                  case hQ161 => exact fun _ _ _ h => h
                  case hy161 =>
                    refine Or.inl ⟨by rfl, ?_⟩
                    intro wq hq
                    try dsimp only at hq
                    try obtain ⟨hq0, hq1, hq2, hq3, hq4, hq5, hq6⟩ := hq
                    try obtain ⟨hq0, hq1, hq2, hq3, hq4, hq5⟩ := hq
                    try obtain ⟨hq0, hq1, hq2, hq3, hq4⟩ := hq
                    try obtain ⟨hq0, hq1, hq2, hq3⟩ := hq
                    try obtain ⟨hq0, hq1, hq2⟩ := hq
                    try obtain ⟨hq0, hq1⟩ := hq
                    go_simp
                    try with_reducible rfl
                  try simp only [Act.put, List.setIfInBounds_toArray, List.set_cons_zero, List.set_cons_succ]
                  refine' wpAnyL_take (i := 15) ?hi162 (by kernel_rfl) (by kernel_rfl) (by kernel_rfl) (by kernel_rfl) ?hQ162 ?hy162 hS ?rest162
                  case hi162 => simp only [List.getElem?_toArray, List.getElem?_cons_succ, List.getElem?_cons_zero]; rfl
                  case hQ162 => exact fun _ _ _ h => h
                  case hy162 =>
                    refine Or.inl ⟨by rfl, ?_⟩
                    intro wq hq
                    try dsimp only at hq
                    try obtain ⟨hq0, hq1, hq2, hq3, hq4, hq5, hq6⟩ := hq
                    try obtain ⟨hq0, hq1, hq2, hq3, hq4, hq5⟩ := hq
                    try obtain ⟨hq0, hq1, hq2, hq3, hq4⟩ := hq
                    try obtain ⟨hq0, hq1, hq2, hq3⟩ := hq
                    try obtain ⟨hq0, hq1, hq2⟩ := hq
                    try obtain ⟨hq0, hq1⟩ := hq
                    go_simp
                    try with_reducible rfl
                  try simp only [Act.put, List.setIfInBounds_toArray, List.set_cons_zero, List.set_cons_succ]
                  refine' wpAnyL_take (i := 16) ?hi163 (by kernel_rfl) (by kernel_rfl) (by kernel_rfl) (by kernel_rfl) ?hQ163 ?hy163 hS ?rest163
                  case hi163 => simp only [List.getElem?_toArray, List.getElem?_cons_succ, List.getElem?_cons_zero]; rfl
                  case hQ163 => exact fun _ _ _ h => h
                  case hy163 =>
                    refine Or.inl ⟨by rfl, ?_⟩
                    intro wq hq
                    try dsimp only at hq
                    try obtain ⟨hq0, hq1, hq2, hq3, hq4, hq5, hq6⟩ := hq
                    try obtain ⟨hq0, hq1, hq2, hq3, hq4, hq5⟩ := hq
                    try obtain ⟨hq0, hq1, hq2, hq3, hq4⟩ := hq
                    try obtain ⟨hq0, hq1, hq2, hq3⟩ := hq
                    try obtain ⟨hq0, hq1, hq2⟩ := hq
                    try obtain ⟨hq0, hq1⟩ := hq
                    go_simp
                    try with_reducible rfl
                  try simp only [Act.put, List.setIfInBounds_toArray, List.set_cons_zero, List.set_cons_succ]
                  refine' wpAnyL_take (i := 17) ?hi164 (by kernel_rfl) (by kernel_rfl) (by kernel_rfl) (by kernel_rfl) ?hQ164 ?hy164 hS ?rest164
                  case hi164 => simp only [List.getElem?_toArray, List.getElem?_cons_succ, List.getElem?_cons_zero]; rfl
                  case hQ164 => exact fun _ _ _ h => h
                  case hy164 =>
                    refine Or.inl ⟨by rfl, ?_⟩
                    intro wq hq
                    try dsimp only at hq
                    try obtain ⟨hq0, hq1, hq2, hq3, hq4, hq5, hq6⟩ := hq
                    try obtain ⟨hq0, hq1, hq2, hq3, hq4, hq5⟩ := hq
                    try obtain ⟨hq0, hq1, hq2, hq3, hq4⟩ := hq
                    try obtain ⟨hq0, hq1, hq2, hq3⟩ := hq
                    try obtain ⟨hq0, hq1, hq2⟩ := hq
                    try obtain ⟨hq0, hq1⟩ := hq
                    go_simp
                    try with_reducible rfl
                  try simp only [Act.put, List.setIfInBounds_toArray, List.set_cons_zero, List.set_cons_succ]
                  refine' wpAnyL_take (i := 18) ?hi165 (by kernel_rfl) (by kernel_rfl) (by kernel_rfl) (by kernel_rfl) ?hQ165 ?hy165 hS ?rest165
                  case hi165 => simp only [List.getElem?_toArray, List.getElem?_cons_succ, List.getElem?_cons_zero]; rfl
                  case hQ165 => exact fun _ _ _ h => h
                  case hy165 =>
                    refine Or.inl ⟨by rfl, ?_⟩
                    intro wq hq
                    try dsimp only at hq
                    try obtain ⟨hq0, hq1, hq2, hq3, hq4, hq5, hq6⟩ := hq
                    try obtain ⟨hq0, hq1, hq2, hq3, hq4, hq5⟩ := hq
                    try obtain ⟨hq0, hq1, hq2, hq3, hq4⟩ := hq
                    try obtain ⟨hq0, hq1, hq2, hq3⟩ := hq
                    try obtain ⟨hq0, hq1, hq2⟩ := hq
                    try obtain ⟨hq0, hq1⟩ := hq
                    go_simp
                    try with_reducible rfl
                  try simp only [Act.put, List.setIfInBounds_toArray, List.set_cons_zero, List.set_cons_succ]
                  refine' wpAnyL_take (i := 19) ?hi166 (by kernel_rfl) (by kernel_rfl) (by kernel_rfl) (by kernel_rfl) ?hQ166 ?hy166 hS ?rest166
                  case hi166 => simp only [List.getElem?_toArray, List.getElem?_cons_succ, List.getElem?_cons_zero]; rfl
                  case hQ166 => exact fun _ _ _ h => h
                  case hy166 =>
                    refine Or.inl ⟨by rfl, ?_⟩
                    intro wq hq
                    try dsimp only at hq
                    try obtain ⟨hq0, hq1, hq2, hq3, hq4, hq5, hq6⟩ := hq
                    try obtain ⟨hq0, hq1, hq2, hq3, hq4, hq5⟩ := hq
                    try obtain ⟨hq0, hq1, hq2, hq3, hq4⟩ := hq
                    try obtain ⟨hq0, hq1, hq2, hq3⟩ := hq
                    try obtain ⟨hq0, hq1, hq2⟩ := hq
                    try obtain ⟨hq0, hq1⟩ := hq
                    go_simp
                    try with_reducible rfl
                  try simp only [Act.put, List.setIfInBounds_toArray, List.set_cons_zero, List.set_cons_succ]
                  refine' wpAnyL_take (i := 20) ?hi167 (by kernel_rfl) (by kernel_rfl) (by kernel_rfl) (by kernel_rfl) ?hQ167 ?hy167 hS ?rest167
                  case hi167 => simp only [List.getElem?_toArray, List.getElem?_cons_succ, List.getElem?_cons_zero]; rfl
                  case hQ167 => exact fun _ _ _ h => h
                  case hy167 =>
                    refine Or.inl ⟨by rfl, ?_⟩
                    intro wq hq
                    try dsimp only at hq
                    try obtain ⟨hq0, hq1, hq2, hq3, hq4, hq5, hq6⟩ := hq
                    try obtain ⟨hq0, hq1, hq2, hq3, hq4, hq5⟩ := hq
                    try obtain ⟨hq0, hq1, hq2, hq3, hq4⟩ := hq
                    try obtain ⟨hq0, hq1, hq2, hq3⟩ := hq
                    try obtain ⟨hq0, hq1, hq2⟩ := hq
                    try obtain ⟨hq0, hq1⟩ := hq
                    go_simp
                    try with_reducible rfl
                  try simp only [Act.put, List.setIfInBounds_toArray, List.set_cons_zero, List.set_cons_succ]
                  refine' wpAnyL_take (i := 21) ?hi168 (by kernel_rfl) (by kernel_rfl) (by kernel_rfl) (by kernel_rfl) ?hQ168 ?hy168 hS ?rest168
                  case hi168 => simp only [List.getElem?_toArray, List.getElem?_cons_succ, List.getElem?_cons_zero]; rfl
                  case hQ168 => exact fun _ _ _ h => h
                  case hy168 => exact Or.inr ⟨by rfl, rfl⟩
                  try simp only [Act.put, List.setIfInBounds_toArray, List.set_cons_zero, List.set_cons_succ]
                  refine' wpAnyL_take (i := 22) ?hi169 (by kernel_rfl) (by kernel_rfl) (by kernel_rfl) (by kernel_rfl) ?hQ169 ?hy169 hS ?rest169
                  case hi169 => simp only [List.getElem?_toArray, List.getElem?_cons_succ, List.getElem?_cons_zero]; rfl
                  case hQ169 => exact fun _ _ _ h => h
                  case hy169 => exact Or.inr ⟨by rfl, rfl⟩
                  try simp only [Act.put, List.setIfInBounds_toArray, List.set_cons_zero, List.set_cons_succ]
                  refine' wpAnyL_take (i := 23) ?hi170 (by kernel_rfl) (by kernel_rfl) (by kernel_rfl) (by kernel_rfl) ?hQ170 ?hy170 hS ?rest170
                  case hi170 => simp only [List.getElem?_toArray, List.getElem?_cons_succ, List.getElem?_cons_zero]; rfl
                  case hQ170 => exact fun _ _ _ h => h
                  case hy170 => exact Or.inr ⟨by rfl, rfl⟩
                  try simp only [Act.put, List.setIfInBounds_toArray, List.set_cons_zero, List.set_cons_succ]
                  refine' wpAnyL_take (i := 24) ?hi171 (by kernel_rfl) (by kernel_rfl) (by kernel_rfl) (by kernel_rfl) ?hQ171 ?hy171 hS ?rest171
                  case hi171 => simp only [List.getElem?_toArray, List.getElem?_cons_succ, List.getElem?_cons_zero]; rfl
                  case hQ171 => exact fun _ _ _ h => h
                  case hy171 => exact Or.inr ⟨by rfl, rfl⟩
                  try simp only [Act.put, List.setIfInBounds_toArray, List.set_cons_zero, List.set_cons_succ]
                  refine' wpAnyL_take (i := 25) ?hi172 (by kernel_rfl) (by kernel_rfl) (by kernel_rfl) (by kernel_rfl) ?hQ172 ?hy172 hS ?rest172
                  case hi172 => simp only [List.getElem?_toArray, List.getElem?_cons_succ, List.getElem?_cons_zero]; rfl
                  case hQ172 => exact fun _ _ _ h => h
                  case hy172 => exact Or.inr ⟨by rfl, rfl⟩
                  try simp only [Act.put, List.setIfInBounds_toArray, List.set_cons_zero, List.set_cons_succ]
                  refine' wpAnyL_take (i := 26) ?hi173 (by kernel_rfl) (by kernel_rfl) (by kernel_rfl) (by kernel_rfl) ?hQ173 ?hy173 hS ?rest173
                  case hi173 => simp only [List.getElem?_toArray, List.getElem?_cons_succ, List.getElem?_cons_zero]; rfl
                  case hQ173 => exact fun _ _ _ h => h
                  case hy173 => exact Or.inr ⟨by rfl, rfl⟩
                  try simp only [Act.put, List.setIfInBounds_toArray, List.set_cons_zero, List.set_cons_succ]
                  refine' wpAnyL_take (i := 27) ?hi174 (by kernel_rfl) (by kernel_rfl) (by kernel_rfl) (by kernel_rfl) ?hQ174 ?hy174 hS ?rest174
                  case hi174 => simp only [List.getElem?_toArray, List.getElem?_cons_succ, List.getElem?_cons_zero]; rfl
                  case hQ174 => exact fun _ _ _ h => h
                  case hy174 => exact Or.inr ⟨by rfl, rfl⟩
                  try simp only [Act.put, List.setIfInBounds_toArray, List.set_cons_zero, List.set_cons_succ]
                  refine' wpAnyL_take (i := 28) ?hi175 (by kernel_rfl) (by kernel_rfl) (by kernel_rfl) (by kernel_rfl) ?hQ175 ?hy175 hS ?rest175
                  case hi175 => simp only [List.getElem?_toArray, List.getElem?_cons_succ, List.getElem?_cons_zero]; rfl
                  case hQ175 => exact fun _ _ _ h => h
                  case hy175 => exact Or.inr ⟨by rfl, rfl⟩
                  try simp only [Act.put, List.setIfInBounds_toArray, List.set_cons_zero, List.set_cons_succ]
                  refine' wpAnyL_take (i := 29) ?hi176 (by kernel_rfl) (by kernel_rfl) (by kernel_rfl) (by kernel_rfl) ?hQ176 ?hy176 hS ?rest176
                  case hi176 => simp only [List.getElem?_toArray, List.getElem?_cons_succ, List.getElem?_cons_zero]; rfl
                  case hQ176 => exact fun _ _ _ h => h
                  case hy176 => exact Or.inr ⟨by rfl, rfl⟩
                  try simp only [Act.put, List.setIfInBounds_toArray, List.set_cons_zero, List.set_cons_succ]
                  refine' wpAnyL_take (i := 30) ?hi177 (by kernel_rfl) (by kernel_rfl) (by kernel_rfl) (by kernel_rfl) ?hQ177 ?hy177 hS ?rest177
                  case hi177 => simp only [List.getElem?_toArray, List.getElem?_cons_succ, List.getElem?_cons_zero]; rfl
                  case hQ177 => exact fun _ _ _ h => h
                  case hy177 => exact Or.inr ⟨by rfl, rfl⟩
                  try simp only [Act.put, List.setIfInBounds_toArray, List.set_cons_zero, List.set_cons_succ]
                  refine' wpAnyL_take (i := 31) ?hi178 (by kernel_rfl) (by kernel_rfl) (by kernel_rfl) (by kernel_rfl) ?hQ178 ?hy178 hS ?rest178
                  case hi178 => simp only [List.getElem?_toArray, List.getElem?_cons_succ, List.getElem?_cons_zero]; rfl
                  case hQ178 => exact fun _ _ _ h => h
                  case hy178 =>
                    refine Or.inl ⟨by rfl, ?_⟩
                    intro wq hq
                    try dsimp only at hq
                    try obtain ⟨hq0, hq1, hq2, hq3, hq4, hq5, hq6⟩ := hq
                    try obtain ⟨hq0, hq1, hq2, hq3, hq4, hq5⟩ := hq
                    try obtain ⟨hq0, hq1, hq2, hq3, hq4⟩ := hq
                    try obtain ⟨hq0, hq1, hq2, hq3⟩ := hq
                    try obtain ⟨hq0, hq1, hq2⟩ := hq
                    try obtain ⟨hq0, hq1⟩ := hq
                    go_simp
                    try with_reducible rfl
                  try simp only [Act.put, List.setIfInBounds_toArray, List.set_cons_zero, List.set_cons_succ]
                  refine' wpAnyL_take (i := 32) ?hi179 (by kernel_rfl) (by kernel_rfl) (by kernel_rfl) (by kernel_rfl) ?hQ179 ?hy179 hS ?rest179
                  case hi179 => simp only [List.getElem?_toArray, List.getElem?_cons_succ, List.getElem?_cons_zero]; rfl
                  case hQ179 => exact fun _ _ _ h => h
                  case hy179 =>
                    refine Or.inl ⟨by rfl, ?_⟩
                    intro wq hq
                    try dsimp only at hq
                    try obtain ⟨hq0, hq1, hq2, hq3, hq4, hq5, hq6⟩ := hq
                    try obtain ⟨hq0, hq1, hq2, hq3, hq4, hq5⟩ := hq
                    try obtain ⟨hq0, hq1, hq2, hq3, hq4⟩ := hq
                    try obtain ⟨hq0, hq1, hq2, hq3⟩ := hq
                    try obtain ⟨hq0, hq1, hq2⟩ := hq
                    try obtain ⟨hq0, hq1⟩ := hq
                    go_simp
                    try with_reducible rfl
                  try simp only [Act.put, List.setIfInBounds_toArray, List.set_cons_zero, List.set_cons_succ]
                  refine wpAnyL_done (by kernel_rfl) ?_ _
                  go_wp2_with fail
                  go_meet
                  exact ⟨by rw [HE.out], Below.drew (Below.refl _ _)⟩
              case rest =>
                obtain ⟨rfl, hbd⟩ := hcut
                obtain ⟨wf, rfl⟩ : ∃ wf : World, wf = wc := ⟨_, rfl⟩
                have HBD := Lib.hid hbd
                have HYD := Lib.hid (HYC.out.below hbd HYC.out.lt)
                have HB4f : Hid (Below w4.heap.size w4 wf) := HBC.out.trans (hbd.mono HBC.out.size)
                have hownD := HOW4.out wf HB4f.out
                have hzf : w.heap.size ≤ wf.heap.size := by have := HBWC.out.size; have := hbd.size; omega
                have ha0 : (0 : Int) ≤ (a : Int) := Int.natCast_nonneg _
                have hval := HKA.out.le
                clear hbd HSS HOO
                cases hE : endsAt (ts.map KT.ch) a (nmsOf ns) t.ch.nm with
                | true =>
                  have HE := Lib.hid hE
                  have hna : (a : Int) < (n : Int) := by
                    rw [endsAt] at hE
                    cases hu : (ts.map KT.ch)[a]? with
                    | none => rw [hu] at hE; exact absurd hE Bool.false_ne_true
                    | some u => have := (List.getElem?_eq_some_iff.1 hu).1; rw [List.length_map, H.out.len] at this; omega
                  clear hE
                  have e0 := HYD.out.at_ 0
                  have e1 := HYD.out.at_ 1
                  have e2 := HYD.out.at_ 2
                  have e3 := HYD.out.at_ 3
                  have e4 := HYD.out.at_ 4
                  have e5 := HYD.out.at_ 5
                  go_wp2_with (at_builtin; refine wpList_append_own_at _ rfl _ _ 24 rfl w.heap.size 44 i0 _ 6 128 Try.underlying24 hi hz0 hz1 hz2 rfl (by decide) (.slice A8 z c8) z _ rfl (hownD.alloc _) ⟨wf.heap.size, 0, none⟩ 1 1 (treeRow (elKs t K kn kc us2)) rfl rfl (cells_new wf _ _) (treeRow_one _) (by simp only [maxLen]; omega) (by omega) (by simp; omega) ?_)
                  intro v' w7 hown7 hgrow _ hv7
                  obtain ⟨A7, c7, rfl, _, _, _⟩ := own_form hown7
                  have hba := (Below.refl wf.heap.size wf).alloc (Nat.le_refl _) (.cells (treeRow (elKs t K kn kc us2)).toArray 44)
                  have HF := Lib.hid (HADD.out (elKs t K kn kc us2) _ w7 A7 c7 (HB4f.out.trans (hba.mono HB4f.out.size)) (HEL.out.1.keep (Stays.of (below_next HBD.out (Nat.le_refl _) hba))) (HEL.out.2.1.keep (Stays.of (below_next HBD.out (Nat.le_refl _) hba))) hgrow (by rw [World.size_alloc]; exact hv7) hown7)
                  rw [HEL.out.2.2] at HF
                  have HREL : Hid (KidsRel S (ts.map KT.ch) i (nmsOf ns) w (.int .i64 ((a : Int) + 1)) (.slice A7 (z + 1) c7) w7) := by
                    show KidsRel _ _ _ _ _ _ _ _
                    rw [show (Value.int .i64 ((a : Int) + 1)) = .int .i64 ((a + 1 : Nat) : Int) by go_num]
                    exact KidsRel.elem hik HK.out HBK.out HTL.out HKD.out HNM.out HVV.out HKA.out (if_pos HE.out) HF.out.1 HF.out.2
                  clear hgrow hv7 hown7 hownD hba
                  go_wp2_with fail
                  go_roundw
                  case rel => exact HREL.out
                  case measure => simp [intOf]; have := HKA.out.le; omega
                | false =>
                  have HE : Hid (¬ endsAt (ts.map KT.ch) a (nmsOf ns) t.ch.nm = true) := by rw [hE]; exact Bool.false_ne_true
                  clear hE
                  have e0 := HYD.out.at_ 0
                  have e1 := HYD.out.at_ 1
                  have e2 := HYD.out.at_ 2
                  have e3 := HYD.out.at_ 3
                  have e4 := HYD.out.at_ 4
                  have e5 := HYD.out.at_ 5
                  go_wp2_with (at_builtin; refine wpList_append_own_at _ rfl _ _ 24 rfl w.heap.size 44 i0 _ 6 128 Try.underlying24 hi hz0 hz1 hz2 rfl (by decide) (.slice A8 z c8) z _ rfl (hownD.alloc _) ⟨wf.heap.size, 0, none⟩ 1 1 (treeRow (elKs t K kn kc us2)) rfl rfl (cells_new wf _ _) (treeRow_one _) (by simp only [maxLen]; omega) (by omega) (by simp; omega) ?_)
                  intro v' w7 hown7 hgrow _ hv7
                  obtain ⟨A7, c7, rfl, _, _, _⟩ := own_form hown7
                  have hba := (Below.refl wf.heap.size wf).alloc (Nat.le_refl _) (.cells (treeRow (elKs t K kn kc us2)).toArray 44)
                  have HF := Lib.hid (HADD.out (elKs t K kn kc us2) _ w7 A7 c7 (HB4f.out.trans (hba.mono HB4f.out.size)) (HEL.out.1.keep (Stays.of (below_next HBD.out (Nat.le_refl _) hba))) (HEL.out.2.1.keep (Stays.of (below_next HBD.out (Nat.le_refl _) hba))) hgrow (by rw [World.size_alloc]; exact hv7) hown7)
                  rw [HEL.out.2.2] at HF
                  have HREL : Hid (KidsRel S (ts.map KT.ch) i (nmsOf ns) w (.int .i64 (a : Int)) (.slice A7 (z + 1) c7) w7) := by
                    show KidsRel _ _ _ _ _ _ _ _
                    rw [show (Value.int .i64 (a : Int)) = .int .i64 ((a : Nat) : Int) by go_num]
                    exact KidsRel.elem hik HK.out HBK.out HTL.out HKD.out HNM.out HVV.out HKA.out (if_neg HE.out) HF.out.1 HF.out.2
                  clear hgrow hv7 hown7 hownD hba
                  go_wp2_with fail
                  go_roundw
                  case rel => exact HREL.out
                  case measure => simp [intOf]; have := HKA.out.le; omega
      · by_cases hk2 : t.kind = 2
        · rw [hk2] at p0
          have HKD := Lib.hid hkd
          have HK2 := Lib.hid hk2
          clear hkd hk2
          go_wp2_with fail
          refine (HO2.out _ (Below.refl _ _) _).mono ?_
          rintro e wy ⟨rfl, rfl⟩
          by_cases hl : 0 ≤ lastI (nmsOf ns) t.nm.s.data.toList
          · have HEND : Hid (KidsR (ts.map KT.ch) i (nmsOf ns) [] acc k) := HK.out _ _ (.ended HTL.out HK2.out (by rw [KT.nm_eq]; exact hl))
            go_wp2_with fail
            go_ret2
            exact ⟨A8, z, c8, k, acc, rfl, ⟨HROW4.out _ (Below.refl _ _), HEND.out⟩, HBW4.out⟩
          · have HEN := Lib.hid (HSK.out w4 (Below.refl _ _) (fun e => absurd e HKD.out) (fun _ => by omega) (by have := HK2.out; omega))
            go_wp2_with fail
            go_roundw
            case rel => exact HEN.out
            case measure => simp [intOf]; omega
        · by_cases hk3 : t.kind = 3
          · have HKD := Lib.hid hk3
            rw [hk3] at p0
            have hown4 := HOW4.out w4 (Below.refl _ _)
            have hz45 : w.heap.size ≤ w4.heap.size := HBW4.out.size
            clear hkd hk2 hk3
            go_wp2_with (at_builtin; refine wpList_append_own_at _ rfl _ _ 24 rfl w.heap.size 44 i0 _ 6 128 Try.underlying24 hi hz0 hz1 hz2 rfl (by decide) (.slice A8 z c8) z _ rfl (hown4.alloc _) ⟨w4.heap.size, 0, none⟩ 1 1 (treeRow (txT1 t.tx)) rfl rfl (cells_new w4 _ _) (treeRow_one _) (by simp only [maxLen]; omega) (by omega) (by simp; omega) ?_)
            intro v' w7 hown7 hgrow _ hv7
            obtain ⟨A7, c7, rfl, _, _, _⟩ := own_form hown7
            have hba := (Below.refl w4.heap.size w4).alloc (Nat.le_refl _) (.cells (treeRow (txT1 t.tx)).toArray 44)
            have HF := Lib.hid (HADD.out (txT1 t.tx) _ w7 A7 c7 hba (txT1_in ((HTI.out _ hba).tx.mono fun b hb _ => .inl hb)) (AllS.nil _ _) hgrow (by rw [World.size_alloc]; exact hv7) hown7)
            rw [txT1_ch] at HF
            have HREL : Hid (KidsRel S (ts.map KT.ch) i (nmsOf ns) w (.int .i64 ((k : Int) + 1)) (.slice A7 (z + 1) c7) w7) := KidsRel.data hik HK.out HBK.out HTL.out HKD.out HF.out.1 HF.out.2
            clear hgrow hv7 hown7 hown4 hba
            go_wp2_with fail
            go_roundw
            case rel => exact HREL.out
            case measure => simp [intOf]; omega
          · have q1 : (t.kind == 1) = false := by rw [beq_eq_false_iff_ne]; exact hkd
            have q2 : (t.kind == 2) = false := by rw [beq_eq_false_iff_ne]; exact hk2
            have q3 : (t.kind == 3) = false := by rw [beq_eq_false_iff_ne]; exact hk3
            have HEN := Lib.hid (HSK.out w4 (Below.refl _ _) (fun e => absurd e hkd) (fun e => absurd e hk2) hk3)
            clear hkd hk2 hk3
            go_wp2_with fail
            go_roundw
            case rel => exact HEN.out
            case measure => simp [intOf]; omega
    · have hk1 : ¬ (k : Int) < (n : Int) := by omega
      have HST : Hid (KidsR (ts.map KT.ch) i (nmsOf ns) [] acc k) := HK.out _ _ (.stop (List.getElem?_eq_none_iff.2 (by rw [List.length_map, H.out.len]; omega)))
      go_wp2_with fail
      go_ret2
      exact ⟨A8, z, c8, k, acc, rfl, ⟨HROW.out, HST.out⟩, HB.out⟩

end Go.Proofs.Ytddgabjhligeeaa.mk


namespace Go.Proofs.Ytddgabjhligeeaa.mk
open Go.RowKit Go.Maps

theorem bytesT_map {a b : List ByteArray} (h : a.map (fun s => s.data.toList) = b.map (fun s => s.data.toList)) : a = b :=
  (List.map_inj_right (fun x y h => by cases x; cases y; exact congrArg ByteArray.mk (Array.toList_inj.1 h))).1 h
/-- what the law has open behind k tokens -/
def OpTRel (ts : List KT) (n : Nat) (w0 : World) (v i : Value) (wr : World) : Prop :=
  ∃ (k m : Nat) (ns : List ByteArray), k ≤ n ∧ i = .int .i64 (k : Int) ∧ ns.length = m ∧ m ≤ k ∧ nmsOf ns = openB ((ts.map KT.ch).take k) ∧ wr.ownsRow w0.heap.size 9 1 v m (txCells ns) ∧ Below w0.heap.size w0 wr
theorem opn_stay {ts : List KT} {k : Nat} {t : KT} {ns : List ByteArray} (ht : ts[k]? = some t) (h : nmsOf ns = openB ((ts.map KT.ch).take k)) (h1 : ¬ (t.kind = 1 ∧ t.ch.name ≠ [] ∧ voidB t.nm.s.data.toList = false)) (h2 : ¬ (t.kind = 2 ∧ 0 ≤ lastI (nmsOf ns) t.nm.s.data.toList)) : nmsOf ns = openB ((ts.map KT.ch).take (k + 1)) := by
  rw [openB_next (t := t.ch) (by rw [List.getElem?_map, ht]; rfl), ← h]
  unfold openP
  rw [if_neg (by rw [KT.nm_eq]; exact h1), if_neg (by rw [KT.nm_eq]; exact h2)]
theorem opn_more {ts : List KT} {k : Nat} {t : KT} {ns : List ByteArray} (ht : ts[k]? = some t) (h : nmsOf ns = openB ((ts.map KT.ch).take k)) (h1 : t.kind = 1) (h2 : t.ch.name ≠ []) (h3 : voidB t.nm.s.data.toList = false) : nmsOf (ns ++ [t.nm.s]) = openB ((ts.map KT.ch).take (k + 1)) := by
  rw [openB_next (t := t.ch) (by rw [List.getElem?_map, ht]; rfl), ← h, nmsOf_snoc]
  unfold openP
  rw [if_pos ⟨h1, h2, by rw [KT.nm_eq]; exact h3⟩, KT.nm_eq]
theorem opn_cut {ts : List KT} {k j : Nat} {t : KT} {ns : List ByteArray} (ht : ts[k]? = some t) (h : nmsOf ns = openB ((ts.map KT.ch).take k)) (h1 : t.kind = 2) (h2 : lastI (nmsOf ns) t.nm.s.data.toList = (j : Int)) : nmsOf (ns.take j) = openB ((ts.map KT.ch).take (k + 1)) := by
  rw [openB_next (t := t.ch) (by rw [List.getElem?_map, ht]; rfl), ← h]
  unfold openP
  rw [if_neg (fun e => by have e1 : t.kind = 1 := e.1; omega), if_pos ⟨h1, by rw [KT.nm_eq, h2]; omega⟩, KT.nm_eq, h2]
  unfold nmsOf
  rw [List.map_take]
  rfl

set_option maxHeartbeats 8000000 in
set_option maxRecDepth 100000 in
theorem buildTells_any (A : Option Addr) (n c : Nat) (ts : List KT) (w : World) (h : ToksIn (fun b => b < w.heap.size) w A n ts) (hc : n ≤ c) :
    Calls Try.prog 3 #[.slice A n c] w fun e w' => e = .returned (.bool true) ∧ Below w.heap.size w w' := by
  obtain ⟨i0, hi, iz0, iz1, iz2⟩ := info_parts string_info
  have H := Lib.hid h
  clear h
  go_enter Try.func3, Try.ntmps3
  go_wp2_with fail
  refine (alive14_any w).mono ?_
  rintro e w1 ⟨rfl, hb1⟩
  obtain ⟨m, ts', H', hm60⟩ : ∃ (m : Nat) (ts' : List KT), Hid (ToksIn (fun b => b < w.heap.size) w A m ts' ∧ (60 < n → m = 60) ∧ (¬ 60 < n → m = n)) ∧ m ≤ 60 := by
    by_cases h60 : 60 < n
    · refine ⟨60, ts.take 60, ⟨⟨?_, fun t ht => H.out.all t (List.mem_of_mem_take ht), by rw [List.length_take, H.out.len]; omega, ?_⟩, fun _ => rfl, fun h => absurd h60 h⟩, Nat.le_refl _⟩
      · intro j u hu
        refine H.out.lies j u ?_
        have e : ktCells ts = ktCells (ts.take 60) ++ ktCells (ts.drop 60) := by
          unfold ktCells
          rw [← List.flatMap_append, List.take_append_drop]
        rw [e, List.getElem?_append_left (List.getElem?_eq_some_iff.1 hu).1]
        exact hu
      · have h1 := H.out.bulk
        have e : kbL (ts.map KT.ch) = kbL ((ts.take 60).map KT.ch) + kbL ((ts.drop 60).map KT.ch) := by
          unfold kbL
          rw [← List.sum_append, ← List.map_append, ← List.map_append, List.take_append_drop]
        omega
    · exact ⟨n, ts, ⟨H.out, fun h => absurd h h60, fun _ => rfl⟩, by omega⟩
  have hcases : (60 < n ∧ m = 60) ∨ (¬ 60 < n ∧ n = m) := by
    by_cases h60 : 60 < n
    · exact .inl ⟨h60, H'.out.2.1 h60⟩
    · exact .inr ⟨h60, (H'.out.2.2 h60).symm⟩
  have HB1 := Lib.hid hb1
  have HI : Hid (ToksIn (fun b => b < w1.heap.size) w1 A m ts') := by
    have h := H'.out.1.keep (Stays.of hb1)
    exact ⟨h.lies.mono fun b hb _ => Nat.lt_of_lt_of_le hb hb1.size, fun t ht => (h.all t ht).mono fun b hb _ => Nat.lt_of_lt_of_le hb hb1.size, h.len, h.bulk⟩
  have hAc : m ≤ c := by rcases hcases with ⟨_, _⟩ | ⟨_, _⟩ <;> omega
  have HKD : Hid (Calls Try.prog 5 #[.slice A m c, .int .i64 0, .slice none 0 0] w1 (KidsM (fun b => b < w1.heap.size) (ts'.map KT.ch) 0 (nmsOf []) w1)) :=
    kids_any (S := fun b => b < w1.heap.size) A m c ts' (by omega) (m - 0) 0 none 0 0 [] w1 rfl HI.out (fun b h => h) (fun j u h => by simp [txCells] at h) rfl (fun _ => rfl) (Nat.le_refl _) (Nat.zero_le _)
  clear H H' hb1
  rcases hcases with ⟨h60, hm⟩ | ⟨h60, hm⟩
  case' inl =>
    have hh : (60 : Int) < (n : Int) := by omega
    have hcc : 60 ≤ c := by omega
    rw [hm] at HKD
    go_wp2_with fail
    clear hh hcc
  case' inr =>
    obtain rfl : m = n := hm.symm
    have hh : ¬ (60 : Int) < (m : Int) := by omega
    go_wp2_with fail
    clear hh
  all_goals
    refine HKD.out.mono ?_
    rintro e w2 ⟨A2, m2, c2, j2, qs, rfl, hk2, hb2⟩
    clear HKD
    try rw [← hm]
    clear h60 hm
    have HMR := Lib.hid hk2.out.1
    have HKR := Lib.hid hk2.out.2
    have HB2 := Lib.hid hb2
    have HB12 : Hid (Below w.heap.size w w2) := below_next HB1.out (Nat.le_refl _) hb2
    have HI2 : Hid (ToksIn (fun b => b < w2.heap.size) w2 A m ts') := by
      have h := HI.out.keep (Stays.of hb2)
      exact ⟨h.lies.mono fun b hb _ => Nat.lt_of_lt_of_le hb hb2.size, fun t ht => (h.all t ht).mono fun b hb _ => Nat.lt_of_lt_of_le hb hb2.size, h.len, h.bulk⟩
    clear hk2 hb2
    go_wp2_with fail
    obtain ⟨wo, rfl⟩ : ∃ wo : World, wo = w2 := ⟨_, rfl⟩
    go_loopw [5, 6] (OpTRel ts' m wo) (fun _ i _ => m - (intOf i).toNat)
    case atStart => exact ⟨0, 0, [], Nat.zero_le _, rfl, rfl, Nat.le_refl _, rfl, World.ownsRow_nil _ _ _ _, Below.refl _ _⟩
    case round =>
      obtain ⟨k, z, ns, hk, rfl, hz, hzk, hns, hown, hb⟩ := hrel
      obtain ⟨A4, c4, rfl, hA4, _, _⟩ := own_form hown
      have HZ := Lib.hid hz
      have HO := Lib.hid hown
      have HB := Lib.hid hb
      have HNS := Lib.hid hns
      have HA4 := Lib.hid hA4
      have hzr := hb.size
      have hk0 : (0 : Int) ≤ (k : Int) := Int.natCast_nonneg _
      clear hz hown hns hA4
      by_cases hlt : k < m
      · obtain ⟨ad, t, rfl, hba, d0, d1, d2, d3, d4, d5, d6, HT⟩ := (HI2.out.lies.keep (Stays.of hb)).lies.kt (k := k) (by rw [HI2.out.len]; exact hlt)
        have hk1 : (k : Int) < (m : Int) := by omega
        clear d2 d3 d4 d5 d6 hb
        have HSTAY : Hid (¬ (t.kind = 1 ∧ t.ch.name ≠ [] ∧ voidB t.nm.s.data.toList = false) → ¬ (t.kind = 2 ∧ 0 ≤ lastI (nmsOf ns) t.nm.s.data.toList) → OpTRel ts' m wo (.slice A4 z c4) (.int .i64 ((k : Int) + 1)) wr) := fun h1 h2 =>
          ⟨k + 1, z, ns, by omega, by go_num, HZ.out, by omega, opn_stay HT.out HNS.out h1 h2, HO.out, HB.out⟩
        by_cases hkd : t.kind = 1
        · have HKD := Lib.hid hkd
          rw [hkd] at d0
          by_cases hnm : t.nm.s.data.toList = []
          · have hx : (t.nm.s.toList == []) = true := by rw [beq_iff_eq, ByteArray.toList_eq]; exact hnm
            have hx2 : t.nm.s.toList.isEmpty = true := by rw [beq_iff_eq] at hx; rw [hx]; rfl
            have HREL := Lib.hid (HSTAY.out (fun h => h.2.1 ((KT.name_nil t).2 hnm)) (fun h => by have := h.1; omega))
            clear hkd hnm
            go_wp2_with fail
            go_roundw
            case rel => exact HREL.out
            case measure => simp [intOf]; omega
          · have hx : (t.nm.s.toList == []) = false := by rw [beq_eq_false_iff_ne, ByteArray.toList_eq]; exact hnm
            have hx2 : t.nm.s.toList.isEmpty = false := by
              cases hq : t.nm.s.toList with
              | nil => rw [hq] at hx; exact absurd hx (by decide)
              | cons a b => rfl
            have HNM : Hid (t.ch.name ≠ []) := fun h => hnm ((KT.name_nil t).1 h)
            have HV := Lib.hid (law14Void_any t.nm.s wr)
            clear hkd hnm
            go_wp2_with fail
            refine HV.out.mono ?_
            rintro e wy ⟨rfl, rfl⟩
            clear HV
            cases hv : voidB t.nm.s.data.toList with
            | true =>
              have HREL := Lib.hid (HSTAY.out (fun h => by rw [hv] at h; exact Bool.noConfusion h.2.2) (fun h => by have := h.1; have := HKD.out; omega))
              clear hv
              go_wp2_with fail
              go_roundw
              case rel => exact HREL.out
              case measure => simp [intOf]; omega
            | false =>
              have HV := Lib.hid hv
              clear hv
              go_wp2_with (at_builtin; refine wpList_append_own_at _ rfl _ _ 27 rfl wo.heap.size 9 i0 _ 1 16 Try.underlying27 hi iz0 iz1 iz2 rfl (by decide) (.slice A4 z c4) z _ rfl (HO.out.alloc _) ⟨wr.heap.size, 0, none⟩ 1 1 [.string t.nm.s] rfl rfl (cells_new wr _ _) (by simp [Value.oneCell']) (by simp only [maxLen]; omega) (by omega) (by simp; omega) ?_)
              intro v' w9 hown9 hgrow _ _
              obtain ⟨A10, c10, rfl, _, _, _⟩ := own_form hown9
              have HREL : Hid (OpTRel ts' m wo (.slice A10 (z + 1) c10) (.int .i64 ((k : Int) + 1)) w9) := by
                refine ⟨k + 1, z + 1, ns ++ [t.nm.s], by omega, by simp, by rw [List.length_append, HZ.out]; rfl, by omega, opn_more HT.out HNS.out HKD.out HNM.out HV.out, by rw [txCells_snoc]; exact hown9, ?_⟩
                exact (HB.out.alloc hzr _).grown hgrow (by simp; omega) (fun g hg => (HO.out.lt g hg).1)
              clear hgrow hown9
              go_wp2_with fail
              go_roundw
              case rel => exact HREL.out
              case measure => simp [intOf]; omega
        · by_cases hk2 : t.kind = 2
          · have HK2 := Lib.hid hk2
            rw [hk2] at d0
            have HO2 := Lib.hid (open2_any A4 z c4 ns t.nm.s wr (Lies.own HO.out) HZ.out (by omega))
            clear hkd hk2
            go_wp2_with fail
            refine HO2.out.mono ?_
            rintro e wy ⟨rfl, rfl⟩
            clear HO2
            by_cases hl : 0 ≤ lastI (nmsOf ns) t.nm.s.data.toList
            · obtain ⟨j, hj⟩ : ∃ j : Nat, lastI (nmsOf ns) t.nm.s.data.toList = (j : Int) := ⟨(lastI (nmsOf ns) t.nm.s.data.toList).toNat, by omega⟩
              have hjz : j < z := by
                rcases lastI_cases (nmsOf ns) t.nm.s.data.toList with h | h
                · omega
                · have h2 := h.2.1
                  rw [hj] at h2
                  unfold nmsOf at h2
                  rw [List.length_map, HZ.out] at h2
                  omega
              obtain ⟨g, rfl⟩ := own_some HO.out (by omega)
              have hcz : z ≤ c4 := by
                obtain ⟨_, _, ev, _, _, h⟩ := own_form HO.out
                injection ev with _ _ e3
                try omega
              have HREL : Hid (OpTRel ts' m wo (.slice (some ⟨g, 0, none⟩) j c4) (.int .i64 ((k : Int) + 1)) wr) := by
                refine ⟨k + 1, j, ns.take j, by omega, by go_num, by rw [List.length_take, HZ.out]; omega, by omega, opn_cut HT.out HNS.out HK2.out hj, ?_, HB.out⟩
                have h := own_prefix HO.out (m := j) (by omega)
                rw [Nat.mul_one] at h
                have e : txCells (ns.take j) = (txCells ns).take j := by unfold txCells; rw [List.map_take]
                rw [e]
                exact h
              rw [hj]
              have hj0 : (0 : Int) ≤ (j : Int) := Int.natCast_nonneg _
              have hj1 : (j : Int) ≤ (c4 : Int) := by omega
              clear hl hj
              go_wp2_with fail
              go_roundw
              case rel => exact HREL.out
              case measure => simp [intOf]; omega
            · have HREL := Lib.hid (HSTAY.out (fun h => by have := h.1; have := HK2.out; omega) (fun h => hl h.2))
              go_wp2_with fail
              go_roundw
              case rel => exact HREL.out
              case measure => simp [intOf]; omega
          · have HREL := Lib.hid (HSTAY.out (fun h => hkd h.1) (fun h => hk2 h.1))
            have q1 : (t.kind == 1) = false := by rw [beq_eq_false_iff_ne]; exact hkd
            have q2 : (t.kind == 2) = false := by rw [beq_eq_false_iff_ne]; exact hk2
            clear hkd hk2
            go_wp2_with fail
            go_roundw
            case rel => exact HREL.out
            case measure => simp [intOf]; omega
      · obtain rfl : k = m := by omega
        have hk1 : ¬ (k : Int) < (k : Int) := by omega
        have HNA : Hid (nmsOf ns = openB (ts'.map KT.ch)) := by
          have h := HNS.out
          rw [List.take_of_length_le (by rw [List.length_map, HI2.out.len]; exact Nat.le_refl _)] at h
          exact h
        have HIR : Hid (ToksIn (fun b => b < wr.heap.size) wr A k ts') := by
          have h := HI2.out.keep (Stays.of hb)
          exact ⟨h.lies.mono fun b hb2 _ => Nat.lt_of_lt_of_le hb2 hb.size, fun t ht => (h.all t ht).mono fun b hb2 _ => Nat.lt_of_lt_of_le hb2 hb.size, h.len, h.bulk⟩
        have HTR := Lib.hid (trees_any A k c ts' wr HIR.out (fun b h => h))
        clear hb
        go_wp2_with fail
        refine HTR.out.mono ?_
        rintro e w3 ⟨K, kn, kc, kids, rfl, hin, hch, hb3⟩
        have HMG : Hid (Calls Try.prog 10 #[.slice A2 m2 c2] w3 (TellsT (fun b => w3.heap.size ≤ b) (treesB (ts'.map KT.ch)) w3)) := by
          have hq : bkL qs ≤ 1048576 := by
            have h1 := HKR.out.bulk
            have h2 := HI.out.bulk
            rw [bkL, List.drop_zero] at h1
            omega
          obtain ⟨us, h1, h2⟩ := HMR.out.in0 hq
          have h3 := merge_any A2 m2 c2 us w3 (h1.next (below_next HB.out (Nat.le_refl _) hb3))
          rw [h2, ← trees_kids HKR.out] at h3
          exact h3
        have HIN := Lib.hid hin
        have HCH := Lib.hid hch
        have HB3 := Lib.hid hb3
        clear hin hch hb3 HTR
        go_wp2_with fail
        refine HMG.out.mono ?_
        rintro e w4 ⟨A5, c5, us, rfl, ho5, hm5, ⟨hq5, _⟩, hb4⟩
        have hul : us.length = kn := by rw [← HIN.out.len, ← chL_length us, hq5, ← HCH.out, chL_length]
        have HPT : Hid (Calls Try.prog 8 #[.slice K kn kc, .slice A5 us.length c5] w4 fun e w' => e = .returned (.bool true) ∧ Below w4.heap.size w4 w') := by
          rw [hul] at ho5 ⊢
          have h4 := HIN.out.next hb4
          exact trees_true _ K kn kc kids A5 c5 us w4 HCH.out hq5 h4.lies.lies (h4.all.mono fun _ _ _ => trivial) h4.len h4.small (Lies.own ho5) (hm5.mono fun _ _ _ => trivial)
        have HB4 := Lib.hid (below_next HB3.out (Nat.le_refl _) hb4)
        clear ho5 hm5 hq5 hb4 hul HMG
        go_wp2_with fail
        refine HPT.out.mono ?_
        rintro e w5 ⟨rfl, hb5⟩
        have HB5 := Lib.hid (below_next HB4.out (Nat.le_refl _) hb5)
        have HOP := Lib.hid (openD_any A k c ts' w5 (HIR.out.keep (Stays.of HB5.out)) (fun b h => Nat.lt_of_lt_of_le h HB5.out.size))
        clear hb5 HPT
        go_wp2_with fail
        refine HOP.out.mono ?_
        rintro e w6 ⟨A6, c6, ns6, rfl, ho6, hns6, hb6⟩
        obtain rfl : ns6 = ns := bytesT_map (hns6.trans HNA.out.symm)
        have hb06 := below_next HB5.out (Nat.le_refl _) hb6
        have HTT : Hid (Calls Try.prog 11 #[.slice A6 ns6.length c6, .slice A4 z c4] w6 fun e w' => e = .returned (.bool true) ∧ Below w6.heap.size w6 w') := by
          have h1 := HO.out
          have h2 := HZ.out
          subst h2
          exact texts_true A6 _ c6 ns6 A4 c4 w6 (Lies.own ho6) ((Lies.own h1).next hb06 (Nat.le_refl _)) rfl (by omega)
        have HBA := Lib.hid (below_next (below_next HB12.out (Nat.le_refl _) HB.out) (Nat.le_refl _) hb06)
        clear ho6 hns6 hb6 hb06 HOP
        go_wp2_with fail
        refine HTT.out.mono ?_
        rintro e w7 ⟨rfl, hb7⟩
        have HBZ := Lib.hid (below_next HBA.out (Nat.le_refl _) hb7)
        clear hb7
        go_wp2_with fail
        go_ret
        exact ⟨rfl, HBZ.out⟩

end Go.Proofs.Ytddgabjhligeeaa.mk

namespace Go.Proofs.Ytddgabjhligeeaa.buildTells
open Go.ChangeShapes Go.WideShapes Go.ChangeAt Go.RowKit Go.Proofs.Ytddgabjhligeeaa.mk

set_option maxRecDepth 100000 in
theorem contract (H : Type) (enc : TypeId × Value → H) (W : World) (args : Array Value) (ds gs : List (DataW H)) (before : List MemPlace) (base : Nat)
    (hval : ∀ (j : Nat) t v, Try.f3.params[j]? = some t → args[j]? = some v → Value.okWide Try.prog W .any base t v)
    (hW : DataW.Whole enc Try.prog Try.f3.params.toList Rows.buildTellsSpec.vars false W args.toList ds gs before) (hk : Rows.uptoSmall H (ds ++ gs) = true) :
    Calls Try.prog 3 args W fun e W' => ∃ v, e = .returned v ∧ Rows.buildTellsSpec.post enc Try.prog Try.f3 false true false false W args v W' := by
  obtain ⟨p, q, hA0, hV, rfl, hfz, hnd⟩ := id hW
  have hA : DataW.TrodAll enc Try.prog W 0 (fun _ => true) true Try.f3.params.toList args.toList ds p := hA0
  rw [Try.params3] at hA hval
  obtain ⟨v0, vs0, d0, ds0, p0, q0, hargs, rfl, rfl, h0, r0⟩ := trodAll_cons hA
  obtain ⟨rfl, rfl, rfl⟩ := trodAll_nil r0
  obtain rfl : args = #[v0] := by cases args; simp_all
  obtain ⟨rfl, rfl⟩ := trodVars_none hV
  have hbk := bulk_bound hk
  simp only [List.append_nil, Rows.uptoBulkAll] at hbk
  have hbk2 : Rows.uptoBulk d0 ≤ 1048576 := by omega
  obtain ⟨fuel0, hf0⟩ := h0
  obtain ⟨L0, m0, c0, rfl⟩ := okWide_slice Try.underlying22 (hval 0 22 v0 rfl rfl)
  obtain ⟨L0', m0', c0', ts0, hv0, hl0, hm0, hLc0, hmc0, hok0, hsz0⟩ := open_toks hf0 (by show Rows.uptoBulk d0 ≤ 1048576; omega)
  cases hv0
  simp only at hsz0
  refine (buildTells_any L0 m0 c0 ts0 W ⟨hl0, hok0, hm0, (by omega)⟩ hmc0).mono fun e W' ⟨he, hb⟩ => ?_
  subst he
  exact ⟨_, rfl, law_post (tb := 4) laidOut hW rfl ⟨rfl, rfl, rfl⟩ (by rw [Try.params3]; exact readable_all (by kernel_rfl)) rfl Try.underlying4 hb⟩

set_option maxRecDepth 100000 in
theorem lifted (os : Os) (started : os.Started) (H : Type) (enc : TypeId × Value → H) (F : Stop.Interp) :
    ReturnsInHanded {} Try.checked os 3 .any ((Rows.OpenSpec.upto Rows.buildTellsSpec).pre6 enc Try.prog Try.f3 Rows.buildTellsUptoRow.domain false) (((Rows.OpenSpec.upto Rows.buildTellsSpec).at F).post enc Try.prog Try.f3 false true false false) := by
  refine returnsInHanded_of_cond (C := Try.checked) (s := Rows.OpenSpec.upto Rows.buildTellsSpec) (k := Rows.uptoSmall) rfl own started (by kernel_rfl) Try.func3
    (OpenSpec.witness (enc := enc) (C := Try.checked) (s := Rows.OpenSpec.upto Rows.buildTellsSpec) (k := Rows.uptoSmall) rfl false ⟨#[], #[.slice none 0 0], []⟩ 8 (by kernel_rfl) (by kernel_rfl) (by kernel_rfl)
      (x := ([.nil], [], [])) (by kernel_rfl) rfl (by kernel_rfl)) ?_
  intro W base args ds gs before hval hW _ hk _
  exact contract H enc W args ds gs before base hval hW hk

theorem proved : Rows.BuildTellsUptoSaid :=
  OpenClaim.holds_of_cond 3 Try.f3 rfl rfl rfl rfl rfl rfl rfl ⟨rfl, rfl, rfl, rfl, rfl⟩ rfl rfl rfl rfl rfl (by kernel_rfl) Try.func3 (by kernel_rfl)
    (of_decide_eq_true (by kernel_rfl)) (by unfold Func.isWrapper; first | (rw [if_pos (by decide +kernel)]; kernel_rfl) | (rw [if_neg (by decide +kernel)]; exact ⟨rfl, rfl⟩))
    (fun os started H enc _ F => lifted os started H enc F)

end Go.Proofs.Ytddgabjhligeeaa.buildTells
