/-
  The program's left, told at views, Views and View: what is left of views. (Written by gen_clnp_left.py and rl.py.)
-/
import Derived.Test.YtnbdldapmllegaaGreatJtAS
import Derived.Test.YtnbdldapmllegaaGreatJtAP
import Derived.Test.YtnbdldapmllegaaGreatJtAO
namespace Go.Proofs.YtnbdldapmllegaaGreat.mk
open Go.RowKit

/-- one view is stored where it is told -/
theorem pEl_put {w w1 W W2 : World} {t : VT} {b : Bool} {qs : List PV} (hR : w.heap.size + 1 < w1.heap.size) (hp : Below w.heap.size w W2 ∧ ∀ k, k ≠ w.heap.size + 1 → W2.heap[k]? = W.heap[k]?) (hz : W.heap.size ≤ W2.heap.size) (hq : (if b then [t.ch] else []) = qs)
    (hin : b = true → t.inS (fun b => w1.heap.size ≤ b) W ∧ AllV (fun b => w1.heap.size ≤ b) W t.kids) : PEl qs w (.returned (.tuple #[.agg #[.int .i64 t.kind, .string t.tag.s, .slice t.tag.A t.tag.n t.tag.c, .string t.key, .slice t.A t.n t.c, .slice t.H t.hn t.hc, .slice t.K t.kn t.kc, .string t.text.s, .slice t.text.A t.text.n t.text.c, .int .i64 t.slot], .bool b])) W2 := by
  refine ⟨t, b, rfl, ⟨hq, fun hb => ?_⟩, hp.1⟩
  have hst : Stays (fun b => w1.heap.size ≤ b) W W2 := ⟨hz, fun b hb _ => hp.2 b (fun e => by omega)⟩
  exact ⟨((hin hb).1.keep hst).mono fun b hb _ => by omega, ((hin hb).2.keep hst).mono fun b hb _ => by omega⟩

set_option maxHeartbeats 16000000 in
set_option maxRecDepth 100000 in
theorem pLeft_any (v : VT) (mx : Int) (w : World) (hm : w.cell? ⟨0, 0, none⟩ = some (.int .i64 mx)) (hv : v.inS (fun b => b < w.heap.size) w) (hbk : v.ch.bk ≤ 3145728)
    (hkd : ∀ W, Below w.heap.size w W → Calls Tryz.prog 10 #[.slice v.K v.kn v.kc] W fun e w' => (∃ A n c, e = .returned (.slice A n c) ∧ VRow w' W.heap.size (leftV (chV v.kids)) (.slice A n c)) ∧ Below W.heap.size W w') :
    Calls Tryz.prog 29 #[.agg #[.int .i64 v.kind, .string v.tag.s, .slice v.tag.A v.tag.n v.tag.c, .string v.key, .slice v.A v.n v.c, .slice v.H v.hn v.hc, .slice v.K v.kn v.kc, .string v.text.s, .slice v.text.A v.text.n v.text.c, .int .i64 v.slot]] w (PEl v.ch.left w) := by
  have HLV : Hid (v.ch.left = oneV v.kind v.tag.ch v.key.data.toList (v.atts.map AT.ch) v.hooks (leftV (chV v.kids)) v.text.ch v.slot) := by
    show _ = _
    rw [PV.left_eq, VT.ch_kind, VT.ch_tag, VT.ch_key, VT.ch_attrs, VT.ch_hooks, VT.ch_kids, VT.ch_text, VT.ch_slot]
  obtain ⟨qs, HQS⟩ : ∃ qs, Hid (v.ch.left = qs) := ⟨_, rfl⟩
  rw [HQS.out]
  have HV := Lib.hid hv
  have HMX : Hid (∀ W, Below w.heap.size w W → W.cell? ⟨0, 0, none⟩ = some (.int .i64 mx)) := fun W hb => (hb.cell (block_zero _ _ _ hm)).trans hm
  have HBK := Lib.hid hbk
  have HKD := Lib.hid hkd
  have HKZ : Hid (v.key.size ≤ 281474976710656) := by have := hv.key; show _ ≤ _; omega
  have HTS : Hid (v.text.s.size ≤ 268435456) := by
    have h1 := v.ch.bk_eq
    rw [VT.ch_text, LT.ch_length] at h1
    show _ ≤ _
    omega
  clear hv hm hbk hkd
  go_enter Tryz.func29, Tryz.ntmps29
  go_upto_region 1 with (fail)
  generalize hw1 : (w.alloc (.cells #[.int .i64 v.kind, .string v.tag.s, .slice v.tag.A v.tag.n v.tag.c, .string v.key, .slice v.A v.n v.c, .slice v.H v.hn v.hc, .slice v.K v.kn v.kc, .string v.text.s, .slice v.text.A v.text.n v.text.c, .int .i64 v.slot] 43)).alloc (.cells #[.int .i64 0, .string ⟨#[]⟩, .slice none 0 0, .string ⟨#[]⟩, .slice none 0 0, .slice none 0 0, .slice none 0 0, .string ⟨#[]⟩, .slice none 0 0, .int .i64 0] 43) = w1
  have y0 : Whole w1 w.heap.size 43 #[.int .i64 v.kind, .string v.tag.s, .slice v.tag.A v.tag.n v.tag.c, .string v.key, .slice v.A v.n v.c, .slice v.H v.hn v.hc, .slice v.K v.kn v.kc, .string v.text.s, .slice v.text.A v.text.n v.text.c, .int .i64 v.slot] := by rw [← hw1]; exact (Whole.made w _ _).alloc _
  have yR : Whole w1 (w.heap.size + 1) 43 #[.int .i64 0, .string ⟨#[]⟩, .slice none 0 0, .string ⟨#[]⟩, .slice none 0 0, .slice none 0 0, .slice none 0 0, .string ⟨#[]⟩, .slice none 0 0, .int .i64 0] := by
    rw [← hw1]
    have h := Whole.made (w.alloc (.cells #[.int .i64 v.kind, .string v.tag.s, .slice v.tag.A v.tag.n v.tag.c, .string v.key, .slice v.A v.n v.c, .slice v.H v.hn v.hc, .slice v.K v.kn v.kc, .string v.text.s, .slice v.text.A v.text.n v.text.c, .int .i64 v.slot] 43)) 43 #[.int .i64 0, .string ⟨#[]⟩, .slice none 0 0, .string ⟨#[]⟩, .slice none 0 0, .slice none 0 0, .slice none 0 0, .string ⟨#[]⟩, .slice none 0 0, .int .i64 0]
    rw [World.size_alloc] at h
    exact h
  have hbw : Below w.heap.size w w1 := by rw [← hw1]; exact ((Below.refl _ _).alloc (Nat.le_refl _) _).alloc (by rw [World.size_alloc]; exact Nat.le_succ _) _
  have HBW := Lib.hid hbw
  have HY0 := Lib.hid y0
  have HYR := Lib.hid yR
  have HRL : Hid (w.heap.size + 1 < w1.heap.size) := yR.lt
  have HIN : Hid (∀ W, Below w1.heap.size w1 W → v.inS (fun b => b < W.heap.size) W) := fun W h => by
    have h2 := below_next HBW.out (Nat.le_refl _) h
    exact (HV.out.keep (Stays.of h2)).mono fun b hb _ => Nat.lt_of_lt_of_le hb h2.size
  clear hw1 yR hbw
  have u0 := y0.at_ 0
  by_cases hk1 : v.kind = 1
  · have HK := Lib.hid hk1
    have HEL := Lib.hid (pEl_any v mx w1 (HMX.out w1 HBW.out) (HIN.out w1 (Below.refl _ _)) HBK.out (fun W hbW => HKD.out W (below_next HBW.out (Nat.le_refl _) hbW)))
    have HLE : Hid (qs = elV v.tag.ch v.key.data.toList (v.atts.map AT.ch) v.hooks (leftV (chV v.kids))) := by show _ = _; rw [← HQS.out, HLV.out]; unfold oneV; rw [if_neg (by rw [hk1]; decide), if_neg (by rw [hk1]; decide), if_pos hk1]
    have u1 := y0.at_ 1
    have u2 := y0.at_ 2
    have u3 := y0.at_ 3
    have u4 := y0.at_ 4
    have u5 := y0.at_ 5
    have u6 := y0.at_ 6
    have u7 := y0.at_ 7
    have u8 := y0.at_ 8
    have u9 := y0.at_ 9
    rw [hk1] at u0 HEL
    clear hk1 y0
    go_wp2_with fail
    refine HEL.out.mono ?_
    rintro e w5 ⟨t, b, rfl, hT, hb5⟩
    have HT := hT
    have HB5 : Hid (Below w1.heap.size w1 w5) := hb5
    clear u0 u1 u2 u3 u4 u5 u6 u7 u8 u9 hT hb5
    have yRq : Whole w5 (w.heap.size + 1) 43 #[.int .i64 0, .string ⟨#[]⟩, .slice none 0 0, .string ⟨#[]⟩, .slice none 0 0, .slice none 0 0, .slice none 0 0, .string ⟨#[]⟩, .slice none 0 0, .int .i64 0] := HYR.out.below HB5.out HYR.out.lt
    have hvp := view_put (below_next HBW.out (Nat.le_refl _) HB5.out) (Nat.le_succ _) yRq (.int .i64 t.kind) (.string t.tag.s) (.slice t.tag.A t.tag.n t.tag.c) (.string t.key) (.slice t.A t.n t.c) (.slice t.H t.hn t.hc) (.slice t.K t.kn t.kc) (.string t.text.s) (.slice t.text.A t.text.n t.text.c) (.int .i64 t.slot)
    have hz9 : w5.heap.size ≤ ((((((((((w5.setCell ⟨w.heap.size + 1, 0, none⟩ (.int .i64 t.kind)).setCell ⟨w.heap.size + 1, 1, none⟩ (.string t.tag.s)).setCell ⟨w.heap.size + 1, 2, none⟩ (.slice t.tag.A t.tag.n t.tag.c)).setCell ⟨w.heap.size + 1, 3, none⟩ (.string t.key)).setCell ⟨w.heap.size + 1, 4, none⟩ (.slice t.A t.n t.c)).setCell ⟨w.heap.size + 1, 5, none⟩ (.slice t.H t.hn t.hc)).setCell ⟨w.heap.size + 1, 6, none⟩ (.slice t.K t.kn t.kc)).setCell ⟨w.heap.size + 1, 7, none⟩ (.string t.text.s)).setCell ⟨w.heap.size + 1, 8, none⟩ (.slice t.text.A t.text.n t.text.c)).setCell ⟨w.heap.size + 1, 9, none⟩ (.int .i64 t.slot)).heap.size := by simp only [World.size_setCell]; exact Nat.le_refl _
    have HE9 := Lib.hid (pEl_put (t := t) (b := b) (qs := qs) HRL.out ⟨hvp.1, hvp.2.2⟩ hz9 (by rw [HLE.out]; exact HT.out.1) (fun hb => HT.out.2 hb))
    have r0 : w5.cell? ⟨w.heap.size + 1, 0, none⟩ = some (.int .i64 0) := yRq.at_ 0
    have r1 : w5.cell? ⟨w.heap.size + 1, 1, none⟩ = some (.string ⟨#[]⟩) := yRq.at_ 1
    have r2 : w5.cell? ⟨w.heap.size + 1, 2, none⟩ = some (.slice none 0 0) := yRq.at_ 2
    have r3 : w5.cell? ⟨w.heap.size + 1, 3, none⟩ = some (.string ⟨#[]⟩) := yRq.at_ 3
    have r4 : w5.cell? ⟨w.heap.size + 1, 4, none⟩ = some (.slice none 0 0) := yRq.at_ 4
    have r5 : w5.cell? ⟨w.heap.size + 1, 5, none⟩ = some (.slice none 0 0) := yRq.at_ 5
    have r6 : w5.cell? ⟨w.heap.size + 1, 6, none⟩ = some (.slice none 0 0) := yRq.at_ 6
    have r7 : w5.cell? ⟨w.heap.size + 1, 7, none⟩ = some (.string ⟨#[]⟩) := yRq.at_ 7
    have r8 : w5.cell? ⟨w.heap.size + 1, 8, none⟩ = some (.slice none 0 0) := yRq.at_ 8
    have r9 : w5.cell? ⟨w.heap.size + 1, 9, none⟩ = some (.int .i64 0) := yRq.at_ 9
    have f0 := yRq.free 0
    have f1 := yRq.free 1
    have f2 := yRq.free 2
    have f3 := yRq.free 3
    have f4 := yRq.free 4
    have f5 := yRq.free 5
    have f6 := yRq.free 6
    have f7 := yRq.free 7
    have f8 := yRq.free 8
    have f9 := yRq.free 9
    clear hvp yRq hz9
    go_wp2_with fail
    refine bodyPost_ret (v := .tuple #[.agg #[.int .i64 t.kind, .string t.tag.s, .slice t.tag.A t.tag.n t.tag.c, .string t.key, .slice t.A t.n t.c, .slice t.H t.hn t.hc, .slice t.K t.kn t.kc, .string t.text.s, .slice t.text.A t.text.n t.text.c, .int .i64 t.slot], .bool b]) ?_ rfl ?_
    · simp [results, Tryz.results29, go_sem, r0, r1, r2, r3, r4, r5, r6, r7, r8, r9]
    · exact HE9.out
  · by_cases hk2 : v.kind = 2
    · have HK := Lib.hid hk2
      rw [hk2] at u0
      have u7 := y0.at_ 7
      have u8 := y0.at_ 8
      have HK1 : Hid (v.kind ≠ 1) := hk1
      have hn1 : ¬ (2 : Int) = 1 := by decide
      clear hk1 hk2 y0
      go_wp2_with fail
      refine (repO_any v.text w1 (HIN.out w1 (Below.refl _ _)).text.ok HTS.out).mono ?_
      rintro e w2 ⟨tx, rfl, htx, hb2⟩
      have HTX := htx
      have HB2 : Hid (Below w1.heap.size w1 w2) := hb2
      clear u0 u7 u8 htx hb2 hn1
      go_upto_region 6 with (fail)
      obtain ⟨w3, hw3⟩ : ∃ w3 : World, w2.alloc (.cells #[.string tx.s, .slice tx.A tx.n tx.c] 28) = w3 := ⟨_, rfl⟩
      have HY4 : Hid (Whole w3 w2.heap.size 28 #[.string tx.s, .slice tx.A tx.n tx.c]) := by show Whole _ _ _ _; rw [← hw3]; exact Whole.made _ _ _
      have hb23 : Below w2.heap.size w2 w3 := by rw [← hw3]; exact (Below.refl _ _).alloc (Nat.le_refl _) _
      have HB3 : Hid (Below w1.heap.size w1 w3) := below_next HB2.out (Nat.le_refl _) hb23
      have HTX3 : Hid (OwnL w3 w1.heap.size tx) := HTX.out.2.below hb23
      try rw [hw3]
      clear hw3 hb23
      have HSS : Hid (∀ W, Below w3.heap.size w3 W → (W.cell? ⟨w.heap.size, 3, none⟩ = some (.string v.key) ∧ W.cell? ⟨w2.heap.size, 0, none⟩ = some (.string tx.s) ∧ W.cell? ⟨w2.heap.size, 1, none⟩ = some (.slice tx.A tx.n tx.c))) := fun W h => by
        have ya := HY0.out.below (below_next HB3.out (Nat.le_refl _) h) HY0.out.lt
        have yb := HY4.out.below h HY4.out.lt
        exact ⟨ya.at_ 3, yb.at_ 0, yb.at_ 1⟩
      have HEM : Hid (qs = if tx.s.toList = [] then [] else [(wordT v.key tx).ch]) := by
        show _ = _
        have h1 : tx.s.toList = tx.ch.map (·.1) := by rw [ByteArray.toList_eq, LT.ch_fst]; rfl
        rw [h1, HTX.out.1, ← HQS.out, HLV.out]
        unfold oneV
        rw [if_pos HK.out]
        by_cases he : v.text.ch = []
        · rw [if_pos he, he, rep_nil, if_pos (by rfl)]
        · rw [if_neg he, if_neg (fun e => rep_some he (List.map_eq_nil_iff.1 e)), wordT_ch, HTX.out.1]
      obtain ⟨be, HBE⟩ : ∃ be, Hid ((tx.s.toList == []) = be) := ⟨_, rfl⟩
      have hbe : (tx.s.toList == []) = be := HBE.out
      have hbe2 : tx.s.toList.isEmpty = be := by rw [← hbe]; cases tx.s.toList <;> rfl
      have hS := HSS.out _ (Below.drew (Below.refl w3.heap.size w3))
      refine wp_region_lastE (S := (fun W => (W.cell? ⟨w.heap.size, 3, none⟩ = some (.string v.key) ∧ W.cell? ⟨w2.heap.size, 0, none⟩ = some (.string tx.s) ∧ W.cell? ⟨w2.heap.size, 1, none⟩ = some (.slice tx.A tx.n tx.c)))) (Z := (fun _ => false)) (by kernel_rfl) ?_
      obtain ⟨x0, hx0⟩ : ∃ X : World, w3.drew = X := ⟨_, rfl⟩
      have HX0 : Hid (Below w3.heap.size w3 x0) := by show Below _ _ _; rw [← hx0]; exact Below.drew (Below.refl _ _)
      rw [hx0] at hS ⊢
      clear hx0
      refine' wpAnyL_take (i := 0) ?hi1 (by kernel_rfl) (by kernel_rfl) (by kernel_rfl) (by kernel_rfl) ?hQ1 ?hy1 hS ?rest1
      case hi1 => simp only [List.getElem?_toArray, List.getElem?_cons_zero]; rfl
      case hQ1 => exact fun _ _ _ h => h
      case hy1 =>
        refine Or.inl ⟨by rfl, ?_⟩
        intro wq hq
        try dsimp only at hq
        try obtain ⟨hq0, hq1, hq2, hq3, hq4, hq5, hq6⟩ := hq
        try obtain ⟨hq0, hq1, hq2, hq3, hq4, hq5⟩ := hq
        try obtain ⟨hq0, hq1, hq2, hq3, hq4⟩ := hq
        try obtain ⟨hq0, hq1, hq2, hq3⟩ := hq
        try obtain ⟨hq0, hq1, hq2⟩ := hq
        try obtain ⟨hq0, hq1⟩ := hq
        go_simp
        try with_reducible rfl
      try simp only [Act.put, List.setIfInBounds_toArray, List.set_cons_zero, List.set_cons_succ]
      refine' wpAnyL_take (i := 1) ?hi2 (by kernel_rfl) (by kernel_rfl) (by kernel_rfl) (by kernel_rfl) ?hQ2 ?hy2 hS ?rest2
      case hi2 => simp only [List.getElem?_toArray, List.getElem?_cons_succ, List.getElem?_cons_zero]; rfl
      case hQ2 => exact fun _ _ _ h => h
      case hy2 =>
        refine Or.inl ⟨by rfl, ?_⟩
        intro wq hq
        try dsimp only at hq
        try obtain ⟨hq0, hq1, hq2, hq3, hq4, hq5, hq6⟩ := hq
        try obtain ⟨hq0, hq1, hq2, hq3, hq4, hq5⟩ := hq
        try obtain ⟨hq0, hq1, hq2, hq3, hq4⟩ := hq
        try obtain ⟨hq0, hq1, hq2, hq3⟩ := hq
        try obtain ⟨hq0, hq1, hq2⟩ := hq
        try obtain ⟨hq0, hq1⟩ := hq
        go_simp
        try with_reducible rfl
      try simp only [Act.put, List.setIfInBounds_toArray, List.set_cons_zero, List.set_cons_succ]
      refine' wpAnyL_take (i := 3) ?hi3 (by kernel_rfl) (by kernel_rfl) (by kernel_rfl) (by kernel_rfl) ?hQ3 ?hy3 hS ?rest3
      case hi3 => simp only [List.getElem?_toArray, List.getElem?_cons_succ, List.getElem?_cons_zero]; rfl
      case hQ3 => exact fun _ _ _ h => h
      case hy3 =>
        refine Or.inl ⟨by rfl, ?_⟩
        intro wq hq
        try dsimp only at hq
        try obtain ⟨hq0, hq1, hq2, hq3, hq4, hq5, hq6⟩ := hq
        try obtain ⟨hq0, hq1, hq2, hq3, hq4, hq5⟩ := hq
        try obtain ⟨hq0, hq1, hq2, hq3, hq4⟩ := hq
        try obtain ⟨hq0, hq1, hq2, hq3⟩ := hq
        try obtain ⟨hq0, hq1, hq2⟩ := hq
        try obtain ⟨hq0, hq1⟩ := hq
        go_simp
        try with_reducible rfl
      try simp only [Act.put, List.setIfInBounds_toArray, List.set_cons_zero, List.set_cons_succ]
      refine' wpAnyL_take (i := 5) ?hi4 (by kernel_rfl) (by kernel_rfl) (by kernel_rfl) (by kernel_rfl) ?hQ4 ?hy4 hS ?rest4
      case hi4 => simp only [List.getElem?_toArray, List.getElem?_cons_succ, List.getElem?_cons_zero]; rfl
      case hQ4 => exact fun _ _ _ h => h
      case hy4 =>
        refine Or.inl ⟨by rfl, ?_⟩
        intro wq hq
        try dsimp only at hq
        try obtain ⟨hq0, hq1, hq2, hq3, hq4, hq5, hq6⟩ := hq
        try obtain ⟨hq0, hq1, hq2, hq3, hq4, hq5⟩ := hq
        try obtain ⟨hq0, hq1, hq2, hq3, hq4⟩ := hq
        try obtain ⟨hq0, hq1, hq2, hq3⟩ := hq
        try obtain ⟨hq0, hq1, hq2⟩ := hq
        try obtain ⟨hq0, hq1⟩ := hq
        go_simp
        try with_reducible rfl
      try simp only [Act.put, List.setIfInBounds_toArray, List.set_cons_zero, List.set_cons_succ]
      refine' wpAnyL_take (i := 6) ?hi5 (by kernel_rfl) (by kernel_rfl) (by kernel_rfl) (by kernel_rfl) ?hQ5 ?hy5 hS ?rest5
      case hi5 => simp only [List.getElem?_toArray, List.getElem?_cons_succ, List.getElem?_cons_zero]; rfl
      case hQ5 => exact fun _ _ _ h => h
      case hy5 =>
        refine Or.inl ⟨by rfl, ?_⟩
        intro wq hq
        try dsimp only at hq
        try obtain ⟨hq0, hq1, hq2, hq3, hq4, hq5, hq6⟩ := hq
        try obtain ⟨hq0, hq1, hq2, hq3, hq4, hq5⟩ := hq
        try obtain ⟨hq0, hq1, hq2, hq3, hq4⟩ := hq
        try obtain ⟨hq0, hq1, hq2, hq3⟩ := hq
        try obtain ⟨hq0, hq1, hq2⟩ := hq
        try obtain ⟨hq0, hq1⟩ := hq
        go_simp
        try with_reducible rfl
      try simp only [Act.put, List.setIfInBounds_toArray, List.set_cons_zero, List.set_cons_succ]
      refine' wpAnyL_take (i := 7) ?hi6 (by kernel_rfl) (by kernel_rfl) (by kernel_rfl) (by kernel_rfl) ?hQ6 ?hy6 hS ?rest6
      case hi6 => simp only [List.getElem?_toArray, List.getElem?_cons_succ, List.getElem?_cons_zero]; rfl
      case hQ6 => exact fun _ _ _ h => h
      case hy6 =>
        refine Or.inl ⟨by rfl, ?_⟩
        intro wq hq
        try dsimp only at hq
        try obtain ⟨hq0, hq1, hq2, hq3, hq4, hq5, hq6⟩ := hq
        try obtain ⟨hq0, hq1, hq2, hq3, hq4, hq5⟩ := hq
        try obtain ⟨hq0, hq1, hq2, hq3, hq4⟩ := hq
        try obtain ⟨hq0, hq1, hq2, hq3⟩ := hq
        try obtain ⟨hq0, hq1, hq2⟩ := hq
        try obtain ⟨hq0, hq1⟩ := hq
        go_simp
        try with_reducible rfl
      try simp only [Act.put, List.setIfInBounds_toArray, List.set_cons_zero, List.set_cons_succ]
      refine wpAnyL_ready (rs := [2]) (by kernel_rfl) (by simp) ?_
      refine' ReadyL.cons ?ho7 (fun K hK => ?step7) ?more7
      case ho7 => simp only [List.getElem?_toArray, List.getElem?_cons_succ, List.getElem?_cons_zero]; rfl
      case step7 =>
        go_simp
        refine (clone_any v.key x0 HKZ.out).mono ?_
        rintro e y1 ⟨rfl, hb⟩
        have HX1 : Hid (Below w3.heap.size w3 y1) := below_next HX0.out (Nat.le_refl _) hb
        have HXW : Hid (Below w1.heap.size w1 y1) := below_next HB3.out (Nat.le_refl _) HX1.out
        have hS := HSS.out y1 HX1.out
        refine hK.out _ _ (.inr hS) ?_
        clear hK K hb
        try simp only [Act.put, List.setIfInBounds_toArray, List.set_cons_zero, List.set_cons_succ]
        refine' wpAnyL_take (i := 4) ?hi8 (by kernel_rfl) (by kernel_rfl) (by kernel_rfl) (by kernel_rfl) ?hQ8 ?hy8 hS ?rest8
        case hi8 => simp only [List.getElem?_toArray, List.getElem?_cons_succ, List.getElem?_cons_zero]; rfl
        case hQ8 => exact fun _ _ _ h => h
        case hy8 =>
          refine Or.inl ⟨by rfl, ?_⟩
          intro wq hq
          try dsimp only at hq
          try obtain ⟨hq0, hq1, hq2, hq3, hq4, hq5, hq6⟩ := hq
          try obtain ⟨hq0, hq1, hq2, hq3, hq4, hq5⟩ := hq
          try obtain ⟨hq0, hq1, hq2, hq3, hq4⟩ := hq
          try obtain ⟨hq0, hq1, hq2, hq3⟩ := hq
          try obtain ⟨hq0, hq1, hq2⟩ := hq
          try obtain ⟨hq0, hq1⟩ := hq
          go_simp
          try with_reducible rfl
        try simp only [Act.put, List.setIfInBounds_toArray, List.set_cons_zero, List.set_cons_succ]
        refine wpAnyL_ready (rs := [8]) (by kernel_rfl) (by simp) ?_
        refine' ReadyL.cons ?ho9 (fun K hK => ?step9) ?more9
        case ho9 => simp only [List.getElem?_toArray, List.getElem?_cons_succ, List.getElem?_cons_zero]; rfl
        case step9 =>
          have yRq : Whole y1 (w.heap.size + 1) 43 #[.int .i64 0, .string ⟨#[]⟩, .slice none 0 0, .string ⟨#[]⟩, .slice none 0 0, .slice none 0 0, .slice none 0 0, .string ⟨#[]⟩, .slice none 0 0, .int .i64 0] := HYR.out.below HXW.out HYR.out.lt
          have hvp := view_put (below_next HBW.out (Nat.le_refl _) HXW.out) (Nat.le_succ _) yRq (.int .i64 2) (.string ⟨#[]⟩) (.slice none 0 0) (.string v.key) (.slice none 0 0) (.slice none 0 0) (.slice none 0 0) (.string tx.s) (.slice tx.A tx.n tx.c) (.int .i64 0)
          have r0 : y1.cell? ⟨w.heap.size + 1, 0, none⟩ = some (.int .i64 0) := yRq.at_ 0
          have r1 : y1.cell? ⟨w.heap.size + 1, 1, none⟩ = some (.string ⟨#[]⟩) := yRq.at_ 1
          have r2 : y1.cell? ⟨w.heap.size + 1, 2, none⟩ = some (.slice none 0 0) := yRq.at_ 2
          have r3 : y1.cell? ⟨w.heap.size + 1, 3, none⟩ = some (.string ⟨#[]⟩) := yRq.at_ 3
          have r4 : y1.cell? ⟨w.heap.size + 1, 4, none⟩ = some (.slice none 0 0) := yRq.at_ 4
          have r5 : y1.cell? ⟨w.heap.size + 1, 5, none⟩ = some (.slice none 0 0) := yRq.at_ 5
          have r6 : y1.cell? ⟨w.heap.size + 1, 6, none⟩ = some (.slice none 0 0) := yRq.at_ 6
          have r7 : y1.cell? ⟨w.heap.size + 1, 7, none⟩ = some (.string ⟨#[]⟩) := yRq.at_ 7
          have r8 : y1.cell? ⟨w.heap.size + 1, 8, none⟩ = some (.slice none 0 0) := yRq.at_ 8
          have r9 : y1.cell? ⟨w.heap.size + 1, 9, none⟩ = some (.int .i64 0) := yRq.at_ 9
          have f0 := yRq.free 0
          have f1 := yRq.free 1
          have f2 := yRq.free 2
          have f3 := yRq.free 3
          have f4 := yRq.free 4
          have f5 := yRq.free 5
          have f6 := yRq.free 6
          have f7 := yRq.free 7
          have f8 := yRq.free 8
          have f9 := yRq.free 9
          go_simp
          have hz9 : y1.heap.size ≤ ((((((((((y1.setCell ⟨w.heap.size + 1, 0, none⟩ (.int .i64 2)).setCell ⟨w.heap.size + 1, 1, none⟩ (.string ⟨#[]⟩)).setCell ⟨w.heap.size + 1, 2, none⟩ (.slice none 0 0)).setCell ⟨w.heap.size + 1, 3, none⟩ (.string v.key)).setCell ⟨w.heap.size + 1, 4, none⟩ (.slice none 0 0)).setCell ⟨w.heap.size + 1, 5, none⟩ (.slice none 0 0)).setCell ⟨w.heap.size + 1, 6, none⟩ (.slice none 0 0)).setCell ⟨w.heap.size + 1, 7, none⟩ (.string tx.s)).setCell ⟨w.heap.size + 1, 8, none⟩ (.slice tx.A tx.n tx.c)).setCell ⟨w.heap.size + 1, 9, none⟩ (.int .i64 0)).heap.size := by simp only [World.size_setCell]; exact Nat.le_refl _
          generalize hw9 : (((((((((y1.setCell ⟨w.heap.size + 1, 0, none⟩ (.int .i64 2)).setCell ⟨w.heap.size + 1, 1, none⟩ (.string ⟨#[]⟩)).setCell ⟨w.heap.size + 1, 2, none⟩ (.slice none 0 0)).setCell ⟨w.heap.size + 1, 3, none⟩ (.string v.key)).setCell ⟨w.heap.size + 1, 4, none⟩ (.slice none 0 0)).setCell ⟨w.heap.size + 1, 5, none⟩ (.slice none 0 0)).setCell ⟨w.heap.size + 1, 6, none⟩ (.slice none 0 0)).setCell ⟨w.heap.size + 1, 7, none⟩ (.string tx.s)).setCell ⟨w.heap.size + 1, 8, none⟩ (.slice tx.A tx.n tx.c)).setCell ⟨w.heap.size + 1, 9, none⟩ (.int .i64 0) = w9 at *
          have HE9 := Lib.hid (pEl_put (t := wordT v.key tx) (b := (!be)) (qs := qs) HRL.out ⟨hvp.1, hvp.2.2⟩ hz9 (by rw [HEM.out]; have h := HBE.out; cases hbb : be with | true => (rw [hbb] at h; rw [if_pos (beq_iff_eq.1 h)]; rfl) | false => (rw [hbb] at h; rw [if_neg (beq_eq_false_iff_ne.1 h)]; rfl)) (fun _ => ⟨wordT_in HV.out.key (HTX3.out.below HX1.out).inS, AllV.nil _ _⟩))
          have hS9 : (w9.cell? ⟨w.heap.size, 3, none⟩ = some (.string v.key) ∧ w9.cell? ⟨w2.heap.size, 0, none⟩ = some (.string tx.s) ∧ w9.cell? ⟨w2.heap.size, 1, none⟩ = some (.slice tx.A tx.n tx.c)) := by
            have ya : Whole w9 w.heap.size 43 #[.int .i64 v.kind, .string v.tag.s, .slice v.tag.A v.tag.n v.tag.c, .string v.key, .slice v.A v.n v.c, .slice v.H v.hn v.hc, .slice v.K v.kn v.kc, .string v.text.s, .slice v.text.A v.text.n v.text.c, .int .i64 v.slot] := (hvp.2.2 _ (by omega)).trans (HY0.out.below HXW.out HY0.out.lt)
            have yb : Whole w9 w2.heap.size 28 #[.string tx.s, .slice tx.A tx.n tx.c] := (hvp.2.2 _ (by have h1 := HRL.out; have h2 := HB2.out.size; omega)).trans (HY4.out.below HX1.out HY4.out.lt)
            exact ⟨ya.at_ 3, yb.at_ 0, yb.at_ 1⟩
          have yq := hvp.2.1
          have q0 : w9.cell? ⟨w.heap.size + 1, 0, none⟩ = some (.int .i64 2) := yq.at_ 0
          have q1 : w9.cell? ⟨w.heap.size + 1, 1, none⟩ = some (.string ⟨#[]⟩) := yq.at_ 1
          have q2 : w9.cell? ⟨w.heap.size + 1, 2, none⟩ = some (.slice none 0 0) := yq.at_ 2
          have q3 : w9.cell? ⟨w.heap.size + 1, 3, none⟩ = some (.string v.key) := yq.at_ 3
          have q4 : w9.cell? ⟨w.heap.size + 1, 4, none⟩ = some (.slice none 0 0) := yq.at_ 4
          have q5 : w9.cell? ⟨w.heap.size + 1, 5, none⟩ = some (.slice none 0 0) := yq.at_ 5
          have q6 : w9.cell? ⟨w.heap.size + 1, 6, none⟩ = some (.slice none 0 0) := yq.at_ 6
          have q7 : w9.cell? ⟨w.heap.size + 1, 7, none⟩ = some (.string tx.s) := yq.at_ 7
          have q8 : w9.cell? ⟨w.heap.size + 1, 8, none⟩ = some (.slice tx.A tx.n tx.c) := yq.at_ 8
          have q9 : w9.cell? ⟨w.heap.size + 1, 9, none⟩ = some (.int .i64 0) := yq.at_ 9
          refine hK.out _ w9 (.inr hS9) ?_
          have hS := hS9
          clear hK K hw9 hvp yq yRq hz9 r0 f0 r1 f1 r2 f2 r3 f3 r4 f4 r5 f5 r6 f6 r7 f7 r8 f8 r9 f9
          try simp only [Act.put, List.setIfInBounds_toArray, List.set_cons_zero, List.set_cons_succ]
          refine wpAnyL_ready (rs := [9]) (by kernel_rfl) (by simp) ?_
          refine' ReadyL.cons ?ho10 (fun K hK => ?step10) ?more10
          case ho10 => simp only [List.getElem?_toArray, List.getElem?_cons_succ, List.getElem?_cons_zero]; rfl
          case step10 =>
            go_simp
            refine hK.out _ _ (.inr hS) ?_
            clear hK K
            try simp only [Act.put, List.setIfInBounds_toArray, List.set_cons_zero, List.set_cons_succ]
            refine wpAnyL_done (by kernel_rfl) ?_ _
            clear hS9 hS hbe hbe2
            go_wp2_with fail
            refine bodyPost_ret (v := .tuple #[.agg #[.int .i64 2, .string ⟨#[]⟩, .slice none 0 0, .string v.key, .slice none 0 0, .slice none 0 0, .slice none 0 0, .string tx.s, .slice tx.A tx.n tx.c, .int .i64 0], .bool (!be)]) ?_ rfl ?_
            · simp [results, Tryz.results29, go_sem, q0, q1, q2, q3, q4, q5, q6, q7, q8, q9]
            · exact HE9.out
          exact ReadyL.nil
        exact ReadyL.nil
      exact ReadyL.nil
    · by_cases hk3 : v.kind = 3
      · have HK := Lib.hid hk3
        rw [hk3] at u0
        have hn1 : ¬ (3 : Int) = 1 := by decide
        have hn2 : ¬ (3 : Int) = 2 := by decide
        clear hk1 hk2 hk3 y0
        have HSS : Hid (∀ W, Below w1.heap.size w1 W → (W.cell? ⟨w.heap.size, 3, none⟩ = some (.string v.key) ∧ W.cell? ⟨w.heap.size, 9, none⟩ = some (.int .i64 v.slot))) := fun W h => by
          have ya := HY0.out.below h HY0.out.lt
          exact ⟨ya.at_ 3, ya.at_ 9⟩
        have HB1 : Hid (Below w1.heap.size w1 w1) := Below.refl _ _
        have HES : Hid (qs = if 1 ≤ v.slot ∧ v.slot ≤ 3 then [(slotT v.key v.slot).ch] else []) := by
          show _ = _
          rw [← HQS.out, HLV.out]
          unfold oneV
          rw [if_neg (by rw [HK.out]; decide), if_pos HK.out, slotT_ch]
        go_upto_region 8 with (fail)
        clear u0 hn1 hn2
        have hS := HSS.out _ (Below.drew (Below.refl w1.heap.size w1))
        by_cases h0 : 0 < v.slot
        · by_cases h4 : v.slot < 4
          · have HQ : Hid (qs = [(slotT v.key v.slot).ch]) := by show _ = _; rw [HES.out, if_pos ⟨by omega, by omega⟩]
            refine wp_region_lastE (S := (fun W => (W.cell? ⟨w.heap.size, 3, none⟩ = some (.string v.key) ∧ W.cell? ⟨w.heap.size, 9, none⟩ = some (.int .i64 v.slot)))) (Z := (fun _ => false)) (by kernel_rfl) ?_
            obtain ⟨x0, hx0⟩ : ∃ X : World, w1.drew = X := ⟨_, rfl⟩
            have HX0 : Hid (Below w1.heap.size w1 x0) := by show Below _ _ _; rw [← hx0]; exact Below.drew (Below.refl _ _)
            rw [hx0] at hS ⊢
            clear hx0
            refine' wpAnyL_take (i := 0) ?hi11 (by kernel_rfl) (by kernel_rfl) (by kernel_rfl) (by kernel_rfl) ?hQ11 ?hy11 hS ?rest11
            case hi11 => simp only [List.getElem?_toArray, List.getElem?_cons_zero]; rfl
            case hQ11 => exact fun _ _ _ h => h
            case hy11 =>
              refine Or.inl ⟨by rfl, ?_⟩
              intro wq hq
              try dsimp only at hq
              try obtain ⟨hq0, hq1, hq2, hq3, hq4, hq5, hq6⟩ := hq
              try obtain ⟨hq0, hq1, hq2, hq3, hq4, hq5⟩ := hq
              try obtain ⟨hq0, hq1, hq2, hq3, hq4⟩ := hq
              try obtain ⟨hq0, hq1, hq2, hq3⟩ := hq
              try obtain ⟨hq0, hq1, hq2⟩ := hq
              try obtain ⟨hq0, hq1⟩ := hq
              go_simp
              try with_reducible rfl
            try simp only [Act.put, List.setIfInBounds_toArray, List.set_cons_zero, List.set_cons_succ]
            refine' wpAnyL_take (i := 1) ?hi12 (by kernel_rfl) (by kernel_rfl) (by kernel_rfl) (by kernel_rfl) ?hQ12 ?hy12 hS ?rest12
            case hi12 => simp only [List.getElem?_toArray, List.getElem?_cons_succ, List.getElem?_cons_zero]; rfl
            case hQ12 => exact fun _ _ _ h => h
            case hy12 =>
              refine Or.inl ⟨by rfl, ?_⟩
              intro wq hq
              try dsimp only at hq
              try obtain ⟨hq0, hq1, hq2, hq3, hq4, hq5, hq6⟩ := hq
              try obtain ⟨hq0, hq1, hq2, hq3, hq4, hq5⟩ := hq
              try obtain ⟨hq0, hq1, hq2, hq3, hq4⟩ := hq
              try obtain ⟨hq0, hq1, hq2, hq3⟩ := hq
              try obtain ⟨hq0, hq1, hq2⟩ := hq
              try obtain ⟨hq0, hq1⟩ := hq
              go_simp
              try with_reducible rfl
            try simp only [Act.put, List.setIfInBounds_toArray, List.set_cons_zero, List.set_cons_succ]
            refine' wpAnyL_take (i := 3) ?hi13 (by kernel_rfl) (by kernel_rfl) (by kernel_rfl) (by kernel_rfl) ?hQ13 ?hy13 hS ?rest13
            case hi13 => simp only [List.getElem?_toArray, List.getElem?_cons_succ, List.getElem?_cons_zero]; rfl
            case hQ13 => exact fun _ _ _ h => h
            case hy13 =>
              refine Or.inl ⟨by rfl, ?_⟩
              intro wq hq
              try dsimp only at hq
              try obtain ⟨hq0, hq1, hq2, hq3, hq4, hq5, hq6⟩ := hq
              try obtain ⟨hq0, hq1, hq2, hq3, hq4, hq5⟩ := hq
              try obtain ⟨hq0, hq1, hq2, hq3, hq4⟩ := hq
              try obtain ⟨hq0, hq1, hq2, hq3⟩ := hq
              try obtain ⟨hq0, hq1, hq2⟩ := hq
              try obtain ⟨hq0, hq1⟩ := hq
              go_simp
              try with_reducible rfl
            try simp only [Act.put, List.setIfInBounds_toArray, List.set_cons_zero, List.set_cons_succ]
            refine' wpAnyL_take (i := 4) ?hi14 (by kernel_rfl) (by kernel_rfl) (by kernel_rfl) (by kernel_rfl) ?hQ14 ?hy14 hS ?rest14
            case hi14 => simp only [List.getElem?_toArray, List.getElem?_cons_succ, List.getElem?_cons_zero]; rfl
            case hQ14 => exact fun _ _ _ h => h
            case hy14 =>
              refine Or.inl ⟨by rfl, ?_⟩
              intro wq hq
              try dsimp only at hq
              try obtain ⟨hq0, hq1, hq2, hq3, hq4, hq5, hq6⟩ := hq
              try obtain ⟨hq0, hq1, hq2, hq3, hq4, hq5⟩ := hq
              try obtain ⟨hq0, hq1, hq2, hq3, hq4⟩ := hq
              try obtain ⟨hq0, hq1, hq2, hq3⟩ := hq
              try obtain ⟨hq0, hq1, hq2⟩ := hq
              try obtain ⟨hq0, hq1⟩ := hq
              go_simp
              try with_reducible rfl
            try simp only [Act.put, List.setIfInBounds_toArray, List.set_cons_zero, List.set_cons_succ]
            refine' wpAnyL_take (i := 6) ?hi15 (by kernel_rfl) (by kernel_rfl) (by kernel_rfl) (by kernel_rfl) ?hQ15 ?hy15 hS ?rest15
            case hi15 => simp only [List.getElem?_toArray, List.getElem?_cons_succ, List.getElem?_cons_zero]; rfl
            case hQ15 => exact fun _ _ _ h => h
            case hy15 =>
              refine Or.inl ⟨by rfl, ?_⟩
              intro wq hq
              try dsimp only at hq
              try obtain ⟨hq0, hq1, hq2, hq3, hq4, hq5, hq6⟩ := hq
              try obtain ⟨hq0, hq1, hq2, hq3, hq4, hq5⟩ := hq
              try obtain ⟨hq0, hq1, hq2, hq3, hq4⟩ := hq
              try obtain ⟨hq0, hq1, hq2, hq3⟩ := hq
              try obtain ⟨hq0, hq1, hq2⟩ := hq
              try obtain ⟨hq0, hq1⟩ := hq
              go_simp
              try with_reducible rfl
            try simp only [Act.put, List.setIfInBounds_toArray, List.set_cons_zero, List.set_cons_succ]
            refine' wpAnyL_take (i := 7) ?hi16 (by kernel_rfl) (by kernel_rfl) (by kernel_rfl) (by kernel_rfl) ?hQ16 ?hy16 hS ?rest16
            case hi16 => simp only [List.getElem?_toArray, List.getElem?_cons_succ, List.getElem?_cons_zero]; rfl
            case hQ16 => exact fun _ _ _ h => h
            case hy16 =>
              refine Or.inl ⟨by rfl, ?_⟩
              intro wq hq
              try dsimp only at hq
              try obtain ⟨hq0, hq1, hq2, hq3, hq4, hq5, hq6⟩ := hq
              try obtain ⟨hq0, hq1, hq2, hq3, hq4, hq5⟩ := hq
              try obtain ⟨hq0, hq1, hq2, hq3, hq4⟩ := hq
              try obtain ⟨hq0, hq1, hq2, hq3⟩ := hq
              try obtain ⟨hq0, hq1, hq2⟩ := hq
              try obtain ⟨hq0, hq1⟩ := hq
              go_simp
              try with_reducible rfl
            try simp only [Act.put, List.setIfInBounds_toArray, List.set_cons_zero, List.set_cons_succ]
            refine' wpAnyL_take (i := 8) ?hi17 (by kernel_rfl) (by kernel_rfl) (by kernel_rfl) (by kernel_rfl) ?hQ17 ?hy17 hS ?rest17
            case hi17 => simp only [List.getElem?_toArray, List.getElem?_cons_succ, List.getElem?_cons_zero]; rfl
            case hQ17 => exact fun _ _ _ h => h
            case hy17 =>
              refine Or.inl ⟨by rfl, ?_⟩
              intro wq hq
              try dsimp only at hq
              try obtain ⟨hq0, hq1, hq2, hq3, hq4, hq5, hq6⟩ := hq
              try obtain ⟨hq0, hq1, hq2, hq3, hq4, hq5⟩ := hq
              try obtain ⟨hq0, hq1, hq2, hq3, hq4⟩ := hq
              try obtain ⟨hq0, hq1, hq2, hq3⟩ := hq
              try obtain ⟨hq0, hq1, hq2⟩ := hq
              try obtain ⟨hq0, hq1⟩ := hq
              go_simp
              try with_reducible rfl
            try simp only [Act.put, List.setIfInBounds_toArray, List.set_cons_zero, List.set_cons_succ]
            refine wpAnyL_ready (rs := [2]) (by kernel_rfl) (by simp) ?_
            refine' ReadyL.cons ?ho18 (fun K hK => ?step18) ?more18
            case ho18 => simp only [List.getElem?_toArray, List.getElem?_cons_succ, List.getElem?_cons_zero]; rfl
            case step18 =>
              go_simp
              refine (clone_any v.key x0 HKZ.out).mono ?_
              rintro e y1 ⟨rfl, hb⟩
              have HX1 : Hid (Below w1.heap.size w1 y1) := below_next HX0.out (Nat.le_refl _) hb
              have HXW : Hid (Below w1.heap.size w1 y1) := below_next HB1.out (Nat.le_refl _) HX1.out
              have hS := HSS.out y1 HX1.out
              refine hK.out _ _ (.inr hS) ?_
              clear hK K hb
              try simp only [Act.put, List.setIfInBounds_toArray, List.set_cons_zero, List.set_cons_succ]
              refine' wpAnyL_take (i := 5) ?hi19 (by kernel_rfl) (by kernel_rfl) (by kernel_rfl) (by kernel_rfl) ?hQ19 ?hy19 hS ?rest19
              case hi19 => simp only [List.getElem?_toArray, List.getElem?_cons_succ, List.getElem?_cons_zero]; rfl
              case hQ19 => exact fun _ _ _ h => h
              case hy19 =>
                refine Or.inl ⟨by rfl, ?_⟩
                intro wq hq
                try dsimp only at hq
                try obtain ⟨hq0, hq1, hq2, hq3, hq4, hq5, hq6⟩ := hq
                try obtain ⟨hq0, hq1, hq2, hq3, hq4, hq5⟩ := hq
                try obtain ⟨hq0, hq1, hq2, hq3, hq4⟩ := hq
                try obtain ⟨hq0, hq1, hq2, hq3⟩ := hq
                try obtain ⟨hq0, hq1, hq2⟩ := hq
                try obtain ⟨hq0, hq1⟩ := hq
                go_simp
                try with_reducible rfl
              try simp only [Act.put, List.setIfInBounds_toArray, List.set_cons_zero, List.set_cons_succ]
              refine' wpAnyL_take (i := 9) ?hi20 (by kernel_rfl) (by kernel_rfl) (by kernel_rfl) (by kernel_rfl) ?hQ20 ?hy20 hS ?rest20
              case hi20 => simp only [List.getElem?_toArray, List.getElem?_cons_succ, List.getElem?_cons_zero]; rfl
              case hQ20 => exact fun _ _ _ h => h
              case hy20 =>
                refine Or.inl ⟨by rfl, ?_⟩
                intro wq hq
                try dsimp only at hq
                try obtain ⟨hq0, hq1, hq2, hq3, hq4, hq5, hq6⟩ := hq
                try obtain ⟨hq0, hq1, hq2, hq3, hq4, hq5⟩ := hq
                try obtain ⟨hq0, hq1, hq2, hq3, hq4⟩ := hq
                try obtain ⟨hq0, hq1, hq2, hq3⟩ := hq
                try obtain ⟨hq0, hq1, hq2⟩ := hq
                try obtain ⟨hq0, hq1⟩ := hq
                go_simp
                try with_reducible rfl
              try simp only [Act.put, List.setIfInBounds_toArray, List.set_cons_zero, List.set_cons_succ]
              refine' wpAnyL_take (i := 10) ?hi21 (by kernel_rfl) (by kernel_rfl) (by kernel_rfl) (by kernel_rfl) ?hQ21 ?hy21 hS ?rest21
              case hi21 => simp only [List.getElem?_toArray, List.getElem?_cons_succ, List.getElem?_cons_zero]; rfl
              case hQ21 => exact fun _ _ _ h => h
              case hy21 =>
                refine Or.inl ⟨by rfl, ?_⟩
                intro wq hq
                try dsimp only at hq
                try obtain ⟨hq0, hq1, hq2, hq3, hq4, hq5, hq6⟩ := hq
                try obtain ⟨hq0, hq1, hq2, hq3, hq4, hq5⟩ := hq
                try obtain ⟨hq0, hq1, hq2, hq3, hq4⟩ := hq
                try obtain ⟨hq0, hq1, hq2, hq3⟩ := hq
                try obtain ⟨hq0, hq1, hq2⟩ := hq
                try obtain ⟨hq0, hq1⟩ := hq
                go_simp
                try with_reducible rfl
              try simp only [Act.put, List.setIfInBounds_toArray, List.set_cons_zero, List.set_cons_succ]
              refine' wpAnyL_take (i := 11) ?hi22 (by kernel_rfl) (by kernel_rfl) (by kernel_rfl) (by kernel_rfl) ?hQ22 ?hy22 hS ?rest22
              case hi22 => simp only [List.getElem?_toArray, List.getElem?_cons_succ, List.getElem?_cons_zero]; rfl
              case hQ22 => exact fun _ _ _ h => h
              case hy22 =>
                refine Or.inl ⟨by rfl, ?_⟩
                intro wq hq
                try dsimp only at hq
                try obtain ⟨hq0, hq1, hq2, hq3, hq4, hq5, hq6⟩ := hq
                try obtain ⟨hq0, hq1, hq2, hq3, hq4, hq5⟩ := hq
                try obtain ⟨hq0, hq1, hq2, hq3, hq4⟩ := hq
                try obtain ⟨hq0, hq1, hq2, hq3⟩ := hq
                try obtain ⟨hq0, hq1, hq2⟩ := hq
                try obtain ⟨hq0, hq1⟩ := hq
                go_simp
                try with_reducible rfl
              try simp only [Act.put, List.setIfInBounds_toArray, List.set_cons_zero, List.set_cons_succ]
              refine' wpAnyL_take (i := 12) ?hi23 (by kernel_rfl) (by kernel_rfl) (by kernel_rfl) (by kernel_rfl) ?hQ23 ?hy23 hS ?rest23
              case hi23 => simp only [List.getElem?_toArray, List.getElem?_cons_succ, List.getElem?_cons_zero]; rfl
              case hQ23 => exact fun _ _ _ h => h
              case hy23 =>
                refine Or.inl ⟨by rfl, ?_⟩
                intro wq hq
                try dsimp only at hq
                try obtain ⟨hq0, hq1, hq2, hq3, hq4, hq5, hq6⟩ := hq
                try obtain ⟨hq0, hq1, hq2, hq3, hq4, hq5⟩ := hq
                try obtain ⟨hq0, hq1, hq2, hq3, hq4⟩ := hq
                try obtain ⟨hq0, hq1, hq2, hq3⟩ := hq
                try obtain ⟨hq0, hq1, hq2⟩ := hq
                try obtain ⟨hq0, hq1⟩ := hq
                go_simp
                try with_reducible rfl
              try simp only [Act.put, List.setIfInBounds_toArray, List.set_cons_zero, List.set_cons_succ]
              refine' wpAnyL_take (i := 13) ?hi24 (by kernel_rfl) (by kernel_rfl) (by kernel_rfl) (by kernel_rfl) ?hQ24 ?hy24 hS ?rest24
              case hi24 => simp only [List.getElem?_toArray, List.getElem?_cons_succ, List.getElem?_cons_zero]; rfl
              case hQ24 => exact fun _ _ _ h => h
              case hy24 =>
                refine Or.inl ⟨by rfl, ?_⟩
                intro wq hq
                try dsimp only at hq
                try obtain ⟨hq0, hq1, hq2, hq3, hq4, hq5, hq6⟩ := hq
                try obtain ⟨hq0, hq1, hq2, hq3, hq4, hq5⟩ := hq
                try obtain ⟨hq0, hq1, hq2, hq3, hq4⟩ := hq
                try obtain ⟨hq0, hq1, hq2, hq3⟩ := hq
                try obtain ⟨hq0, hq1, hq2⟩ := hq
                try obtain ⟨hq0, hq1⟩ := hq
                go_simp
                try with_reducible rfl
              try simp only [Act.put, List.setIfInBounds_toArray, List.set_cons_zero, List.set_cons_succ]
              refine wpAnyL_ready (rs := [14]) (by kernel_rfl) (by simp) ?_
              refine' ReadyL.cons ?ho25 (fun K hK => ?step25) ?more25
              case ho25 => simp only [List.getElem?_toArray, List.getElem?_cons_succ, List.getElem?_cons_zero]; rfl
              case step25 =>
                have yRq : Whole y1 (w.heap.size + 1) 43 #[.int .i64 0, .string ⟨#[]⟩, .slice none 0 0, .string ⟨#[]⟩, .slice none 0 0, .slice none 0 0, .slice none 0 0, .string ⟨#[]⟩, .slice none 0 0, .int .i64 0] := HYR.out.below HXW.out HYR.out.lt
                have hvp := view_put (below_next HBW.out (Nat.le_refl _) HXW.out) (Nat.le_succ _) yRq (.int .i64 3) (.string ⟨#[]⟩) (.slice none 0 0) (.string v.key) (.slice none 0 0) (.slice none 0 0) (.slice none 0 0) (.string ⟨#[]⟩) (.slice none 0 0) (.int .i64 v.slot)
                have r0 : y1.cell? ⟨w.heap.size + 1, 0, none⟩ = some (.int .i64 0) := yRq.at_ 0
                have r1 : y1.cell? ⟨w.heap.size + 1, 1, none⟩ = some (.string ⟨#[]⟩) := yRq.at_ 1
                have r2 : y1.cell? ⟨w.heap.size + 1, 2, none⟩ = some (.slice none 0 0) := yRq.at_ 2
                have r3 : y1.cell? ⟨w.heap.size + 1, 3, none⟩ = some (.string ⟨#[]⟩) := yRq.at_ 3
                have r4 : y1.cell? ⟨w.heap.size + 1, 4, none⟩ = some (.slice none 0 0) := yRq.at_ 4
                have r5 : y1.cell? ⟨w.heap.size + 1, 5, none⟩ = some (.slice none 0 0) := yRq.at_ 5
                have r6 : y1.cell? ⟨w.heap.size + 1, 6, none⟩ = some (.slice none 0 0) := yRq.at_ 6
                have r7 : y1.cell? ⟨w.heap.size + 1, 7, none⟩ = some (.string ⟨#[]⟩) := yRq.at_ 7
                have r8 : y1.cell? ⟨w.heap.size + 1, 8, none⟩ = some (.slice none 0 0) := yRq.at_ 8
                have r9 : y1.cell? ⟨w.heap.size + 1, 9, none⟩ = some (.int .i64 0) := yRq.at_ 9
                have f0 := yRq.free 0
                have f1 := yRq.free 1
                have f2 := yRq.free 2
                have f3 := yRq.free 3
                have f4 := yRq.free 4
                have f5 := yRq.free 5
                have f6 := yRq.free 6
                have f7 := yRq.free 7
                have f8 := yRq.free 8
                have f9 := yRq.free 9
                go_simp
                have hz9 : y1.heap.size ≤ ((((((((((y1.setCell ⟨w.heap.size + 1, 0, none⟩ (.int .i64 3)).setCell ⟨w.heap.size + 1, 1, none⟩ (.string ⟨#[]⟩)).setCell ⟨w.heap.size + 1, 2, none⟩ (.slice none 0 0)).setCell ⟨w.heap.size + 1, 3, none⟩ (.string v.key)).setCell ⟨w.heap.size + 1, 4, none⟩ (.slice none 0 0)).setCell ⟨w.heap.size + 1, 5, none⟩ (.slice none 0 0)).setCell ⟨w.heap.size + 1, 6, none⟩ (.slice none 0 0)).setCell ⟨w.heap.size + 1, 7, none⟩ (.string ⟨#[]⟩)).setCell ⟨w.heap.size + 1, 8, none⟩ (.slice none 0 0)).setCell ⟨w.heap.size + 1, 9, none⟩ (.int .i64 v.slot)).heap.size := by simp only [World.size_setCell]; exact Nat.le_refl _
                generalize hw9 : (((((((((y1.setCell ⟨w.heap.size + 1, 0, none⟩ (.int .i64 3)).setCell ⟨w.heap.size + 1, 1, none⟩ (.string ⟨#[]⟩)).setCell ⟨w.heap.size + 1, 2, none⟩ (.slice none 0 0)).setCell ⟨w.heap.size + 1, 3, none⟩ (.string v.key)).setCell ⟨w.heap.size + 1, 4, none⟩ (.slice none 0 0)).setCell ⟨w.heap.size + 1, 5, none⟩ (.slice none 0 0)).setCell ⟨w.heap.size + 1, 6, none⟩ (.slice none 0 0)).setCell ⟨w.heap.size + 1, 7, none⟩ (.string ⟨#[]⟩)).setCell ⟨w.heap.size + 1, 8, none⟩ (.slice none 0 0)).setCell ⟨w.heap.size + 1, 9, none⟩ (.int .i64 v.slot) = w9 at *
                have HE9 := Lib.hid (pEl_put (t := slotT v.key v.slot) (b := true) (qs := qs) HRL.out ⟨hvp.1, hvp.2.2⟩ hz9 (by rw [HQ.out]; rfl) (fun _ => ⟨slotT_in HV.out.key, AllV.nil _ _⟩))
                have hS9 : (w9.cell? ⟨w.heap.size, 3, none⟩ = some (.string v.key) ∧ w9.cell? ⟨w.heap.size, 9, none⟩ = some (.int .i64 v.slot)) := by
                  have ya : Whole w9 w.heap.size 43 #[.int .i64 v.kind, .string v.tag.s, .slice v.tag.A v.tag.n v.tag.c, .string v.key, .slice v.A v.n v.c, .slice v.H v.hn v.hc, .slice v.K v.kn v.kc, .string v.text.s, .slice v.text.A v.text.n v.text.c, .int .i64 v.slot] := (hvp.2.2 _ (by omega)).trans (HY0.out.below HXW.out HY0.out.lt)
                  exact ⟨ya.at_ 3, ya.at_ 9⟩
                have yq := hvp.2.1
                have q0 : w9.cell? ⟨w.heap.size + 1, 0, none⟩ = some (.int .i64 3) := yq.at_ 0
                have q1 : w9.cell? ⟨w.heap.size + 1, 1, none⟩ = some (.string ⟨#[]⟩) := yq.at_ 1
                have q2 : w9.cell? ⟨w.heap.size + 1, 2, none⟩ = some (.slice none 0 0) := yq.at_ 2
                have q3 : w9.cell? ⟨w.heap.size + 1, 3, none⟩ = some (.string v.key) := yq.at_ 3
                have q4 : w9.cell? ⟨w.heap.size + 1, 4, none⟩ = some (.slice none 0 0) := yq.at_ 4
                have q5 : w9.cell? ⟨w.heap.size + 1, 5, none⟩ = some (.slice none 0 0) := yq.at_ 5
                have q6 : w9.cell? ⟨w.heap.size + 1, 6, none⟩ = some (.slice none 0 0) := yq.at_ 6
                have q7 : w9.cell? ⟨w.heap.size + 1, 7, none⟩ = some (.string ⟨#[]⟩) := yq.at_ 7
                have q8 : w9.cell? ⟨w.heap.size + 1, 8, none⟩ = some (.slice none 0 0) := yq.at_ 8
                have q9 : w9.cell? ⟨w.heap.size + 1, 9, none⟩ = some (.int .i64 v.slot) := yq.at_ 9
                refine hK.out _ w9 (.inr hS9) ?_
                have hS := hS9
                clear hK K hw9 hvp yq yRq hz9 r0 f0 r1 f1 r2 f2 r3 f3 r4 f4 r5 f5 r6 f6 r7 f7 r8 f8 r9 f9
                try simp only [Act.put, List.setIfInBounds_toArray, List.set_cons_zero, List.set_cons_succ]
                refine wpAnyL_ready (rs := [15]) (by kernel_rfl) (by simp) ?_
                refine' ReadyL.cons ?ho26 (fun K hK => ?step26) ?more26
                case ho26 => simp only [List.getElem?_toArray, List.getElem?_cons_succ, List.getElem?_cons_zero]; rfl
                case step26 =>
                  go_simp
                  refine hK.out _ _ (.inr hS) ?_
                  clear hK K
                  try simp only [Act.put, List.setIfInBounds_toArray, List.set_cons_zero, List.set_cons_succ]
                  refine wpAnyL_done (by kernel_rfl) ?_ _
                  clear hS9 hS
                  go_wp2_with fail
                  refine bodyPost_ret (v := .tuple #[.agg #[.int .i64 3, .string ⟨#[]⟩, .slice none 0 0, .string v.key, .slice none 0 0, .slice none 0 0, .slice none 0 0, .string ⟨#[]⟩, .slice none 0 0, .int .i64 v.slot], .bool true]) ?_ rfl ?_
                  · simp [results, Tryz.results29, go_sem, q0, q1, q2, q3, q4, q5, q6, q7, q8, q9]
                  · exact HE9.out
                exact ReadyL.nil
              exact ReadyL.nil
            exact ReadyL.nil
          · have HQ : Hid (qs = []) := by show _ = _; rw [HES.out, if_neg (fun h => h4 (by omega))]
            refine wp_region_lastE (S := (fun W => (W.cell? ⟨w.heap.size, 3, none⟩ = some (.string v.key) ∧ W.cell? ⟨w.heap.size, 9, none⟩ = some (.int .i64 v.slot)))) (Z := (fun _ => false)) (by kernel_rfl) ?_
            obtain ⟨x0, hx0⟩ : ∃ X : World, w1.drew = X := ⟨_, rfl⟩
            have HX0 : Hid (Below w1.heap.size w1 x0) := by show Below _ _ _; rw [← hx0]; exact Below.drew (Below.refl _ _)
            rw [hx0] at hS ⊢
            clear hx0
            refine' wpAnyL_take (i := 0) ?hi27 (by kernel_rfl) (by kernel_rfl) (by kernel_rfl) (by kernel_rfl) ?hQ27 ?hy27 hS ?rest27
            case hi27 => simp only [List.getElem?_toArray, List.getElem?_cons_zero]; rfl
            case hQ27 => exact fun _ _ _ h => h
            case hy27 =>
              refine Or.inl ⟨by rfl, ?_⟩
              intro wq hq
              try dsimp only at hq
              try obtain ⟨hq0, hq1, hq2, hq3, hq4, hq5, hq6⟩ := hq
              try obtain ⟨hq0, hq1, hq2, hq3, hq4, hq5⟩ := hq
              try obtain ⟨hq0, hq1, hq2, hq3, hq4⟩ := hq
              try obtain ⟨hq0, hq1, hq2, hq3⟩ := hq
              try obtain ⟨hq0, hq1, hq2⟩ := hq
              try obtain ⟨hq0, hq1⟩ := hq
              go_simp
              try with_reducible rfl
            try simp only [Act.put, List.setIfInBounds_toArray, List.set_cons_zero, List.set_cons_succ]
            refine' wpAnyL_take (i := 1) ?hi28 (by kernel_rfl) (by kernel_rfl) (by kernel_rfl) (by kernel_rfl) ?hQ28 ?hy28 hS ?rest28
            case hi28 => simp only [List.getElem?_toArray, List.getElem?_cons_succ, List.getElem?_cons_zero]; rfl
            case hQ28 => exact fun _ _ _ h => h
            case hy28 =>
              refine Or.inl ⟨by rfl, ?_⟩
              intro wq hq
              try dsimp only at hq
              try obtain ⟨hq0, hq1, hq2, hq3, hq4, hq5, hq6⟩ := hq
              try obtain ⟨hq0, hq1, hq2, hq3, hq4, hq5⟩ := hq
              try obtain ⟨hq0, hq1, hq2, hq3, hq4⟩ := hq
              try obtain ⟨hq0, hq1, hq2, hq3⟩ := hq
              try obtain ⟨hq0, hq1, hq2⟩ := hq
              try obtain ⟨hq0, hq1⟩ := hq
              go_simp
              try with_reducible rfl
            try simp only [Act.put, List.setIfInBounds_toArray, List.set_cons_zero, List.set_cons_succ]
            refine' wpAnyL_take (i := 3) ?hi29 (by kernel_rfl) (by kernel_rfl) (by kernel_rfl) (by kernel_rfl) ?hQ29 ?hy29 hS ?rest29
            case hi29 => simp only [List.getElem?_toArray, List.getElem?_cons_succ, List.getElem?_cons_zero]; rfl
            case hQ29 => exact fun _ _ _ h => h
            case hy29 =>
              refine Or.inl ⟨by rfl, ?_⟩
              intro wq hq
              try dsimp only at hq
              try obtain ⟨hq0, hq1, hq2, hq3, hq4, hq5, hq6⟩ := hq
              try obtain ⟨hq0, hq1, hq2, hq3, hq4, hq5⟩ := hq
              try obtain ⟨hq0, hq1, hq2, hq3, hq4⟩ := hq
              try obtain ⟨hq0, hq1, hq2, hq3⟩ := hq
              try obtain ⟨hq0, hq1, hq2⟩ := hq
              try obtain ⟨hq0, hq1⟩ := hq
              go_simp
              try with_reducible rfl
            try simp only [Act.put, List.setIfInBounds_toArray, List.set_cons_zero, List.set_cons_succ]
            refine' wpAnyL_take (i := 4) ?hi30 (by kernel_rfl) (by kernel_rfl) (by kernel_rfl) (by kernel_rfl) ?hQ30 ?hy30 hS ?rest30
            case hi30 => simp only [List.getElem?_toArray, List.getElem?_cons_succ, List.getElem?_cons_zero]; rfl
            case hQ30 => exact fun _ _ _ h => h
            case hy30 =>
              refine Or.inl ⟨by rfl, ?_⟩
              intro wq hq
              try dsimp only at hq
              try obtain ⟨hq0, hq1, hq2, hq3, hq4, hq5, hq6⟩ := hq
              try obtain ⟨hq0, hq1, hq2, hq3, hq4, hq5⟩ := hq
              try obtain ⟨hq0, hq1, hq2, hq3, hq4⟩ := hq
              try obtain ⟨hq0, hq1, hq2, hq3⟩ := hq
              try obtain ⟨hq0, hq1, hq2⟩ := hq
              try obtain ⟨hq0, hq1⟩ := hq
              go_simp
              try with_reducible rfl
            try simp only [Act.put, List.setIfInBounds_toArray, List.set_cons_zero, List.set_cons_succ]
            refine' wpAnyL_take (i := 6) ?hi31 (by kernel_rfl) (by kernel_rfl) (by kernel_rfl) (by kernel_rfl) ?hQ31 ?hy31 hS ?rest31
            case hi31 => simp only [List.getElem?_toArray, List.getElem?_cons_succ, List.getElem?_cons_zero]; rfl
            case hQ31 => exact fun _ _ _ h => h
            case hy31 =>
              refine Or.inl ⟨by rfl, ?_⟩
              intro wq hq
              try dsimp only at hq
              try obtain ⟨hq0, hq1, hq2, hq3, hq4, hq5, hq6⟩ := hq
              try obtain ⟨hq0, hq1, hq2, hq3, hq4, hq5⟩ := hq
              try obtain ⟨hq0, hq1, hq2, hq3, hq4⟩ := hq
              try obtain ⟨hq0, hq1, hq2, hq3⟩ := hq
              try obtain ⟨hq0, hq1, hq2⟩ := hq
              try obtain ⟨hq0, hq1⟩ := hq
              go_simp
              try with_reducible rfl
            try simp only [Act.put, List.setIfInBounds_toArray, List.set_cons_zero, List.set_cons_succ]
            refine' wpAnyL_take (i := 7) ?hi32 (by kernel_rfl) (by kernel_rfl) (by kernel_rfl) (by kernel_rfl) ?hQ32 ?hy32 hS ?rest32
            case hi32 => simp only [List.getElem?_toArray, List.getElem?_cons_succ, List.getElem?_cons_zero]; rfl
            case hQ32 => exact fun _ _ _ h => h
            case hy32 =>
              refine Or.inl ⟨by rfl, ?_⟩
              intro wq hq
              try dsimp only at hq
              try obtain ⟨hq0, hq1, hq2, hq3, hq4, hq5, hq6⟩ := hq
              try obtain ⟨hq0, hq1, hq2, hq3, hq4, hq5⟩ := hq
              try obtain ⟨hq0, hq1, hq2, hq3, hq4⟩ := hq
              try obtain ⟨hq0, hq1, hq2, hq3⟩ := hq
              try obtain ⟨hq0, hq1, hq2⟩ := hq
              try obtain ⟨hq0, hq1⟩ := hq
              go_simp
              try with_reducible rfl
            try simp only [Act.put, List.setIfInBounds_toArray, List.set_cons_zero, List.set_cons_succ]
            refine' wpAnyL_take (i := 8) ?hi33 (by kernel_rfl) (by kernel_rfl) (by kernel_rfl) (by kernel_rfl) ?hQ33 ?hy33 hS ?rest33
            case hi33 => simp only [List.getElem?_toArray, List.getElem?_cons_succ, List.getElem?_cons_zero]; rfl
            case hQ33 => exact fun _ _ _ h => h
            case hy33 =>
              refine Or.inl ⟨by rfl, ?_⟩
              intro wq hq
              try dsimp only at hq
              try obtain ⟨hq0, hq1, hq2, hq3, hq4, hq5, hq6⟩ := hq
              try obtain ⟨hq0, hq1, hq2, hq3, hq4, hq5⟩ := hq
              try obtain ⟨hq0, hq1, hq2, hq3, hq4⟩ := hq
              try obtain ⟨hq0, hq1, hq2, hq3⟩ := hq
              try obtain ⟨hq0, hq1, hq2⟩ := hq
              try obtain ⟨hq0, hq1⟩ := hq
              go_simp
              try with_reducible rfl
            try simp only [Act.put, List.setIfInBounds_toArray, List.set_cons_zero, List.set_cons_succ]
            refine wpAnyL_ready (rs := [2]) (by kernel_rfl) (by simp) ?_
            refine' ReadyL.cons ?ho34 (fun K hK => ?step34) ?more34
            case ho34 => simp only [List.getElem?_toArray, List.getElem?_cons_succ, List.getElem?_cons_zero]; rfl
            case step34 =>
              go_simp
              refine (clone_any v.key x0 HKZ.out).mono ?_
              rintro e y1 ⟨rfl, hb⟩
              have HX1 : Hid (Below w1.heap.size w1 y1) := below_next HX0.out (Nat.le_refl _) hb
              have HXW : Hid (Below w1.heap.size w1 y1) := below_next HB1.out (Nat.le_refl _) HX1.out
              have hS := HSS.out y1 HX1.out
              refine hK.out _ _ (.inr hS) ?_
              clear hK K hb
              try simp only [Act.put, List.setIfInBounds_toArray, List.set_cons_zero, List.set_cons_succ]
              refine' wpAnyL_take (i := 5) ?hi35 (by kernel_rfl) (by kernel_rfl) (by kernel_rfl) (by kernel_rfl) ?hQ35 ?hy35 hS ?rest35
              case hi35 => simp only [List.getElem?_toArray, List.getElem?_cons_succ, List.getElem?_cons_zero]; rfl
              case hQ35 => exact fun _ _ _ h => h
              case hy35 =>
                refine Or.inl ⟨by rfl, ?_⟩
                intro wq hq
                try dsimp only at hq
                try obtain ⟨hq0, hq1, hq2, hq3, hq4, hq5, hq6⟩ := hq
                try obtain ⟨hq0, hq1, hq2, hq3, hq4, hq5⟩ := hq
                try obtain ⟨hq0, hq1, hq2, hq3, hq4⟩ := hq
                try obtain ⟨hq0, hq1, hq2, hq3⟩ := hq
                try obtain ⟨hq0, hq1, hq2⟩ := hq
                try obtain ⟨hq0, hq1⟩ := hq
                go_simp
                try with_reducible rfl
              try simp only [Act.put, List.setIfInBounds_toArray, List.set_cons_zero, List.set_cons_succ]
              refine' wpAnyL_take (i := 9) ?hi36 (by kernel_rfl) (by kernel_rfl) (by kernel_rfl) (by kernel_rfl) ?hQ36 ?hy36 hS ?rest36
              case hi36 => simp only [List.getElem?_toArray, List.getElem?_cons_succ, List.getElem?_cons_zero]; rfl
              case hQ36 => exact fun _ _ _ h => h
              case hy36 =>
                refine Or.inl ⟨by rfl, ?_⟩
                intro wq hq
                try dsimp only at hq
                try obtain ⟨hq0, hq1, hq2, hq3, hq4, hq5, hq6⟩ := hq
                try obtain ⟨hq0, hq1, hq2, hq3, hq4, hq5⟩ := hq
                try obtain ⟨hq0, hq1, hq2, hq3, hq4⟩ := hq
                try obtain ⟨hq0, hq1, hq2, hq3⟩ := hq
                try obtain ⟨hq0, hq1, hq2⟩ := hq
                try obtain ⟨hq0, hq1⟩ := hq
                go_simp
                try with_reducible rfl
              try simp only [Act.put, List.setIfInBounds_toArray, List.set_cons_zero, List.set_cons_succ]
              refine' wpAnyL_take (i := 10) ?hi37 (by kernel_rfl) (by kernel_rfl) (by kernel_rfl) (by kernel_rfl) ?hQ37 ?hy37 hS ?rest37
              case hi37 => simp only [List.getElem?_toArray, List.getElem?_cons_succ, List.getElem?_cons_zero]; rfl
              case hQ37 => exact fun _ _ _ h => h
              case hy37 =>
                refine Or.inl ⟨by rfl, ?_⟩
                intro wq hq
                try dsimp only at hq
                try obtain ⟨hq0, hq1, hq2, hq3, hq4, hq5, hq6⟩ := hq
                try obtain ⟨hq0, hq1, hq2, hq3, hq4, hq5⟩ := hq
                try obtain ⟨hq0, hq1, hq2, hq3, hq4⟩ := hq
                try obtain ⟨hq0, hq1, hq2, hq3⟩ := hq
                try obtain ⟨hq0, hq1, hq2⟩ := hq
                try obtain ⟨hq0, hq1⟩ := hq
                go_simp
                try with_reducible rfl
              try simp only [Act.put, List.setIfInBounds_toArray, List.set_cons_zero, List.set_cons_succ]
              refine' wpAnyL_take (i := 11) ?hi38 (by kernel_rfl) (by kernel_rfl) (by kernel_rfl) (by kernel_rfl) ?hQ38 ?hy38 hS ?rest38
              case hi38 => simp only [List.getElem?_toArray, List.getElem?_cons_succ, List.getElem?_cons_zero]; rfl
              case hQ38 => exact fun _ _ _ h => h
              case hy38 =>
                refine Or.inl ⟨by rfl, ?_⟩
                intro wq hq
                try dsimp only at hq
                try obtain ⟨hq0, hq1, hq2, hq3, hq4, hq5, hq6⟩ := hq
                try obtain ⟨hq0, hq1, hq2, hq3, hq4, hq5⟩ := hq
                try obtain ⟨hq0, hq1, hq2, hq3, hq4⟩ := hq
                try obtain ⟨hq0, hq1, hq2, hq3⟩ := hq
                try obtain ⟨hq0, hq1, hq2⟩ := hq
                try obtain ⟨hq0, hq1⟩ := hq
                go_simp
                try with_reducible rfl
              try simp only [Act.put, List.setIfInBounds_toArray, List.set_cons_zero, List.set_cons_succ]
              refine' wpAnyL_take (i := 12) ?hi39 (by kernel_rfl) (by kernel_rfl) (by kernel_rfl) (by kernel_rfl) ?hQ39 ?hy39 hS ?rest39
              case hi39 => simp only [List.getElem?_toArray, List.getElem?_cons_succ, List.getElem?_cons_zero]; rfl
              case hQ39 => exact fun _ _ _ h => h
              case hy39 =>
                refine Or.inl ⟨by rfl, ?_⟩
                intro wq hq
                try dsimp only at hq
                try obtain ⟨hq0, hq1, hq2, hq3, hq4, hq5, hq6⟩ := hq
                try obtain ⟨hq0, hq1, hq2, hq3, hq4, hq5⟩ := hq
                try obtain ⟨hq0, hq1, hq2, hq3, hq4⟩ := hq
                try obtain ⟨hq0, hq1, hq2, hq3⟩ := hq
                try obtain ⟨hq0, hq1, hq2⟩ := hq
                try obtain ⟨hq0, hq1⟩ := hq
                go_simp
                try with_reducible rfl
              try simp only [Act.put, List.setIfInBounds_toArray, List.set_cons_zero, List.set_cons_succ]
              refine' wpAnyL_take (i := 13) ?hi40 (by kernel_rfl) (by kernel_rfl) (by kernel_rfl) (by kernel_rfl) ?hQ40 ?hy40 hS ?rest40
              case hi40 => simp only [List.getElem?_toArray, List.getElem?_cons_succ, List.getElem?_cons_zero]; rfl
              case hQ40 => exact fun _ _ _ h => h
              case hy40 =>
                refine Or.inl ⟨by rfl, ?_⟩
                intro wq hq
                try dsimp only at hq
                try obtain ⟨hq0, hq1, hq2, hq3, hq4, hq5, hq6⟩ := hq
                try obtain ⟨hq0, hq1, hq2, hq3, hq4, hq5⟩ := hq
                try obtain ⟨hq0, hq1, hq2, hq3, hq4⟩ := hq
                try obtain ⟨hq0, hq1, hq2, hq3⟩ := hq
                try obtain ⟨hq0, hq1, hq2⟩ := hq
                try obtain ⟨hq0, hq1⟩ := hq
                go_simp
                try with_reducible rfl
              try simp only [Act.put, List.setIfInBounds_toArray, List.set_cons_zero, List.set_cons_succ]
              refine wpAnyL_ready (rs := [14]) (by kernel_rfl) (by simp) ?_
              refine' ReadyL.cons ?ho41 (fun K hK => ?step41) ?more41
              case ho41 => simp only [List.getElem?_toArray, List.getElem?_cons_succ, List.getElem?_cons_zero]; rfl
              case step41 =>
                have yRq : Whole y1 (w.heap.size + 1) 43 #[.int .i64 0, .string ⟨#[]⟩, .slice none 0 0, .string ⟨#[]⟩, .slice none 0 0, .slice none 0 0, .slice none 0 0, .string ⟨#[]⟩, .slice none 0 0, .int .i64 0] := HYR.out.below HXW.out HYR.out.lt
                have hvp := view_put (below_next HBW.out (Nat.le_refl _) HXW.out) (Nat.le_succ _) yRq (.int .i64 3) (.string ⟨#[]⟩) (.slice none 0 0) (.string v.key) (.slice none 0 0) (.slice none 0 0) (.slice none 0 0) (.string ⟨#[]⟩) (.slice none 0 0) (.int .i64 v.slot)
                have r0 : y1.cell? ⟨w.heap.size + 1, 0, none⟩ = some (.int .i64 0) := yRq.at_ 0
                have r1 : y1.cell? ⟨w.heap.size + 1, 1, none⟩ = some (.string ⟨#[]⟩) := yRq.at_ 1
                have r2 : y1.cell? ⟨w.heap.size + 1, 2, none⟩ = some (.slice none 0 0) := yRq.at_ 2
                have r3 : y1.cell? ⟨w.heap.size + 1, 3, none⟩ = some (.string ⟨#[]⟩) := yRq.at_ 3
                have r4 : y1.cell? ⟨w.heap.size + 1, 4, none⟩ = some (.slice none 0 0) := yRq.at_ 4
                have r5 : y1.cell? ⟨w.heap.size + 1, 5, none⟩ = some (.slice none 0 0) := yRq.at_ 5
                have r6 : y1.cell? ⟨w.heap.size + 1, 6, none⟩ = some (.slice none 0 0) := yRq.at_ 6
                have r7 : y1.cell? ⟨w.heap.size + 1, 7, none⟩ = some (.string ⟨#[]⟩) := yRq.at_ 7
                have r8 : y1.cell? ⟨w.heap.size + 1, 8, none⟩ = some (.slice none 0 0) := yRq.at_ 8
                have r9 : y1.cell? ⟨w.heap.size + 1, 9, none⟩ = some (.int .i64 0) := yRq.at_ 9
                have f0 := yRq.free 0
                have f1 := yRq.free 1
                have f2 := yRq.free 2
                have f3 := yRq.free 3
                have f4 := yRq.free 4
                have f5 := yRq.free 5
                have f6 := yRq.free 6
                have f7 := yRq.free 7
                have f8 := yRq.free 8
                have f9 := yRq.free 9
                go_simp
                have hz9 : y1.heap.size ≤ ((((((((((y1.setCell ⟨w.heap.size + 1, 0, none⟩ (.int .i64 3)).setCell ⟨w.heap.size + 1, 1, none⟩ (.string ⟨#[]⟩)).setCell ⟨w.heap.size + 1, 2, none⟩ (.slice none 0 0)).setCell ⟨w.heap.size + 1, 3, none⟩ (.string v.key)).setCell ⟨w.heap.size + 1, 4, none⟩ (.slice none 0 0)).setCell ⟨w.heap.size + 1, 5, none⟩ (.slice none 0 0)).setCell ⟨w.heap.size + 1, 6, none⟩ (.slice none 0 0)).setCell ⟨w.heap.size + 1, 7, none⟩ (.string ⟨#[]⟩)).setCell ⟨w.heap.size + 1, 8, none⟩ (.slice none 0 0)).setCell ⟨w.heap.size + 1, 9, none⟩ (.int .i64 v.slot)).heap.size := by simp only [World.size_setCell]; exact Nat.le_refl _
                generalize hw9 : (((((((((y1.setCell ⟨w.heap.size + 1, 0, none⟩ (.int .i64 3)).setCell ⟨w.heap.size + 1, 1, none⟩ (.string ⟨#[]⟩)).setCell ⟨w.heap.size + 1, 2, none⟩ (.slice none 0 0)).setCell ⟨w.heap.size + 1, 3, none⟩ (.string v.key)).setCell ⟨w.heap.size + 1, 4, none⟩ (.slice none 0 0)).setCell ⟨w.heap.size + 1, 5, none⟩ (.slice none 0 0)).setCell ⟨w.heap.size + 1, 6, none⟩ (.slice none 0 0)).setCell ⟨w.heap.size + 1, 7, none⟩ (.string ⟨#[]⟩)).setCell ⟨w.heap.size + 1, 8, none⟩ (.slice none 0 0)).setCell ⟨w.heap.size + 1, 9, none⟩ (.int .i64 v.slot) = w9 at *
                have HE9 := Lib.hid (pEl_put (t := slotT v.key v.slot) (b := false) (qs := qs) HRL.out ⟨hvp.1, hvp.2.2⟩ hz9 (by rw [HQ.out]; rfl) (fun _ => ⟨slotT_in HV.out.key, AllV.nil _ _⟩))
                have hS9 : (w9.cell? ⟨w.heap.size, 3, none⟩ = some (.string v.key) ∧ w9.cell? ⟨w.heap.size, 9, none⟩ = some (.int .i64 v.slot)) := by
                  have ya : Whole w9 w.heap.size 43 #[.int .i64 v.kind, .string v.tag.s, .slice v.tag.A v.tag.n v.tag.c, .string v.key, .slice v.A v.n v.c, .slice v.H v.hn v.hc, .slice v.K v.kn v.kc, .string v.text.s, .slice v.text.A v.text.n v.text.c, .int .i64 v.slot] := (hvp.2.2 _ (by omega)).trans (HY0.out.below HXW.out HY0.out.lt)
                  exact ⟨ya.at_ 3, ya.at_ 9⟩
                have yq := hvp.2.1
                have q0 : w9.cell? ⟨w.heap.size + 1, 0, none⟩ = some (.int .i64 3) := yq.at_ 0
                have q1 : w9.cell? ⟨w.heap.size + 1, 1, none⟩ = some (.string ⟨#[]⟩) := yq.at_ 1
                have q2 : w9.cell? ⟨w.heap.size + 1, 2, none⟩ = some (.slice none 0 0) := yq.at_ 2
                have q3 : w9.cell? ⟨w.heap.size + 1, 3, none⟩ = some (.string v.key) := yq.at_ 3
                have q4 : w9.cell? ⟨w.heap.size + 1, 4, none⟩ = some (.slice none 0 0) := yq.at_ 4
                have q5 : w9.cell? ⟨w.heap.size + 1, 5, none⟩ = some (.slice none 0 0) := yq.at_ 5
                have q6 : w9.cell? ⟨w.heap.size + 1, 6, none⟩ = some (.slice none 0 0) := yq.at_ 6
                have q7 : w9.cell? ⟨w.heap.size + 1, 7, none⟩ = some (.string ⟨#[]⟩) := yq.at_ 7
                have q8 : w9.cell? ⟨w.heap.size + 1, 8, none⟩ = some (.slice none 0 0) := yq.at_ 8
                have q9 : w9.cell? ⟨w.heap.size + 1, 9, none⟩ = some (.int .i64 v.slot) := yq.at_ 9
                refine hK.out _ w9 (.inr hS9) ?_
                have hS := hS9
                clear hK K hw9 hvp yq yRq hz9 r0 f0 r1 f1 r2 f2 r3 f3 r4 f4 r5 f5 r6 f6 r7 f7 r8 f8 r9 f9
                try simp only [Act.put, List.setIfInBounds_toArray, List.set_cons_zero, List.set_cons_succ]
                refine wpAnyL_ready (rs := [15]) (by kernel_rfl) (by simp) ?_
                refine' ReadyL.cons ?ho42 (fun K hK => ?step42) ?more42
                case ho42 => simp only [List.getElem?_toArray, List.getElem?_cons_succ, List.getElem?_cons_zero]; rfl
                case step42 =>
                  go_simp
                  refine hK.out _ _ (.inr hS) ?_
                  clear hK K
                  try simp only [Act.put, List.setIfInBounds_toArray, List.set_cons_zero, List.set_cons_succ]
                  refine wpAnyL_done (by kernel_rfl) ?_ _
                  clear hS9 hS
                  go_wp2_with fail
                  refine bodyPost_ret (v := .tuple #[.agg #[.int .i64 3, .string ⟨#[]⟩, .slice none 0 0, .string v.key, .slice none 0 0, .slice none 0 0, .slice none 0 0, .string ⟨#[]⟩, .slice none 0 0, .int .i64 v.slot], .bool false]) ?_ rfl ?_
                  · simp [results, Tryz.results29, go_sem, q0, q1, q2, q3, q4, q5, q6, q7, q8, q9]
                  · exact HE9.out
                exact ReadyL.nil
              exact ReadyL.nil
            exact ReadyL.nil
        · have HQ : Hid (qs = []) := by show _ = _; rw [HES.out, if_neg (fun h => h0 (by omega))]
          refine wp_region_lastE (S := (fun W => (W.cell? ⟨w.heap.size, 3, none⟩ = some (.string v.key) ∧ W.cell? ⟨w.heap.size, 9, none⟩ = some (.int .i64 v.slot)))) (Z := (fun _ => false)) (by kernel_rfl) ?_
          obtain ⟨x0, hx0⟩ : ∃ X : World, w1.drew = X := ⟨_, rfl⟩
          have HX0 : Hid (Below w1.heap.size w1 x0) := by show Below _ _ _; rw [← hx0]; exact Below.drew (Below.refl _ _)
          rw [hx0] at hS ⊢
          clear hx0
          refine' wpAnyL_take (i := 0) ?hi43 (by kernel_rfl) (by kernel_rfl) (by kernel_rfl) (by kernel_rfl) ?hQ43 ?hy43 hS ?rest43
          case hi43 => simp only [List.getElem?_toArray, List.getElem?_cons_zero]; rfl
          case hQ43 => exact fun _ _ _ h => h
          case hy43 =>
            refine Or.inl ⟨by rfl, ?_⟩
            intro wq hq
            try dsimp only at hq
            try obtain ⟨hq0, hq1, hq2, hq3, hq4, hq5, hq6⟩ := hq
            try obtain ⟨hq0, hq1, hq2, hq3, hq4, hq5⟩ := hq
            try obtain ⟨hq0, hq1, hq2, hq3, hq4⟩ := hq
            try obtain ⟨hq0, hq1, hq2, hq3⟩ := hq
            try obtain ⟨hq0, hq1, hq2⟩ := hq
            try obtain ⟨hq0, hq1⟩ := hq
            go_simp
            try with_reducible rfl
          try simp only [Act.put, List.setIfInBounds_toArray, List.set_cons_zero, List.set_cons_succ]
          refine' wpAnyL_take (i := 1) ?hi44 (by kernel_rfl) (by kernel_rfl) (by kernel_rfl) (by kernel_rfl) ?hQ44 ?hy44 hS ?rest44
          case hi44 => simp only [List.getElem?_toArray, List.getElem?_cons_succ, List.getElem?_cons_zero]; rfl
          case hQ44 => exact fun _ _ _ h => h
          case hy44 =>
            refine Or.inl ⟨by rfl, ?_⟩
            intro wq hq
            try dsimp only at hq
            try obtain ⟨hq0, hq1, hq2, hq3, hq4, hq5, hq6⟩ := hq
            try obtain ⟨hq0, hq1, hq2, hq3, hq4, hq5⟩ := hq
            try obtain ⟨hq0, hq1, hq2, hq3, hq4⟩ := hq
            try obtain ⟨hq0, hq1, hq2, hq3⟩ := hq
            try obtain ⟨hq0, hq1, hq2⟩ := hq
            try obtain ⟨hq0, hq1⟩ := hq
            go_simp
            try with_reducible rfl
          try simp only [Act.put, List.setIfInBounds_toArray, List.set_cons_zero, List.set_cons_succ]
          refine' wpAnyL_take (i := 3) ?hi45 (by kernel_rfl) (by kernel_rfl) (by kernel_rfl) (by kernel_rfl) ?hQ45 ?hy45 hS ?rest45
          case hi45 => simp only [List.getElem?_toArray, List.getElem?_cons_succ, List.getElem?_cons_zero]; rfl
          case hQ45 => exact fun _ _ _ h => h
          case hy45 =>
            refine Or.inl ⟨by rfl, ?_⟩
            intro wq hq
            try dsimp only at hq
            try obtain ⟨hq0, hq1, hq2, hq3, hq4, hq5, hq6⟩ := hq
            try obtain ⟨hq0, hq1, hq2, hq3, hq4, hq5⟩ := hq
            try obtain ⟨hq0, hq1, hq2, hq3, hq4⟩ := hq
            try obtain ⟨hq0, hq1, hq2, hq3⟩ := hq
            try obtain ⟨hq0, hq1, hq2⟩ := hq
            try obtain ⟨hq0, hq1⟩ := hq
            go_simp
            try with_reducible rfl
          try simp only [Act.put, List.setIfInBounds_toArray, List.set_cons_zero, List.set_cons_succ]
          refine' wpAnyL_take (i := 4) ?hi46 (by kernel_rfl) (by kernel_rfl) (by kernel_rfl) (by kernel_rfl) ?hQ46 ?hy46 hS ?rest46
          case hi46 => simp only [List.getElem?_toArray, List.getElem?_cons_succ, List.getElem?_cons_zero]; rfl
          case hQ46 => exact fun _ _ _ h => h
          case hy46 =>
            refine Or.inl ⟨by rfl, ?_⟩
            intro wq hq
            try dsimp only at hq
            try obtain ⟨hq0, hq1, hq2, hq3, hq4, hq5, hq6⟩ := hq
            try obtain ⟨hq0, hq1, hq2, hq3, hq4, hq5⟩ := hq
            try obtain ⟨hq0, hq1, hq2, hq3, hq4⟩ := hq
            try obtain ⟨hq0, hq1, hq2, hq3⟩ := hq
            try obtain ⟨hq0, hq1, hq2⟩ := hq
            try obtain ⟨hq0, hq1⟩ := hq
            go_simp
            try with_reducible rfl
          try simp only [Act.put, List.setIfInBounds_toArray, List.set_cons_zero, List.set_cons_succ]
          refine' wpAnyL_take (i := 6) ?hi47 (by kernel_rfl) (by kernel_rfl) (by kernel_rfl) (by kernel_rfl) ?hQ47 ?hy47 hS ?rest47
          case hi47 => simp only [List.getElem?_toArray, List.getElem?_cons_succ, List.getElem?_cons_zero]; rfl
          case hQ47 => exact fun _ _ _ h => h
          case hy47 =>
            refine Or.inl ⟨by rfl, ?_⟩
            intro wq hq
            try dsimp only at hq
            try obtain ⟨hq0, hq1, hq2, hq3, hq4, hq5, hq6⟩ := hq
            try obtain ⟨hq0, hq1, hq2, hq3, hq4, hq5⟩ := hq
            try obtain ⟨hq0, hq1, hq2, hq3, hq4⟩ := hq
            try obtain ⟨hq0, hq1, hq2, hq3⟩ := hq
            try obtain ⟨hq0, hq1, hq2⟩ := hq
            try obtain ⟨hq0, hq1⟩ := hq
            go_simp
            try with_reducible rfl
          try simp only [Act.put, List.setIfInBounds_toArray, List.set_cons_zero, List.set_cons_succ]
          refine' wpAnyL_take (i := 7) ?hi48 (by kernel_rfl) (by kernel_rfl) (by kernel_rfl) (by kernel_rfl) ?hQ48 ?hy48 hS ?rest48
          case hi48 => simp only [List.getElem?_toArray, List.getElem?_cons_succ, List.getElem?_cons_zero]; rfl
          case hQ48 => exact fun _ _ _ h => h
          case hy48 =>
            refine Or.inl ⟨by rfl, ?_⟩
            intro wq hq
            try dsimp only at hq
            try obtain ⟨hq0, hq1, hq2, hq3, hq4, hq5, hq6⟩ := hq
            try obtain ⟨hq0, hq1, hq2, hq3, hq4, hq5⟩ := hq
            try obtain ⟨hq0, hq1, hq2, hq3, hq4⟩ := hq
            try obtain ⟨hq0, hq1, hq2, hq3⟩ := hq
            try obtain ⟨hq0, hq1, hq2⟩ := hq
            try obtain ⟨hq0, hq1⟩ := hq
            go_simp
            try with_reducible rfl
          try simp only [Act.put, List.setIfInBounds_toArray, List.set_cons_zero, List.set_cons_succ]
          refine' wpAnyL_take (i := 8) ?hi49 (by kernel_rfl) (by kernel_rfl) (by kernel_rfl) (by kernel_rfl) ?hQ49 ?hy49 hS ?rest49
          case hi49 => simp only [List.getElem?_toArray, List.getElem?_cons_succ, List.getElem?_cons_zero]; rfl
          case hQ49 => exact fun _ _ _ h => h
          case hy49 =>
            refine Or.inl ⟨by rfl, ?_⟩
            intro wq hq
            try dsimp only at hq
            try obtain ⟨hq0, hq1, hq2, hq3, hq4, hq5, hq6⟩ := hq
            try obtain ⟨hq0, hq1, hq2, hq3, hq4, hq5⟩ := hq
            try obtain ⟨hq0, hq1, hq2, hq3, hq4⟩ := hq
            try obtain ⟨hq0, hq1, hq2, hq3⟩ := hq
            try obtain ⟨hq0, hq1, hq2⟩ := hq
            try obtain ⟨hq0, hq1⟩ := hq
            go_simp
            try with_reducible rfl
          try simp only [Act.put, List.setIfInBounds_toArray, List.set_cons_zero, List.set_cons_succ]
          refine wpAnyL_ready (rs := [2]) (by kernel_rfl) (by simp) ?_
          refine' ReadyL.cons ?ho50 (fun K hK => ?step50) ?more50
          case ho50 => simp only [List.getElem?_toArray, List.getElem?_cons_succ, List.getElem?_cons_zero]; rfl
          case step50 =>
            go_simp
            refine (clone_any v.key x0 HKZ.out).mono ?_
            rintro e y1 ⟨rfl, hb⟩
            have HX1 : Hid (Below w1.heap.size w1 y1) := below_next HX0.out (Nat.le_refl _) hb
            have HXW : Hid (Below w1.heap.size w1 y1) := below_next HB1.out (Nat.le_refl _) HX1.out
            have hS := HSS.out y1 HX1.out
            refine hK.out _ _ (.inr hS) ?_
            clear hK K hb
            try simp only [Act.put, List.setIfInBounds_toArray, List.set_cons_zero, List.set_cons_succ]
            refine' wpAnyL_take (i := 5) ?hi51 (by kernel_rfl) (by kernel_rfl) (by kernel_rfl) (by kernel_rfl) ?hQ51 ?hy51 hS ?rest51
            case hi51 => simp only [List.getElem?_toArray, List.getElem?_cons_succ, List.getElem?_cons_zero]; rfl
            case hQ51 => exact fun _ _ _ h => h
            case hy51 =>
              refine Or.inl ⟨by rfl, ?_⟩
              intro wq hq
              try dsimp only at hq
              try obtain ⟨hq0, hq1, hq2, hq3, hq4, hq5, hq6⟩ := hq
              try obtain ⟨hq0, hq1, hq2, hq3, hq4, hq5⟩ := hq
              try obtain ⟨hq0, hq1, hq2, hq3, hq4⟩ := hq
              try obtain ⟨hq0, hq1, hq2, hq3⟩ := hq
              try obtain ⟨hq0, hq1, hq2⟩ := hq
              try obtain ⟨hq0, hq1⟩ := hq
              go_simp
              try with_reducible rfl
            try simp only [Act.put, List.setIfInBounds_toArray, List.set_cons_zero, List.set_cons_succ]
            refine' wpAnyL_take (i := 9) ?hi52 (by kernel_rfl) (by kernel_rfl) (by kernel_rfl) (by kernel_rfl) ?hQ52 ?hy52 hS ?rest52
            case hi52 => simp only [List.getElem?_toArray, List.getElem?_cons_succ, List.getElem?_cons_zero]; rfl
            case hQ52 => exact fun _ _ _ h => h
            case hy52 =>
              refine Or.inl ⟨by rfl, ?_⟩
              intro wq hq
              try dsimp only at hq
              try obtain ⟨hq0, hq1, hq2, hq3, hq4, hq5, hq6⟩ := hq
              try obtain ⟨hq0, hq1, hq2, hq3, hq4, hq5⟩ := hq
              try obtain ⟨hq0, hq1, hq2, hq3, hq4⟩ := hq
              try obtain ⟨hq0, hq1, hq2, hq3⟩ := hq
              try obtain ⟨hq0, hq1, hq2⟩ := hq
              try obtain ⟨hq0, hq1⟩ := hq
              go_simp
              try with_reducible rfl
            try simp only [Act.put, List.setIfInBounds_toArray, List.set_cons_zero, List.set_cons_succ]
            refine' wpAnyL_take (i := 10) ?hi53 (by kernel_rfl) (by kernel_rfl) (by kernel_rfl) (by kernel_rfl) ?hQ53 ?hy53 hS ?rest53
            case hi53 => simp only [List.getElem?_toArray, List.getElem?_cons_succ, List.getElem?_cons_zero]; rfl
            case hQ53 => exact fun _ _ _ h => h
            case hy53 => exact Or.inr ⟨by rfl, rfl⟩
            try simp only [Act.put, List.setIfInBounds_toArray, List.set_cons_zero, List.set_cons_succ]
            refine' wpAnyL_take (i := 11) ?hi54 (by kernel_rfl) (by kernel_rfl) (by kernel_rfl) (by kernel_rfl) ?hQ54 ?hy54 hS ?rest54
            case hi54 => simp only [List.getElem?_toArray, List.getElem?_cons_succ, List.getElem?_cons_zero]; rfl
            case hQ54 => exact fun _ _ _ h => h
            case hy54 => exact Or.inr ⟨by rfl, rfl⟩
            try simp only [Act.put, List.setIfInBounds_toArray, List.set_cons_zero, List.set_cons_succ]
            refine' wpAnyL_take (i := 12) ?hi55 (by kernel_rfl) (by kernel_rfl) (by kernel_rfl) (by kernel_rfl) ?hQ55 ?hy55 hS ?rest55
            case hi55 => simp only [List.getElem?_toArray, List.getElem?_cons_succ, List.getElem?_cons_zero]; rfl
            case hQ55 => exact fun _ _ _ h => h
            case hy55 => exact Or.inr ⟨by rfl, rfl⟩
            try simp only [Act.put, List.setIfInBounds_toArray, List.set_cons_zero, List.set_cons_succ]
            refine' wpAnyL_take (i := 13) ?hi56 (by kernel_rfl) (by kernel_rfl) (by kernel_rfl) (by kernel_rfl) ?hQ56 ?hy56 hS ?rest56
            case hi56 => simp only [List.getElem?_toArray, List.getElem?_cons_succ, List.getElem?_cons_zero]; rfl
            case hQ56 => exact fun _ _ _ h => h
            case hy56 =>
              refine Or.inl ⟨by rfl, ?_⟩
              intro wq hq
              try dsimp only at hq
              try obtain ⟨hq0, hq1, hq2, hq3, hq4, hq5, hq6⟩ := hq
              try obtain ⟨hq0, hq1, hq2, hq3, hq4, hq5⟩ := hq
              try obtain ⟨hq0, hq1, hq2, hq3, hq4⟩ := hq
              try obtain ⟨hq0, hq1, hq2, hq3⟩ := hq
              try obtain ⟨hq0, hq1, hq2⟩ := hq
              try obtain ⟨hq0, hq1⟩ := hq
              go_simp
              try with_reducible rfl
            try simp only [Act.put, List.setIfInBounds_toArray, List.set_cons_zero, List.set_cons_succ]
            refine wpAnyL_ready (rs := [14]) (by kernel_rfl) (by simp) ?_
            refine' ReadyL.cons ?ho57 (fun K hK => ?step57) ?more57
            case ho57 => simp only [List.getElem?_toArray, List.getElem?_cons_succ, List.getElem?_cons_zero]; rfl
            case step57 =>
              have yRq : Whole y1 (w.heap.size + 1) 43 #[.int .i64 0, .string ⟨#[]⟩, .slice none 0 0, .string ⟨#[]⟩, .slice none 0 0, .slice none 0 0, .slice none 0 0, .string ⟨#[]⟩, .slice none 0 0, .int .i64 0] := HYR.out.below HXW.out HYR.out.lt
              have hvp := view_put (below_next HBW.out (Nat.le_refl _) HXW.out) (Nat.le_succ _) yRq (.int .i64 3) (.string ⟨#[]⟩) (.slice none 0 0) (.string v.key) (.slice none 0 0) (.slice none 0 0) (.slice none 0 0) (.string ⟨#[]⟩) (.slice none 0 0) (.int .i64 v.slot)
              have r0 : y1.cell? ⟨w.heap.size + 1, 0, none⟩ = some (.int .i64 0) := yRq.at_ 0
              have r1 : y1.cell? ⟨w.heap.size + 1, 1, none⟩ = some (.string ⟨#[]⟩) := yRq.at_ 1
              have r2 : y1.cell? ⟨w.heap.size + 1, 2, none⟩ = some (.slice none 0 0) := yRq.at_ 2
              have r3 : y1.cell? ⟨w.heap.size + 1, 3, none⟩ = some (.string ⟨#[]⟩) := yRq.at_ 3
              have r4 : y1.cell? ⟨w.heap.size + 1, 4, none⟩ = some (.slice none 0 0) := yRq.at_ 4
              have r5 : y1.cell? ⟨w.heap.size + 1, 5, none⟩ = some (.slice none 0 0) := yRq.at_ 5
              have r6 : y1.cell? ⟨w.heap.size + 1, 6, none⟩ = some (.slice none 0 0) := yRq.at_ 6
              have r7 : y1.cell? ⟨w.heap.size + 1, 7, none⟩ = some (.string ⟨#[]⟩) := yRq.at_ 7
              have r8 : y1.cell? ⟨w.heap.size + 1, 8, none⟩ = some (.slice none 0 0) := yRq.at_ 8
              have r9 : y1.cell? ⟨w.heap.size + 1, 9, none⟩ = some (.int .i64 0) := yRq.at_ 9
              have f0 := yRq.free 0
              have f1 := yRq.free 1
              have f2 := yRq.free 2
              have f3 := yRq.free 3
              have f4 := yRq.free 4
              have f5 := yRq.free 5
              have f6 := yRq.free 6
              have f7 := yRq.free 7
              have f8 := yRq.free 8
              have f9 := yRq.free 9
              go_simp
              have hz9 : y1.heap.size ≤ ((((((((((y1.setCell ⟨w.heap.size + 1, 0, none⟩ (.int .i64 3)).setCell ⟨w.heap.size + 1, 1, none⟩ (.string ⟨#[]⟩)).setCell ⟨w.heap.size + 1, 2, none⟩ (.slice none 0 0)).setCell ⟨w.heap.size + 1, 3, none⟩ (.string v.key)).setCell ⟨w.heap.size + 1, 4, none⟩ (.slice none 0 0)).setCell ⟨w.heap.size + 1, 5, none⟩ (.slice none 0 0)).setCell ⟨w.heap.size + 1, 6, none⟩ (.slice none 0 0)).setCell ⟨w.heap.size + 1, 7, none⟩ (.string ⟨#[]⟩)).setCell ⟨w.heap.size + 1, 8, none⟩ (.slice none 0 0)).setCell ⟨w.heap.size + 1, 9, none⟩ (.int .i64 v.slot)).heap.size := by simp only [World.size_setCell]; exact Nat.le_refl _
              generalize hw9 : (((((((((y1.setCell ⟨w.heap.size + 1, 0, none⟩ (.int .i64 3)).setCell ⟨w.heap.size + 1, 1, none⟩ (.string ⟨#[]⟩)).setCell ⟨w.heap.size + 1, 2, none⟩ (.slice none 0 0)).setCell ⟨w.heap.size + 1, 3, none⟩ (.string v.key)).setCell ⟨w.heap.size + 1, 4, none⟩ (.slice none 0 0)).setCell ⟨w.heap.size + 1, 5, none⟩ (.slice none 0 0)).setCell ⟨w.heap.size + 1, 6, none⟩ (.slice none 0 0)).setCell ⟨w.heap.size + 1, 7, none⟩ (.string ⟨#[]⟩)).setCell ⟨w.heap.size + 1, 8, none⟩ (.slice none 0 0)).setCell ⟨w.heap.size + 1, 9, none⟩ (.int .i64 v.slot) = w9 at *
              have HE9 := Lib.hid (pEl_put (t := slotT v.key v.slot) (b := false) (qs := qs) HRL.out ⟨hvp.1, hvp.2.2⟩ hz9 (by rw [HQ.out]; rfl) (fun _ => ⟨slotT_in HV.out.key, AllV.nil _ _⟩))
              have hS9 : (w9.cell? ⟨w.heap.size, 3, none⟩ = some (.string v.key) ∧ w9.cell? ⟨w.heap.size, 9, none⟩ = some (.int .i64 v.slot)) := by
                have ya : Whole w9 w.heap.size 43 #[.int .i64 v.kind, .string v.tag.s, .slice v.tag.A v.tag.n v.tag.c, .string v.key, .slice v.A v.n v.c, .slice v.H v.hn v.hc, .slice v.K v.kn v.kc, .string v.text.s, .slice v.text.A v.text.n v.text.c, .int .i64 v.slot] := (hvp.2.2 _ (by omega)).trans (HY0.out.below HXW.out HY0.out.lt)
                exact ⟨ya.at_ 3, ya.at_ 9⟩
              have yq := hvp.2.1
              have q0 : w9.cell? ⟨w.heap.size + 1, 0, none⟩ = some (.int .i64 3) := yq.at_ 0
              have q1 : w9.cell? ⟨w.heap.size + 1, 1, none⟩ = some (.string ⟨#[]⟩) := yq.at_ 1
              have q2 : w9.cell? ⟨w.heap.size + 1, 2, none⟩ = some (.slice none 0 0) := yq.at_ 2
              have q3 : w9.cell? ⟨w.heap.size + 1, 3, none⟩ = some (.string v.key) := yq.at_ 3
              have q4 : w9.cell? ⟨w.heap.size + 1, 4, none⟩ = some (.slice none 0 0) := yq.at_ 4
              have q5 : w9.cell? ⟨w.heap.size + 1, 5, none⟩ = some (.slice none 0 0) := yq.at_ 5
              have q6 : w9.cell? ⟨w.heap.size + 1, 6, none⟩ = some (.slice none 0 0) := yq.at_ 6
              have q7 : w9.cell? ⟨w.heap.size + 1, 7, none⟩ = some (.string ⟨#[]⟩) := yq.at_ 7
              have q8 : w9.cell? ⟨w.heap.size + 1, 8, none⟩ = some (.slice none 0 0) := yq.at_ 8
              have q9 : w9.cell? ⟨w.heap.size + 1, 9, none⟩ = some (.int .i64 v.slot) := yq.at_ 9
              refine hK.out _ w9 (.inr hS9) ?_
              have hS := hS9
              clear hK K hw9 hvp yq yRq hz9 r0 f0 r1 f1 r2 f2 r3 f3 r4 f4 r5 f5 r6 f6 r7 f7 r8 f8 r9 f9
              try simp only [Act.put, List.setIfInBounds_toArray, List.set_cons_zero, List.set_cons_succ]
              refine wpAnyL_ready (rs := [15]) (by kernel_rfl) (by simp) ?_
              refine' ReadyL.cons ?ho58 (fun K hK => ?step58) ?more58
              case ho58 => simp only [List.getElem?_toArray, List.getElem?_cons_succ, List.getElem?_cons_zero]; rfl
              case step58 =>
                go_simp
                refine hK.out _ _ (.inr hS) ?_
                clear hK K
                try simp only [Act.put, List.setIfInBounds_toArray, List.set_cons_zero, List.set_cons_succ]
                refine wpAnyL_done (by kernel_rfl) ?_ _
                clear hS9 hS
                go_wp2_with fail
                refine bodyPost_ret (v := .tuple #[.agg #[.int .i64 3, .string ⟨#[]⟩, .slice none 0 0, .string v.key, .slice none 0 0, .slice none 0 0, .slice none 0 0, .string ⟨#[]⟩, .slice none 0 0, .int .i64 v.slot], .bool false]) ?_ rfl ?_
                · simp [results, Tryz.results29, go_sem, q0, q1, q2, q3, q4, q5, q6, q7, q8, q9]
                · exact HE9.out
              exact ReadyL.nil
            exact ReadyL.nil
          exact ReadyL.nil
      · have HQ : Hid (qs = []) := by
          show _ = _
          rw [← HQS.out, HLV.out]
          unfold oneV
          rw [if_neg hk2, if_neg hk3, if_neg hk1]
        clear y0
        have HB1 : Hid (Below w1.heap.size w1 w1) := Below.refl _ _
        have yRq : Whole w1 (w.heap.size + 1) 43 #[.int .i64 0, .string ⟨#[]⟩, .slice none 0 0, .string ⟨#[]⟩, .slice none 0 0, .slice none 0 0, .slice none 0 0, .string ⟨#[]⟩, .slice none 0 0, .int .i64 0] := HYR.out.below HB1.out HYR.out.lt
        have hvp := view_put (below_next HBW.out (Nat.le_refl _) HB1.out) (Nat.le_succ _) yRq (.int .i64 0) (.string ⟨#[]⟩) (.slice none 0 0) (.string ⟨#[]⟩) (.slice none 0 0) (.slice none 0 0) (.slice none 0 0) (.string ⟨#[]⟩) (.slice none 0 0) (.int .i64 0)
        have hz9 : w1.heap.size ≤ ((((((((((w1.setCell ⟨w.heap.size + 1, 0, none⟩ (.int .i64 0)).setCell ⟨w.heap.size + 1, 1, none⟩ (.string ⟨#[]⟩)).setCell ⟨w.heap.size + 1, 2, none⟩ (.slice none 0 0)).setCell ⟨w.heap.size + 1, 3, none⟩ (.string ⟨#[]⟩)).setCell ⟨w.heap.size + 1, 4, none⟩ (.slice none 0 0)).setCell ⟨w.heap.size + 1, 5, none⟩ (.slice none 0 0)).setCell ⟨w.heap.size + 1, 6, none⟩ (.slice none 0 0)).setCell ⟨w.heap.size + 1, 7, none⟩ (.string ⟨#[]⟩)).setCell ⟨w.heap.size + 1, 8, none⟩ (.slice none 0 0)).setCell ⟨w.heap.size + 1, 9, none⟩ (.int .i64 0)).heap.size := by simp only [World.size_setCell]; exact Nat.le_refl _
        have HE9 := Lib.hid (pEl_put (t := zeroV) (b := false) (qs := qs) HRL.out ⟨hvp.1, hvp.2.2⟩ hz9 (by rw [HQ.out]; rfl) (fun h => by cases h))
        have r0 : w1.cell? ⟨w.heap.size + 1, 0, none⟩ = some (.int .i64 0) := yRq.at_ 0
        have r1 : w1.cell? ⟨w.heap.size + 1, 1, none⟩ = some (.string ⟨#[]⟩) := yRq.at_ 1
        have r2 : w1.cell? ⟨w.heap.size + 1, 2, none⟩ = some (.slice none 0 0) := yRq.at_ 2
        have r3 : w1.cell? ⟨w.heap.size + 1, 3, none⟩ = some (.string ⟨#[]⟩) := yRq.at_ 3
        have r4 : w1.cell? ⟨w.heap.size + 1, 4, none⟩ = some (.slice none 0 0) := yRq.at_ 4
        have r5 : w1.cell? ⟨w.heap.size + 1, 5, none⟩ = some (.slice none 0 0) := yRq.at_ 5
        have r6 : w1.cell? ⟨w.heap.size + 1, 6, none⟩ = some (.slice none 0 0) := yRq.at_ 6
        have r7 : w1.cell? ⟨w.heap.size + 1, 7, none⟩ = some (.string ⟨#[]⟩) := yRq.at_ 7
        have r8 : w1.cell? ⟨w.heap.size + 1, 8, none⟩ = some (.slice none 0 0) := yRq.at_ 8
        have r9 : w1.cell? ⟨w.heap.size + 1, 9, none⟩ = some (.int .i64 0) := yRq.at_ 9
        have f0 := yRq.free 0
        have f1 := yRq.free 1
        have f2 := yRq.free 2
        have f3 := yRq.free 3
        have f4 := yRq.free 4
        have f5 := yRq.free 5
        have f6 := yRq.free 6
        have f7 := yRq.free 7
        have f8 := yRq.free 8
        have f9 := yRq.free 9
        clear hvp yRq hz9
        go_wp2_with fail
        refine bodyPost_ret (v := .tuple #[.agg #[.int .i64 0, .string ⟨#[]⟩, .slice none 0 0, .string ⟨#[]⟩, .slice none 0 0, .slice none 0 0, .slice none 0 0, .string ⟨#[]⟩, .slice none 0 0, .int .i64 0], .bool false]) ?_ rfl ?_
        · simp [results, Tryz.results29, go_sem, r0, r1, r2, r3, r4, r5, r6, r7, r8, r9]
        · exact HE9.out

set_option maxHeartbeats 8000000 in
set_option maxRecDepth 100000 in
theorem toldV_any (L0 : Option Addr) (n cL : Nat) (ts : List VT) (w : World) (h : ViewsIn w L0 n ts)
    (hF : ∀ x ∈ ts, ∀ W, Below w.heap.size w W → Calls Tryz.prog 29 #[.agg #[.int .i64 x.kind, .string x.tag.s, .slice x.tag.A x.tag.n x.tag.c, .string x.key, .slice x.A x.n x.c, .slice x.H x.hn x.hc, .slice x.K x.kn x.kc, .string x.text.s, .slice x.text.A x.text.n x.text.c, .int .i64 x.slot]] W (PEl x.ch.left W)) :
    Calls Tryz.prog 28 #[.slice L0 n cL, .func (.func 29) #[] #[]] w (LawLeft (leftV (chV ts)) w) := by
  obtain ⟨i0, hi, hz0, hz1, hz2⟩ := info_parts view_info
  have H := Lib.hid h
  have HF := Lib.hid hF
  have hn4 := h.small
  obtain ⟨qs, HQS⟩ : ∃ qs, Hid (leftV (chV ts) = qs) := ⟨_, rfl⟩
  rw [HQS.out]
  clear h hF
  go_enter Tryz.func28, Tryz.ntmps28
  go_wp2_with fail
  go_loopw [5, 12] (LfRel (chV ts) n w) (fun _ i _ => n - (intOf i).toNat)
  case atStart => exact ⟨0, Nat.zero_le _, rfl, by rw [List.take_zero, leftV]; exact VRow.zero _ _, Below.refl _ _⟩
  case round =>
    obtain ⟨k, hk, rfl, hrow, hb⟩ := hrel
    have HB := Lib.hid hb
    have HROW := Lib.hid hrow
    obtain ⟨A, c, us, rfl, hown, hall, hch⟩ := hrow
    have hzz : us.length ≤ k := by
      have h1 := congrArg List.length hch
      rw [chV_length] at h1
      have h2 := leftV_length ((chV ts).take k)
      rw [List.length_take] at h2
      omega
    generalize hz8 : us.length = m at *
    have HM := Lib.hid hz8
    have HOW := Lib.hid hown
    have HAL := Lib.hid hall
    have HCH := Lib.hid hch
    have HLT : Hid (∀ g, (Value.slice A m c).ownBlock = some g → g < wr.heap.size) := fun g hg => (hown.lt g hg).2
    have hzw := hb.size
    clear hown hall hch hz8 hb
    by_cases hlt : k < n
    · obtain ⟨ad, x, rfl, hba, d0, d1, d2, d3, d4, d5, d6, d7, d8, d9, HR⟩ := (H.out.next HB.out).lies.lies.view (k := k) (by rw [H.out.len]; exact hlt)
      have hk0 : (0 : Int) ≤ (k : Int) := Int.natCast_nonneg _
      have hk1 : (k : Int) < (n : Int) := by omega
      have HMEM := Lib.hid (List.mem_of_getElem? HR.out)
      have HNX := Lib.hid (leftV_next (chV_at HR.out))
      go_upto_region 5 with (fail)
      obtain ⟨w4, hw4⟩ : ∃ w4 : World, wr.alloc (.cells #[.int .i64 x.kind, .string x.tag.s, .slice x.tag.A x.tag.n x.tag.c, .string x.key, .slice x.A x.n x.c, .slice x.H x.hn x.hc, .slice x.K x.kn x.kc, .string x.text.s, .slice x.text.A x.text.n x.text.c, .int .i64 x.slot] 43) = w4 := ⟨_, rfl⟩
      have y4 : Whole w4 wr.heap.size 43 #[.int .i64 x.kind, .string x.tag.s, .slice x.tag.A x.tag.n x.tag.c, .string x.key, .slice x.A x.n x.c, .slice x.H x.hn x.hc, .slice x.K x.kn x.kc, .string x.text.s, .slice x.text.A x.text.n x.text.c, .int .i64 x.slot] := by rw [← hw4]; exact Whole.made _ _ _
      have HB4 : Hid (Below wr.heap.size wr w4) := by show Below _ _ _; rw [← hw4]; exact (Below.refl _ _).alloc (Nat.le_refl _) _
      have HBW : Hid (Below w.heap.size w w4) := below_next HB.out (Nat.le_refl _) HB4.out
      try rw [hw4]
      clear hw4 d0 d1 d2 d3 d4 d5 d6 d7 d8 d9
      have HSKIP : Hid (∀ W, Below w4.heap.size w4 W → x.ch.left = [] → LfRel (chV ts) n w (.slice A m c) (.int .i64 ((k : Int) + 1)) W) := fun W h e =>
        ⟨k + 1, by omega, by simp, by rw [HNX.out, e, List.append_nil]; exact (HROW.out.keep HB4.out).keep h, below_next HBW.out (Nat.le_refl _) h⟩
      have HADD : Hid (∀ (t : VT) W W2 A' c', Below w4.heap.size w4 W → x.ch.left = [t.ch] → t.inS (fun b => w4.heap.size ≤ b) W → AllV (fun b => w4.heap.size ≤ b) W t.kids → W.grownBy W2 (Value.slice A m c).ownBlock →
          ((Value.slice A' (m + 1) c').ownBlock = (Value.slice A m c).ownBlock ∨ (Value.slice A' (m + 1) c').ownBlock = some W.heap.size) → W2.ownsRow w.heap.size 43 10 (.slice A' (m + 1) c') (m + 1) (viewCells us ++ viewRow t) →
          LfRel (chV ts) n w (.slice A' (m + 1) c') (.int .i64 ((k : Int) + 1)) W2) := fun t W W2 A' c' hbW e ht hkk hg hv ho =>
        ⟨k + 1, by omega, by simp, by
          rw [HNX.out, e]
          exact VRow.push HM.out ((HAL.out.keep (Stays.of HB4.out)).keep (Stays.of hbW)) HCH.out (Nat.le_trans HBW.out.size (Nat.le_refl _)) (fun g hg => Nat.lt_of_lt_of_le (HLT.out g hg) HB4.out.size) ht hkk hg hv ho,
          (below_next HBW.out (Nat.le_refl _) hbW).grown hg (Nat.le_trans HBW.out.size hbW.size) (fun g hg => (HOW.out.lt g hg).1)⟩
      have HOW4 : Hid (∀ W, Below w4.heap.size w4 W → W.ownsRow w.heap.size 43 10 (.slice A m c) m (viewCells us)) := fun W h => own_keep (own_keep HOW.out HB4.out) h
      have hz4 := HBW.out.size
      have HEL := Lib.hid (HF.out x HMEM.out w4 HBW.out)
      have e0 := y4.at_ 0
      have e1 := y4.at_ 1
      have e2 := y4.at_ 2
      have e3 := y4.at_ 3
      have e4 := y4.at_ 4
      have e5 := y4.at_ 5
      have e6 := y4.at_ 6
      have e7 := y4.at_ 7
      have e8 := y4.at_ 8
      have e9 := y4.at_ 9
      clear y4
      go_wp2_with fail
      refine HEL.out.mono ?_
      rintro e w5 ⟨t, b, rfl, hT, hb5⟩
      have HT := hT
      have HB5 := Lib.hid hb5
      clear e0 e1 e2 e3 e4 e5 e6 e7 e8 e9 hT hb5
      cases b with
      | false =>
        have HE := Lib.hid (HSKIP.out (w5.alloc (.cells #[.int .i64 t.kind, .string t.tag.s, .slice t.tag.A t.tag.n t.tag.c, .string t.key, .slice t.A t.n t.c, .slice t.H t.hn t.hc, .slice t.K t.kn t.kc, .string t.text.s, .slice t.text.A t.text.n t.text.c, .int .i64 t.slot] 43)) (HB5.out.alloc HB5.out.size _) HT.out.1.symm)
        go_wp2_with fail
        go_roundw
        case rel => exact HE.out
        case measure => simp [intOf]; omega
      | true =>
        have HTI := Lib.hid (HT.out.2 rfl)
        have HLE : Hid (x.ch.left = [t.ch]) := HT.out.1.symm
        go_upto_region 7 with (fail)
        obtain ⟨w6, hw6⟩ : ∃ w6 : World, w5.alloc (.cells #[.int .i64 t.kind, .string t.tag.s, .slice t.tag.A t.tag.n t.tag.c, .string t.key, .slice t.A t.n t.c, .slice t.H t.hn t.hc, .slice t.K t.kn t.kc, .string t.text.s, .slice t.text.A t.text.n t.text.c, .int .i64 t.slot] 43) = w6 := ⟨_, rfl⟩
        have y6 : Whole w6 w5.heap.size 43 #[.int .i64 t.kind, .string t.tag.s, .slice t.tag.A t.tag.n t.tag.c, .string t.key, .slice t.A t.n t.c, .slice t.H t.hn t.hc, .slice t.K t.kn t.kc, .string t.text.s, .slice t.text.A t.text.n t.text.c, .int .i64 t.slot] := by rw [← hw6]; exact Whole.made _ _ _
        have HB6 : Hid (Below w4.heap.size w4 w6) := by show Below _ _ _; rw [← hw6]; exact HB5.out.alloc HB5.out.size _
        have HT6 : Hid (t.inS (fun b => w4.heap.size ≤ b) w6 ∧ AllV (fun b => w4.heap.size ≤ b) w6 t.kids) := by
          have hst : Stays (fun b => w4.heap.size ≤ b) w5 w6 := by rw [← hw6]; exact Stays.of ((Below.refl _ _).alloc (Nat.le_refl _) _)
          exact ⟨HTI.out.1.keep hst, HTI.out.2.keep hst⟩
        try rw [hw6]
        clear hw6
        have z0 := y6.at_ 0
        have z1 := y6.at_ 1
        have z2 := y6.at_ 2
        have z3 := y6.at_ 3
        have z4 := y6.at_ 4
        have z5 := y6.at_ 5
        have z6 := y6.at_ 6
        have z7 := y6.at_ 7
        have z8 := y6.at_ 8
        have z9 := y6.at_ 9
        have hown6 := HOW4.out w6 HB6.out
        have hz6 := HB6.out.size
        go_wp2_with (at_builtin; go_loud (refine wpList_append_own_at _ rfl _ _ 22 rfl w.heap.size 43 i0 _ 10 184 Tryz.underlying22 hi hz0 hz1 hz2 rfl (by decide) (.slice A m c) m (viewCells us) rfl (hown6.alloc _) ⟨w6.heap.size, 0, none⟩ 1 1 (viewRow t) rfl rfl (cells_new w6 _ _) (viewRow_one _) (by simp only [maxLen]; omega) (by omega) (by simp; omega) ?_))
        intro v' w9 hown9 hgrow9 _ hv9
        obtain ⟨A9, c9, rfl, _, _, _⟩ := own_form hown9
        have hst9 : Stays (fun b => w4.heap.size ≤ b) w6 (w6.alloc (.cells (viewRow t).toArray 43)) := Stays.of ((Below.refl _ _).alloc (Nat.le_refl _) _)
        have HEND := Lib.hid (HADD.out t _ w9 A9 c9 (HB6.out.alloc HB6.out.size (.cells (viewRow t).toArray 43)) HLE.out (HT6.out.1.keep hst9) (HT6.out.2.keep hst9) hgrow9 (by rw [World.size_alloc]; exact hv9) hown9)
        clear hown9 hgrow9 hv9 hown6 y6 hst9 z0 z1 z2 z3 z4 z5 z6 z7 z8 z9
        go_wp2_with fail
        go_roundw
        case rel => exact HEND.out
        case measure => simp [intOf]; omega
    · obtain rfl : k = n := by omega
      have hk1 : ¬ (k : Int) < (k : Int) := by omega
      have hrf := HROW.out
      rw [List.take_of_length_le (by rw [chV_length, H.out.len]; exact Nat.le_refl _), HQS.out] at hrf
      have HRF := Lib.hid hrf
      clear hrf
      go_wp2_with fail
      go_ret
      exact ⟨⟨A, m, c, rfl, HRF.out⟩, HB.out⟩

set_option maxHeartbeats 4000000 in
set_option maxRecDepth 100000 in
theorem pViews_any (mx : Int) : ∀ (Q : List PV) (A : Option Addr) (n c : Nat) (ts : List VT) (w : World), chV ts = Q → w.cell? ⟨0, 0, none⟩ = some (.int .i64 mx) → ViewsIn w A n ts → bkV Q ≤ 3145728 →
    Calls Tryz.prog 10 #[.slice A n c] w (LawLeft (leftV Q) w) := by
  apply PV.ind
  intro Q IH L n cL ts w hq hm h hbk
  subst hq
  have HMX : Hid (∀ W, Below w.heap.size w W → W.cell? ⟨0, 0, none⟩ = some (.int .i64 mx)) := fun W hb => (hb.cell (block_zero _ _ _ hm)).trans hm
  have HF : Hid (∀ x ∈ ts, ∀ W, Below w.heap.size w W → Calls Tryz.prog 29 #[.agg #[.int .i64 x.kind, .string x.tag.s, .slice x.tag.A x.tag.n x.tag.c, .string x.key, .slice x.A x.n x.c, .slice x.H x.hn x.hc, .slice x.K x.kn x.kc, .string x.text.s, .slice x.text.A x.text.n x.text.c, .int .i64 x.slot]] W (PEl x.ch.left W)) := fun x hx W hb => by
    have h9 := h.next hb
    refine pLeft_any x mx W (HMX.out W hb) (h9.all.get hx) (by have h1 := bkV_mem (chV_mem hx); omega) (fun W2 hb2 => ?_)
    have hbb := below_next hb (Nat.le_refl _) hb2
    have h2 := IH x.ch (chV_mem hx) x.K x.kn x.kc x.kids W2 (VT.ch_kids x).symm (HMX.out W2 hbb) ((h.next hbb).kid hx) (by have := bkV_kids (chV_mem hx); omega)
    rw [VT.ch_kids] at h2
    exact h2
  have HT := Lib.hid (toldV_any L n cL ts w h HF.out)
  obtain ⟨qs, HQS⟩ : ∃ qs, Hid (leftV (chV ts) = qs) := ⟨_, rfl⟩
  rw [HQS.out] at HT ⊢
  clear IH hm h hbk
  go_enter Tryz.func10, Tryz.ntmps10
  go_wp2_with fail
  refine HT.out.mono ?_
  rintro e w2 ⟨⟨A, m, c, rfl, h1⟩, h2⟩
  go_wp2
  go_ret
  exact ⟨⟨A, m, c, rfl, h1⟩, h2⟩
theorem views_says (mx : Int) : ViewsSays mx := fun A n c ts W hm h hbk => (pViews_any mx (chV ts) A n c ts W rfl hm h hbk).mono fun _ _ h => h
set_option maxHeartbeats 4000000 in
set_option maxRecDepth 100000 in
theorem view_says (mx : Int) : ViewSays mx := by
  intro v w hm hv hk hbk
  have HV := Lib.hid hv
  have HKS := Lib.hid hk
  have HBK := Lib.hid hbk
  have HMX : Hid (∀ W, Below w.heap.size w W → W.cell? ⟨0, 0, none⟩ = some (.int .i64 mx)) := fun W hb => (hb.cell (block_zero _ _ _ hm)).trans hm
  obtain ⟨qs, HQS⟩ : ∃ qs, Hid (v.ch.left = qs) := ⟨_, rfl⟩
  rw [HQS.out]
  clear hv hk hbk hm
  go_enter Tryz.func17, Tryz.ntmps17
  go_upto_region 1 with (fail)
  obtain ⟨w1, hw1⟩ : ∃ w1 : World, w.alloc (.cells #[.int .i64 v.kind, .string v.tag.s, .slice v.tag.A v.tag.n v.tag.c, .string v.key, .slice v.A v.n v.c, .slice v.H v.hn v.hc, .slice v.K v.kn v.kc, .string v.text.s, .slice v.text.A v.text.n v.text.c, .int .i64 v.slot] 43) = w1 := ⟨_, rfl⟩
  have y1 : Whole w1 w.heap.size 43 #[.int .i64 v.kind, .string v.tag.s, .slice v.tag.A v.tag.n v.tag.c, .string v.key, .slice v.A v.n v.c, .slice v.H v.hn v.hc, .slice v.K v.kn v.kc, .string v.text.s, .slice v.text.A v.text.n v.text.c, .int .i64 v.slot] := by rw [← hw1]; exact Whole.made _ _ _
  have HB1 : Hid (Below w.heap.size w w1) := by show Below _ _ _; rw [← hw1]; exact (Below.refl _ _).alloc (Nat.le_refl _) _
  try rw [hw1]
  clear hw1
  have HVS : Hid (∀ W, Below w1.heap.size w1 W → Whole W w1.heap.size 43 #[.int .i64 v.kind, .string v.tag.s, .slice v.tag.A v.tag.n v.tag.c, .string v.key, .slice v.A v.n v.c, .slice v.H v.hn v.hc, .slice v.K v.kn v.kc, .string v.text.s, .slice v.text.A v.text.n v.text.c, .int .i64 v.slot] → Calls Tryz.prog 10 #[.slice (some ⟨w1.heap.size, 0, none⟩) 1 1] W (LawLeft qs W)) := fun W hb hw => by
    have hbb := below_next HB1.out (Nat.le_refl _) hb
    have hin := (HV.out.keep (Stays.of hbb)).mono (S' := fun b => b < W.heap.size) fun b hb2 _ => Nat.lt_of_lt_of_le hb2 hbb.size
    have hkk := (HKS.out.keep (Stays.of hbb)).mono (S' := fun b => b < W.heap.size) fun b hb2 _ => Nat.lt_of_lt_of_le hb2 hbb.size
    have hl : LiesS (fun b => b < W.heap.size) W (some ⟨w1.heap.size, 0, none⟩) (viewCells [v]) := by
      intro i u hu
      have hadd : (⟨w1.heap.size, 0, none⟩ : Addr).add i = ⟨w1.heap.size, i, none⟩ := by unfold Addr.add; split <;> simp_all
      refine ⟨_, rfl, hw.lt, hw.lt, ?_⟩
      have e : viewCells [v] = viewRow v := by show viewRow v ++ [] = _; rw [List.append_nil]
      rw [e] at hu
      rw [hadd, hw.at_ i, List.getElem?_toArray]
      exact hu
    have hbk1 : bkV (chV [v]) ≤ 3145728 := by
      rw [chV, chV]
      simp only [bkV]
      have := HBK.out
      omega
    have h := pViews_any mx (chV [v]) (some ⟨w1.heap.size, 0, none⟩) 1 1 [v] W rfl (HMX.out W hbb) ⟨hl, AllV.one hin hkk, rfl, by omega⟩ hbk1
    have e1 : leftV (chV [v]) = qs := by rw [chV, chV, leftV_one, HQS.out]
    rw [e1] at h
    exact h
  have e0 := y1.at_ 0
  have e1 := y1.at_ 1
  have e2 := y1.at_ 2
  have e3 := y1.at_ 3
  have e4 := y1.at_ 4
  have e5 := y1.at_ 5
  have e6 := y1.at_ 6
  have e7 := y1.at_ 7
  have e8 := y1.at_ 8
  have e9 := y1.at_ 9
  clear y1
  obtain ⟨w2, hw2⟩ : ∃ w2 : World, w1.alloc (.cells #[.int .i64 v.kind, .string v.tag.s, .slice v.tag.A v.tag.n v.tag.c, .string v.key, .slice v.A v.n v.c, .slice v.H v.hn v.hc, .slice v.K v.kn v.kc, .string v.text.s, .slice v.text.A v.text.n v.text.c, .int .i64 v.slot] 43) = w2 := ⟨_, rfl⟩
  have y2 : Whole w2 w1.heap.size 43 #[.int .i64 v.kind, .string v.tag.s, .slice v.tag.A v.tag.n v.tag.c, .string v.key, .slice v.A v.n v.c, .slice v.H v.hn v.hc, .slice v.K v.kn v.kc, .string v.text.s, .slice v.text.A v.text.n v.text.c, .int .i64 v.slot] := by rw [← hw2]; exact Whole.made _ _ _
  have HB2 : Hid (Below w1.heap.size w1 w2) := by show Below _ _ _; rw [← hw2]; exact (Below.refl _ _).alloc (Nat.le_refl _) _
  have HVW := Lib.hid (HVS.out w2 HB2.out y2)
  clear y2
  go_wp2_with fail
  try rw [hw2]
  refine HVW.out.mono ?_
  rintro e w3 ⟨⟨A, m, c, rfl, h1⟩, h2⟩
  have HE : Hid (VRow w3 w.heap.size qs (.slice A m c) ∧ VRow w3 w2.heap.size qs (.slice A m c) ∧ Below w.heap.size w w3) := ⟨h1.mono (Nat.le_trans HB1.out.size HB2.out.size), h1, below_next (below_next HB1.out (Nat.le_refl _) HB2.out) (Nat.le_refl _) h2⟩
  clear h1 h2 hw2
  go_wp2
  go_ret
  exact ⟨⟨A, m, c, rfl, HE.out.1⟩, HE.out.2.2⟩

theorem alive_says (mx : Int) : AliveSays mx := fun W hm => alive17_any (view_says mx) W hm

end Go.Proofs.YtnbdldapmllegaaGreat.mk
