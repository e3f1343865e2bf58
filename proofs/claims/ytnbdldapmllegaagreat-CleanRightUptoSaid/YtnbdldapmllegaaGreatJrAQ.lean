/-
  Views that come in: how they lie in memory, and how large they are. (Written by gen_vwargs.py.)
-/
import Derived.Test.YtnbdldapmllegaaGreatJrAN
import Derived.Test.YtnbdldapmllegaaGreatJrAM
namespace Go.Proofs.YtnbdldapmllegaaGreat.mk
open Go.ChangeShapes Go.WideShapes Go.RowKit Go.Deep Go.Joins

section
variable {H : Type} {enc : TypeId × Value → H} {W : World}

set_option maxRecDepth 100000 in
/-- an attribute's four cells, and how large it is -/
theorem trod_attZ {n : Nat} {c0 c1 c2 c3 : Value} {y : DataW H × List MemPlace} (h : DataW.trod enc Tryz.prog W 0 (fun _ => true) true n 30 [c0, c1, c2, c3] = some y) (hbk : Rows.uptoBulk y.1 ≤ 1048576) :
    ∃ t : AT, c0 = .string t.nm.s ∧ c1 = .slice t.nm.A t.nm.n t.nm.c ∧ c2 = .string t.vl.s ∧ c3 = .slice t.vl.A t.vl.n t.vl.c ∧ t.ok W W.heap.size ∧ atW t.ch ≤ Rows.uptoBulk y.1 := by
  obtain ⟨y0, y1, n', hx, _, h0, h1⟩ := trod_struct2 Tryz.underlying30 h
  have hD : y.1 = .agg [y0.1, y1.1] := congrArg Prod.fst hx
  rw [hD] at hbk ⊢
  simp only [Rows.uptoBulk, Rows.uptoBulkAll] at hbk ⊢
  simp only [cells_str, List.drop_zero, List.drop_succ_cons, List.take_succ_cons, List.take_zero] at h0 h1
  obtain ⟨t0, rfl, rfl, hok0, hs0⟩ := trod_ltS h0 (by omega)
  obtain ⟨t1, rfl, rfl, hok1, hs1⟩ := trod_ltS h1 (by omega)
  refine ⟨⟨t0, t1⟩, rfl, rfl, rfl, rfl, ⟨hok0, hok1⟩, ?_⟩
  show t0.ch.length + t1.ch.length + 1 ≤ _
  rw [LT.ch_length, LT.ch_length]
  omega

set_option maxRecDepth 100000 in
/-- a slice of attributes that is an argument -/
theorem open_attsZ {fuel : Nat} {v : Value} {x : DataW H × List MemPlace} (h : DataW.trod enc Tryz.prog W 0 (fun _ => true) true fuel 23 [v] = some x) (hbk : Rows.uptoBulk x.1 ≤ 1048576) :
    ∃ (L : Option Addr) (m c : Nat) (ts : List AT), v = .slice L m c ∧ Lies W W.heap.size L (atCells ts) ∧ ts.length = m ∧ (L = none → c = 0) ∧ m ≤ c ∧ AllOk W W.heap.size ts ∧ atWs (ts.map AT.ch) + 1 ≤ Rows.uptoBulk x.1 := by
  rcases open_slice Tryz.underlying23 h with ⟨hv, rfl⟩ | ⟨a, len, cap, m, n, D, Pl, hv, hb, hlc, hcm, hm, rfl, hel⟩
  · simp only [List.cons.injEq, and_true] at hv
    subst hv
    exact ⟨none, 0, 0, [], rfl, Lies.empty _ _ _, rfl, fun _ => rfl, Nat.le_refl _, (fun t ht => by cases ht), by simp [Rows.uptoBulk, atWs]⟩
  · simp only [List.cons.injEq, and_true] at hv
    subst hv
    simp only [if_true] at hm
    subst hm
    have hpart : ∀ i, i < len → Rows.uptoBulk (D i) ≤ 1048576 := by
      intro i hi
      have hbk' := hbk
      simp only [Rows.uptoBulk] at hbk'
      rw [bulk_sum] at hbk'
      have hmem : Rows.uptoBulk (D i) ∈ ((List.range len).map D).map Rows.uptoBulk := by
        simp only [List.mem_map, List.mem_range]
        exact ⟨D i, ⟨i, hi, rfl⟩, rfl⟩
      have := le_sum hmem
      omega
    obtain ⟨ts, htl, hts⟩ := list_of (fun i (t : AT) => W.cell? (a.add (i * 4)) = some (.string t.nm.s) ∧ W.cell? (a.add (i * 4 + 1)) = some (.slice t.nm.A t.nm.n t.nm.c) ∧ W.cell? (a.add (i * 4 + 2)) = some (.string t.vl.s) ∧ W.cell? (a.add (i * 4 + 3)) = some (.slice t.vl.A t.vl.n t.vl.c) ∧ t.ok W W.heap.size ∧ atW t.ch ≤ Rows.uptoBulk (D i)) len (fun i hi => by
      obtain ⟨cs', hc, ht⟩ := hel i (by omega)
      rw [cells_attr] at hc
      obtain ⟨_, hcl, hca⟩ := World.cells?_some hc
      match cs', hcl with
      | [c0, c1, c2, c3], _ =>
        obtain ⟨t, rfl, rfl, rfl, rfl, hok, hsz⟩ := trod_attZ ht (hpart i hi)
        have hl0 := hca 0 (by omega)
        have hl1 := hca 1 (by omega)
        have hl2 := hca 2 (by omega)
        have hl3 := hca 3 (by omega)
        rw [addr_add] at hl0 hl1 hl2 hl3
        exact ⟨t, by simpa using hl0, by simpa using hl1, by simpa using hl2, by simpa using hl3, hok, hsz⟩)
    have hsum : ∀ k, k ≤ len → atWs ((ts.take k).map AT.ch) ≤ Rows.uptoBulkAll ((List.range k).map D) := by
      intro k
      induction k with
      | zero => intro _; simp [atWs]
      | succ k ihk =>
        intro hk
        have h1 := ihk (by omega)
        have hkl : k < ts.length := by omega
        have h2 := (hts k ts[k] (List.getElem?_eq_getElem hkl)).2.2.2.2.2
        rw [take_next (List.getElem?_eq_getElem hkl), List.map_append, atWs_append, List.range_succ, List.map_append, bulk_sum, List.map_append, List.sum_append, ← bulk_sum]
        have h3 : atWs ([ts[k]].map AT.ch) = atW ts[k].ch := by simp [atWs]
        rw [h3]
        simp only [List.map_cons, List.map_nil, List.sum_cons, List.sum_nil]
        omega
    refine ⟨some a, len, m, ts, rfl, ?_, htl, by simp, hlc, ?_, ?_⟩
    · intro j u hu
      have hj : j < ts.length * 4 := by
        have := (List.getElem?_eq_some_iff.1 hu).1
        rwa [atCells_length] at this
      have hk : j / 4 < ts.length := by omega
      obtain ⟨h0, h1, h2, h3, _⟩ := hts (j / 4) (ts[j / 4]) (List.getElem?_eq_getElem hk)
      refine ⟨a, rfl, by have := World.block_lt_of_cell? W _ h0; simpa [addr_block] using this, ?_⟩
      have hat := fun i hi => atCells_at ts (j / 4) (ts[j / 4]) (List.getElem?_eq_getElem hk) i hi
      have hq : j = j / 4 * 4 + j % 4 := by omega
      have h4 : j % 4 = 0 ∨ j % 4 = 1 ∨ j % 4 = 2 ∨ j % 4 = 3 := by omega
      rcases h4 with hm | hm | hm | hm
      · have e : j = j / 4 * 4 + 0 := by omega
        rw [e, hat 0 (by omega)] at hu
        rw [e, ← hu]; exact h0
      · have e : j = j / 4 * 4 + 1 := by omega
        rw [e, hat 1 (by omega)] at hu
        rw [e, ← hu]; exact h1
      · have e : j = j / 4 * 4 + 2 := by omega
        rw [e, hat 2 (by omega)] at hu
        rw [e, ← hu]; exact h2
      · have e : j = j / 4 * 4 + 3 := by omega
        rw [e, hat 3 (by omega)] at hu
        rw [e, ← hu]; exact h3
    · intro t ht
      obtain ⟨i, hi, rfl⟩ := List.getElem_of_mem ht
      exact (hts i _ (List.getElem?_eq_getElem hi)).2.2.2.2.1
    · have h1 := hsum len (Nat.le_refl _)
      rw [List.take_of_length_le (by omega)] at h1
      simp only [Rows.uptoBulk]
      omega

end

end Go.Proofs.YtnbdldapmllegaaGreat.mk

namespace Go.Proofs.YtnbdldapmllegaaGreat.mk
open Go.ChangeShapes Go.WideShapes Go.RowKit Go.Deep Go.Joins

section
variable {H : Type} {enc : TypeId × Value → H} {P : Program} {w : World} {base : Nat} {spare : Nat → Bool} {held : Bool}
theorem trod_struct8 {t : TypeId} {f0 f1 f2 f3 f4 f5 f6 f7 : Field} {fuel : Nat} {cs : List Value} {x : DataW H × List MemPlace} (ht : P.underlying t = some (.struct #[f0, f1, f2, f3, f4, f5, f6, f7])) (h : DataW.trod enc P w base spare held fuel t cs = some x) :
    ∃ y0 y1 y2 y3 y4 y5 y6 y7 n, x.1 = .agg [y0.1, y1.1, y2.1, y3.1, y4.1, y5.1, y6.1, y7.1] ∧
      DataW.trod enc P w base spare held n f0.type ((cs.drop f0.offset).take (P.cellsOf f0.type)) = some y0 ∧
      DataW.trod enc P w base spare held n f1.type ((cs.drop f1.offset).take (P.cellsOf f1.type)) = some y1 ∧
      DataW.trod enc P w base spare held n f2.type ((cs.drop f2.offset).take (P.cellsOf f2.type)) = some y2 ∧
      DataW.trod enc P w base spare held n f3.type ((cs.drop f3.offset).take (P.cellsOf f3.type)) = some y3 ∧
      DataW.trod enc P w base spare held n f4.type ((cs.drop f4.offset).take (P.cellsOf f4.type)) = some y4 ∧
      DataW.trod enc P w base spare held n f5.type ((cs.drop f5.offset).take (P.cellsOf f5.type)) = some y5 ∧
      DataW.trod enc P w base spare held n f6.type ((cs.drop f6.offset).take (P.cellsOf f6.type)) = some y6 ∧
      DataW.trod enc P w base spare held n f7.type ((cs.drop f7.offset).take (P.cellsOf f7.type)) = some y7 := by
  obtain ⟨xs, n, _, rfl, hl, hlen, hf⟩ := DataW.trod_struct ht h
  match xs, hlen with
  | [y0, y1, y2, y3, y4, y5, y6, y7], _ => exact ⟨y0, y1, y2, y3, y4, y5, y6, y7, n, by simp, by simpa using hf 0 f0 rfl, by simpa using hf 1 f1 rfl, by simpa using hf 2 f2 rfl, by simpa using hf 3 f3 rfl, by simpa using hf 4 f4 rfl, by simpa using hf 5 f5 rfl, by simpa using hf 6 f6 rfl, by simpa using hf 7 f7 rfl⟩
end

section
variable {H : Type} {enc : TypeId × Value → H} {W : World}

theorem cells_hook : Tryz.prog.cellsOf 94 = 3 := by kernel_rfl
theorem cells_hooks : Tryz.prog.cellsOf 41 = 1 := by kernel_rfl
theorem cells_bool : Tryz.prog.cellsOf 4 = 1 := by kernel_rfl
theorem cells_view : Tryz.prog.cellsOf 43 = 10 := by kernel_rfl
theorem cells_views : Tryz.prog.cellsOf 22 = 1 := by kernel_rfl

set_option maxRecDepth 100000 in
/-- a slice of hooks that comes in -/
theorem open_hooks {fuel : Nat} {v : Value} {x : DataW H × List MemPlace} (h : DataW.trod enc Tryz.prog W 0 (fun _ => true) true fuel 41 [v] = some x) :
    ∃ (L : Option Addr) (m c : Nat) (hs : List PH), v = .slice L m c ∧ Lies W W.heap.size L (hkCells hs) ∧ hs.length = m ∧ (L = none → c = 0) ∧ m ≤ c ∧ m + 1 ≤ Rows.uptoBulk x.1 := by
  rcases open_slice Tryz.underlying41 h with ⟨hv, rfl⟩ | ⟨a, len, cap, m, n, D, Pl, hv, hb, hlc, hcm, hm, rfl, hel⟩
  · simp only [List.cons.injEq, and_true] at hv
    subst hv
    exact ⟨none, 0, 0, [], rfl, Lies.empty _ _ _, rfl, fun _ => rfl, Nat.le_refl _, by simp [Rows.uptoBulk]⟩
  · simp only [List.cons.injEq, and_true] at hv
    subst hv
    simp only [if_true] at hm
    subst hm
    obtain ⟨hs, hsl, hss⟩ := list_of (fun i (t : PH) => W.cell? (a.add (i * 3)) = some (.int .i64 t.1) ∧ W.cell? (a.add (i * 3 + 1)) = some (.bool t.2.1) ∧ W.cell? (a.add (i * 3 + 2)) = some (.int .i64 t.2.2)) len (fun i hi => by
      obtain ⟨cs', hc, ht⟩ := hel i (by omega)
      rw [cells_hook] at hc
      obtain ⟨_, hcl, hca⟩ := World.cells?_some hc
      obtain ⟨y0, y1, y2, n', hx, _, h0, h1, h2⟩ := trod_struct3 Tryz.underlying94 ht
      match cs', hcl with
      | [c0, c1, c2], _ =>
        simp only [cells_int, cells_bool, List.drop_zero, List.drop_succ_cons, List.take_succ_cons, List.take_zero] at h0 h1 h2
        obtain ⟨l, e0, _⟩ := DataW.trod_int Tryz.underlying3 h0
        obtain ⟨b, e1, _⟩ := DataW.trod_bool Tryz.underlying4 h1
        obtain ⟨o, e2, _⟩ := DataW.trod_int Tryz.underlying3 h2
        have hl0 := hca 0 (by omega)
        have hl1 := hca 1 (by omega)
        have hl2 := hca 2 (by omega)
        rw [addr_add] at hl0 hl1 hl2
        simp only [List.cons.injEq, and_true] at e0 e1 e2
        exact ⟨(l, b, o), by simpa [e0] using hl0, by simpa [e1] using hl1, by simpa [e2] using hl2⟩)
    refine ⟨some a, len, m, hs, rfl, ?_, hsl, by simp, hlc, ?_⟩
    · intro j u hu
      have hj : j < hs.length * 3 := by
        have := (List.getElem?_eq_some_iff.1 hu).1
        rwa [hkCells_length] at this
      have hk : j / 3 < hs.length := by omega
      obtain ⟨h0, h1, h2⟩ := hss (j / 3) (hs[j / 3]) (List.getElem?_eq_getElem hk)
      refine ⟨a, rfl, by have := World.block_lt_of_cell? W _ h0; simpa [addr_block] using this, ?_⟩
      have hat := fun i hi => hkCells_at hs (j / 3) (hs[j / 3]) (List.getElem?_eq_getElem hk) i hi
      have h4 : j % 3 = 0 ∨ j % 3 = 1 ∨ j % 3 = 2 := by omega
      have hgo : ∀ r, r < 3 → j % 3 = r → W.cell? (a.add (j / 3 * 3 + r)) = (hkRow (hs[j / 3]))[r]? → W.cell? (a.add j) = some u := by
        intro r hr hm hc
        have e : j = j / 3 * 3 + r := by omega
        rw [e, hat r hr] at hu
        rw [e, hc, hu]
      rcases h4 with hm | hm | hm
      · exact hgo 0 (by omega) hm h0
      · exact hgo 1 (by omega) hm h1
      · exact hgo 2 (by omega) hm h2
    · have h1 := bulk_length ((List.range len).map D)
      simp only [List.length_map, List.length_range] at h1
      simp only [Rows.uptoBulk]
      omega

/-- a slice of views that comes in -/
def ViewsArg (W : World) (v : Value) (b : Nat) : Prop :=
  ∃ (L : Option Addr) (m c : Nat) (ts : List VT), v = .slice L m c ∧ LiesS (fun b => b < W.heap.size) W L (viewCells ts) ∧ ts.length = m ∧ (L = none → c = 0) ∧ m ≤ c ∧ AllV (fun b => b < W.heap.size) W ts ∧ bkV (chV ts) + 1 ≤ b

set_option maxRecDepth 100000 in
/-- a view's ten cells -/
theorem trod_view {n : Nat} {c0 c1 c2 c3 c4 c5 c6 c7 c8 c9 : Value} {y : DataW H × List MemPlace} (h : DataW.trod enc Tryz.prog W 0 (fun _ => true) true n 43 [c0, c1, c2, c3, c4, c5, c6, c7, c8, c9] = some y) (hbk : Rows.uptoBulk y.1 ≤ 1048576)
    (hin : ∀ (fuel : Nat) (v : Value) (x : DataW H × List MemPlace), DataW.trod enc Tryz.prog W 0 (fun _ => true) true fuel 22 [v] = some x → Rows.uptoBulk x.1 < Rows.uptoBulk y.1 → ViewsArg W v (Rows.uptoBulk x.1)) :
    ∃ t : VT, c0 = .int .i64 t.kind ∧ c1 = .string t.tag.s ∧ c2 = .slice t.tag.A t.tag.n t.tag.c ∧ c3 = .string t.key ∧ c4 = .slice t.A t.n t.c ∧ c5 = .slice t.H t.hn t.hc ∧ c6 = .slice t.K t.kn t.kc ∧ c7 = .string t.text.s ∧ c8 = .slice t.text.A t.text.n t.text.c ∧ c9 = .int .i64 t.slot ∧
      t.inS (fun b => b < W.heap.size) W ∧ AllV (fun b => b < W.heap.size) W t.kids ∧ t.ch.bk ≤ Rows.uptoBulk y.1 := by
  obtain ⟨y0, y1, y2, y3, y4, y5, y6, y7, n', hD, h0, h1, h2, h3, h4, h5, h6, h7⟩ := trod_struct8 Tryz.underlying43 h
  rw [hD] at hbk hin ⊢
  simp only [Rows.uptoBulk, Rows.uptoBulkAll] at hbk hin ⊢
  simp only [cells_int, cells_string, cells_str, cells_attrs, cells_hooks, cells_views, List.drop_zero, List.drop_succ_cons, List.take_succ_cons, List.take_zero] at h0 h1 h2 h3 h4 h5 h6 h7
  obtain ⟨kd, e0, _⟩ := DataW.trod_int Tryz.underlying3 h0
  obtain ⟨t1, rfl, rfl, hok1, hs1⟩ := trod_ltS h1 (by omega)
  obtain ⟨ky, e2, d2, _⟩ := DataW.trod_string Tryz.underlying9 h2
  obtain ⟨A, m, c, ats, rfl, hl, hm, hA, hmc, hall, hb3⟩ := open_attsZ h3 (by omega)
  obtain ⟨B, hn, hc, hs, rfl, hhl, hhm, hhA, hhc, hhb⟩ := open_hooks h4
  obtain ⟨K, kn, kc, ks, rfl, hkl, hkm, hK, hkc, hkall, hkb⟩ := hin _ _ _ h5 (by omega)
  obtain ⟨t6, rfl, rfl, hok6, hs6⟩ := trod_ltS h6 (by omega)
  obtain ⟨sl, e7, _⟩ := DataW.trod_int Tryz.underlying3 h7
  have hkz : ky.size + 1 ≤ Rows.uptoBulk y2.1 := by
    rw [show y2.1 = .lit (.string ky.data.toList) from congrArg Prod.fst d2]
    have hz : ky.data.toList.length = ky.size := by rw [Array.length_toList]; rfl
    simp only [Rows.uptoBulk, hz]
    omega
  have hlen := bkV_len (chV ks)
  rw [chV_length] at hlen
  have hlen2 := atWs_len (ats.map AT.ch)
  rw [List.length_map] at hlen2
  have hkl2 : ky.data.toList.length = ky.size := by rw [Array.length_toList]; rfl
  simp only [List.cons.injEq, and_true] at e0 e2 e7
  subst e0 e2 e7
  refine ⟨⟨kd, t1, ky, A, m, c, ats, B, hn, hc, hs, K, kn, kc, ks, t6, sl⟩, rfl, rfl, rfl, rfl, rfl, rfl, rfl, rfl, rfl, rfl, ⟨hok1.inS (Nat.le_refl _), hok6.inS (Nat.le_refl _), (by show ky.size ≤ _; omega), hl.inS (Nat.le_refl _), hm, hA, by show m ≤ _; omega, fun a ha => (hall a ha).inS (Nat.le_refl _), hhl.inS (Nat.le_refl _), hhm, hhA, by show hn ≤ _; omega, hkl, hkm, hK, by show kn ≤ _; omega⟩, hkall, ?_⟩
  rw [PV.bk_eq, VT.ch_tag, VT.ch_key, VT.ch_attrs, VT.ch_hooks, VT.ch_kids, VT.ch_text, LT.ch_length, LT.ch_length, hkl2]
  show t1.s.size + ky.size + atWs (ats.map AT.ch) + hs.length + t6.s.size + 1 + bkV (chV ks) ≤ _
  omega

set_option maxRecDepth 100000 in
theorem open_views_to (N : Nat) (hN : N ≤ 1048576) : ∀ (fuel : Nat) (v : Value) (x : DataW H × List MemPlace), DataW.trod enc Tryz.prog W 0 (fun _ => true) true fuel 22 [v] = some x → Rows.uptoBulk x.1 ≤ N → ViewsArg W v (Rows.uptoBulk x.1) := by
  induction N with
  | zero => intro fuel v x _ hb; have := bulk_one x.1; omega
  | succ N ih =>
    intro fuel v x h hbk
    rcases open_slice Tryz.underlying22 h with ⟨hv, rfl⟩ | ⟨a, len, cap, m, n, D, Pl, hv, hb, hlc, hcm, hm, rfl, hel⟩
    · simp only [List.cons.injEq, and_true] at hv
      subst hv
      exact ⟨none, 0, 0, [], rfl, LiesS.nil _ _ _, rfl, (fun _ => rfl), Nat.le_refl _, AllV.nil _ _, by simp [Rows.uptoBulk, chV, bkV]⟩
    · simp only [List.cons.injEq, and_true] at hv
      subst hv
      simp only [if_true] at hm
      subst hm
      have hall : Rows.uptoBulkAll ((List.range len).map D) + 1 ≤ Rows.uptoBulk (DataW.slice ((List.range len).map D) ((List.range (m - len)).map fun j => D (len + j))) := by
        simp only [Rows.uptoBulk]; omega
      have hpart : ∀ i, i < len → Rows.uptoBulk (D i) ≤ N := by
        intro i hi
        have hbk' : Rows.uptoBulk (DataW.slice ((List.range len).map D) ((List.range (m - len)).map fun j => D (len + j))) ≤ N + 1 := hbk
        rw [bulk_sum] at hall
        have hmem : Rows.uptoBulk (D i) ∈ ((List.range len).map D).map Rows.uptoBulk := by
          simp only [List.mem_map, List.mem_range]
          exact ⟨D i, ⟨i, hi, rfl⟩, rfl⟩
        have := le_sum hmem
        omega
      obtain ⟨ts, htl, hts⟩ := list_of (fun i (t : VT) => (W.cell? (a.add (i * 10)) = some (.int .i64 t.kind) ∧ W.cell? (a.add (i * 10 + 1)) = some (.string t.tag.s) ∧ W.cell? (a.add (i * 10 + 2)) = some (.slice t.tag.A t.tag.n t.tag.c) ∧ W.cell? (a.add (i * 10 + 3)) = some (.string t.key) ∧ W.cell? (a.add (i * 10 + 4)) = some (.slice t.A t.n t.c) ∧ W.cell? (a.add (i * 10 + 5)) = some (.slice t.H t.hn t.hc) ∧ W.cell? (a.add (i * 10 + 6)) = some (.slice t.K t.kn t.kc) ∧ W.cell? (a.add (i * 10 + 7)) = some (.string t.text.s) ∧ W.cell? (a.add (i * 10 + 8)) = some (.slice t.text.A t.text.n t.text.c) ∧ W.cell? (a.add (i * 10 + 9)) = some (.int .i64 t.slot)) ∧
          t.inS (fun b => b < W.heap.size) W ∧ AllV (fun b => b < W.heap.size) W t.kids ∧ t.ch.bk ≤ Rows.uptoBulk (D i)) len (fun i hi => by
        obtain ⟨cs', hc, ht⟩ := hel i (by omega)
        rw [cells_view] at hc
        obtain ⟨_, hcl, hca⟩ := World.cells?_some hc
        match cs', hcl with
        | [c0, c1, c2, c3, c4, c5, c6, c7, c8, c9], _ =>
          have hp := hpart i hi
          obtain ⟨t, rfl, rfl, rfl, rfl, rfl, rfl, rfl, rfl, rfl, rfl, h1, h2, h3⟩ := trod_view ht (by show Rows.uptoBulk (D i) ≤ _; omega) (fun fuel v x hx hlt => ih (by omega) fuel v x hx (by have h9 : Rows.uptoBulk x.1 < Rows.uptoBulk (D i) := hlt; omega))
          have hl0 := hca 0 (by omega)
          have hl1 := hca 1 (by omega)
          have hl2 := hca 2 (by omega)
          have hl3 := hca 3 (by omega)
          have hl4 := hca 4 (by omega)
          have hl5 := hca 5 (by omega)
          have hl6 := hca 6 (by omega)
          have hl7 := hca 7 (by omega)
          have hl8 := hca 8 (by omega)
          have hl9 := hca 9 (by omega)
          rw [addr_add] at hl0 hl1 hl2 hl3 hl4 hl5 hl6 hl7 hl8 hl9
          exact ⟨t, ⟨by simpa using hl0, by simpa using hl1, by simpa using hl2, by simpa using hl3, by simpa using hl4, by simpa using hl5, by simpa using hl6, by simpa using hl7, by simpa using hl8, by simpa using hl9⟩, h1, h2, h3⟩)
      have hsum : ∀ k, k ≤ len → bkV (chV (ts.take k)) ≤ Rows.uptoBulkAll ((List.range k).map D) := by
        intro k
        induction k with
        | zero => intro _; simp [chV, bkV]
        | succ k ihk =>
          intro hk
          have h1 := ihk (by omega)
          have hkl : k < ts.length := by omega
          have h2 := (hts k ts[k] (List.getElem?_eq_getElem hkl)).2.2.2
          rw [take_next (List.getElem?_eq_getElem hkl), chV_append, bkV_append, List.range_succ, List.map_append, bulk_sum, List.map_append, List.sum_append, ← bulk_sum]
          have h3 : bkV (chV [ts[k]]) = ts[k].ch.bk := by rw [chV, chV, bkV_one]
          rw [h3]
          simp only [List.map_cons, List.map_nil, List.sum_cons, List.sum_nil]
          omega
      refine ⟨some a, len, m, ts, rfl, ?_, htl, by simp, hlc, ?_, ?_⟩
      · intro j u hu
        have hj : j < ts.length * 10 := by
          have := (List.getElem?_eq_some_iff.1 hu).1
          rwa [viewCells_length] at this
        have hk : j / 10 < ts.length := by omega
        obtain ⟨⟨h0, h1, h2, h3, h4, h5, h6, h7, h8, h9⟩, _⟩ := hts (j / 10) (ts[j / 10]) (List.getElem?_eq_getElem hk)
        have hlt : a.block < W.heap.size := by have := World.block_lt_of_cell? W _ h0; simpa [addr_block] using this
        refine ⟨a, rfl, hlt, hlt, ?_⟩
        have hat := fun i hi => viewCells_at ts (j / 10) (ts[j / 10]) (List.getElem?_eq_getElem hk) i hi
        have h10 : j % 10 = 0 ∨ j % 10 = 1 ∨ j % 10 = 2 ∨ j % 10 = 3 ∨ j % 10 = 4 ∨ j % 10 = 5 ∨ j % 10 = 6 ∨ j % 10 = 7 ∨ j % 10 = 8 ∨ j % 10 = 9 := by omega
        have hgo : ∀ r, r < 10 → j % 10 = r → W.cell? (a.add (j / 10 * 10 + r)) = (viewRow (ts[j / 10]))[r]? → W.cell? (a.add j) = some u := by
          intro r hr hm hc
          have e : j = j / 10 * 10 + r := by omega
          rw [e, hat r hr] at hu
          rw [e, hc, hu]
        rcases h10 with hm | hm | hm | hm | hm | hm | hm | hm | hm | hm
        · exact hgo 0 (by omega) hm h0
        · exact hgo 1 (by omega) hm h1
        · exact hgo 2 (by omega) hm h2
        · exact hgo 3 (by omega) hm h3
        · exact hgo 4 (by omega) hm h4
        · exact hgo 5 (by omega) hm h5
        · exact hgo 6 (by omega) hm h6
        · exact hgo 7 (by omega) hm h7
        · exact hgo 8 (by omega) hm h8
        · exact hgo 9 (by omega) hm h9
      · intro y hy
        obtain ⟨t, ht, hy⟩ := nodesV_mem hy
        obtain ⟨i, hi, rfl⟩ := List.getElem_of_mem ht
        obtain ⟨_, h1, h2, _⟩ := hts i _ (List.getElem?_eq_getElem hi)
        rw [VT.nodes_eq] at hy
        rcases List.mem_cons.1 hy with rfl | hy
        · exact h1
        · exact h2 _ hy
      · have h1 := hsum len (Nat.le_refl _)
        rw [List.take_of_length_le (by omega)] at h1
        show _ ≤ Rows.uptoBulk (DataW.slice ((List.range len).map D) ((List.range (m - len)).map fun j => D (len + j)))
        omega

/-- a slice of views that is an argument -/
theorem open_views {fuel : Nat} {v : Value} {x : DataW H × List MemPlace} (h : DataW.trod enc Tryz.prog W 0 (fun _ => true) true fuel 22 [v] = some x) (hbk : Rows.uptoBulk x.1 ≤ 1048576) : ViewsArg W v (Rows.uptoBulk x.1) := open_views_to 1048576 (Nat.le_refl _) fuel v x h hbk
end

end Go.Proofs.YtnbdldapmllegaaGreat.mk
