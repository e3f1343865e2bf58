/-
  Attributes that come in: how they lie in memory, and how large they are.
-/
import Derived.Test.YthckecfjghjnjaaAttMem
import Derived.Test.YthckecfjghjnjaaMarkArgs
namespace Go.Proofs.Ythckecfjghjnjaa.mk
open Go.ChangeShapes Go.WideShapes Go.RowKit Go.Deep Go.Joins

section
variable {H : Type} {enc : TypeId × Value → H} {W : World}

theorem cells_attr : Try.prog.cellsOf 27 = 4 := by kernel_rfl

set_option maxRecDepth 100000 in
/-- a labelled text's two cells within a struct -/
theorem trod_lt {n : Nat} {c0 c1 : Value} {y : DataW H × List MemPlace} (h : DataW.trod enc Try.prog W 0 (fun _ => true) true n 25 [c0, c1] = some y) (hbk : Rows.uptoBulk y.1 ≤ 1048576) :
    ∃ t : LT, c0 = .string t.s ∧ c1 = .slice t.A t.n t.c ∧ t.ok W W.heap.size := by
  obtain ⟨y0, y1, n', hx, _, h0, h1⟩ := trod_struct2 Try.underlying25 h
  have hD : y.1 = .agg [y0.1, y1.1] := congrArg Prod.fst hx
  rw [hD] at hbk
  simp only [cells_string, cells_runs, List.drop_zero, List.drop_succ_cons, List.take_succ_cons, List.take_zero] at h0 h1
  obtain ⟨t, rfl, rfl, hok, _, _, _⟩ := open_lt h0 h1 hbk
  exact ⟨t, rfl, rfl, hok⟩

set_option maxRecDepth 100000 in
/-- an attribute's four cells -/
theorem trod_att {n : Nat} {c0 c1 c2 c3 : Value} {y : DataW H × List MemPlace} (h : DataW.trod enc Try.prog W 0 (fun _ => true) true n 27 [c0, c1, c2, c3] = some y) (hbk : Rows.uptoBulk y.1 ≤ 1048576) :
    ∃ t : AT, c0 = .string t.nm.s ∧ c1 = .slice t.nm.A t.nm.n t.nm.c ∧ c2 = .string t.vl.s ∧ c3 = .slice t.vl.A t.vl.n t.vl.c ∧ t.ok W W.heap.size := by
  obtain ⟨y0, y1, n', hx, _, h0, h1⟩ := trod_struct2 Try.underlying27 h
  have hD : y.1 = .agg [y0.1, y1.1] := congrArg Prod.fst hx
  rw [hD] at hbk
  simp only [Rows.uptoBulk, Rows.uptoBulkAll] at hbk
  simp only [cells_str, List.drop_zero, List.drop_succ_cons, List.take_succ_cons, List.take_zero] at h0 h1
  obtain ⟨t0, rfl, rfl, hok0⟩ := trod_lt h0 (by omega)
  obtain ⟨t1, rfl, rfl, hok1⟩ := trod_lt h1 (by omega)
  exact ⟨⟨t0, t1⟩, rfl, rfl, rfl, rfl, hok0, hok1⟩

set_option maxRecDepth 100000 in
/-- an attribute that is an argument -/
theorem open_att {r : Reach} {b0 : Nat} {v : Value} {d : DataW H} {p : List MemPlace} (hv : Value.okWide Try.prog W r b0 27 v) (h : DataW.Trod enc Try.prog W 0 (fun _ => true) true 27 v d p) (hbk : Rows.uptoBulk d ≤ 1048576) :
    ∃ t : AT, v = .agg #[.string t.nm.s, .slice t.nm.A t.nm.n t.nm.c, .string t.vl.s, .slice t.vl.A t.vl.n t.vl.c] ∧ t.ok W W.heap.size := by
  obtain ⟨cs, rfl, hsz⟩ := okWide_struct Try.underlying27 hv
  obtain ⟨c0, c1, c2, c3, rfl⟩ := array4 (hsz.trans cells_attr)
  obtain ⟨fuel, hf⟩ := h
  obtain ⟨t, rfl, rfl, rfl, rfl, hok⟩ := trod_att hf hbk
  exact ⟨t, rfl, hok⟩

set_option maxRecDepth 100000 in
/-- a slice of attributes that is an argument -/
theorem open_atts {fuel : Nat} {v : Value} {x : DataW H × List MemPlace} (h : DataW.trod enc Try.prog W 0 (fun _ => true) true fuel 22 [v] = some x) (hbk : Rows.uptoBulk x.1 ≤ 1048576) :
    ∃ (L : Option Addr) (m c : Nat) (ts : List AT), v = .slice L m c ∧ Lies W W.heap.size L (atCells ts) ∧ ts.length = m ∧ (L = none → c = 0) ∧ m ≤ c ∧ AllOk W W.heap.size ts ∧ m + 1 ≤ Rows.uptoBulk x.1 := by
  rcases open_slice Try.underlying22 h with ⟨hv, rfl⟩ | ⟨a, len, cap, m, n, D, Pl, hv, hb, hlc, hcm, hm, rfl, hel⟩
  · simp only [List.cons.injEq, and_true] at hv
    subst hv
    exact ⟨none, 0, 0, [], rfl, Lies.empty _ _ _, rfl, fun _ => rfl, Nat.le_refl _, (fun t ht => by cases ht), by simp [Rows.uptoBulk]⟩
  · simp only [List.cons.injEq, and_true] at hv
    subst hv
    simp only [if_true] at hm
    subst hm
    have hpart : ∀ i, i < len → Rows.uptoBulk (D i) ≤ 1048576 := by
      intro i hi
      have hbk' := hbk
      simp only [Rows.uptoBulk] at hbk'
      rw [bulk_sum] at hbk'
      have hmem : Rows.uptoBulk (D i) ∈ ((List.range len).map D).map Rows.uptoBulk := by
        simp only [List.mem_map, List.mem_range]
        exact ⟨D i, ⟨i, hi, rfl⟩, rfl⟩
      have := le_sum hmem
      omega
    obtain ⟨ts, htl, hts⟩ := list_of (fun i (t : AT) => W.cell? (a.add (i * 4)) = some (.string t.nm.s) ∧ W.cell? (a.add (i * 4 + 1)) = some (.slice t.nm.A t.nm.n t.nm.c) ∧ W.cell? (a.add (i * 4 + 2)) = some (.string t.vl.s) ∧ W.cell? (a.add (i * 4 + 3)) = some (.slice t.vl.A t.vl.n t.vl.c) ∧ t.ok W W.heap.size) len (fun i hi => by
      obtain ⟨cs', hc, ht⟩ := hel i (by omega)
      rw [cells_attr] at hc
      obtain ⟨_, hcl, hca⟩ := World.cells?_some hc
      match cs', hcl with
      | [c0, c1, c2, c3], _ =>
        obtain ⟨t, rfl, rfl, rfl, rfl, hok⟩ := trod_att ht (hpart i hi)
        have hl0 := hca 0 (by omega)
        have hl1 := hca 1 (by omega)
        have hl2 := hca 2 (by omega)
        have hl3 := hca 3 (by omega)
        rw [addr_add] at hl0 hl1 hl2 hl3
        exact ⟨t, by simpa using hl0, by simpa using hl1, by simpa using hl2, by simpa using hl3, hok⟩)
    refine ⟨some a, len, m, ts, rfl, ?_, htl, by simp, hlc, ?_, ?_⟩
    · intro j u hu
      have hj : j < ts.length * 4 := by
        have := (List.getElem?_eq_some_iff.1 hu).1
        rwa [atCells_length] at this
      have hk : j / 4 < ts.length := by omega
      obtain ⟨h0, h1, h2, h3, _⟩ := hts (j / 4) (ts[j / 4]) (List.getElem?_eq_getElem hk)
      refine ⟨a, rfl, by have := World.block_lt_of_cell? W _ h0; simpa [addr_block] using this, ?_⟩
      have hat := fun i hi => atCells_at ts (j / 4) (ts[j / 4]) (List.getElem?_eq_getElem hk) i hi
      have hq : j = j / 4 * 4 + j % 4 := by omega
      have h4 : j % 4 = 0 ∨ j % 4 = 1 ∨ j % 4 = 2 ∨ j % 4 = 3 := by omega
      rcases h4 with hm | hm | hm | hm
      · have e : j = j / 4 * 4 + 0 := by omega
        rw [e, hat 0 (by omega)] at hu
        rw [e, ← hu]; exact h0
      · have e : j = j / 4 * 4 + 1 := by omega
        rw [e, hat 1 (by omega)] at hu
        rw [e, ← hu]; exact h1
      · have e : j = j / 4 * 4 + 2 := by omega
        rw [e, hat 2 (by omega)] at hu
        rw [e, ← hu]; exact h2
      · have e : j = j / 4 * 4 + 3 := by omega
        rw [e, hat 3 (by omega)] at hu
        rw [e, ← hu]; exact h3
    · intro t ht
      obtain ⟨i, hi, rfl⟩ := List.getElem_of_mem ht
      exact (hts i _ (List.getElem?_eq_getElem hi)).2.2.2.2
    · have h1 := bulk_length ((List.range len).map D)
      simp only [List.length_map, List.length_range] at h1
      simp only [Rows.uptoBulk]
      omega
end

end Go.Proofs.Ythckecfjghjnjaa.mk
