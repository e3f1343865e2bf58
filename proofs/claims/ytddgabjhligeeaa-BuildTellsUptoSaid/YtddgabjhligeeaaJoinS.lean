/-
  Labelled texts that come in: how they lie in memory, and how large they are.
-/
import Derived.Test.YtddgabjhligeeaaJoinF
import Derived.Test.YtddgabjhligeeaaJoinM
import Derived.Deep.Slices
import Derived.Deep.Fields
import Derived.Lib.SmallJoins
namespace Go.Proofs.Ytddgabjhligeeaa.mk
open Go.ChangeShapes Go.WideShapes Go.RowKit Go.Deep Go.Joins

theorem list_of {α : Type} (R : Nat → α → Prop) (n : Nat) (h : ∀ i, i < n → ∃ x, R i x) : ∃ l : List α, l.length = n ∧ ∀ i x, l[i]? = some x → R i x := by
  induction n with
  | zero => exact ⟨[], rfl, fun i x h => by simp at h⟩
  | succ n ih =>
    obtain ⟨l, hl, hr⟩ := ih (fun i hi => h i (by omega))
    obtain ⟨x, hx⟩ := h n (by omega)
    refine ⟨l ++ [x], by simp [hl], fun i y hy => ?_⟩
    by_cases hi : i < n
    · rw [List.getElem?_append_left (by omega)] at hy; exact hr i y hy
    · rw [List.getElem?_append_right (by omega)] at hy
      have : i = n := by
        rcases Nat.lt_or_ge n i with h1 | h1
        · rw [List.getElem?_eq_none (by simp; omega)] at hy; cases hy
        · omega
      subst this
      rw [hl] at hy
      simp at hy
      subst hy
      exact hx

section
variable {H : Type} {enc : TypeId × Value → H} {W : World}

theorem cells_run : Try.prog.cellsOf 72 = 2 := by kernel_rfl
theorem cells_int : Try.prog.cellsOf 3 = 1 := by kernel_rfl
theorem cells_string : Try.prog.cellsOf 9 = 1 := by kernel_rfl
theorem cells_runs : Try.prog.cellsOf 28 = 1 := by kernel_rfl
theorem le_sum {l : List Nat} {x : Nat} (h : x ∈ l) : x ≤ l.sum := by
  induction l with
  | nil => cases h
  | cons y l ih =>
    simp only [List.sum_cons]
    rcases List.mem_cons.1 h with rfl | h
    · omega
    · have := ih h; omega
theorem cells_str : Try.prog.cellsOf 30 = 2 := by kernel_rfl

set_option maxRecDepth 100000 in
/-- a slice of runs that comes in -/
theorem open_runs {fuel : Nat} {v : Value} {x : DataW H × List MemPlace} (h : DataW.trod enc Try.prog W 0 (fun _ => true) true fuel 28 [v] = some x) :
    ∃ (A : Option Addr) (n c : Nat) (rs : List (Int × Int)), v = .slice A n c ∧ Lies W W.heap.size A (runCells rs) ∧ rs.length = n ∧ (A = none → c = 0) ∧ n ≤ c ∧ n + 1 ≤ Rows.uptoBulk x.1 := by
  rcases open_slice Try.underlying28 h with ⟨hv, rfl⟩ | ⟨a, len, cap, m, n, D, Pl, hv, hb, hlc, hcm, hm, rfl, hel⟩
  · simp only [List.cons.injEq, and_true] at hv
    subst hv
    exact ⟨none, 0, 0, [], rfl, Lies.empty _ _ _, rfl, fun _ => rfl, Nat.le_refl _, by simp [Rows.uptoBulk]⟩
  · simp only [List.cons.injEq, and_true] at hv
    subst hv
    simp only [if_true] at hm
    subst hm
    obtain ⟨rs, hrl, hrs⟩ := list_of (fun i (r : Int × Int) => W.cell? (a.add (i * 2)) = some (.int .i64 r.1) ∧ W.cell? (a.add (i * 2 + 1)) = some (.int .i64 r.2)) len (fun i hi => by
      obtain ⟨cs', hc, ht⟩ := hel i (by omega)
      rw [cells_run] at hc
      obtain ⟨_, hcl, hca⟩ := World.cells?_some hc
      obtain ⟨y0, y1, n', hx, _, h0, h1⟩ := trod_struct2 Try.underlying72 ht
      match cs', hcl with
      | [c0, c1], _ =>
        simp only [cells_int, List.drop_zero, List.drop_succ_cons, List.take_succ_cons, List.take_zero] at h0 h1
        obtain ⟨l, e0, _⟩ := DataW.trod_int Try.underlying3 h0
        obtain ⟨o, e1, _⟩ := DataW.trod_int Try.underlying3 h1
        have hl0 := hca 0 (by omega)
        have hl1 := hca 1 (by omega)
        rw [addr_add] at hl0 hl1
        simp only [List.cons.injEq, and_true] at e0 e1
        exact ⟨(l, o), by simpa [e0] using hl0, by simpa [e1] using hl1⟩)
    refine ⟨some a, len, m, rs, rfl, ?_, hrl, by simp, hlc, ?_⟩
    · intro j u hu
      refine ⟨a, rfl, ?_, ?_⟩
      · have h0 : 0 < len := by
          rcases Nat.eq_zero_or_pos len with h0 | h0
          · subst h0
            have : rs = [] := List.eq_nil_of_length_eq_zero hrl
            subst this; simp [runCells] at hu
          · exact h0
        have := (hrs 0 (rs[0]'(by omega)) (List.getElem?_eq_getElem _)).1
        have hlt := World.block_lt_of_cell? W _ this
        simpa [addr_block] using hlt
      · have hj : j < rs.length * 2 := by
          have := (List.getElem?_eq_some_iff.1 hu).1
          rwa [runCells_length] at this
        have hk : j / 2 < rs.length := by omega
        obtain ⟨h1, h2⟩ := hrs (j / 2) (rs[j / 2]) (List.getElem?_eq_getElem hk)
        have hg : rs.getD (j / 2) (0, 0) = rs[j / 2] := by simp [List.getD, List.getElem?_eq_getElem hk]
        rcases Nat.mod_two_eq_zero_or_one j with hm | hm
        · have e : j = j / 2 * 2 := by omega
          rw [e, runCells_fst rs _ hk, hg] at hu
          rw [e, ← hu]; exact h1
        · have e : j = j / 2 * 2 + 1 := by omega
          rw [e, runCells_snd rs _ hk, hg] at hu
          rw [e, ← hu]; exact h2
    · have h1 := bulk_length ((List.range len).map D)
      simp only [List.length_map, List.length_range] at h1
      simp only [Rows.uptoBulk]
      omega

/-- a labelled text's two cells -/
theorem open_lt {n : Nat} {v0 v1 : Value} {y0 y1 : DataW H × List MemPlace} (h0 : DataW.trod enc Try.prog W 0 (fun _ => true) true n 9 [v0] = some y0) (h1 : DataW.trod enc Try.prog W 0 (fun _ => true) true n 28 [v1] = some y1)
    (hbk : Rows.uptoBulk (DataW.agg [y0.1, y1.1]) ≤ 1048576) :
    ∃ t : LT, v0 = .string t.s ∧ v1 = .slice t.A t.n t.c ∧ t.ok W W.heap.size ∧ (t.A = none → t.c = 0) ∧ t.n ≤ t.c ∧ t.s.size + t.n + 3 ≤ Rows.uptoBulk (DataW.agg [y0.1, y1.1]) := by
  obtain ⟨s, e0, rfl, _⟩ := DataW.trod_string Try.underlying9 h0
  obtain ⟨A, m, c, rs, rfl, hl, hm, hA, hmc, hb⟩ := open_runs h1
  simp only [List.cons.injEq, and_true] at e0
  subst e0
  have hs : s.data.toList.length = s.size := by rw [Array.length_toList]; rfl
  simp only [Rows.uptoBulk, Rows.uptoBulkAll, hs] at hbk ⊢
  exact ⟨⟨s, A, m, c, rs⟩, rfl, rfl, ⟨hl, hm, by show m ≤ _; omega, by show s.size ≤ _; omega⟩, hA, hmc, by show s.size + m + 3 ≤ _; omega⟩

set_option maxRecDepth 100000 in
/-- a labelled text that is an argument -/
theorem open_str {r : Reach} {b0 : Nat} {v : Value} {d : DataW H} {p : List MemPlace} (hv : Value.okWide Try.prog W r b0 30 v) (h : DataW.Trod enc Try.prog W 0 (fun _ => true) true 30 v d p) (hbk : Rows.uptoBulk d ≤ 1048576) :
    ∃ t : LT, v = t.v ∧ t.ok W W.heap.size ∧ (t.A = none → t.c = 0) ∧ t.n ≤ t.c ∧ t.s.size + t.n + 3 ≤ Rows.uptoBulk d := by
  obtain ⟨v0, v1, y0, y1, n, rfl, rfl, _, h0, h1⟩ := open_agg2 Try.underlying30 (by kernel_rfl) (by kernel_rfl) hv h
  obtain ⟨t, rfl, rfl, hok, h2, h3, h4⟩ := open_lt h0 h1 hbk
  exact ⟨t, rfl, hok, h2, h3, h4⟩

set_option maxRecDepth 100000 in
/-- a slice of labelled texts that is an argument -/
theorem open_strs {fuel : Nat} {v : Value} {x : DataW H × List MemPlace} (h : DataW.trod enc Try.prog W 0 (fun _ => true) true fuel 77 [v] = some x) (hbk : Rows.uptoBulk x.1 ≤ 1048576) :
    ∃ (L : Option Addr) (m c : Nat) (ts : List LT), v = .slice L m c ∧ Lies W W.heap.size L (ltCells ts) ∧ ts.length = m ∧ (L = none → c = 0) ∧ m ≤ c ∧ (∀ t ∈ ts, t.ok W W.heap.size) ∧ (catOs ts).length + m + 1 ≤ Rows.uptoBulk x.1 := by
  rcases open_slice Try.underlying77 h with ⟨hv, rfl⟩ | ⟨a, len, cap, m, n, D, Pl, hv, hb, hlc, hcm, hm, rfl, hel⟩
  · simp only [List.cons.injEq, and_true] at hv
    subst hv
    exact ⟨none, 0, 0, [], rfl, Lies.empty _ _ _, rfl, fun _ => rfl, Nat.le_refl _, by simp, by simp [Rows.uptoBulk, catOs]⟩
  · simp only [List.cons.injEq, and_true] at hv
    subst hv
    simp only [if_true] at hm
    subst hm
    have hpart : ∀ i, i < len → Rows.uptoBulk (D i) ≤ 1048576 := by
      intro i hi
      have hbk' := hbk
      simp only [Rows.uptoBulk] at hbk'
      rw [bulk_sum] at hbk'
      have hmem : Rows.uptoBulk (D i) ∈ ((List.range len).map D).map Rows.uptoBulk := by
        simp only [List.mem_map, List.mem_range]
        exact ⟨D i, ⟨i, hi, rfl⟩, rfl⟩
      have := le_sum hmem
      omega
    obtain ⟨ts, htl, hts⟩ := list_of (fun i (t : LT) => W.cell? (a.add (i * 2)) = some (.string t.s) ∧ W.cell? (a.add (i * 2 + 1)) = some (.slice t.A t.n t.c) ∧ t.ok W W.heap.size ∧ t.s.size + 1 ≤ Rows.uptoBulk (D i)) len (fun i hi => by
      obtain ⟨cs', hc, ht⟩ := hel i (by omega)
      rw [cells_str] at hc
      obtain ⟨_, hcl, hca⟩ := World.cells?_some hc
      obtain ⟨y0, y1, n', hx, _, h0, h1⟩ := trod_struct2 Try.underlying30 ht
      match cs', hcl with
      | [c0, c1], _ =>
        have hD : D i = .agg [y0.1, y1.1] := congrArg Prod.fst hx
        have hp := hpart i hi
        rw [hD] at hp ⊢
        simp only [cells_string, cells_runs, List.drop_zero, List.drop_succ_cons, List.take_succ_cons, List.take_zero] at h0 h1
        obtain ⟨t, rfl, rfl, hok, _, _, h4⟩ := open_lt h0 h1 hp
        have hl0 := hca 0 (by omega)
        have hl1 := hca 1 (by omega)
        rw [addr_add] at hl0 hl1
        exact ⟨t, by simpa using hl0, by simpa using hl1, hok, by omega⟩)
    refine ⟨some a, len, m, ts, rfl, ?_, htl, by simp, hlc, ?_, ?_⟩
    · intro j u hu
      have hj : j < ts.length * 2 := by
        have := (List.getElem?_eq_some_iff.1 hu).1
        rwa [ltCells_length] at this
      have hk : j / 2 < ts.length := by omega
      obtain ⟨h1, h2, _⟩ := hts (j / 2) (ts[j / 2]) (List.getElem?_eq_getElem hk)
      obtain ⟨g1, g2⟩ := ltCells_at ts (j / 2) (ts[j / 2]) (List.getElem?_eq_getElem hk)
      refine ⟨a, rfl, by have := World.block_lt_of_cell? W _ h1; simpa [addr_block] using this, ?_⟩
      rcases Nat.mod_two_eq_zero_or_one j with hm | hm
      · have e : j = j / 2 * 2 := by omega
        rw [e, g1] at hu
        rw [e, ← hu]; exact h1
      · have e : j = j / 2 * 2 + 1 := by omega
        rw [e, g2] at hu
        rw [e, ← hu]; exact h2
    · intro t ht
      obtain ⟨i, hi, rfl⟩ := List.getElem_of_mem ht
      exact (hts i _ (List.getElem?_eq_getElem hi)).2.2.1
    · have hsum : ∀ k, k ≤ len → (catOs (ts.take k)).length + k ≤ Rows.uptoBulkAll ((List.range k).map D) := by
        intro k
        induction k with
        | zero => intro _; simp [catOs]
        | succ k ih =>
          intro hk
          have h1 := ih (by omega)
          have hkl : k < ts.length := by omega
          have h2 := (hts k ts[k] (List.getElem?_eq_getElem hkl)).2.2.2
          rw [catOs_next (List.getElem?_eq_getElem hkl), List.length_append, LT.os_length, List.range_succ, List.map_append, bulk_sum, List.map_append, List.sum_append, ← bulk_sum]
          simp only [List.map_cons, List.map_nil, List.sum_cons, List.sum_nil]
          omega
      have := hsum len (Nat.le_refl _)
      rw [List.take_of_length_le (by omega)] at this
      simp only [Rows.uptoBulk]
      omega
end

set_option maxRecDepth 100000 in
/-- a text that is an argument -/
theorem open_txt {H : Type} {enc : TypeId × Value → H} {W : World} {r : Reach} {b0 : Nat} {v : Value} {d : DataW H} {p : List MemPlace} (hv : Value.okWide Try.prog W r b0 9 v) (h : DataW.Trod enc Try.prog W 0 (fun _ => true) true 9 v d p) :
    ∃ s : ByteArray, v = .string s ∧ s.size + 1 ≤ Rows.uptoBulk d := by
  obtain ⟨s, rfl⟩ := WideShapes.okWide_string Try.underlying9 hv
  obtain ⟨fuel, hf⟩ := h
  obtain ⟨s', e0, e1, _⟩ := DataW.trod_string Try.underlying9 hf
  obtain rfl : s = s' := by simpa [Value.cells] using e0
  refine ⟨s, rfl, ?_⟩
  have hs : s.data.toList.length = s.size := by rw [Array.length_toList]; rfl
  have e2 : d = .lit (.string s.data.toList) := congrArg Prod.fst e1
  rw [e2]
  simp only [Rows.uptoBulk, hs]
  omega
/-- a byte that is an argument -/
theorem open_byte {P : Program} {W : World} {r : Reach} {b0 : Nat} {t : TypeId} {v : Value} (ht : P.underlying t = some (.int .u8)) (h : Value.okWide P W r b0 t v) : ∃ b : UInt8, v = .int .u8 b.toNat := by
  obtain ⟨n, rfl⟩ := WideShapes.okWide_int ht h
  have hn : IntKind.u8.has n := by
    simp only [Value.okWide, ht, Cell.okWide, Cell.ok] at h
    exact h.2
  have hb : 0 ≤ n ∧ n ≤ 255 := by
    simpa [IntKind.has, IntKind.min, IntKind.max, IntKind.signed, IntKind.bits] using hn
  refine ⟨UInt8.ofNat n.toNat, ?_⟩
  congr 1
  simp
  omega

end Go.Proofs.Ytddgabjhligeeaa.mk
