/-
  Labelled texts that come in: how they lie in memory, and how large they are.
-/
import Derived.Test.YtnbdldapmllegaaGreatJtM
import Derived.Test.YtnbdldapmllegaaGreatJtW
import Derived.Deep.Slices
import Derived.Deep.Fields
import Derived.Lib.SmallJoins
namespace Go.Proofs.YtnbdldapmllegaaGreat.mk
open Go.ChangeShapes Go.WideShapes Go.RowKit Go.Deep Go.Joins

theorem list_of {α : Type} (R : Nat → α → Prop) (n : Nat) (h : ∀ i, i < n → ∃ x, R i x) : ∃ l : List α, l.length = n ∧ ∀ i x, l[i]? = some x → R i x := by
  induction n with
  | zero => exact ⟨[], rfl, fun i x h => by simp at h⟩
  | succ n ih =>
    obtain ⟨l, hl, hr⟩ := ih (fun i hi => h i (by omega))
    obtain ⟨x, hx⟩ := h n (by omega)
    refine ⟨l ++ [x], by simp [hl], fun i y hy => ?_⟩
    by_cases hi : i < n
    · rw [List.getElem?_append_left (by omega)] at hy; exact hr i y hy
    · rw [List.getElem?_append_right (by omega)] at hy
      have : i = n := by
        rcases Nat.lt_or_ge n i with h1 | h1
        · rw [List.getElem?_eq_none (by simp; omega)] at hy; cases hy
        · omega
      subst this
      rw [hl] at hy
      simp at hy
      subst hy
      exact hx

section
variable {H : Type} {enc : TypeId × Value → H} {W : World}

theorem cells_run : Tryz.prog.cellsOf 79 = 2 := by kernel_rfl
theorem cells_int : Tryz.prog.cellsOf 3 = 1 := by kernel_rfl
theorem cells_string : Tryz.prog.cellsOf 9 = 1 := by kernel_rfl
theorem cells_runs : Tryz.prog.cellsOf 26 = 1 := by kernel_rfl
theorem le_sum {l : List Nat} {x : Nat} (h : x ∈ l) : x ≤ l.sum := by
  induction l with
  | nil => cases h
  | cons y l ih =>
    simp only [List.sum_cons]
    rcases List.mem_cons.1 h with rfl | h
    · omega
    · have := ih h; omega
theorem cells_str : Tryz.prog.cellsOf 28 = 2 := by kernel_rfl

set_option maxRecDepth 100000 in
/-- a slice of runs that comes in -/
theorem open_runs {fuel : Nat} {v : Value} {x : DataW H × List MemPlace} (h : DataW.trod enc Tryz.prog W 0 (fun _ => true) true fuel 26 [v] = some x) :
    ∃ (A : Option Addr) (n c : Nat) (rs : List (Int × Int)), v = .slice A n c ∧ Lies W W.heap.size A (runCells rs) ∧ rs.length = n ∧ (A = none → c = 0) ∧ n ≤ c ∧ n + 1 ≤ Rows.uptoBulk x.1 := by
  rcases open_slice Tryz.underlying26 h with ⟨hv, rfl⟩ | ⟨a, len, cap, m, n, D, Pl, hv, hb, hlc, hcm, hm, rfl, hel⟩
  · simp only [List.cons.injEq, and_true] at hv
    subst hv
    exact ⟨none, 0, 0, [], rfl, Lies.empty _ _ _, rfl, fun _ => rfl, Nat.le_refl _, by simp [Rows.uptoBulk]⟩
  · simp only [List.cons.injEq, and_true] at hv
    subst hv
    simp only [if_true] at hm
    subst hm
    obtain ⟨rs, hrl, hrs⟩ := list_of (fun i (r : Int × Int) => W.cell? (a.add (i * 2)) = some (.int .i64 r.1) ∧ W.cell? (a.add (i * 2 + 1)) = some (.int .i64 r.2)) len (fun i hi => by
      obtain ⟨cs', hc, ht⟩ := hel i (by omega)
      rw [cells_run] at hc
      obtain ⟨_, hcl, hca⟩ := World.cells?_some hc
      obtain ⟨y0, y1, n', hx, _, h0, h1⟩ := trod_struct2 Tryz.underlying79 ht
      match cs', hcl with
      | [c0, c1], _ =>
        simp only [cells_int, List.drop_zero, List.drop_succ_cons, List.take_succ_cons, List.take_zero] at h0 h1
        obtain ⟨l, e0, _⟩ := DataW.trod_int Tryz.underlying3 h0
        obtain ⟨o, e1, _⟩ := DataW.trod_int Tryz.underlying3 h1
        have hl0 := hca 0 (by omega)
        have hl1 := hca 1 (by omega)
        rw [addr_add] at hl0 hl1
        simp only [List.cons.injEq, and_true] at e0 e1
        exact ⟨(l, o), by simpa [e0] using hl0, by simpa [e1] using hl1⟩)
    refine ⟨some a, len, m, rs, rfl, ?_, hrl, by simp, hlc, ?_⟩
    · intro j u hu
      refine ⟨a, rfl, ?_, ?_⟩
      · have h0 : 0 < len := by
          rcases Nat.eq_zero_or_pos len with h0 | h0
          · subst h0
            have : rs = [] := List.eq_nil_of_length_eq_zero hrl
            subst this; simp [runCells] at hu
          · exact h0
        have := (hrs 0 (rs[0]'(by omega)) (List.getElem?_eq_getElem _)).1
        have hlt := World.block_lt_of_cell? W _ this
        simpa [addr_block] using hlt
      · have hj : j < rs.length * 2 := by
          have := (List.getElem?_eq_some_iff.1 hu).1
          rwa [runCells_length] at this
        have hk : j / 2 < rs.length := by omega
        obtain ⟨h1, h2⟩ := hrs (j / 2) (rs[j / 2]) (List.getElem?_eq_getElem hk)
        have hg : rs.getD (j / 2) (0, 0) = rs[j / 2] := by simp [List.getD, List.getElem?_eq_getElem hk]
        rcases Nat.mod_two_eq_zero_or_one j with hm | hm
        · have e : j = j / 2 * 2 := by omega
          rw [e, runCells_fst rs _ hk, hg] at hu
          rw [e, ← hu]; exact h1
        · have e : j = j / 2 * 2 + 1 := by omega
          rw [e, runCells_snd rs _ hk, hg] at hu
          rw [e, ← hu]; exact h2
    · have h1 := bulk_length ((List.range len).map D)
      simp only [List.length_map, List.length_range] at h1
      simp only [Rows.uptoBulk]
      omega

/-- a labelled text's two cells -/
theorem open_lt {n : Nat} {v0 v1 : Value} {y0 y1 : DataW H × List MemPlace} (h0 : DataW.trod enc Tryz.prog W 0 (fun _ => true) true n 9 [v0] = some y0) (h1 : DataW.trod enc Tryz.prog W 0 (fun _ => true) true n 26 [v1] = some y1)
    (hbk : Rows.uptoBulk (DataW.agg [y0.1, y1.1]) ≤ 1048576) :
    ∃ t : LT, v0 = .string t.s ∧ v1 = .slice t.A t.n t.c ∧ t.ok W W.heap.size ∧ (t.A = none → t.c = 0) ∧ t.n ≤ t.c ∧ t.s.size + t.n + 3 ≤ Rows.uptoBulk (DataW.agg [y0.1, y1.1]) := by
  obtain ⟨s, e0, rfl, _⟩ := DataW.trod_string Tryz.underlying9 h0
  obtain ⟨A, m, c, rs, rfl, hl, hm, hA, hmc, hb⟩ := open_runs h1
  simp only [List.cons.injEq, and_true] at e0
  subst e0
  have hs : s.data.toList.length = s.size := by rw [Array.length_toList]; rfl
  simp only [Rows.uptoBulk, Rows.uptoBulkAll, hs] at hbk ⊢
  exact ⟨⟨s, A, m, c, rs⟩, rfl, rfl, ⟨hl, hm, by show m ≤ _; omega, by show s.size ≤ _; omega⟩, hA, hmc, by show s.size + m + 3 ≤ _; omega⟩

end

end Go.Proofs.YtnbdldapmllegaaGreat.mk
