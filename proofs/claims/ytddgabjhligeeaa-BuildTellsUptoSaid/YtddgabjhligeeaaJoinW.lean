/-
  Tokens that come in: how they lie in memory, and how large they are.
-/
import Derived.Test.YtddgabjhligeeaaJoinO
import Derived.Test.YtddgabjhligeeaaJoinU
import Derived.ChangeArms
namespace Go.Proofs.Ytddgabjhligeeaa.mk
open Go.ChangeShapes Go.WideShapes Go.RowKit Go.Deep Go.Joins

/-- a token as it comes in -/
structure KT where
  kind : Int
  nm : LT
  A : Option Addr
  n : Nat
  c : Nat
  ats : List AT
  close : Bool
  tx : LT
def KT.ch (t : KT) : KP := ⟨t.kind, t.nm.ch, t.ats.map AT.ch, t.tx.ch⟩
def ktRow (t : KT) : List Value := [.int .i64 t.kind, .string t.nm.s, .slice t.nm.A t.nm.n t.nm.c, .slice t.A t.n t.c, .bool t.close, .string t.tx.s, .slice t.tx.A t.tx.n t.tx.c]
def ktCells (ts : List KT) : List Value := ts.flatMap ktRow
/-- what one token names lies in blocks of S -/
structure KT.inS (S : Nat → Prop) (w : World) (t : KT) : Prop where
  nm : t.nm.inS S w
  tx : t.tx.inS S w
  att : LiesS S w t.A (atCells t.ats)
  an : t.ats.length = t.n
  ac : t.A = none → t.c = 0
  am : t.n ≤ 1048576
  atts : ∀ a ∈ t.ats, a.inS S w
theorem KT.inS.keep {S : Nat → Prop} {w w' : World} {t : KT} (h : t.inS S w) (hk : Stays S w w') : t.inS S w' :=
  ⟨h.nm.keep hk, h.tx.keep hk, h.att.keep hk, h.an, h.ac, h.am, fun a ha => (h.atts a ha).keep hk⟩
theorem KT.inS.mono {S S' : Nat → Prop} {w : World} {t : KT} (h : t.inS S w) (hS : ∀ b, S b → b < w.heap.size → S' b) : t.inS S' w :=
  ⟨h.nm.mono hS, h.tx.mono hS, h.att.mono hS, h.an, h.ac, h.am, fun a ha => (h.atts a ha).mono hS⟩
theorem ktCells_length (ts : List KT) : (ktCells ts).length = ts.length * 7 := by
  induction ts with
  | nil => rfl
  | cons a ts ih =>
    show (ktRow a ++ ktCells ts).length = _
    rw [List.length_append, ih, List.length_cons]
    show 7 + _ = _
    omega
theorem ktCells_at (ts : List KT) : ∀ (k : Nat) (t : KT), ts[k]? = some t → ∀ j, j < 7 → (ktCells ts)[k * 7 + j]? = (ktRow t)[j]? := by
  induction ts with
  | nil => intro k t h; simp at h
  | cons b ts ih =>
    intro k t h j hj
    show (ktRow b ++ ktCells ts)[k * 7 + j]? = _
    cases k with
    | zero =>
      simp at h
      subst h
      rw [List.getElem?_append_left (by show 0 * 7 + j < 7; omega), Nat.zero_mul, Nat.zero_add]
    | succ k =>
      rw [List.getElem?_append_right (by show 7 ≤ _; omega), show (k + 1) * 7 + j - (ktRow b).length = k * 7 + j by show _ - 7 = _; omega]
      exact ih k t (by simpa using h) j hj
theorem addr_offK (ad : Addr) (k j : Nat) (hj : 0 < j) : ad.add (k + j) = ⟨(ad.add k).block, (ad.add k).off + j, none⟩ := by
  rw [← addr_add]
  generalize ad.add k = b
  unfold Addr.add
  rw [if_neg (by omega)]
/-- token k of a row: its seven cells, as the walk spells them -/
theorem Lies.kt {w : World} {B : Nat} {A : Option Addr} {ts : List KT} (h : Lies w B A (ktCells ts)) {k : Nat} (hk : k < ts.length) :
    ∃ ad t, A = some ad ∧ ad.block < B ∧ w.cell? (ad.add (k * 7)) = some (.int .i64 t.kind) ∧ w.cell? ⟨(ad.add (k * 7)).block, (ad.add (k * 7)).off + 1, none⟩ = some (.string t.nm.s) ∧ w.cell? ⟨(ad.add (k * 7)).block, (ad.add (k * 7)).off + 2, none⟩ = some (.slice t.nm.A t.nm.n t.nm.c) ∧ w.cell? ⟨(ad.add (k * 7)).block, (ad.add (k * 7)).off + 3, none⟩ = some (.slice t.A t.n t.c) ∧ w.cell? ⟨(ad.add (k * 7)).block, (ad.add (k * 7)).off + 4, none⟩ = some (.bool t.close) ∧ w.cell? ⟨(ad.add (k * 7)).block, (ad.add (k * 7)).off + 5, none⟩ = some (.string t.tx.s) ∧ w.cell? ⟨(ad.add (k * 7)).block, (ad.add (k * 7)).off + 6, none⟩ = some (.slice t.tx.A t.tx.n t.tx.c) ∧ Hid (ts[k]? = some t) := by
  have ht : ts[k]? = some ts[k] := List.getElem?_eq_getElem hk
  generalize ts[k] = t at ht
  have key : ∀ j u, j < 7 → (ktRow t)[j]? = some u → ∃ ad, A = some ad ∧ ad.block < B ∧ w.cell? (ad.add (k * 7 + j)) = some u := fun j u hj hu => h _ _ ((ktCells_at ts k t ht j hj).trans hu)
  obtain ⟨ad, e, hb, h0⟩ := key 0 _ (by omega) rfl
  subst e
  have key2 : ∀ j u, 0 < j → j < 7 → (ktRow t)[j]? = some u → w.cell? ⟨(ad.add (k * 7)).block, (ad.add (k * 7)).off + j, none⟩ = some u := fun j u h0 hj hu => by
    obtain ⟨ad', e, _, hc⟩ := key j u hj hu
    injection e with e
    subst e
    rw [← addr_offK _ _ _ h0]
    exact hc
  exact ⟨ad, t, rfl, hb, h0, key2 1 _ (by omega) (by omega) rfl, key2 2 _ (by omega) (by omega) rfl, key2 3 _ (by omega) (by omega) rfl, key2 4 _ (by omega) (by omega) rfl, key2 5 _ (by omega) (by omega) rfl, key2 6 _ (by omega) (by omega) rfl, ht⟩

section
variable {H : Type} {enc : TypeId × Value → H} {W : World}
theorem cells_token : Try.prog.cellsOf 33 = 7 := by kernel_rfl
theorem cells_bool : Try.prog.cellsOf 4 = 1 := by kernel_rfl
theorem trod_struct5 {t : TypeId} {f0 f1 f2 f3 f4 : Field} {fuel : Nat} {cs : List Value} {x : DataW H × List MemPlace} (ht : Try.prog.underlying t = some (.struct #[f0, f1, f2, f3, f4])) (h : DataW.trod enc Try.prog W 0 (fun _ => true) true fuel t cs = some x) :
    ∃ y0 y1 y2 y3 y4 n, x.1 = .agg [y0.1, y1.1, y2.1, y3.1, y4.1] ∧ DataW.trod enc Try.prog W 0 (fun _ => true) true n f0.type ((cs.drop f0.offset).take (Try.prog.cellsOf f0.type)) = some y0 ∧
      DataW.trod enc Try.prog W 0 (fun _ => true) true n f1.type ((cs.drop f1.offset).take (Try.prog.cellsOf f1.type)) = some y1 ∧ DataW.trod enc Try.prog W 0 (fun _ => true) true n f2.type ((cs.drop f2.offset).take (Try.prog.cellsOf f2.type)) = some y2 ∧
      DataW.trod enc Try.prog W 0 (fun _ => true) true n f3.type ((cs.drop f3.offset).take (Try.prog.cellsOf f3.type)) = some y3 ∧ DataW.trod enc Try.prog W 0 (fun _ => true) true n f4.type ((cs.drop f4.offset).take (Try.prog.cellsOf f4.type)) = some y4 := by
  obtain ⟨xs, n, _, rfl, hl, hlen, hf⟩ := DataW.trod_struct ht h
  match xs, hlen with
  | [y0, y1, y2, y3, y4], _ => exact ⟨y0, y1, y2, y3, y4, n, by simp, by simpa using hf 0 f0 rfl, by simpa using hf 1 f1 rfl, by simpa using hf 2 f2 rfl, by simpa using hf 3 f3 rfl, by simpa using hf 4 f4 rfl⟩

set_option maxRecDepth 100000 in
/-- a token's seven cells -/
theorem trod_tok {n : Nat} {c0 c1 c2 c3 c4 c5 c6 : Value} {y : DataW H × List MemPlace} (h : DataW.trod enc Try.prog W 0 (fun _ => true) true n 33 [c0, c1, c2, c3, c4, c5, c6] = some y) (hbk : Rows.uptoBulk y.1 ≤ 1048576) :
    ∃ t : KT, c0 = .int .i64 t.kind ∧ c1 = .string t.nm.s ∧ c2 = .slice t.nm.A t.nm.n t.nm.c ∧ c3 = .slice t.A t.n t.c ∧ c4 = .bool t.close ∧ c5 = .string t.tx.s ∧ c6 = .slice t.tx.A t.tx.n t.tx.c ∧
      t.inS (fun b => b < W.heap.size) W ∧ t.ch.bk ≤ Rows.uptoBulk y.1 := by
  obtain ⟨y0, y1, y2, y3, y4, n', hD, h0, h1, h2, h3, h4⟩ := trod_struct5 Try.underlying33 h
  rw [hD] at hbk ⊢
  simp only [Rows.uptoBulk, Rows.uptoBulkAll] at hbk ⊢
  simp only [cells_int, cells_bool, cells_str, cells_attrs, List.drop_zero, List.drop_succ_cons, List.take_succ_cons, List.take_zero] at h0 h1 h2 h3 h4
  obtain ⟨kd, e0, _⟩ := DataW.trod_int Try.underlying3 h0
  obtain ⟨cl, e3, _⟩ := DataW.trod_bool Try.underlying4 h3
  simp only [List.cons.injEq, and_true] at e0 e3
  subst e0 e3
  obtain ⟨t1, rfl, rfl, hok1, hs1⟩ := trod_ltS h1 (by omega)
  obtain ⟨A, m, c, ats, rfl, hl, hm, hA, hmc, hall, hb1⟩ := open_atts h2 (by omega)
  obtain ⟨t4, rfl, rfl, hok4, hs4⟩ := trod_ltS h4 (by omega)
  refine ⟨⟨kd, t1, A, m, c, ats, cl, t4⟩, rfl, rfl, rfl, rfl, rfl, rfl, rfl, ⟨hok1.inS (Nat.le_refl _), hok4.inS (Nat.le_refl _), hl.inS (Nat.le_refl _), hm, hA, by show m ≤ _; omega, fun a ha => (hall a ha).inS (Nat.le_refl _)⟩, ?_⟩
  show t1.ch.length + (ats.map AT.ch).length + t4.ch.length + 1 ≤ _
  rw [LT.ch_length, LT.ch_length, List.length_map]
  omega

set_option maxRecDepth 100000 in
/-- a slice of tokens that is an argument -/
theorem open_toks {fuel : Nat} {v : Value} {x : DataW H × List MemPlace} (h : DataW.trod enc Try.prog W 0 (fun _ => true) true fuel 22 [v] = some x) (hbk : Rows.uptoBulk x.1 ≤ 1048576) :
    ∃ (L : Option Addr) (m c : Nat) (ts : List KT), v = .slice L m c ∧ LiesS (fun b => b < W.heap.size) W L (ktCells ts) ∧ ts.length = m ∧ (L = none → c = 0) ∧ m ≤ c ∧ (∀ t ∈ ts, t.inS (fun b => b < W.heap.size) W) ∧ kbL (ts.map KT.ch) + 1 ≤ Rows.uptoBulk x.1 := by
  rcases open_slice Try.underlying22 h with ⟨hv, rfl⟩ | ⟨a, len, cap, m, n, D, Pl, hv, hb, hlc, hcm, hm, rfl, hel⟩
  · simp only [List.cons.injEq, and_true] at hv
    subst hv
    exact ⟨none, 0, 0, [], rfl, LiesS.nil _ _ _, rfl, fun _ => rfl, Nat.le_refl _, (fun t ht => by cases ht), by simp [Rows.uptoBulk, kbL]⟩
  · simp only [List.cons.injEq, and_true] at hv
    subst hv
    simp only [if_true] at hm
    subst hm
    have hall : Rows.uptoBulkAll ((List.range len).map D) + 1 ≤ Rows.uptoBulk (DataW.slice ((List.range len).map D) ((List.range (m - len)).map fun j => D (len + j))) := by
      simp only [Rows.uptoBulk]; omega
    have hpart : ∀ i, i < len → Rows.uptoBulk (D i) ≤ 1048576 := by
      intro i hi
      have hbk' : Rows.uptoBulk (DataW.slice ((List.range len).map D) ((List.range (m - len)).map fun j => D (len + j))) ≤ 1048576 := hbk
      rw [bulk_sum] at hall
      have hmem : Rows.uptoBulk (D i) ∈ ((List.range len).map D).map Rows.uptoBulk := by
        simp only [List.mem_map, List.mem_range]
        exact ⟨D i, ⟨i, hi, rfl⟩, rfl⟩
      have := le_sum hmem
      omega
    obtain ⟨ts, htl, hts⟩ := list_of (fun i (t : KT) => (W.cell? (a.add (i * 7)) = some (.int .i64 t.kind) ∧ W.cell? (a.add (i * 7 + 1)) = some (.string t.nm.s) ∧ W.cell? (a.add (i * 7 + 2)) = some (.slice t.nm.A t.nm.n t.nm.c) ∧
        W.cell? (a.add (i * 7 + 3)) = some (.slice t.A t.n t.c) ∧ W.cell? (a.add (i * 7 + 4)) = some (.bool t.close) ∧ W.cell? (a.add (i * 7 + 5)) = some (.string t.tx.s) ∧ W.cell? (a.add (i * 7 + 6)) = some (.slice t.tx.A t.tx.n t.tx.c)) ∧
        t.inS (fun b => b < W.heap.size) W ∧ t.ch.bk ≤ Rows.uptoBulk (D i)) len (fun i hi => by
      obtain ⟨cs', hc, ht⟩ := hel i (by omega)
      rw [cells_token] at hc
      obtain ⟨_, hcl, hca⟩ := World.cells?_some hc
      match cs', hcl with
      | [c0, c1, c2, c3, c4, c5, c6], _ =>
        obtain ⟨t, rfl, rfl, rfl, rfl, rfl, rfl, rfl, h1, h2⟩ := trod_tok ht (hpart i hi)
        have hl0 := hca 0 (by omega)
        have hl1 := hca 1 (by omega)
        have hl2 := hca 2 (by omega)
        have hl3 := hca 3 (by omega)
        have hl4 := hca 4 (by omega)
        have hl5 := hca 5 (by omega)
        have hl6 := hca 6 (by omega)
        rw [addr_add] at hl0 hl1 hl2 hl3 hl4 hl5 hl6
        exact ⟨t, ⟨by simpa using hl0, by simpa using hl1, by simpa using hl2, by simpa using hl3, by simpa using hl4, by simpa using hl5, by simpa using hl6⟩, h1, h2⟩)
    have hsum : ∀ k, k ≤ len → kbL ((ts.take k).map KT.ch) ≤ Rows.uptoBulkAll ((List.range k).map D) := by
      intro k
      induction k with
      | zero => intro _; simp [kbL]
      | succ k ihk =>
        intro hk
        have h1 := ihk (by omega)
        have hkl : k < ts.length := by omega
        have h2 := (hts k ts[k] (List.getElem?_eq_getElem hkl)).2.2
        rw [take_next (List.getElem?_eq_getElem hkl), List.map_append, List.range_succ, List.map_append, bulk_sum, List.map_append, List.sum_append, ← bulk_sum]
        have h3 : kbL ((ts.take k).map KT.ch ++ [ts[k]].map KT.ch) = kbL ((ts.take k).map KT.ch) + ts[k].ch.bk := by
          unfold kbL
          rw [List.map_append, List.sum_append]
          simp
        rw [h3]
        simp only [List.map_cons, List.map_nil, List.sum_cons, List.sum_nil]
        omega
    refine ⟨some a, len, m, ts, rfl, ?_, htl, by simp, hlc, ?_, ?_⟩
    · intro j u hu
      have hj : j < ts.length * 7 := by
        have := (List.getElem?_eq_some_iff.1 hu).1
        rwa [ktCells_length] at this
      have hk : j / 7 < ts.length := by omega
      obtain ⟨⟨h0, h1, h2, h3, h4, h5, h6⟩, _⟩ := hts (j / 7) (ts[j / 7]) (List.getElem?_eq_getElem hk)
      have hlt : a.block < W.heap.size := by have := World.block_lt_of_cell? W _ h0; simpa [addr_block] using this
      refine ⟨a, rfl, hlt, hlt, ?_⟩
      have hat := fun i hi => ktCells_at ts (j / 7) (ts[j / 7]) (List.getElem?_eq_getElem hk) i hi
      have h7 : j % 7 = 0 ∨ j % 7 = 1 ∨ j % 7 = 2 ∨ j % 7 = 3 ∨ j % 7 = 4 ∨ j % 7 = 5 ∨ j % 7 = 6 := by omega
      have hgo : ∀ r, r < 7 → j % 7 = r → W.cell? (a.add (j / 7 * 7 + r)) = (ktRow (ts[j / 7]))[r]? → W.cell? (a.add j) = some u := by
        intro r hr hm hc
        have e : j = j / 7 * 7 + r := by omega
        rw [e, hat r hr] at hu
        rw [e, hc, hu]
      rcases h7 with hm | hm | hm | hm | hm | hm | hm
      · exact hgo 0 (by omega) hm h0
      · exact hgo 1 (by omega) hm h1
      · exact hgo 2 (by omega) hm h2
      · exact hgo 3 (by omega) hm h3
      · exact hgo 4 (by omega) hm h4
      · exact hgo 5 (by omega) hm h5
      · exact hgo 6 (by omega) hm h6
    · intro t ht
      obtain ⟨i, hi, rfl⟩ := List.getElem_of_mem ht
      exact (hts i _ (List.getElem?_eq_getElem hi)).2.1
    · have h1 := hsum len (Nat.le_refl _)
      rw [List.take_of_length_le (by omega)] at h1
      show _ ≤ Rows.uptoBulk (DataW.slice ((List.range len).map D) ((List.range (m - len)).map fun j => D (len + j)))
      omega
end

end Go.Proofs.Ytddgabjhligeeaa.mk
