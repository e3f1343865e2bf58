/-
  What is repaired: its mathematics, and what Repair's loop keeps.
-/
import Derived.Test.YtnbdldapmllegaaGreatJsW
import Derived.Test.YtnbdldapmllegaaGreatJsB
namespace Go.Proofs.YtnbdldapmllegaaGreat.mk
open Go.RowKit

/-- what is put for what is wrong, with its origin -/
def badCh (o : Int) : List (UInt8 × Int) := [(239, o), (191, o), (189, o)]
def nxC (l : List (UInt8 × Int)) : Nat := (nx (l.map (·.1))).1
def souC (l : List (UInt8 × Int)) : Bool := soughtB (l.map (·.1))
theorem nxC_bd {l : List (UInt8 × Int)} (h : l ≠ []) : 1 ≤ nxC l ∧ nxC l ≤ l.length := by
  have := nx_bd (l := l.map (·.1)) (by simpa using h)
  unfold nxC
  simpa using this
/-- what is repaired -/
def rep (l : List (UInt8 × Int)) : List (UInt8 × Int) :=
  if _h : l = [] then [] else (if souC l then badCh (worC (l.take (nxC l))) else l.take (nxC l)) ++ rep (l.drop (nxC l))
termination_by l.length
decreasing_by (have := nxC_bd _h; have : 0 < l.length := List.length_pos_iff.2 _h; rw [List.length_drop]; omega)
theorem rep_nil : rep [] = [] := by rw [rep]; rfl
theorem rep_bad {l : List (UInt8 × Int)} (h : l ≠ []) (hs : soughtB (l.map (·.1)) = true) : rep l = badCh (worstO ((l.take (nx (l.map (·.1))).1).map (·.2))) ++ rep (l.drop (nx (l.map (·.1))).1) := by
  conv => lhs; rw [rep, dif_neg h, if_pos (show souC l = true from hs)]
  rfl
theorem rep_right {l : List (UInt8 × Int)} (h : l ≠ []) (hs : soughtB (l.map (·.1)) = false) : rep l = l.take (nx (l.map (·.1))).1 ++ rep (l.drop (nx (l.map (·.1))).1) := by
  conv => lhs; rw [rep, dif_neg h, if_neg (by rw [show souC l = false from hs]; decide)]
  rfl
theorem chInd {p : List (UInt8 × Int) → Prop} (nil : p []) (next : ∀ l, l ≠ [] → p (l.drop (nx (l.map (·.1))).1) → p l) (l : List (UInt8 × Int)) : p l := by
  have h : ∀ n, ∀ l : List (UInt8 × Int), l.length ≤ n → p l := by
    intro n
    induction n with
    | zero => intro l hl; have e : l = [] := List.eq_nil_of_length_eq_zero (by omega); subst e; exact nil
    | succ n ih =>
      intro l hl
      by_cases e : l = []
      · subst e; exact nil
      · exact next l e (ih _ (by have := nx_bd (l := l.map (·.1)) (by simpa using e); rw [List.length_drop]; omega))
  exact h l.length l (Nat.le_refl _)
theorem rep_all {l : List (UInt8 × Int)} (h : (fr (l.map (·.1))).2 = 0) : rep l = l := by
  induction l using chInd with
  | nil => exact rep_nil
  | next l hl ih =>
    have hl' : l.map (·.1) ≠ [] := by simpa using hl
    have hb := nx_bd hl'
    cases hs : soughtB (l.map (·.1)) with
    | true => rw [fr_here hl' hs] at h; simp only at h; omega
    | false =>
      rw [fr_next hl' hs] at h
      rw [rep_right hl hs, ih (by rw [List.map_drop]; exact h), List.take_append_drop]
theorem rep_fr {l : List (UInt8 × Int)} {a z : Nat} (h : fr (l.map (·.1)) = (a, z)) (hz : 0 < z) : rep l = l.take a ++ (badCh (worstO (((l.drop a).take z).map (·.2))) ++ rep (l.drop (a + z))) := by
  induction l using chInd generalizing a with
  | nil => rw [List.map_nil, fr_nil] at h; injection h with h1 h2; omega
  | next l hl ih =>
    have hl' : l.map (·.1) ≠ [] := by simpa using hl
    cases hs : soughtB (l.map (·.1)) with
    | true =>
      rw [fr_here hl' hs] at h
      injection h with h1 h2
      subst h1
      subst h2
      rw [rep_bad hl hs]
      simp
    | false =>
      rw [fr_next hl' hs] at h
      injection h with h1 h2
      rw [rep_right hl hs]
      generalize (nx (l.map (·.1))).1 = n at *
      have h3 := ih (a := (fr (((l.drop n).map (·.1)))).1) (by rw [← List.map_drop] at h2; rw [← h2])
      rw [h3, ← h1, ← List.map_drop]
      generalize (fr (((l.drop n).map (·.1)))).1 = k
      rw [List.take_add, List.drop_drop, List.drop_drop, List.append_assoc, Nat.add_assoc]

theorem rep_length (l : List (UInt8 × Int)) : (rep l).length ≤ 3 * l.length := by
  induction l using chInd with
  | nil => rw [rep_nil]; simp
  | next l hl ih =>
    have hb := nxC_bd hl
    unfold nxC at hb
    rw [List.length_drop] at ih
    cases hs : soughtB (l.map (·.1)) with
    | true => rw [rep_bad hl hs, List.length_append]; simp only [badCh, List.length_cons, List.length_nil]; omega
    | false => rw [rep_right hl hs, List.length_append, List.length_take]; omega
theorem InR.bad {o : Int} (h : 0 ≤ o ∧ o ≤ 65536) : InR (badCh o) := by
  intro x hx
  simp only [badCh, List.map_cons, List.map_nil, List.mem_cons, List.not_mem_nil, or_false] at hx
  rcases hx with rfl | rfl | rfl <;> exact h
theorem InR.rep {l : List (UInt8 × Int)} (h : InR l) : InR (mk.rep l) := by
  induction l using chInd with
  | nil => rw [rep_nil]; exact h
  | next l hl ih =>
    cases hs : soughtB (l.map (·.1)) with
    | true => rw [rep_bad hl hs]; exact (InR.bad (worstO_in (h.take _))).append (ih (h.drop _))
    | false => rw [rep_right hl hs]; exact (h.take _).append (ih (h.drop _))
theorem badCh_fst (o : Int) : (badCh o).map (·.1) = badB := rfl
theorem pre_expand {n : Nat} {rs : List (Int × Int)} (hg : Good rs) (h : (expand rs).length ≤ n) : pre n rs = expand rs := by
  induction rs using snocInd with
  | nil => rfl
  | append_singleton rs r ih =>
    have hr := hg r (by simp)
    rw [expand_append, List.length_append] at h
    have h1 : (expand [r]).length = r.1.toNat := by simp [expand]
    rw [pre_snoc, ih (fun x hx => hg x (by simp [hx])) (by omega), expand_append, show min r.1.toNat (n - (expand rs).length) = r.1.toNat by omega, nearO_in hr.2.1 hr.2.2]
    simp [expand]
theorem origins_expand {n : Nat} {rs : List (Int × Int)} (hg : Good rs) (h : (expand rs).length = n) : origins n rs = expand rs := by
  unfold origins
  rw [pre_expand hg (by omega), h]
  simp

/-! what the loop keeps -/
theorem builder_moved {T B b bv g : Nat} {bs : List Value} {w w' : World} {x y : Array Value} (h : Lib.IsBuilderF T 5 B b bs w) (hm : Moved (Two bv g) w w') (hv : Whole w bv 26 x) (hg : Whole w g 79 y) (hT : T ≠ 79) (hT2 : T ≠ 26) : Lib.IsBuilderF T 5 B b bs w' := by
  have hk : ∀ (k : Nat) (c : Array Value) (t : TypeId) (fz : Nat × Nat), w.heap[k]? = some (.cells c t fz) → t ≠ 79 → t ≠ 26 → w'.heap[k]? = some (.cells c t fz) := by
    intro k c t fz hc h1 h2
    rw [hm.block k (Array.getElem?_eq_some_iff.1 hc).1 ?_]
    · exact hc
    · rintro (rfl | rfl)
      · unfold Whole at hv; rw [hc] at hv; injection hv with hv; injection hv with _ hv; exact h2 hv
      · unfold Whole at hg; rw [hc] at hg; injection hg with hg; injection hg with _ hg; exact h1 hg
  have key : ∀ p, Lib.BuilderAtF T 5 B b p bs w → Lib.BuilderAtF T 5 B b p bs w' := by
    rintro p ⟨hB, v, hbk, hown, hne⟩
    refine ⟨hB, v, hk _ _ _ _ hbk hT hT2, ⟨hown.1, ?_⟩, hne⟩
    rcases hown.2 with h0 | ⟨g, cap, cur, fz, hv, hg, hgg, r⟩
    · exact .inl h0
    · exact .inr ⟨g, cap, cur, fz, hv, hg, hk _ _ _ _ hgg (by decide) (by decide), r⟩
  rcases h with h | h
  · exact .inl (key _ h)
  · exact .inr (key _ h)

theorem RunsAt.keep {w w' : World} {bv g : Nat} {qs : List (Int × Int)} (h : RunsAt w bv g qs) (hk : ∀ k, k = bv ∨ k = g → ∀ c t, (t = 26 ∨ t = 79) → Whole w k t c → Whole w' k t c) : RunsAt w' bv g qs := by
  obtain ⟨A, n, c, hV, hn, hc, hx⟩ := h
  refine ⟨A, n, c, hk bv (.inl rfl) _ _ (.inl rfl) hV, hn, hc, fun hp => ?_⟩
  obtain ⟨off, cs, hA, hW, hcs⟩ := hx hp
  exact ⟨off, cs, hA, hk g (.inr rfl) _ _ (.inr rfl) hW, hcs⟩

/-- the loop's state: the builder's bytes, the origins that are put, the origins that are left -/
def RepSt (N bv g : Nat) (w0 : World) (bs : List UInt8) (os1 os2 : List Int) (v : Value) (wr : World) : Prop :=
  ∃ rs qs, wr.ownsRow (bv + 1) 79 2 v rs.length (runCells rs) ∧ Good rs ∧ expand rs = os1 ∧ RunsAt wr bv g qs ∧ Good qs ∧ expand qs = os2 ∧
    Lib.IsBuilderF 68 5 (N + 2) (N + 2) (Lib.byteCells bs) wr ∧ Below (N + 2) w0 wr ∧ (g ≠ N + 2 ∧ N + 2 < bv ∧ (os2 ≠ [] → N + 2 < g)) ∧ g < bv ∧ bv < wr.heap.size

/-- nothing that was there changes -/
theorem RepSt.below {N bv g : Nat} {w0 : World} {bs : List UInt8} {os1 os2 : List Int} {v : Value} {w w' : World} (h : RepSt N bv g w0 bs os1 os2 v w) (hb : Below w.heap.size w w') : RepSt N bv g w0 bs os1 os2 v w' := by
  obtain ⟨rs, qs, h1, h2, h3, h4, h5, h6, h7, h8, h9, h10, h11⟩ := h
  have := hb.size
  exact ⟨rs, qs, own_keep h1 hb, h2, h3, h4.keep (fun k _ c t _ hw => hw.below hb hw.lt), h5, h6, builder_below h7 hb (by decide), h8.trans (hb.mono (by omega)), h9, h10, by omega⟩
theorem RepSt.alloc {N bv g : Nat} {w0 : World} {bs : List UInt8} {os1 os2 : List Int} {v : Value} {w : World} (h : RepSt N bv g w0 bs os1 os2 v w) (o : Obj) : RepSt N bv g w0 bs os1 os2 v (w.alloc o) := h.below ((Below.refl _ _).alloc (Nat.le_refl _) _)
/-- a builder is written -/
theorem RepSt.write {N bv g : Nat} {w0 : World} {bs : List UInt8} {os1 os2 : List Int} {v : Value} {w w' : World} {s : ByteArray} (h : RepSt N bv g w0 bs os1 os2 v w)
    (hbu : Lib.BuilderAtF 68 5 (N + 2) (N + 2) (.pointer (some ⟨N + 2, 0, none⟩)) (Lib.byteCells bs ++ Lib.strCells s) w') (hb : Below (N + 2) w w') (ho : Lib.OthersKept 5 (some (N + 2)) w w') : RepSt N bv g w0 (bs ++ s.data.toList) os1 os2 v w' := by
  obtain ⟨rs, qs, h1, h2, h3, h4, h5, h6, h7, h8, h9, h10, h11⟩ := h
  have := hb.size
  refine ⟨rs, qs, own_others h1 ho (by omega), h2, h3, h4.keep (fun k hk c t ht hw => ?_), h5, h6, ?_, h8.trans hb, h9, h10, by omega⟩
  · refine ho _ _ hw ?_ ?_
    · rcases hk with rfl | rfl <;> (intro e; injection e with e; omega)
    · intro c fz e; injection e with _ e _; rcases ht with rfl | rfl <;> exact absurd e (by decide)
  · rw [byteCells_append]; exact .inr hbu
/-- what was taken, and what is left -/
theorem RepSt.take {N bv g : Nat} {w0 : World} {bs : List UInt8} {os1 os2 : List Int} {v : Value} {w w' : World} {qs0 : List (Int × Int)} {m : Nat} {rs : List (Int × Int)} {u : Value}
    (h1 : w.ownsRow (bv + 1) 79 2 v rs.length (runCells rs)) (h2 : Good rs) (h3 : expand rs = os1) (h4 : RunsAt w bv g qs0) (h6 : expand qs0 = os2) (h7 : Lib.IsBuilderF 68 5 (N + 2) (N + 2) (Lib.byteCells bs) w) (h8 : Below (N + 2) w0 w) (h9 : g ≠ N + 2 ∧ N + 2 < bv ∧ (os2 ≠ [] → N + 2 < g)) (h10 : g < bv) (h11 : bv < w.heap.size)
    (hos : os2 ≠ []) (ht : UtfTakes qs0 m bv g w (.returned u) w') : RepSt N bv g w0 bs os1 (os2.drop m) v w' ∧ ∃ ts, w'.ownsRow w.heap.size 79 2 u ts.length (runCells ts) ∧ Good ts ∧ expand ts = os2.take m ∧ (expand ts).length = m := by
  obtain ⟨u', ts, qs, e, t1, t2, t3, t4, t5, t6, t7⟩ := ht
  injection e with e
  subst e
  have hz := t7.size
  have e1 : expand ts = os2.take m := by rw [← h6, ← t5, ← t6]; simp
  have e2 : expand qs = os2.drop m := by rw [← h6, ← t5, ← t6]; simp
  refine ⟨⟨rs, qs, t7.own h1 ?_, h2, h3, t2, t4, e2, ?_, h8.trans (t7.below (by omega) ?_), ⟨h9.1, h9.2.1, fun _ => h9.2.2 hos⟩, h10, by omega⟩, ts, t1, t3, e1, t6⟩
  · intro k hk
    have := (h1.lt k hk).1
    rintro (rfl | rfl) <;> omega
  · obtain ⟨A, n, c, hV, hn, hc, hx⟩ := h4
    obtain ⟨off, cs, hA, hW, hcs⟩ := hx (by
      rcases Nat.eq_zero_or_pos n with h0 | h0
      · exfalso
        have : qs0 = [] := List.eq_nil_of_length_eq_zero (by omega)
        subst this
        exact hos h6.symm
      · exact h0)
    exact builder_moved h7 t7 hV hW (by decide) (by decide)
  · have := h9.2.2 hos
    rintro k hk (rfl | rfl) <;> omega
/-- runs are put behind -/
theorem RepSt.grow {N bv g : Nat} {w0 : World} {bs : List UInt8} {os2 : List Int} {v v' : Value} {w w' : World} {rs ts qs : List (Int × Int)}
    (h1 : w.ownsRow (bv + 1) 79 2 v rs.length (runCells rs)) (h2 : Good rs) (h4 : RunsAt w bv g qs) (h5 : Good qs) (h6 : expand qs = os2) (h7 : Lib.IsBuilderF 68 5 (N + 2) (N + 2) (Lib.byteCells bs) w) (h8 : Below (N + 2) w0 w) (h9 : g ≠ N + 2 ∧ N + 2 < bv ∧ (os2 ≠ [] → N + 2 < g)) (h10 : g < bv) (h11 : bv < w.heap.size)
    (hts : Good ts) (hown : w'.ownsRow (bv + 1) 79 2 v' (rs.length + ts.length) (runCells rs ++ runCells ts)) (hg : w.grownBy w' v.ownBlock) : RepSt N bv g w0 bs (expand rs ++ expand ts) os2 v' w' := by
  have hz := hg.size
  refine ⟨rs ++ ts, qs, by rw [List.length_append, runCells_append]; exact hown, h2.append hts, expand_append _ _, h4.keep (fun k hk c t _ hw => hw.grown hg ?_), h5, h6, builder_grown h7 h1 hg (by decide), h8.grown hg (by omega) (fun x hx => by have := (h1.lt x hx).1; omega), h9, h10, by omega⟩
  intro e
  have := (h1.lt k e.symm).1
  rcases hk with rfl | rfl <;> omega

theorem builder_kinds {T B b : Nat} {bs : List Value} {w w' : World} (h : Lib.IsBuilderF T 5 B b bs w) (hk : ∀ (k : Nat) (c : Array Value) (t : TypeId) (fz : Nat × Nat), w.heap[k]? = some (.cells c t fz) → t = T ∨ t = 5 → w'.heap[k]? = some (.cells c t fz)) : Lib.IsBuilderF T 5 B b bs w' := by
  have key : ∀ p, Lib.BuilderAtF T 5 B b p bs w → Lib.BuilderAtF T 5 B b p bs w' := by
    rintro p ⟨hB, v, hbk, hown, hne⟩
    refine ⟨hB, v, hk _ _ _ _ hbk (.inl rfl), ⟨hown.1, ?_⟩, hne⟩
    rcases hown.2 with h0 | ⟨g, cap, cur, fz, hv, hg, hgg, r⟩
    · exact .inl h0
    · exact .inr ⟨g, cap, cur, fz, hv, hg, hk _ _ _ _ hgg (.inr rfl), r⟩
  rcases h with h | h
  · exact .inl (key _ h)
  · exact .inr (key _ h)
theorem kind_ne {w : World} {a b : Nat} {t u : TypeId} {c : Array Value} {fz : Nat × Nat} {d : Array Value} (ha : w.heap[a]? = some (.cells c t fz)) (hb : Whole w b u d) (h : t ≠ u) : a ≠ b := by
  rintro rfl
  unfold Whole at hb
  rw [ha] at hb
  injection hb with hb
  injection hb with _ hb
  exact h hb
/-- a cell of a labelled text is written -/
theorem RepSt.put {N bv g q : Nat} {w0 : World} {bs : List UInt8} {os1 os2 : List Int} {v : Value} {w : World} {cs : Array Value} (h : RepSt N bv g w0 bs os1 os2 v w) (hq : Whole w q 28 cs) (hN : N + 2 ≤ q) (i : Nat) (u : Value) : RepSt N bv g w0 bs os1 os2 v (w.setCell ⟨q, i, none⟩ u) := by
  obtain ⟨rs, qs, h1, h2, h3, h4, h5, h6, h7, h8, h9, h10, h11⟩ := h
  refine ⟨rs, qs, own_far h1 _ (fun e => ?_) _, h2, h3, h4.keep (fun k _ c t ht hw => hw.far _ ?_ _), h5, h6, builder_kinds h7 (fun k c t fz hc ht => ?_), h8.setCell hN _, h9, h10, by rw [show (w.setCell ⟨q, i, none⟩ u).heap.size = w.heap.size by simp [World.setCell]]; exact h11⟩
  · obtain ⟨cur, hc⟩ := own_kind h1 e
    exact kind_ne hc hq (by decide) rfl
  · exact kind_ne hw hq (by rcases ht with rfl | rfl <;> decide)
  · rw [Below.heap_setCell _ _ _ _ (kind_ne hc hq (by rcases ht with rfl | rfl <;> decide))]; exact hc

end Go.Proofs.YtnbdldapmllegaaGreat.mk
