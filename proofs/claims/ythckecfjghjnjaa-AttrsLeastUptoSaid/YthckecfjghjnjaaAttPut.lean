/-
  The contract of attrs' Put.
-/
import Derived.Test.YthckecfjghjnjaaAttGet
namespace Go.Proofs.Ythckecfjghjnjaa.mk
open Go.RowKit Go.Maps

theorem selTo_all (L : List PA) (k : Nat) : selTo (fun _ => true) L k = L.take k := by
  induction k with
  | zero => rfl
  | succ k ih =>
    show selTo (fun _ => true) L k ++ (if true = true then (L[k]?).toList else []) = _
    rw [ih, if_pos rfl, List.take_add_one]
theorem sel_all (L : List PA) : sel (fun _ => true) L = L := by unfold sel; rw [selTo_all, List.take_length]
theorem atCells_set (ts : List AT) (k : Nat) (t : AT) (hk : k < ts.length) :
    ((((atCells ts).set (k * 4) (.string t.nm.s)).set (k * 4 + 1) (.slice t.nm.A t.nm.n t.nm.c)).set (k * 4 + 2) (.string t.vl.s)).set (k * 4 + 3) (.slice t.vl.A t.vl.n t.vl.c) = atCells (ts.set k t) := by
  have e : ts = ts.take k ++ ts[k] :: ts.drop (k + 1) := by rw [List.getElem_cons_drop, List.take_append_drop]
  have hl : (atCells (ts.take k)).length = k * 4 := by rw [atCells_length, List.length_take]; congr 1; omega
  generalize ts[k] = x at e
  have e2 : ts.set k t = ts.take k ++ t :: ts.drop (k + 1) := by
    conv => lhs; rw [e]
    rw [List.set_append_right _ _ (by rw [List.length_take]; omega), List.length_take]
    have : k - min k ts.length = 0 := by omega
    rw [this]
    rfl
  rw [e2]
  conv => lhs; rw [e]
  generalize ts.take k = p at *
  generalize ts.drop (k + 1) = q at *
  have h1 : ∀ y : AT, atCells (p ++ y :: q) = atCells p ++ (atRow y ++ atCells q) := fun y => by simp [atCells]
  rw [h1, h1]
  rw [List.set_append_right _ _ (by omega), hl, Nat.sub_self]
  rw [List.set_append_right _ _ (by omega), hl, show k * 4 + 1 - k * 4 = 1 by omega]
  rw [List.set_append_right _ _ (by omega), hl, show k * 4 + 2 - k * 4 = 2 by omega]
  rw [List.set_append_right _ _ (by omega), hl, show k * 4 + 3 - k * 4 = 3 by omega]
  rfl
theorem AllOwn.stored {w : World} {base base' n cap g j : Nat} {xs : List Value} {ts : List AT} (h : AllOwn w base ts) (ho : w.ownsRow base' 27 4 (.slice (some ⟨g, 0, none⟩) n cap) n xs) (u : Value) : AllOwn (w.setCell ⟨g, j, none⟩ u) base ts :=
  fun t ht => (h t ht).grown ho (by decide) (ho.stored j u).2
/-- an attribute in place of another in a row of the call's own -/
theorem put_stored {w : World} {base n cap g k : Nat} {ts : List AT} {t : AT} (ho : w.ownsRow base 27 4 (.slice (some ⟨g, 0, none⟩) n cap) n (atCells ts)) (hA : AllOwn w base ts) (ht : OwnA w base t) (hk : k < ts.length) (hn : ts.length = n) :
    let w' := (((w.setCell ⟨g, k * 4, none⟩ (.string t.nm.s)).setCell ⟨g, k * 4 + 1, none⟩ (.slice t.nm.A t.nm.n t.nm.c)).setCell ⟨g, k * 4 + 2, none⟩ (.string t.vl.s)).setCell ⟨g, k * 4 + 3, none⟩ (.slice t.vl.A t.vl.n t.vl.c)
    w'.ownsRow base 27 4 (.slice (some ⟨g, 0, none⟩) (ts.set k t).length cap) (ts.set k t).length (atCells (ts.set k t)) ∧ AllOwn w' base (ts.set k t) ∧ Below base w w' := by
  intro w'
  have o1 := (ho.stored (k * 4) (.string t.nm.s)).1
  have o2 := (o1.stored (k * 4 + 1) (.slice t.nm.A t.nm.n t.nm.c)).1
  have o3 := (o2.stored (k * 4 + 2) (.string t.vl.s)).1
  have o4 := (o3.stored (k * 4 + 3) (.slice t.vl.A t.vl.n t.vl.c)).1
  have hS : AllOwn w base (ts ++ [t]) := hA.snoc ht
  have hS4 := (((hS.stored (j := k * 4) ho (.string t.nm.s)).stored (j := k * 4 + 1) o1 (.slice t.nm.A t.nm.n t.nm.c)).stored (j := k * 4 + 2) o2 (.string t.vl.s)).stored (j := k * 4 + 3) o3 (.slice t.vl.A t.vl.n t.vl.c)
  have hg : base ≤ g := (ho.lt g rfl).1
  refine ⟨?_, fun x hx => hS4 x ?_, ?_⟩
  · rw [List.length_set, hn, ← atCells_set ts k t hk]
    exact o4
  · rcases List.mem_or_eq_of_mem_set hx with h | h
    · exact List.mem_append_left _ h
    · rw [h]; exact List.mem_append_right _ (by simp)
  · exact ((((Below.refl base w).setCell (p := ⟨g, k * 4, none⟩) hg _).setCell (p := ⟨g, k * 4 + 1, none⟩) hg _).setCell (p := ⟨g, k * 4 + 2, none⟩) hg _).setCell (p := ⟨g, k * 4 + 3, none⟩) hg _

set_option maxHeartbeats 400000 in
theorem putF_any (a : AT) (w : World) :
    Calls Try.prog 21 #[.agg #[.string a.nm.s, .slice a.nm.A a.nm.n a.nm.c, .string a.vl.s, .slice a.vl.A a.vl.n a.vl.c]] w fun e w' => e = .returned (.bool true) ∧ Below w.heap.size w w' := by
  go_enter Try.func21, Try.ntmps21
  go_wp2
  go_ret
  exact ⟨rfl, (Below.refl _ _).alloc (Nat.le_refl _) _⟩

set_option maxHeartbeats 2000000 in
set_option maxRecDepth 100000 in
theorem put_any (A : Option Addr) (n c : Nat) (ts : List AT) (a : AT) (w : World) (hl : Lies w w.heap.size A (atCells ts)) (hok : AllOk w w.heap.size ts) (hn : ts.length = n) (hn2 : n ≤ 4294967294) (ha : a.ok w w.heap.size) :
    Calls Try.prog 10 #[.slice A n c, .agg #[.string a.nm.s, .slice a.nm.A a.nm.n a.nm.c, .string a.vl.s, .slice a.vl.A a.vl.n a.vl.c]] w (TellsA (putA (ts.map AT.ch) a.ch) w) := by
  obtain ⟨i0, hi, hz0, hz1, hz2⟩ := info_parts att_info
  have HLN : Hid ((ts.map AT.ch).length = n) := by show _ = _; rw [List.length_map]; exact hn
  have HN := Lib.hid hn
  have HL := Lib.hid hl
  have HOK := Lib.hid hok
  have HAO := Lib.hid ha
  clear hn hl hok ha
  go_enter Try.func10, Try.ntmps10
  go_wp2_with fail
  generalize hw0 : w.alloc (.cells #[.string a.nm.s, .slice a.nm.A a.nm.n a.nm.c, .string a.vl.s, .slice a.vl.A a.vl.n a.vl.c] 27) = w0
  have y0 : Whole w0 w.heap.size 27 #[.string a.nm.s, .slice a.nm.A a.nm.n a.nm.c, .string a.vl.s, .slice a.vl.A a.vl.n a.vl.c] := by rw [← hw0]; exact Whole.made _ _ _
  have hb0 : Below w.heap.size w w0 := by rw [← hw0]; exact (Below.refl _ _).alloc (Nat.le_refl _) _
  clear hw0
  refine (kept_any 21 #[] (fun _ => False) (fun _ _ => True) (fun _ => true) w0.heap.size A n c ts w0 (HL.out.next hb0 (Nat.le_refl _)) (HOK.out.next hb0 (Nat.le_refl _)) HN.out (by omega) (fun _ _ => rfl) (Nat.le_refl _) (fun _ h => h.elim) (fun _ _ _ _ _ => trivial) trivial ?_).mono ?_
  · intro k t w' _ _ _ _
    refine (putF_any t w').mono ?_
    rintro e w'' ⟨rfl, hb⟩
    exact ⟨rfl, trivial, Moved.of_below hb⟩
  intro e w1 h
  obtain ⟨A1, c1, us, rfl, h2, h3, h4, hb1⟩ := h.tells (Below.refl w0.heap.size w0) (fun _ h => h.elim)
  rw [sel_all] at h4
  clear h
  have hun : us.length = n := by have := congrArg List.length h4; rw [List.length_map, List.length_map] at this; rw [this]; exact HN.out
  rw [hun] at h2 ⊢
  have H2 := Lib.hid h2
  have H3 := Lib.hid h3
  have HUN := Lib.hid hun
  have H4 := Lib.hid h4
  have hbw1 := below_next hb0 (Nat.le_refl _) hb1
  have y1 := y0.below hb1 y0.lt
  have c0 : w1.cell? ⟨w.heap.size, 0, none⟩ = some (.string a.nm.s) := y1.at_ 0
  clear h2 h3 h4 hun
  go_wp2_with fail
  refine (named_any a.nm.s w1).mono ?_
  rintro e w2 ⟨rfl, hc2, hb2⟩
  go_wp2_with fail
  have hLi : Lies w2 w2.heap.size A1 (atCells us) := (Lies.own H2.out).next hb2 (Nat.le_refl _)
  refine (attIndex_any 33 #[.pointer (some ⟨w1.heap.size, 0, none⟩)] a.nm.s.data.toList A1 n c1 us w2 hLi HUN.out (by omega) (fun _ _ => rfl) (fun t w' h => namedF_any t _ a.nm.s w' ((h.cell (World.block_lt_of_cell? w2 _ hc2)).trans hc2))).mono ?_
  rw [H4.out]
  rintro e w3 ⟨rfl, hb3⟩
  have hb13 := below_next hb2 (Nat.le_refl _) hb3
  have hbw3 := below_next hbw1 (Nat.le_refl _) hb13
  have y3 := y1.below hb13 y1.lt
  have e0 : w3.cell? ⟨w.heap.size, 0, none⟩ = some (.string a.nm.s) := y3.at_ 0
  have e1 : w3.cell? ⟨w.heap.size, 1, none⟩ = some (.slice a.nm.A a.nm.n a.nm.c) := y3.at_ 1
  have e2 : w3.cell? ⟨w.heap.size, 2, none⟩ = some (.string a.vl.s) := y3.at_ 2
  have e3 : w3.cell? ⟨w.heap.size, 3, none⟩ = some (.slice a.vl.A a.vl.n a.vl.c) := y3.at_ 3
  clear c0 hLi
  by_cases hp : placeN (ts.map AT.ch) a.nm.s.data.toList < n
  · have HPI : Hid (plI (ts.map AT.ch) a.nm.s.data.toList = (placeN (ts.map AT.ch) a.nm.s.data.toList : Int)) := by show _ = _; unfold plI; rw [if_pos (by rw [HLN.out]; exact hp)]
    have HPA : Hid (putA (ts.map AT.ch) a.ch = (ts.map AT.ch).set (placeN (ts.map AT.ch) a.nm.s.data.toList) a.ch) := by
      show _ = _
      unfold putA
      rw [AT.nmB]
      exact if_pos (by rw [HLN.out]; exact hp)
    rw [HPI.out]
    generalize placeN (ts.map AT.ch) a.nm.s.data.toList = k at *
    have hk0 : (0 : Int) ≤ (k : Int) := Int.natCast_nonneg _
    have hk1 : (k : Int) < (n : Int) := by omega
    go_wp2_with fail
    refine (fixA_any a w3 (HAO.out.next hbw3 (Nat.le_refl _))).mono ?_
    rintro e w4 ⟨t', rfl, hch, ho4, hb4⟩
    have hb14 := below_next hb13 (Nat.le_refl _) hb4
    have hown4 : w4.ownsRow w0.heap.size 27 4 (.slice A1 n c1) n (atCells us) := own_keep H2.out hb14
    have hA4 : AllOwn w4 w0.heap.size us := H3.out.below hb14
    obtain ⟨g, rfl⟩ : ∃ g, A1 = some ⟨g, 0, none⟩ := by
      rcases hown4.2 with ⟨hv, _⟩ | ⟨g, cap, cur, hv, _⟩
      · injection hv with _ hv _; omega
      · injection hv with hv _ _; exact ⟨g, hv⟩
    have r0 : w4.cell? ⟨g, k * 4, none⟩ = (atCells us)[k * 4]? := hown4.cellAt _ (by omega)
    have r1 : w4.cell? ⟨g, k * 4 + 1, none⟩ = (atCells us)[k * 4 + 1]? := hown4.cellAt _ (by omega)
    have r2 : w4.cell? ⟨g, k * 4 + 2, none⟩ = (atCells us)[k * 4 + 2]? := hown4.cellAt _ (by omega)
    have r3 : w4.cell? ⟨g, k * 4 + 3, none⟩ = (atCells us)[k * 4 + 3]? := hown4.cellAt _ (by omega)
    obtain ⟨u, hu⟩ : ∃ u, us[k]? = some u := ⟨_, List.getElem?_eq_getElem (by rw [HUN.out]; exact hp)⟩
    have a0 := atCells_at us k u hu 0 (by omega)
    have a1 := atCells_at us k u hu 1 (by omega)
    have a2 := atCells_at us k u hu 2 (by omega)
    have a3 := atCells_at us k u hu 3 (by omega)
    simp only [Nat.add_zero] at a0
    rw [a0] at r0
    rw [a1] at r1
    rw [a2] at r2
    rw [a3] at r3
    have q0 : w4.cell? ⟨g, k * 4, none⟩ = some (.string u.nm.s) := r0
    have q1 : w4.cell? ⟨g, k * 4 + 1, none⟩ = some (.slice u.nm.A u.nm.n u.nm.c) := r1
    have q2 : w4.cell? ⟨g, k * 4 + 2, none⟩ = some (.string u.vl.s) := r2
    have q3 : w4.cell? ⟨g, k * 4 + 3, none⟩ = some (.slice u.vl.A u.vl.n u.vl.c) := r3
    have f0 := hown4.frozenAt (k * 4)
    have f1 := hown4.frozenAt (k * 4 + 1)
    have f2 := hown4.frozenAt (k * 4 + 2)
    have f3 := hown4.frozenAt (k * 4 + 3)
    have hz04 := hb14.size
    have HPS := Lib.hid (put_stored (k := k) hown4 hA4 (ho4.mono (by have := hb1.size; have := hb13.size; omega)) (by rw [HUN.out]; exact hp) HUN.out)
    have HB4 := Lib.hid (below_next hbw3 (Nat.le_refl _) hb4)
    have hzw := hb0.size
    clear r0 r1 r2 r3 a0 a1 a2 a3 hown4 hA4 ho4 e0 e1 e2 e3
    unfold AT.v
    go_wp2
    go_ret
    obtain ⟨p1, p2, p3⟩ := HPS.out
    refine ⟨some ⟨g, 0, none⟩, c1, us.set k t', ?_, own_mono p1 hzw, p2.mono hzw, ?_, HB4.out.trans (p3.mono hzw)⟩
    · rw [List.length_set, HUN.out]; rfl
    · rw [HPA.out, List.map_set, H4.out, hch]
  · have HPI : Hid (plI (ts.map AT.ch) a.nm.s.data.toList = -1) := by show _ = _; unfold plI; rw [if_neg (by rw [HLN.out]; exact hp)]
    have HPA : Hid (putA (ts.map AT.ch) a.ch = ts.map AT.ch ++ [a.ch]) := by
      show _ = _
      unfold putA
      rw [AT.nmB]
      exact if_neg (by rw [HLN.out]; exact hp)
    rw [HPI.out]
    clear hp
    go_wp2_with fail
    refine (fixA_any a w3 (HAO.out.next hbw3 (Nat.le_refl _))).mono ?_
    rintro e w4 ⟨t', rfl, hch, ho4, hb4⟩
    have hb14 := below_next hb13 (Nat.le_refl _) hb4
    have hown4 : w4.ownsRow w0.heap.size 27 4 (.slice A1 n c1) n (atCells us) := own_keep H2.out hb14
    have hA4 : AllOwn w4 w0.heap.size us := H3.out.below hb14
    have hz04 := hb14.size
    have hz01 := hb1.size
    have hz13 := hb13.size
    have hzw := hb0.size
    have HA4 : Hid (AllOwn (w4.alloc (.cells (atRow t').toArray 27)) w0.heap.size (us ++ [t'])) := (hA4.snoc (ho4.mono (by omega))).below ((Below.refl _ _).alloc (Nat.le_refl _) _)
    have HB4 := Lib.hid (below_next hbw3 (Nat.le_refl _) hb4)
    have HO4 := Lib.hid hown4
    clear hA4 ho4 e0 e1 e2 e3
    unfold AT.v
    go_wp2_with (at_builtin; refine wpList_append_own_at _ rfl _ _ 22 rfl w0.heap.size 27 i0 _ 4 80 Try.underlying22 hi hz0 hz1 hz2 rfl (by decide) (.slice A1 n c1) n _ rfl (hown4.alloc _) ⟨w4.heap.size, 0, none⟩ 1 1 (atRow t') rfl rfl (cells_new w4 _ _) (by simp [Value.oneCell', atRow]) (by simp only [maxLen]; omega) (by omega) (by simp; omega) ?_)
    intro v' w5 hown5 hgrow _ _
    obtain ⟨A5, d5, rfl, _, _, _⟩ := own_form hown5
    have HIN : Hid (TellsA (putA (ts.map AT.ch) a.ch) w (.returned (.slice A5 (n + 1) d5)) w5) := by
      have h1 : (us ++ [t']).length = n + 1 := by rw [List.length_append, HUN.out]; rfl
      refine ⟨A5, d5, us ++ [t'], by rw [h1], ?_, ?_, ?_, ?_⟩
      · rw [h1, atCells_snoc]
        exact own_mono hown5 hzw
      · have hal := HO4.out.alloc (.cells (atRow t').toArray 27)
        exact fun x hx => ((HA4.out x hx).grown hal (by decide) hgrow).mono hzw
      · rw [HPA.out, List.map_append, H4.out, List.map_singleton, hch]
      · have hbb : Below w.heap.size w (w4.alloc (.cells (atRow t').toArray 27)) := HB4.out.alloc (by omega) _
        exact hbb.grown hgrow (by have := hbb.size; omega) (fun k hk => by have := (HO4.out.lt k hk).1; omega)
    clear hgrow hown5 hown4
    go_wp2
    go_ret
    exact HIN.out

end Go.Proofs.Ythckecfjghjnjaa.mk
