/-
  Contracts of attrs' Get, Drop and Once.
-/
import Derived.Test.YthckecfjghjnjaaAttSame
import Derived.Laws.EntriesVeiled
namespace Go.Proofs.Ythckecfjghjnjaa.mk
open Go.RowKit Go.Maps

/-- what Get tells: the value of the first, and whether there is one -/
def GetPost (q : Option PA) (w : World) (e : Ending) (w' : World) : Prop :=
  ∃ t : LT, e = .returned (.tuple #[.agg #[.string t.s, .slice t.A t.n t.c], .bool q.isSome]) ∧ t.ok w' w'.heap.size ∧ t.ch = (match q with | some p => p.2 | none => []) ∧ Below w.heap.size w w'

def noLT : LT := ⟨⟨#[]⟩, none, 0, 0, []⟩
theorem noLT_ok (w : World) (B : Nat) : noLT.ok w B := ⟨Lies.empty _ _ _, rfl, by show (0 : Nat) ≤ _; omega, by show (0 : Nat) ≤ _; omega⟩
theorem noLT_ch : noLT.ch = [] := rfl

set_option maxHeartbeats 1000000 in
set_option maxRecDepth 100000 in
theorem get_any (A : Option Addr) (n c : Nat) (ts : List AT) (s : ByteArray) (w : World) (hl : Lies w w.heap.size A (atCells ts)) (hok : AllOk w w.heap.size ts) (hn : ts.length = n) (hn2 : n ≤ 4294967295) :
    Calls Try.prog 8 #[.slice A n c, .string s] w (GetPost (getA (ts.map AT.ch) s.data.toList) w) := by
  have HLN : Hid ((ts.map AT.ch).length = n) := by show _ = _; rw [List.length_map]; exact hn
  have HN := Lib.hid hn
  have HL := Lib.hid hl
  have HOK := Lib.hid hok
  clear hn hl hok
  go_enter Try.func8, Try.ntmps8
  go_wp2_with fail
  generalize hw0 : w.alloc (.cells #[.string ⟨#[]⟩, .slice none 0 0] 25) = w0
  have y0 : Whole w0 w.heap.size 25 #[.string ⟨#[]⟩, .slice none 0 0] := by rw [← hw0]; exact Whole.made _ _ _
  have hb0 : Below w.heap.size w w0 := by rw [← hw0]; exact (Below.refl _ _).alloc (Nat.le_refl _) _
  clear hw0
  refine (named_any s w0).mono ?_
  rintro e w1 ⟨rfl, hc1, hb1⟩
  have hbw1 := below_next hb0 (Nat.le_refl _) hb1
  go_wp2_with fail
  refine (attIndex_any 33 #[.pointer (some ⟨w0.heap.size, 0, none⟩)] s.data.toList A n c ts w1 (HL.out.next hbw1 (Nat.le_refl _)) HN.out (by omega) (fun _ _ => rfl) (fun t w' h => namedF_any t _ s w' ((h.cell (World.block_lt_of_cell? w1 _ hc1)).trans hc1))).mono ?_
  rintro e w2 ⟨rfl, hb2⟩
  have hbw2 := below_next hbw1 (Nat.le_refl _) hb2
  have y2 := (y0.below hb1 y0.lt).below hb2 (y0.below hb1 y0.lt).lt
  have f0 := y2.free 0
  have f1 := y2.free 1
  have d0 : w2.cell? ⟨w.heap.size, 0, none⟩ = some (.string ⟨#[]⟩) := y2.at_ 0
  have d1 : w2.cell? ⟨w.heap.size, 1, none⟩ = some (.slice none 0 0) := y2.at_ 1
  by_cases hp : placeN (ts.map AT.ch) s.data.toList < n
  · have HPI : Hid (plI (ts.map AT.ch) s.data.toList = (placeN (ts.map AT.ch) s.data.toList : Int)) := by show _ = _; unfold plI; rw [if_pos (by rw [HLN.out]; exact hp)]
    rw [HPI.out]
    have HGA : Hid (getA (ts.map AT.ch) s.data.toList = (ts.map AT.ch)[placeN (ts.map AT.ch) s.data.toList]?) := rfl
    generalize placeN (ts.map AT.ch) s.data.toList = k at *
    obtain ⟨ad, y, rfl, hbA, e0, e1, e2, e3, HR⟩ := (HL.out.next hbw2 (Nat.le_refl _)).att (k := k) (by rw [HN.out]; exact hp)
    have hk0 : (0 : Int) ≤ (k : Int) := Int.natCast_nonneg _
    have hk1 : (k : Int) < (n : Int) := by omega
    have HYO := Lib.hid ((HOK.out.next hbw2 (Nat.le_refl _)).get HR.out)
    go_wp2_with fail
    refine (fix_any y.vl.s y.vl.A y.vl.n y.vl.c y.vl.rs w2 HYO.out.2.1 HYO.out.2.2.1 HYO.out.2.2.2.2 HYO.out.2.2.2.1).mono ?_
    rintro e w3 ⟨v3, rfl, h3, hb3⟩
    obtain ⟨t, rfl, hts, hch, ho⟩ := own_told HYO.out.2.2.2.2 h3
    have hbw3 := below_next hbw2 (Nat.le_refl _) hb3
    have y3 := y2.below hb3 y2.lt
    have g0 := y3.free 0
    have g1 := y3.free 1
    have k0 : w3.cell? ⟨w.heap.size, 0, none⟩ = some (.string ⟨#[]⟩) := y3.at_ 0
    have k1 : w3.cell? ⟨w.heap.size, 1, none⟩ = some (.slice none 0 0) := y3.at_ 1
    clear e0 e1 e2 e3 d0 d1 f0 f1
    go_wp2
    refine bodyPost_ret (v := .tuple #[.agg #[.string y.vl.s, .slice t.A t.n t.c], .bool true]) ?_ rfl ?_
    · simp [results, Try.results8, go_sem, k0, k1]
    · have hlt := y2.lt
      refine ⟨t, ?_, ?_, ?_, (hbw3.setCell (p := ⟨w.heap.size, 0, none⟩) (Nat.le_refl _) _).setCell (p := ⟨w.heap.size, 1, none⟩) (Nat.le_refl _) _⟩
      · rw [HGA.out, chs_at HR.out, hts]; rfl
      · exact ((ho.far hlt _).far hlt _).ok
      · rw [HGA.out, chs_at HR.out]; exact hch
  · have HPI : Hid (plI (ts.map AT.ch) s.data.toList = -1) := by show _ = _; unfold plI; rw [if_neg (by rw [HLN.out]; exact hp)]
    have HGA : Hid (getA (ts.map AT.ch) s.data.toList = none) := by show _ = _; unfold getA; exact List.getElem?_eq_none (by rw [HLN.out]; omega)
    rw [HPI.out]
    clear hp
    go_wp2
    refine bodyPost_ret (v := .tuple #[.agg #[.string ⟨#[]⟩, .slice none 0 0], .bool false]) ?_ rfl ?_
    · simp [results, Try.results8, go_sem, d0, d1]
    · exact ⟨noLT, by rw [HGA.out]; rfl, noLT_ok _ _, by rw [HGA.out]; rfl, (hbw2.setCell (p := ⟨w.heap.size, 0, none⟩) (Nat.le_refl _) _).setCell (p := ⟨w.heap.size, 1, none⟩) (Nat.le_refl _) _⟩

theorem KeptPost.tells {S : Nat → Prop} {I : World → Prop} {qs : List PA} {w w0 w' : World} {e : Ending} (h : KeptPost S I qs w0 e w') (hb : Below w.heap.size w w0) (hS : ∀ g, S g → w.heap.size ≤ g) : TellsA qs w e w' := by
  obtain ⟨A, c, ts, h1, h2, h3, h4, h5, _⟩ := h
  exact ⟨A, c, ts, h1, own_mono h2 hb.size, h3.mono hb.size, h4, hb.trans (h5.below hb.size (fun k hk hs => by have := hS k hs; omega))⟩

set_option maxHeartbeats 400000 in
theorem dropF_any (a : AT) (gd g : Nat) (s : ByteArray) (w : World) (h1 : w.cell? ⟨gd, 0, none⟩ = some (.func (.func 33) #[] #[.pointer (some ⟨g, 0, none⟩)])) (h2 : w.cell? ⟨g, 0, none⟩ = some (.string s)) :
    Calls Try.prog 23 #[.agg #[.string a.nm.s, .slice a.nm.A a.nm.n a.nm.c, .string a.vl.s, .slice a.vl.A a.vl.n a.vl.c], .pointer (some ⟨gd, 0, none⟩)] w fun e w' => e = .returned (.bool (!(nmB a.ch == s.data.toList))) ∧ Below w.heap.size w w' := by
  have hg1 := World.block_lt_of_cell? w _ h1
  have hg2 := World.block_lt_of_cell? w _ h2
  go_enter Try.func23, Try.ntmps23
  generalize hw0 : w.alloc (.cells #[.string a.nm.s, .slice a.nm.A a.nm.n a.nm.c, .string a.vl.s, .slice a.vl.A a.vl.n a.vl.c] 27) = w0
  have y0 : Whole w0 w.heap.size 27 #[.string a.nm.s, .slice a.nm.A a.nm.n a.nm.c, .string a.vl.s, .slice a.vl.A a.vl.n a.vl.c] := by rw [← hw0]; exact Whole.made _ _ _
  have hb0 : Below w.heap.size w w0 := by rw [← hw0]; exact (Below.refl _ _).alloc (Nat.le_refl _) _
  have c0 : w0.cell? ⟨w.heap.size, 0, none⟩ = some (.string a.nm.s) := y0.at_ 0
  have c1 : w0.cell? ⟨w.heap.size, 1, none⟩ = some (.slice a.nm.A a.nm.n a.nm.c) := y0.at_ 1
  have c2 : w0.cell? ⟨w.heap.size, 2, none⟩ = some (.string a.vl.s) := y0.at_ 2
  have c3 : w0.cell? ⟨w.heap.size, 3, none⟩ = some (.slice a.vl.A a.vl.n a.vl.c) := y0.at_ 3
  have k1 := (hb0.cell hg1).trans h1
  have k2 := (hb0.cell hg2).trans h2
  go_wp2_with fail
  refine (namedF_any a g s w0 k2).mono ?_
  rintro e w1 ⟨rfl, hb1⟩
  go_wp2
  go_ret
  exact ⟨rfl, below_next hb0 (Nat.le_refl _) hb1⟩

set_option maxHeartbeats 1000000 in
set_option maxRecDepth 100000 in
theorem drop_any (A : Option Addr) (n c : Nat) (ts : List AT) (s : ByteArray) (w : World) (hl : Lies w w.heap.size A (atCells ts)) (hok : AllOk w w.heap.size ts) (hn : ts.length = n) (hn2 : n ≤ 4294967295) :
    Calls Try.prog 11 #[.slice A n c, .string s] w (TellsA (dropA (ts.map AT.ch) s.data.toList) w) := by
  have HN := Lib.hid hn
  have HL := Lib.hid hl
  have HOK := Lib.hid hok
  clear hn hl hok
  go_enter Try.func11, Try.ntmps11
  go_wp2_with fail
  refine (named_any s w).mono ?_
  rintro e w1 ⟨rfl, hc1, hb1⟩
  have hg1 := World.block_lt_of_cell? w1 _ hc1
  go_wp2_with fail
  generalize hw2 : w1.alloc (.cells #[.func (.func 33) #[] #[.pointer (some ⟨w.heap.size, 0, none⟩)]] 43) = w2
  have y2 : Whole w2 w1.heap.size 43 #[.func (.func 33) #[] #[.pointer (some ⟨w.heap.size, 0, none⟩)]] := by rw [← hw2]; exact Whole.made _ _ _
  have hb2 : Below w1.heap.size w1 w2 := by rw [← hw2]; exact (Below.refl _ _).alloc (Nat.le_refl _) _
  clear hw2
  have c2 := (hb2.cell hg1).trans hc1
  have hbw := below_next hb1 (Nat.le_refl _) hb2
  refine (kept_any 23 #[.pointer (some ⟨w1.heap.size, 0, none⟩)] (fun _ => False) (fun _ w' => w'.cell? ⟨w1.heap.size, 0, none⟩ = some (.func (.func 33) #[] #[.pointer (some ⟨w.heap.size, 0, none⟩)]) ∧ w'.cell? ⟨w.heap.size, 0, none⟩ = some (.string s) ∧ w2.heap.size ≤ w'.heap.size) (dropP (ts.map AT.ch) s.data.toList) w2.heap.size A n c ts w2 (HL.out.next hbw (Nat.le_refl _)) (HOK.out.next hbw (Nat.le_refl _)) HN.out (by omega) (fun _ _ => rfl) (Nat.le_refl _) (fun _ h => h.elim) (fun _ w' w'' h hb => ⟨(hb.cell y2.lt).trans h.1, (hb.cell (Nat.lt_of_lt_of_le hg1 hb2.size)).trans h.2.1, Nat.le_trans h.2.2 hb.size⟩) ⟨y2.at_ 0, c2, Nat.le_refl _⟩ ?_).mono ?_
  · intro k t w' ht hI _ hz
    refine (dropF_any t w1.heap.size w.heap.size s w' hI.1 hI.2.1).mono ?_
    rintro e w'' ⟨rfl, hb⟩
    refine ⟨?_, ⟨(hb.cell (World.block_lt_of_cell? w' _ hI.1)).trans hI.1, (hb.cell (World.block_lt_of_cell? w' _ hI.2.1)).trans hI.2.1, Nat.le_trans hz hb.size⟩, Moved.of_below hb⟩
    unfold dropP
    rw [isI_at (chs_at ht)]
  · intro e w3 h
    obtain ⟨A3, c3, us, rfl, h2, h3, h4, h5⟩ := h.tells hbw (fun _ h => h.elim)
    have H2 := Lib.hid h2
    have H3 := Lib.hid h3
    clear h2 h3 h
    go_wp2
    go_ret
    exact ⟨A3, c3, us, rfl, H2.out, H3.out, h4, h5⟩

set_option maxHeartbeats 1000000 in
set_option maxRecDepth 100000 in
theorem once_any (A : Option Addr) (n c : Nat) (ts : List AT) (w : World) (hl : Lies w w.heap.size A (atCells ts)) (hok : AllOk w w.heap.size ts) (hn : ts.length = n) (hn2 : n ≤ 4294967295) :
    Calls Try.prog 12 #[.slice A n c] w (TellsA (onceA (ts.map AT.ch)) w) := by
  have HN := Lib.hid hn
  have HL := Lib.hid hl
  have HOK := Lib.hid hok
  clear hn hl hok
  go_enter Try.func12, Try.ntmps12
  go_wp2_with fail
  refine (fresh_any w).mono ?_
  rintro e w1 ⟨rfl, y1, hM1, hb1⟩
  have hz1 := y1.lt
  have hne := map_ne_cells hM1 y1
  go_wp2_with fail
  refine (kept_any 35 #[.pointer (some ⟨w.heap.size + 1, 0, none⟩)] (· = w.heap.size) (fun k w' => (w'.cell? ⟨w.heap.size + 1, 0, none⟩ = some (.map (some w.heap.size)) ∧ w1.heap.size ≤ w'.heap.size) ∧ MapF w' w.heap.size k (cntN (ts.map AT.ch) k)) (onceP (ts.map AT.ch)) w.heap.size A n c ts w1 (HL.out.below hb1) (HOK.out.keep (fun _ hp => hb1.cell hp)) HN.out (by omega) (fun _ _ => rfl) (by omega) (fun g h => by omega) (fun _ w' w'' h hb => ⟨⟨(hb.cell hz1).trans h.1.1, Nat.le_trans h.1.2 hb.size⟩, h.2.same (hb.block _ (by omega))⟩) ⟨⟨y1.at_ 0, Nat.le_refl _⟩, hM1⟩ ?_).mono ?_
  · intro k t w' ht hI hto hz
    have hkn : k < n := by rw [← HN.out]; exact (List.getElem?_eq_some_iff.1 ht).1
    have hcl := cntN_le (ts.map AT.ch) k t.nm.bs
    refine (freshF_any t (w.heap.size + 1) w.heap.size k (cntN (ts.map AT.ch) k) w' hI.1.1 (by omega) hI.2 ⟨hcl.1, by omega⟩ (by omega) hto.1.2.2.2).mono ?_
    rintro e w'' ⟨rfl, hM, hmv⟩
    have hct := cntN_once (chs_at ht)
    have hcx := cntN_next (chs_at ht)
    rw [AT.nmB] at hct hcx
    refine ⟨by rw [hct], ⟨⟨(hmv.cell (World.block_lt_of_cell? w' _ hI.1.1) (by show ¬ (w.heap.size + 1 = w.heap.size); omega)).trans hI.1.1, Nat.le_trans hz hmv.size⟩, by rw [hcx]; exact hM⟩, hmv⟩
  · intro e w3 h
    obtain ⟨A3, c3, us, rfl, h2, h3, h4, h5⟩ := h.tells hb1 (fun g h => by omega)
    have H2 := Lib.hid h2
    have H3 := Lib.hid h3
    clear h2 h3 h
    go_wp2
    go_ret
    exact ⟨A3, c3, us, rfl, H2.out, H3.out, h4, h5⟩

end Go.Proofs.Ythckecfjghjnjaa.mk
