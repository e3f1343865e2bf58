/-
  Contracts of mark's Dye and Cut.
-/
import Derived.Test.YtagpdcgcjallhaaMarkCat
namespace Go.Proofs.Ytagpdcgcjallhaa.mk
open Go.RowKit

/-- what a loop over taken runs keeps: the runs made so far, and the taken ones -/
def Seg (os qs : List Int) (j : Nat) (ta : Value) (Bt B : Nat) (w0 : World) (r : Value) (wr : World) : Prop :=
  wr.ownsRow (B + 2) 44 2 r (comp os).length (runCells (comp os)) ∧ wr.ownsRow Bt 44 2 ta (comp qs).length (runCells (comp qs)) ∧ (∀ g, r.ownBlock = some g → ta.ownBlock ≠ some g) ∧ Below (B + 2) w0 wr ∧ j ≤ (comp qs).length
theorem seg_in {os qs : List Int} {ta r v' : Value} {Bt B j : Nat} {w0 wr w' : World} {o n : Int} {lo : Int × Int} {ob : Obj} (hB : B + 2 ≤ wr.heap.size) (hr : (comp qs)[j]? = some lo) (h : Seg os qs j ta Bt B w0 r wr)
    (h1 : w'.ownsRow (B + 2) 44 2 v' (comp (os ++ List.replicate n.toNat o)).length (runCells (comp (os ++ List.replicate n.toNat o))))
    (hg : (wr.alloc ob).grownBy w' r.ownBlock) (hat : v'.ownBlock = r.ownBlock ∨ ∃ k, (wr.alloc ob).heap.size ≤ k ∧ v'.ownBlock = some k) :
    Seg (os ++ List.replicate n.toNat o) qs (j + 1) ta Bt B w0 v' w' := by
  obtain ⟨hown, hta, hne, hbw, _⟩ := h
  have hj : j < (comp qs).length := (List.getElem?_eq_some_iff.1 hr).1
  refine ⟨h1, ?_, ?_, ?_, by omega⟩
  · refine (hta.alloc ob).kept hg ?_
    cases hr : r.ownBlock with
    | none => cases ht : ta.ownBlock <;> simp
    | some g => exact .inr (hne g hr)
  · intro g hgv
    rcases hat with h | ⟨k, hk, h⟩
    · exact hne g (h.symm.trans hgv)
    · rw [h] at hgv
      injection hgv with hgv
      subst hgv
      intro e2
      have := (hta.lt _ e2).2
      simp at hk
      omega
  · exact (hbw.alloc (by omega) ob).grown hg (by simp; omega) (fun k hk => (hown.lt k hk).1)

theorem expand_next {rr : List (Int × Int)} {j : Nat} {l o : Int} (h : rr[j]? = some (l, o)) : expand (rr.take (j + 1)) = expand (rr.take j) ++ List.replicate l.toNat o := by
  rw [take_next h, expand_append]; simp [expand]

def DyeRel (qs : List Int) (c : Int) (ta : Value) (Bt B : Nat) (w0 : World) (r i : Value) (wr : World) : Prop :=
  ∃ j : Nat, i = .int .i64 j ∧ Seg ((expand ((comp qs).take j)).map (max · c)) qs j ta Bt B w0 r wr

/-- the origins of a cut, so far -/
theorem cut_next (x y : List Int) (l a b : Nat) (o : Int) :
    ((x ++ List.replicate l o ++ y).take (min (x.length + l) b)).drop a = ((x ++ List.replicate l o ++ y).take (min x.length b)).drop a ++ List.replicate (min (b : Int) ((x.length : Int) + l) - max (a : Int) x.length).toNat o := by
  have h1 : (x ++ List.replicate l o ++ y).take (min x.length b) = x.take (min x.length b) := by
    rw [List.append_assoc, List.take_append_of_le_length (by omega)]
  have h2 : (x ++ List.replicate l o ++ y).take (min (x.length + l) b) = x.take (min x.length b) ++ List.replicate (min (x.length + l) b - min x.length b) o := by
    rw [List.take_append_of_le_length (by simp; omega), List.take_append, List.take_replicate]
    congr 1
    · by_cases hb : x.length ≤ b
      · rw [List.take_of_length_le (by omega), List.take_of_length_le (by omega)]
      · congr 1; omega
    · congr 1; omega
  rw [h2, h1, List.drop_append, List.drop_replicate]
  congr 2
  rw [List.length_take]
  omega

def CutRel (qs : List Int) (a b : Nat) (ta : Value) (Bt B : Nat) (w0 : World) (r at_ i : Value) (wr : World) : Prop :=
  ∃ j : Nat, i = .int .i64 j ∧ at_ = .int .i64 ((expand ((comp qs).take j)).length : Int) ∧ Seg ((qs.take (min (expand ((comp qs).take j)).length b)).drop a) qs j ta Bt B w0 r wr

theorem extract_list (s : ByteArray) (a b : Nat) : s.extract a b = ⟨((s.data.toList.take b).drop a).toArray⟩ := by
  apply ByteArray.ext
  apply Array.toList_inj.1
  rw [ByteArray.data_extract, Array.toList_extract]
  simp [List.drop_take]

set_option maxHeartbeats 2000000 in
set_option maxRecDepth 100000 in
theorem cut_any (s : ByteArray) (A : Option Addr) (n c : Nat) (rs : List (Int × Int)) (f t : Int) (a b : Nat) (w : World) (hl : Lies w w.heap.size A (runCells rs)) (hn : rs.length = n) (hs : s.size ≤ 4294967296) (hn2 : n ≤ 4294967296)
    (ha : min (max f 0) (s.size : Int) = a) (hb : min (max t 0) (s.size : Int) = b) :
    Calls Try.prog 18 #[.agg #[.string s, .slice A n c], .int .i64 f, .int .i64 t] w (Tells ⟨((s.data.toList.take b).drop a).toArray⟩ (comp (((origins s.size rs).take b).drop a)) w) := by
  have HN := Lib.hid hn
  have has : a ≤ s.size := by omega
  have hbs : b ≤ s.size := by omega
  have HA := Lib.hid ha
  have HB := Lib.hid hb
  clear hn ha hb
  go_enter Try.func18, Try.ntmps18
  go_wp2_with fail
  generalize hw0 : (w.alloc (.cells #[.string s, .slice A n c] 24)).alloc (.cells #[.string ⟨#[]⟩, .slice none 0 0] 24) = w0
  have y0 : Whole w0 w.heap.size 24 #[.string s, .slice A n c] := by rw [← hw0]; exact (Whole.made w _ _).alloc _
  have y1 : Whole w0 (w.heap.size + 1) 24 #[.string ⟨#[]⟩, .slice none 0 0] := by
    rw [← hw0]
    have h := Whole.made (w.alloc (.cells #[.string s, .slice A n c] 24)) 24 #[.string ⟨#[]⟩, .slice none 0 0]
    simp only [World.size_alloc] at h
    exact h
  have hz0 : w.heap.size + 2 ≤ w0.heap.size := by rw [← hw0]; simp
  have hl0 : Lies w0 w0.heap.size A (runCells rs) := by rw [← hw0]; exact ((hl.alloc (Nat.le_refl _) _).alloc (by simp) _).mono (by simp; omega)
  have hb0 : Below w.heap.size w w0 := by rw [← hw0]; exact ((Below.refl _ _).alloc (Nat.le_refl _) _).alloc (by simp) _
  have HW := Lib.hid hw0
  clear hw0
  have c0 : w0.cell? ⟨w.heap.size, 0, none⟩ = some (.string s) := y0.at_ 0
  have c1 : w0.cell? ⟨w.heap.size, 1, none⟩ = some (.slice A n c) := y0.at_ 1
  refine (place_any _ _ _).mono ?_
  rintro e w' ⟨rfl, rfl⟩
  rw [HA.out]
  go_wp2_with fail
  refine (place_any _ _ _).mono ?_
  rintro e w' ⟨rfl, rfl⟩
  rw [HB.out]
  by_cases hba : b ≤ a
  · have f0 := y1.free 0
    have f1 := y1.free 1
    have d0 : w0.cell? ⟨w.heap.size + 1, 0, none⟩ = some (.string ⟨#[]⟩) := y1.at_ 0
    have d1 : w0.cell? ⟨w.heap.size + 1, 1, none⟩ = some (.slice none 0 0) := y1.at_ 1
    have H1 : Hid ((s.data.toList.take b).drop a = []) := List.drop_eq_nil_of_le (by rw [List.length_take]; omega)
    have H2 : Hid (((origins s.size rs).take b).drop a = []) := List.drop_eq_nil_of_le (by rw [List.length_take]; omega)
    go_wp2_with fail
    refine bodyPost_ret (v := .agg #[.string ⟨#[]⟩, .slice none 0 0]) ?_ rfl ?_
    · simp [results, Try.results18, go_sem, d0, d1]
    · rw [H1.out, H2.out]
      exact tells_end (g := w.heap.size + 1) (s := ⟨#[]⟩) (rs := []) (Nat.le_succ _) (World.ownsRow_nil _ _ _ _) hb0
  · go_wp2_with fail
    refine (taken_any s A n c rs _ hl0 HN.out hs hn2).mono ?_
    rintro e w2 ⟨ta, rfl, hta, hbT⟩
    unfold taken at *
    generalize hqs : origins s.size rs = qs at *
    have hql0 : qs.length = s.size := by rw [← hqs, origins_length]
    have hql : qs.length ≤ s.size := by omega
    have HQL := Lib.hid hql0
    have HQS := Lib.hid hqs
    clear hqs c0 c1 hql0
    obtain ⟨At, ct, rfl, _, _, _⟩ := own_form hta
    have hcl := comp_length_le qs
    have hbw2 : Below (w.heap.size + 2) w0 w2 := hbT.mono hz0
    go_wp2_with fail
    obtain ⟨wo, rfl⟩ : ∃ wo : World, wo = w2 := ⟨_, rfl⟩
    go_loopw [8, 9, 28] (CutRel qs a b (.slice At (comp qs).length ct) w0.heap.size w.heap.size w0) (fun _ _ i _ => (comp qs).length - (intOf i).toNat)
    case atStart => exact ⟨0, rfl, by simp [expand], by simpa [expand, comp, runCells] using World.ownsRow_nil _ _ _ _, hta, by simp [Value.ownBlock], hbw2, Nat.zero_le _⟩
    case round =>
      obtain ⟨j, rfl, rfl, hseg⟩ := hrel
      have hj := hseg.2.2.2.2
      have hws := hseg.2.2.2.1.size
      have HS := Lib.hid hseg
      clear hseg
      have hexl := expand_take_le qs j
      by_cases hjl : j < (comp qs).length
      · obtain ⟨ad', l, p, rfl, hbA, hd1, hd2, HR2⟩ := (Lies.own HS.out.2.1).run (k := j) hjl
        have hlo : l ≤ qs.length := comp_le qs (l, p) (List.mem_of_getElem? HR2.out)
        have hlp : 1 ≤ l := comp_pos qs (l, p) (List.mem_of_getElem? HR2.out)
        have hjb : j ≤ 4294967296 := by omega
        have HX := Lib.hid (expand_next HR2.out)
        have HNX : Hid ((qs.take (min (expand ((comp qs).take (j + 1))).length b)).drop a = (qs.take (min (expand ((comp qs).take j)).length b)).drop a ++ List.replicate (min (b : Int) (((expand ((comp qs).take j)).length : Int) + l) - max (a : Int) (expand ((comp qs).take j)).length).toNat p) := by
          show _ = _
          have hsplit : qs = expand ((comp qs).take j) ++ List.replicate l.toNat p ++ expand ((comp qs).drop (j + 1)) := by
            rw [← HX.out, ← expand_append, List.take_append_drop, expand_comp]
          have h := cut_next (expand ((comp qs).take j)) (expand ((comp qs).drop (j + 1))) l.toNat a b p
          rw [← hsplit] at h
          rw [HX.out, List.length_append, List.length_replicate, h]
          congr 3
          omega
        have hxl1 : (expand ((comp qs).take (j + 1))).length = (expand ((comp qs).take j)).length + l.toNat := by rw [HX.out, List.length_append, List.length_replicate]
        have hxl := expand_take_le qs (j + 1)
        have HXL := Lib.hid hxl1
        clear hxl1
        generalize hd : (expand ((comp qs).take j)).length = d at *
        generalize hz : (comp qs).length = z at *
        have HZ := Lib.hid hz
        have HD := Lib.hid hd
        clear hz hd
        go_wp2_with fail
        refine (join_comp (w.heap.size + 2) u8 ((qs.take (min d b)).drop a) (min (b : Int) ((d : Int) + l) - max (a : Int) d) p _ (HS.out.1.alloc _) (by simp; omega) (by rw [List.length_drop, List.length_take]; omega) (by omega)).mono ?_
        rintro e w5 ⟨v', rfl, hown5, hg5, hat5⟩
        have HIN := Lib.hid (seg_in (by omega) HR2.out HS.out hown5 hg5 hat5)
        have hcp : w5.cell? ⟨wr.heap.size, 0, none⟩ = some (.int .i64 l) := (Whole.grown (Whole.made wr 44 #[.int .i64 l, .int .i64 p]) hg5 (fun e => by have := (HS.out.1.lt _ e.symm).2; omega)).at_ 0
        clear hg5 hat5 hown5
        go_wp2
        go_roundw
        case rel => exact ⟨j + 1, by go_num, by rw [HXL.out]; simp; omega, by rw [HNX.out]; exact HIN.out⟩
        case measure => simp [intOf]; omega
      · have H3 := HS.out.1
        have hmn : min (expand ((comp qs).take j)).length b = b := by
          rw [List.take_of_length_le (by omega), expand_comp]; have := HQL.out; omega
        rw [hmn] at H3
        have HB2 := HS.out.2.2.2.1
        have hW0 := y0.below HB2 (by omega)
        have e0 : wr.cell? ⟨w.heap.size, 0, none⟩ = some (.string s) := hW0.at_ 0
        clear hmn
        generalize hd : (expand ((comp qs).take j)).length = d at *
        generalize hz : (comp qs).length = z at *
        have HZ := Lib.hid hz
        have HD := Lib.hid hd
        clear hz hd
        go_wp2_with fail
        refine (clone_any (s.extract a b) _ (by rw [ByteArray.size_extract]; omega)).mono ?_
        rintro e w5 ⟨rfl, hb5⟩
        rw [extract_list]
        have H5 := own_keep H3 hb5
        have hW5 := (y1.below HB2 (by omega)).below hb5 (by omega)
        obtain ⟨A5, c5, rfl, _, _, _⟩ := own_form H5
        have f0 := hW5.free 0
        have f1 := hW5.free 1
        have d0 : w5.cell? ⟨w.heap.size + 1, 0, none⟩ = some (.string ⟨#[]⟩) := hW5.at_ 0
        have d1 : w5.cell? ⟨w.heap.size + 1, 1, none⟩ = some (.slice none 0 0) := hW5.at_ 1
        clear H3
        generalize comp ((qs.take b).drop a) = res at *
        have HO := Lib.hid H5
        clear H5
        generalize (s.data.toList.take b).drop a = st at *
        go_wp2
        refine bodyPost_ret (v := .agg #[.string ⟨st.toArray⟩, .slice A5 res.length c5]) ?_ rfl ?_
        · simp [results, Try.results18, go_sem, d0, d1]
        · exact tells_end (g := w.heap.size + 1) (Nat.le_succ _) HO.out (below_next (hb0.trans (HB2.mono (by omega))) (Nat.le_refl _) hb5)

end Go.Proofs.Ytagpdcgcjallhaa.mk
