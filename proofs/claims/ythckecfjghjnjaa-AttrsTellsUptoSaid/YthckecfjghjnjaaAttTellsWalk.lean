/-
  The walk of the statement AttrsTells.
-/
import Derived.Test.YthckecfjghjnjaaAttLaw
import Derived.Test.YthckecfjghjnjaaAttPut
import Derived.Test.YthckecfjghjnjaaAttAlive
namespace Go.Proofs.Ythckecfjghjnjaa.mk
open Go.RowKit Go.Maps

/-- a row of attributes that a law makes of what came in -/
def RowOf (w : World) (base : Nat) (qs : List PA) (w0 : World) (v : Value) : Prop :=
  ∃ A c us, v = .slice A us.length c ∧ w.ownsRow base 27 4 v us.length (atCells us) ∧ AllOk w0 w0.heap.size us ∧ us.map AT.ch = qs
theorem RowOf.keep {w w' w0 : World} {base : Nat} {qs : List PA} {v : Value} (h : RowOf w base qs w0 v) (hb : Below w.heap.size w w') : RowOf w' base qs w0 v := by
  obtain ⟨A, c, us, h1, h2, h3, h4⟩ := h
  exact ⟨A, c, us, h1, own_keep h2 hb, h3, h4⟩
theorem RowOf.none (w w0 : World) (base : Nat) : RowOf w base [] w0 (.slice none 0 0) := ⟨_, _, [], rfl, World.ownsRow_nil _ _ _ _, (fun t ht => by cases ht), rfl⟩
theorem RowOf.grown {w w' w0 : World} {base : Nat} {qs : List PA} {v : Value} {row : Option Nat} (h : RowOf w base qs w0 v) (hg : w.grownBy w' row) (hd : ∀ g, v.ownBlock = some g → row ≠ some g) : RowOf w' base qs w0 v := by
  obtain ⟨A, c, us, h1, h2, h3, h4⟩ := h
  exact ⟨A, c, us, h1, own_same h2 fun g hgv => hg.block g (h2.lt g hgv).2 (fun e => hd g hgv e.symm), h3, h4⟩
/-- rows that share no block -/
def Parted (v v' : Value) : Prop := ∀ g, v.ownBlock = some g → v'.ownBlock ≠ some g
theorem Parted.symm {v v' : Value} (h : Parted v v') : Parted v' v := fun g h1 h2 => h g h2 h1
theorem RowOf.alloc {w w0 : World} {base : Nat} {qs : List PA} {v : Value} (h : RowOf w base qs w0 v) (o : Obj) : RowOf (w.alloc o) base qs w0 v := h.keep ((Below.refl _ _).alloc (Nat.le_refl _) _)
theorem RowOf.lt {w w0 : World} {base : Nat} {qs : List PA} {v : Value} (h : RowOf w base qs w0 v) : ∀ g, v.ownBlock = some g → base ≤ g ∧ g < w.heap.size := by
  obtain ⟨A, c, us, h1, h2, h3, h4⟩ := h
  exact h2.lt

def DrOn (L : List PA) (nm : List UInt8) (n : Nat) (w w0 : World) (v9 v10 i : Value) (wr : World) : Prop :=
  ∃ k : Nat, k ≤ n ∧ i = .int .i64 (k : Int) ∧ RowOf wr w0.heap.size (selTo (dropP L nm) L k) w v9 ∧ RowOf wr w0.heap.size (selTo (onceP L) L k) w v10 ∧ Parted v9 v10 ∧ Below w0.heap.size w0 wr

/-- one more in a row: what append leaves -/
theorem row_more {w0 w2 : World} {base z : Nat} {A' : Option Addr} {c' : Nat} {us : List AT} {t : AT} {qs qs' : List PA} (hz : us.length = z) (ho : AllOk w0 w0.heap.size us) (ht : t.ok w0 w0.heap.size) (hq : us.map AT.ch = qs) (hq' : qs' = qs ++ [t.ch])
    (h : w2.ownsRow base 27 4 (.slice A' (z + 1) c') (z + 1) (atCells us ++ atRow t)) : RowOf w2 base qs' w0 (.slice A' (z + 1) c') := by
  have hl : (us ++ [t]).length = z + 1 := by rw [List.length_append, hz]; rfl
  refine ⟨A', c', us ++ [t], by rw [hl], ?_, ?_, by rw [List.map_append, hq, hq']; rfl⟩
  · rw [hl, atCells_snoc]; exact h
  · intro x hx
    rcases List.mem_append.1 hx with hx | hx
    · exact ho x hx
    · simp at hx; subst hx; exact ht

theorem atRow_one (t : AT) : ∀ u ∈ atRow t, u.oneCell' = true := by simp [Value.oneCell', atRow]
theorem atCells_one (ts : List AT) : ∀ u ∈ atCells ts, u.oneCell' = true := by
  intro u hu
  unfold atCells at hu
  rw [List.mem_flatMap] at hu
  obtain ⟨t, _, h⟩ := hu
  exact atRow_one t u h

/-- an attribute in place of another in a row that a law made -/
theorem row_set {w w0 : World} {base n cap g k : Nat} {us : List AT} {t : AT} {qs : List PA} (ho : w.ownsRow base 27 4 (.slice (some ⟨g, 0, none⟩) n cap) n (atCells us)) (hA : AllOk w0 w0.heap.size us) (ht : t.ok w0 w0.heap.size) (hk : k < us.length) (hn : us.length = n) (hq : (us.set k t).map AT.ch = qs) :
    let w' := (((w.setCell ⟨g, k * 4, none⟩ (.string t.nm.s)).setCell ⟨g, k * 4 + 1, none⟩ (.slice t.nm.A t.nm.n t.nm.c)).setCell ⟨g, k * 4 + 2, none⟩ (.string t.vl.s)).setCell ⟨g, k * 4 + 3, none⟩ (.slice t.vl.A t.vl.n t.vl.c)
    RowOf w' base qs w0 (.slice (some ⟨g, 0, none⟩) n cap) ∧ Below base w w' := by
  intro w'
  have o1 := (ho.stored (k * 4) (.string t.nm.s)).1
  have o2 := (o1.stored (k * 4 + 1) (.slice t.nm.A t.nm.n t.nm.c)).1
  have o3 := (o2.stored (k * 4 + 2) (.string t.vl.s)).1
  have o4 := (o3.stored (k * 4 + 3) (.slice t.vl.A t.vl.n t.vl.c)).1
  have hg : base ≤ g := (ho.lt g rfl).1
  have hl : (us.set k t).length = n := by rw [List.length_set]; exact hn
  refine ⟨⟨some ⟨g, 0, none⟩, cap, us.set k t, by rw [hl], ?_, fun x hx => ?_, hq⟩, ?_⟩
  · rw [hl, ← atCells_set us k t hk]
    exact o4
  · rcases List.mem_or_eq_of_mem_set hx with h | h
    · exact hA x h
    · rw [h]; exact ht
  · exact ((((Below.refl base w).setCell (p := ⟨g, k * 4, none⟩) hg _).setCell (p := ⟨g, k * 4 + 1, none⟩) hg _).setCell (p := ⟨g, k * 4 + 2, none⟩) hg _).setCell (p := ⟨g, k * 4 + 3, none⟩) hg _

theorem getA_plI (L : List PA) (nm : List UInt8) : (∃ j : Nat, plI L nm = (j : Int) ∧ (getA L nm).isSome = true) ∨ (plI L nm = -1 ∧ (getA L nm).isSome = false) := by
  unfold plI getA
  by_cases h : placeN L nm < L.length
  · exact .inl ⟨_, if_pos h, by rw [List.getElem?_eq_getElem h]; rfl⟩
  · exact .inr ⟨if_neg h, by rw [List.getElem?_eq_none (by omega)]; rfl⟩

/-- the value that is wanted -/
def wantC (q : Option PA) : Ch := match q with | some p => p.2 | none => []

set_option maxHeartbeats 8000000 in
set_option maxRecDepth 100000 in
theorem attrsTells_any (L : Option Addr) (n c : Nat) (ts : List AT) (a : AT) (s : ByteArray) (w : World) (hl : Lies w w.heap.size L (atCells ts)) (hok : AllOk w w.heap.size ts) (hn : ts.length = n) (hL : L = none → c = 0) (hn2 : n ≤ 1048576) (ha : a.ok w w.heap.size) :
    Calls Try.prog 3 #[.slice L n c, .agg #[.string a.nm.s, .slice a.nm.A a.nm.n a.nm.c, .string a.vl.s, .slice a.vl.A a.vl.n a.vl.c], .string s] w fun e w' => e = .returned (.bool true) ∧ Below w.heap.size w w' := by
  obtain ⟨i0, hi, hz0, hz1, hz2⟩ := info_parts att_info
  have HLN : Hid ((ts.map AT.ch).length = n) := by show _ = _; rw [List.length_map]; exact hn
  have HN := Lib.hid hn
  have HL := Lib.hid hl
  have HOK := Lib.hid hok
  have HLC := Lib.hid hL
  have HAO := Lib.hid ha
  clear hn hl hok ha hL
  go_enter Try.func3, Try.ntmps3
  go_wp2_with fail
  generalize hw0 : w.alloc (.cells #[.string a.nm.s, .slice a.nm.A a.nm.n a.nm.c, .string a.vl.s, .slice a.vl.A a.vl.n a.vl.c] 27) = w0
  have y0 : Whole w0 w.heap.size 27 #[.string a.nm.s, .slice a.nm.A a.nm.n a.nm.c, .string a.vl.s, .slice a.vl.A a.vl.n a.vl.c] := by rw [← hw0]; exact Whole.made _ _ _
  have hb0 : Below w.heap.size w w0 := by rw [← hw0]; exact (Below.refl _ _).alloc (Nat.le_refl _) _
  clear hw0
  refine (alive10_any w0).mono ?_
  rintro e w1 ⟨rfl, hb1⟩
  have hbw1 := below_next hb0 (Nat.le_refl _) hb1
  have HY1 := Lib.hid (y0.below hb1 y0.lt)
  have HLI := Lib.hid (HL.out.next hbw1 (Nat.le_refl _))
  have ha1 := Lib.hid (HLI.out.alloc (Nat.le_refl _) (.cells #[] 27))
  have h00 := Lib.hid (World.ownsRow_lit (base := w1.heap.size) (e := 27) (size := 4) w1 #[] 0 (Nat.le_refl _) (by simp) rfl)
  have hlc := HN.out
  have s1 : Hid ((atCells ts).length = n * 4) := by show _ = _; rw [atCells_length, HN.out]
  have s3 : Hid (0 + n ≤ maxLen) := by show _ ≤ _; simp only [maxLen]; omega
  have s4 : Hid ((0 + n) * 80 ≤ 140737488355328) := by show _ ≤ _; omega
  have hzw := hb0.size
  have hz01 := hb1.size
  have hyl := y0.lt
  clear hb0 hb1 y0 hlc
  go_wp2_with (at_builtin; refine wpList_append_src _ rfl _ _ 22 rfl w1.heap.size 27 i0 _ 4 80 Try.underlying22 hi hz0 hz1 hz2 rfl (by decide) (.slice (some ⟨w1.heap.size, 0, none⟩) 0 0) 0 [] rfl h00.out w1.heap.size L n c (atCells ts) rfl HLC.out s1.out ha1.out (atCells_one _) s3.out s4.out (by simp) ?_)
  intro v2 w2 hown2 hg2 hat2
  obtain ⟨A2, c2, rfl, _, _, _⟩ := own_form hown2
  have hb2 : Below w1.heap.size w1 w2 := ((Below.refl _ _).alloc (Nat.le_refl _) _).grown hg2 (by simp) (by simp [Value.ownBlock])
  have HO2 := Lib.hid hown2
  have HY2 := Lib.hid (HY1.out.below hb2 HY1.out.lt)
  have hbw2 := below_next hbw1 (Nat.le_refl _) hb2
  have d0 : w2.cell? ⟨w.heap.size, 0, none⟩ = some (.string a.nm.s) := HY2.out.at_ 0
  clear hg2 hat2 hown2
  go_wp2_with fail
  refine (attPlace_any L n c ts a.nm.s w2 (HL.out.next hbw2 (Nat.le_refl _)) HN.out (by omega)).mono ?_
  rintro e w3 ⟨rfl, hb3⟩
  have hbw3 := below_next hbw2 (Nat.le_refl _) hb3
  have hz12 := hb2.size
  have hz23 := hb3.size
  have HO3 := Lib.hid (own_keep HO2.out hb3)
  have HY3 := Lib.hid (HY2.out.below hb3 HY2.out.lt)
  have hb13 := below_next hb2 (Nat.le_refl _) hb3
  clear d0 hb2 hb3
  go_upto_if 27 with (fail)
  go_cut [7, 8] (fun s7 _ wx => RowOf wx w1.heap.size (putA (ts.map AT.ch) a.ch) w s7 ∧ Below w1.heap.size w1 wx)
  case first =>
    have e0 : w3.cell? ⟨w.heap.size, 0, none⟩ = some (.string a.nm.s) := HY3.out.at_ 0
    have e1 : w3.cell? ⟨w.heap.size, 1, none⟩ = some (.slice a.nm.A a.nm.n a.nm.c) := HY3.out.at_ 1
    have e2 : w3.cell? ⟨w.heap.size, 2, none⟩ = some (.string a.vl.s) := HY3.out.at_ 2
    have e3 : w3.cell? ⟨w.heap.size, 3, none⟩ = some (.slice a.vl.A a.vl.n a.vl.c) := HY3.out.at_ 3
    by_cases hp : placeN (ts.map AT.ch) a.nm.s.data.toList < n
    · have HPI : Hid (plI (ts.map AT.ch) a.nm.s.data.toList = (placeN (ts.map AT.ch) a.nm.s.data.toList : Int)) := by show _ = _; unfold plI; rw [if_pos (by rw [HLN.out]; exact hp)]
      have HPA : Hid (putA (ts.map AT.ch) a.ch = (ts.map AT.ch).set (placeN (ts.map AT.ch) a.nm.s.data.toList) a.ch) := by
        show _ = _
        unfold putA
        rw [AT.nmB]
        exact if_pos (by rw [HLN.out]; exact hp)
      rw [HPI.out]
      generalize placeN (ts.map AT.ch) a.nm.s.data.toList = k at *
      have hk0 : (0 : Int) ≤ (k : Int) := Int.natCast_nonneg _
      have hk1 : (k : Int) < (n : Int) := by omega
      have hown3 := HO3.out
      obtain ⟨g, rfl⟩ : ∃ g, A2 = some ⟨g, 0, none⟩ := by
        rcases hown3.2 with ⟨hv, _⟩ | ⟨g, cap, cur, hv, _⟩
        · injection hv with hv _; omega
        · injection hv with hv _ _; exact ⟨g, hv⟩
      have r0 : w3.cell? ⟨g, k * 4, none⟩ = (atCells ts)[k * 4]? := hown3.cellAt _ (by omega)
      have r1 : w3.cell? ⟨g, k * 4 + 1, none⟩ = (atCells ts)[k * 4 + 1]? := hown3.cellAt _ (by omega)
      have r2 : w3.cell? ⟨g, k * 4 + 2, none⟩ = (atCells ts)[k * 4 + 2]? := hown3.cellAt _ (by omega)
      have r3 : w3.cell? ⟨g, k * 4 + 3, none⟩ = (atCells ts)[k * 4 + 3]? := hown3.cellAt _ (by omega)
      obtain ⟨u, hu⟩ : ∃ u, ts[k]? = some u := ⟨_, List.getElem?_eq_getElem (by rw [HN.out]; exact hp)⟩
      have a0 := atCells_at ts k u hu 0 (by omega)
      have a1 := atCells_at ts k u hu 1 (by omega)
      have a2 := atCells_at ts k u hu 2 (by omega)
      have a3 := atCells_at ts k u hu 3 (by omega)
      simp only [Nat.add_zero] at a0
      rw [a0] at r0
      rw [a1] at r1
      rw [a2] at r2
      rw [a3] at r3
      have q0 : w3.cell? ⟨g, k * 4, none⟩ = some (.string u.nm.s) := r0
      have q1 : w3.cell? ⟨g, k * 4 + 1, none⟩ = some (.slice u.nm.A u.nm.n u.nm.c) := r1
      have q2 : w3.cell? ⟨g, k * 4 + 2, none⟩ = some (.string u.vl.s) := r2
      have q3 : w3.cell? ⟨g, k * 4 + 3, none⟩ = some (.slice u.vl.A u.vl.n u.vl.c) := r3
      have f0 := hown3.frozenAt (k * 4)
      have f1 := hown3.frozenAt (k * 4 + 1)
      have f2 := hown3.frozenAt (k * 4 + 2)
      have f3 := hown3.frozenAt (k * 4 + 3)
      have HPS := Lib.hid (row_set (k := k) (qs := putA (ts.map AT.ch) a.ch) hown3 HOK.out HAO.out (by rw [HN.out]; exact hp) HN.out (by rw [HPA.out, List.map_set]))
      have HB13 := Lib.hid hb13
      clear r0 r1 r2 r3 a0 a1 a2 a3 hown3 hu hb13 hbw3 hbw2 hbw1
      go_wp2_with fail
      go_meet
      exact ⟨HPS.out.1, HB13.out.trans HPS.out.2⟩
    · have HPI : Hid (plI (ts.map AT.ch) a.nm.s.data.toList = -1) := by show _ = _; unfold plI; rw [if_neg (by rw [HLN.out]; exact hp)]
      have HPA : Hid (putA (ts.map AT.ch) a.ch = ts.map AT.ch ++ [a.ch]) := by
        show _ = _
        unfold putA
        rw [AT.nmB]
        exact if_neg (by rw [HLN.out]; exact hp)
      rw [HPI.out]
      clear hp
      have HB13 := Lib.hid hb13
      have hown3 := HO3.out
      clear hb13 hbw3 hbw2 hbw1
      go_wp2_with (at_builtin; refine wpList_append_own_at _ rfl _ _ 22 rfl w1.heap.size 27 i0 _ 4 80 Try.underlying22 hi hz0 hz1 hz2 rfl (by decide) (.slice A2 n c2) n _ rfl (hown3.alloc _) ⟨w3.heap.size, 0, none⟩ 1 1 (atRow a) rfl rfl (cells_new w3 _ _) (by simp [Value.oneCell', atRow]) (by simp only [maxLen]; omega) (by omega) (by simp; omega) ?_)
      intro v' w5 hown5 hgrow _ _
      obtain ⟨A5, d5, rfl, _, _, _⟩ := own_form hown5
      have HIN : Hid (RowOf w5 w1.heap.size (putA (ts.map AT.ch) a.ch) w (.slice A5 (n + 1) d5) ∧ Below w1.heap.size w1 w5) := by
        refine ⟨row_more HN.out HOK.out HAO.out rfl HPA.out hown5, ?_⟩
        exact (HB13.out.alloc (by omega) _).grown hgrow (by simp; omega) (fun x hx => (HO3.out.lt x hx).1)
      clear hgrow hown5 hown3
      go_wp2_with fail
      go_meet
      exact HIN.out
  case rest =>
    obtain ⟨hr7, hb1c⟩ := hcut
    obtain ⟨A7, c7, ps, rfl, ho7, hok7, hq7⟩ := hr7
    have hzc := hb1c.size
    have hbwc := below_next hbw1 (Nat.le_refl _) hb1c
    have HBC := Lib.hid hbwc
    have HO7 := Lib.hid ho7
    have HOK7 := Lib.hid hok7
    have HQ7 := Lib.hid hq7
    have HYC := Lib.hid (HY1.out.below hb1c HY1.out.lt)
    have hpl : ps.length ≤ n + 1 := by
      have h1 := congrArg List.length hq7
      rw [List.length_map] at h1
      rw [h1]
      unfold putA
      split
      · rw [List.length_set, HLN.out]; omega
      · rw [List.length_append, HLN.out]; simp
    generalize hzp : ps.length = zp at *
    have HZP := Lib.hid hzp
    clear ho7 hok7 hq7 hzp hb1c hbwc hb13 hbw3 hbw2 hbw1 HY1 HY2 HY3 HO2 HO3 HLI ha1 h00 s1 s3 s4
    obtain ⟨wd, rfl⟩ : ∃ wd : World, wd = wc := ⟨_, rfl⟩
    go_wp2_with fail
    go_loopw [9, 10, 11] (DrOn (ts.map AT.ch) s.data.toList n w wd) (fun _ _ i _ => n - (intOf i).toNat)
    case atStart => exact ⟨0, Nat.zero_le _, rfl, RowOf.none _ _ _, RowOf.none _ _ _, (fun g h => by cases h), Below.refl _ _⟩
    case round =>
      obtain ⟨k, hk, rfl, hr9, hr10, hpt, hb⟩ := hrel
      have hbw := below_next HBC.out (Nat.le_refl _) hb
      by_cases hlt : k < n
      · obtain ⟨ad, t, rfl, hbA, d0, d1, d2, d3, HR⟩ := (HL.out.below hbw).att (k := k) (by rw [HN.out]; exact hlt)
        have hk0 : (0 : Int) ≤ (k : Int) := Int.natCast_nonneg _
        have hk1 : (k : Int) < (n : Int) := by omega
        have HRC := Lib.hid (chs_at HR.out)
        have HTO := Lib.hid (HOK.out.get HR.out)
        have HD9 : Hid (selTo (dropP (ts.map AT.ch) s.data.toList) (ts.map AT.ch) (k + 1) = selTo (dropP (ts.map AT.ch) s.data.toList) (ts.map AT.ch) k ++ (if (!(t.nm.bs == s.data.toList)) = true then [t.ch] else [])) := by
          show _ = _
          rw [selTo_next HRC.out, show dropP (ts.map AT.ch) s.data.toList k = !(t.nm.bs == s.data.toList) from (isI_at (f := fun p => !(nmB p == s.data.toList)) HRC.out).trans (by rw [AT.nmB])]
        have HD10 : Hid (selTo (onceP (ts.map AT.ch)) (ts.map AT.ch) (k + 1) = selTo (onceP (ts.map AT.ch)) (ts.map AT.ch) k ++ (if (placeN (ts.map AT.ch) t.nm.bs == k) = true then [t.ch] else [])) := by
          show _ = _
          rw [selTo_next HRC.out, show onceP (ts.map AT.ch) k = (placeN (ts.map AT.ch) t.nm.bs == k) from (isI_at (f := fun p => placeN (ts.map AT.ch) (nmB p) == k) HRC.out).trans (by rw [AT.nmB])]
        have HR10 := Lib.hid hr10
        have HPT := Lib.hid hpt
        have HB := Lib.hid hb
        have HCEL : Hid (∀ W, Below wd.heap.size wr W → W.cell? ((ad.add (k * 4))) = some (.string t.nm.s) ∧ W.cell? ⟨(ad.add (k * 4)).block, (ad.add (k * 4)).off + 1, none⟩ = some (.slice t.nm.A t.nm.n t.nm.c) ∧ W.cell? ⟨(ad.add (k * 4)).block, (ad.add (k * 4)).off + 2, none⟩ = some (.string t.vl.s) ∧ W.cell? ⟨(ad.add (k * 4)).block, (ad.add (k * 4)).off + 3, none⟩ = some (.slice t.vl.A t.vl.n t.vl.c)) := by
          have hz := HBC.out.size
          exact fun W h => ⟨(h.cell (by rw [addr_block]; omega)).trans d0, (h.cell (p := ⟨(ad.add (k * 4)).block, (ad.add (k * 4)).off + 1, none⟩) (by show (ad.add (k * 4)).block < _; rw [addr_block]; omega)).trans d1, (h.cell (p := ⟨(ad.add (k * 4)).block, (ad.add (k * 4)).off + 2, none⟩) (by show (ad.add (k * 4)).block < _; rw [addr_block]; omega)).trans d2, (h.cell (p := ⟨(ad.add (k * 4)).block, (ad.add (k * 4)).off + 3, none⟩) (by show (ad.add (k * 4)).block < _; rw [addr_block]; omega)).trans d3⟩
        obtain ⟨A9, c9, us, rfl, ho9, hok9, hq9⟩ := hr9
        have hul : us.length ≤ k := by
          have h1 := congrArg List.length hq9
          rw [List.length_map] at h1
          rw [h1]; exact selTo_len _ _ _
        generalize hz9 : us.length = z9 at *
        have HZ9 := Lib.hid hz9
        have HO9 := Lib.hid ho9
        have HOK9 := Lib.hid hok9
        have HQ9 := Lib.hid hq9
        have hzr := hb.size
        clear hr10 hpt hz9 ho9 hok9 hq9 hb hbw
        obtain ⟨we, rfl⟩ : ∃ we : World, we = wr := ⟨_, rfl⟩
        go_upto_if 49 with (fail)
        go_cut [9] (fun s9 wx => RowOf wx wd.heap.size (selTo (dropP (ts.map AT.ch) s.data.toList) (ts.map AT.ch) (k + 1)) w s9 ∧ RowOf wx wd.heap.size (selTo (onceP (ts.map AT.ch)) (ts.map AT.ch) k) w u10 ∧ Parted s9 u10 ∧ Below wd.heap.size we wx)
        case first =>
          by_cases he : t.nm.bs = s.data.toList
          · have ht' : (t.nm.s.toList == s.toList) = true := by rw [beq_iff_eq, ByteArray.toList_eq, ByteArray.toList_eq]; exact he
            have HE : Hid (selTo (dropP (ts.map AT.ch) s.data.toList) (ts.map AT.ch) (k + 1) = selTo (dropP (ts.map AT.ch) s.data.toList) (ts.map AT.ch) k) := by show _ = _; rw [HD9.out, beq_iff_eq.2 he]; simp
            clear he
            go_wp2_with (at_builtin; exact absurd ‹(!t.nm.s.toList == s.toList) = true› (by rw [ht']; simp))
            go_meet
            exact ⟨⟨A9, c9, us, by rw [HZ9.out], by rw [HZ9.out]; exact HO9.out, HOK9.out, by rw [HE.out]; exact HQ9.out⟩, HR10.out, HPT.out, Below.refl _ _⟩
          · have ht' : (t.nm.s.toList == s.toList) = false := by rw [beq_eq_false_iff_ne, ByteArray.toList_eq, ByteArray.toList_eq]; exact he
            have HE : Hid (selTo (dropP (ts.map AT.ch) s.data.toList) (ts.map AT.ch) (k + 1) = selTo (dropP (ts.map AT.ch) s.data.toList) (ts.map AT.ch) k ++ [t.ch]) := by show _ = _; rw [HD9.out, beq_eq_false_iff_ne.2 he]; rfl
            clear he
            have hown9 := HO9.out
            go_wp2_with (at_builtin; refine wpList_append_own_at _ rfl _ _ 22 rfl wd.heap.size 27 i0 _ 4 80 Try.underlying22 hi hz0 hz1 hz2 rfl (by decide) (.slice A9 z9 c9) z9 _ rfl (hown9.alloc _) ⟨we.heap.size, 0, none⟩ 1 1 (atRow t) rfl rfl (cells_new we _ _) (by simp [Value.oneCell', atRow]) (by simp only [maxLen]; omega) (by omega) (by simp; omega) ?_)
            rotate_left
            · exact absurd ‹(!t.nm.s.toList == s.toList) = false› (by rw [ht']; simp)
            intro v' w5 hown5 hgrow _ hat
            obtain ⟨A5, d5, rfl, _, _, _⟩ := own_form hown5
            have HIN : Hid (RowOf w5 wd.heap.size (selTo (dropP (ts.map AT.ch) s.data.toList) (ts.map AT.ch) (k + 1)) w (.slice A5 (z9 + 1) d5) ∧ RowOf w5 wd.heap.size (selTo (onceP (ts.map AT.ch)) (ts.map AT.ch) k) w u10 ∧ Parted (.slice A5 (z9 + 1) d5) u10 ∧ Below wd.heap.size we w5) := by
              have hra := HR10.out.alloc (.cells (atRow t).toArray 27)
              refine ⟨row_more HZ9.out HOK9.out HTO.out HQ9.out HE.out hown5, hra.grown hgrow (fun g hg h => HPT.out g h hg), ?_, ?_⟩
              · intro g hg h
                rcases hat with hat | hat
                · rw [hat] at hg; exact HPT.out g hg h
                · rw [hat] at hg
                  have h1 := (HR10.out.lt g h).2
                  have h2 : we.heap.size + 1 = g := Option.some.inj hg
                  omega
              · exact ((Below.refl wd.heap.size we).alloc hzr _).grown hgrow (by simp; omega) (fun x hx => (HO9.out.lt x hx).1)
            clear hgrow hown5 hown9 hat
            go_wp2_with fail
            go_meet
            exact HIN.out
        case rest =>
          obtain ⟨hr9, hr10, hpt, hbe⟩ := hcut
          have HR9 := Lib.hid hr9
          have HPT2 := Lib.hid hpt
          have HBE := Lib.hid hbe
          have hzx := hbe.size
          obtain ⟨A10, c10, vs, rfl, ho10, hok10, hq10⟩ := hr10
          have hvl : vs.length ≤ k := by
            have h1 := congrArg List.length hq10
            rw [List.length_map] at h1
            rw [h1]; exact selTo_len _ _ _
          generalize hz10 : vs.length = z10 at *
          have HZ10 := Lib.hid hz10
          have HO10 := Lib.hid ho10
          have HOK10 := Lib.hid hok10
          have HQ10 := Lib.hid hq10
          obtain ⟨k0, k1, k2, k3⟩ := HCEL.out _ hbe
          have HLX := Lib.hid (HL.out.next (below_next HBC.out (Nat.le_refl _) (HB.out.trans hbe)) (Nat.le_refl _))
          clear hr9 hpt hbe hz10 ho10 hok10 hq10 d0 d1 d2 d3 HR10 HPT
          obtain ⟨wf, rfl⟩ : ∃ wf : World, wf = wc := ⟨_, rfl⟩
          go_wp2_with fail
          refine (attPlace_any (some ad) n c ts t.nm.s wf HLX.out HN.out (by omega)).mono ?_
          rintro e w6 ⟨rfl, hb6⟩
          have hpl2 : plI (ts.map AT.ch) t.nm.s.data.toList = (placeN (ts.map AT.ch) t.nm.bs : Int) := by
            unfold plI
            have h1 := placeN_some HRC.out (AT.nmB t)
            rw [if_pos (by rw [HLN.out]; show placeN (ts.map AT.ch) t.nm.bs < n; omega)]
            rfl
          rw [hpl2]
          have hbe6 := below_next HBE.out hzr hb6
          obtain ⟨m0, m1, m2, m3⟩ := HCEL.out _ hbe6
          have HB6 := Lib.hid (HB.out.trans hbe6)
          have HR96 := Lib.hid (HR9.out.keep hb6)
          have hown10 := own_keep HO10.out hb6
          have hz6 := hb6.size
          clear hb6 hbe6 k0 k1 k2 k3 hpl2
          by_cases he : placeN (ts.map AT.ch) t.nm.bs = k
          · have HE : Hid (selTo (onceP (ts.map AT.ch)) (ts.map AT.ch) (k + 1) = selTo (onceP (ts.map AT.ch)) (ts.map AT.ch) k ++ [t.ch]) := by show _ = _; rw [HD10.out, beq_iff_eq.2 he]; rfl
            rw [he]
            clear he
            go_wp2_with (at_builtin; refine wpList_append_own_at _ rfl _ _ 22 rfl wd.heap.size 27 i0 _ 4 80 Try.underlying22 hi hz0 hz1 hz2 rfl (by decide) (.slice A10 z10 c10) z10 _ rfl (hown10.alloc _) ⟨w6.heap.size, 0, none⟩ 1 1 (atRow t) rfl rfl (cells_new w6 _ _) (by simp [Value.oneCell', atRow]) (by simp only [maxLen]; omega) (by omega) (by simp; omega) ?_)
            intro v' w7 hown7 hgrow _ hat
            obtain ⟨A11, d11, rfl, _, _, _⟩ := own_form hown7
            have HIN : Hid (DrOn (ts.map AT.ch) s.data.toList n w wd u9 (.slice A11 (z10 + 1) d11) (.int .i64 ((k : Int) + 1)) w7) := by
              have hra := HR96.out.alloc (.cells (atRow t).toArray 27)
              refine ⟨k + 1, by omega, by simp, hra.grown hgrow (fun g hg h => HPT2.out g hg h), row_more HZ10.out HOK10.out HTO.out HQ10.out HE.out hown7, ?_, ?_⟩
              · intro g h hg
                rcases hat with hat | hat
                · rw [hat] at hg; exact HPT2.out g h hg
                · rw [hat] at hg
                  have h1 := (HR96.out.lt g h).2
                  have h2 : w6.heap.size + 1 = g := Option.some.inj hg
                  omega
              · exact (HB6.out.alloc HB6.out.size _).grown hgrow (by have := HB6.out.size; simp; omega) (fun x hx => (HO10.out.lt x hx).1)
            clear hgrow hown7 hown10 hat
            go_wp2_with fail
            go_roundw
            case rel => exact HIN.out
            case measure => simp [intOf]; omega
          · have HE : Hid (selTo (onceP (ts.map AT.ch)) (ts.map AT.ch) (k + 1) = selTo (onceP (ts.map AT.ch)) (ts.map AT.ch) k) := by show _ = _; rw [HD10.out, beq_eq_false_iff_ne.2 he]; simp
            have he' : ((placeN (ts.map AT.ch) t.nm.bs : Int) == (k : Int)) = false := by rw [beq_eq_false_iff_ne]; omega
            have HO6 := Lib.hid hown10
            clear he hown10
            go_wp2_with fail
            go_roundw
            case rel => exact ⟨k + 1, by omega, by go_num, HR96.out, ⟨A10, c10, vs, by rw [HZ10.out], by rw [HZ10.out]; exact HO6.out, HOK10.out, by rw [HE.out]; exact HQ10.out⟩, HPT2.out, HB6.out⟩
            case measure => simp [intOf]; omega
      · obtain rfl : n = k := by omega
        have HBR := Lib.hid hbw
        obtain ⟨A9, c9, us, rfl, ho9, hok9, hq9⟩ := hr9
        obtain ⟨A10, c10, vs, rfl, ho10, hok10, hq10⟩ := hr10
        have hul : us.length ≤ n := by have h1 := congrArg List.length hq9; rw [List.length_map] at h1; rw [h1]; exact selTo_len _ _ _
        have hvl : vs.length ≤ n := by have h1 := congrArg List.length hq10; rw [List.length_map] at h1; rw [h1]; exact selTo_len _ _ _
        generalize hz9 : us.length = z9 at *
        generalize hz10 : vs.length = z10 at *
        -- what each row holds, behind whatever is made from here on
        have HP7 : Hid (∀ W, Below wr.heap.size wr W → Lies W W.heap.size A7 (atCells ps) ∧ AllOk W W.heap.size ps) := fun W h => ⟨((Lies.own HO7.out).next hb (Nat.le_refl _)).next h (Nat.le_refl _), (HOK7.out.next hbw (Nat.le_refl _)).next h (Nat.le_refl _)⟩
        have HP9 : Hid (∀ W, Below wr.heap.size wr W → Lies W W.heap.size A9 (atCells us) ∧ AllOk W W.heap.size us) := fun W h => ⟨(Lies.own ho9).next h (Nat.le_refl _), (hok9.next hbw (Nat.le_refl _)).next h (Nat.le_refl _)⟩
        have HP10 : Hid (∀ W, Below wr.heap.size wr W → Lies W W.heap.size A10 (atCells vs) ∧ AllOk W W.heap.size vs) := fun W h => ⟨(Lies.own ho10).next h (Nat.le_refl _), (hok10.next hbw (Nat.le_refl _)).next h (Nat.le_refl _)⟩
        have HQ9 : Hid (us.map AT.ch = dropA (ts.map AT.ch) s.data.toList) := by show _ = _; rw [hq9]; unfold dropA sel; rw [HLN.out]
        have HQ10 : Hid (vs.map AT.ch = onceA (ts.map AT.ch)) := by show _ = _; rw [hq10]; unfold onceA sel; rw [HLN.out]
        have HZ9 := Lib.hid hz9
        have HZ10 := Lib.hid hz10
        have HLR : Hid (∀ W, Below wr.heap.size wr W → Lies W W.heap.size L (atCells ts) ∧ AllOk W W.heap.size ts ∧ a.ok W W.heap.size) := fun W h => ⟨(HL.out.next hbw (Nat.le_refl _)).next h (Nat.le_refl _), (HOK.out.next hbw (Nat.le_refl _)).next h (Nat.le_refl _), (HAO.out.next hbw (Nat.le_refl _)).next h (Nat.le_refl _)⟩
        have HYR := Lib.hid ((HYC.out.below hb HYC.out.lt))
        clear hpt hb hbw ho9 hok9 hq9 ho10 hok10 hq10 hz9 hz10
        obtain ⟨we, rfl⟩ : ∃ we : World, we = wr := ⟨_, rfl⟩
        go_wp2_with fail
        refine (get_any L n c ts s we (HLR.out _ (Below.refl _ _)).1 (HLR.out _ (Below.refl _ _)).2.1 HN.out (by omega)).mono ?_
        obtain ⟨b, hbq⟩ : ∃ b, (getA (ts.map AT.ch) s.data.toList).isSome = b := ⟨_, rfl⟩
        rintro e w8 ⟨gv, rfl, hgok, hgch, hb8⟩
        rw [hbq]
        have HBQ := Lib.hid hbq
        clear hbq
        generalize hw9 : w8.alloc (.cells #[.string gv.s, .slice gv.A gv.n gv.c] 25) = w9
        have y9 : Whole w9 w8.heap.size 25 #[.string gv.s, .slice gv.A gv.n gv.c] := by rw [← hw9]; exact Whole.made _ _ _
        have hb9 : Below w8.heap.size w8 w9 := by rw [← hw9]; exact (Below.refl _ _).alloc (Nat.le_refl _) _
        generalize hwA : w9.alloc (.cells #[.string ⟨#[]⟩, .slice none 0 0] 25) = wA
        have yA : Whole wA w9.heap.size 25 #[.string ⟨#[]⟩, .slice none 0 0] := by rw [← hwA]; exact Whole.made _ _ _
        have hbA : Below w9.heap.size w9 wA := by rw [← hwA]; exact (Below.refl _ _).alloc (Nat.le_refl _) _
        have c0 : wA.cell? ⟨w9.heap.size, 0, none⟩ = some (.string ⟨#[]⟩) := yA.at_ 0
        have c1 : wA.cell? ⟨w9.heap.size, 1, none⟩ = some (.slice none 0 0) := yA.at_ 1
        have f0 := yA.free 0
        have f1 := yA.free 1
        have HGOK := Lib.hid hgok
        have HGCH : Hid (gv.ch = wantC (getA (ts.map AT.ch) s.data.toList)) := hgch
        clear hgok hgch
        go_wp2_with fail
        generalize hw10 : (wA.setCell ⟨w9.heap.size, 0, none⟩ (.string ⟨#[]⟩)).setCell ⟨w9.heap.size, 1, none⟩ (.slice none 0 0) = w10
        have y10 : Whole w10 w9.heap.size 25 #[.string ⟨#[]⟩, .slice none 0 0] := by rw [← hw10]; exact (yA.put 0 _).put 1 _
        have hb10 : Below w9.heap.size w9 w10 := by rw [← hw10]; exact (hbA.setCell (p := ⟨w9.heap.size, 0, none⟩) (Nat.le_refl _) _).setCell (p := ⟨w9.heap.size, 1, none⟩) (Nat.le_refl _) _
        clear hw9 hwA hw10 yA hbA c0 c1 f0 f1
        have hb810 := below_next hb9 (Nat.le_refl _) hb10
        have hbr10 := below_next hb8 (Nat.le_refl _) hb810
        refine (attPlace_any L n c ts s w10 (HLR.out _ hbr10).1 HN.out (by omega)).mono ?_
        rintro e w11 ⟨rfl, hb11⟩
        have hbr11 := below_next hbr10 (Nat.le_refl _) hb11
        have hz8 := hb8.size
        have hzz9 := hb9.size
        have hzz10 := hb10.size
        have hz11 := hb11.size
        have HY11 := Lib.hid (y10.below hb11 y10.lt)
        have HV11 := Lib.hid ((y9.below hb10 y9.lt).below hb11 (by have := y9.lt; omega))
        have HB811 := Lib.hid (below_next hb810 (Nat.le_refl _) hb11)
        have hy9l := y9.lt
        have hy10l := y10.lt
        have HBR11 := Lib.hid hbr11
        clear hb810 hb8 hb9 hb10 hb11 y9 y10 hbr10 hbr11
        go_upto_if 85 with (fail)
        go_cut [15] (fun _ wx => (∃ u : LT, Whole wx w9.heap.size 25 #[.string u.s, .slice u.A u.n u.c] ∧ u.ok w w.heap.size ∧ u.ch = wantC (getA (ts.map AT.ch) s.data.toList)) ∧ Below w9.heap.size w11 wx)
        case first =>
          by_cases hp : placeN (ts.map AT.ch) s.data.toList < n
          · have HPI : Hid (plI (ts.map AT.ch) s.data.toList = (placeN (ts.map AT.ch) s.data.toList : Int)) := by show _ = _; unfold plI; rw [if_pos (by rw [HLN.out]; exact hp)]
            have HGA : Hid (getA (ts.map AT.ch) s.data.toList = (ts.map AT.ch)[placeN (ts.map AT.ch) s.data.toList]?) := rfl
            rw [HPI.out]
            generalize placeN (ts.map AT.ch) s.data.toList = j at *
            obtain ⟨ad, t, rfl, hbA, e0, e1, e2, e3, HR⟩ := (HLR.out _ HBR11.out).1.att (k := j) (by rw [HN.out]; exact hp)
            have hj0 : (0 : Int) ≤ (j : Int) := Int.natCast_nonneg _
            have hj1 : (j : Int) < (n : Int) := by omega
            have g0 := HY11.out.free 0
            have g1 := HY11.out.free 1
            have k0 : w11.cell? ⟨w9.heap.size, 0, none⟩ = some (.string ⟨#[]⟩) := HY11.out.at_ 0
            have k1 : w11.cell? ⟨w9.heap.size, 1, none⟩ = some (.slice none 0 0) := HY11.out.at_ 1
            have HTO := Lib.hid ((HOK.out.get HR.out).2)
            have HTC : Hid (t.vl.ch = wantC ((ts.map AT.ch)[j]?)) := by show _ = _; rw [chs_at HR.out]; rfl
            go_wp2_with fail
            go_meet
            refine ⟨⟨t.vl, (HY11.out.put 0 _).put 1 _, HTO.out, by rw [HGA.out]; exact HTC.out⟩, ?_⟩
            exact ((Below.refl _ _).setCell (p := ⟨w9.heap.size, 0, none⟩) (Nat.le_refl _) _).setCell (p := ⟨w9.heap.size, 1, none⟩) (Nat.le_refl _) _
          · have HPI : Hid (plI (ts.map AT.ch) s.data.toList = -1) := by show _ = _; unfold plI; rw [if_neg (by rw [HLN.out]; exact hp)]
            have HGA : Hid (getA (ts.map AT.ch) s.data.toList = none) := by show _ = _; unfold getA; exact List.getElem?_eq_none (by rw [HLN.out]; omega)
            rw [HPI.out]
            clear hp
            go_wp2_with fail
            go_meet
            exact ⟨⟨noLT, HY11.out, noLT_ok _ _, by rw [HGA.out]; rfl⟩, Below.refl _ _⟩
        case rest =>
          obtain ⟨⟨u, hWu, huok, huch⟩, hbx⟩ := hcut
          have hbrx : Below we.heap.size we wc := HBR11.out.trans (hbx.mono (by omega))
          have hzx := hbx.size
          have hbwx : Below w.heap.size w wc := below_next HBR.out (Nat.le_refl _) hbrx
          have HGX := Lib.hid (HGOK.out.next (HB811.out.trans (hbx.mono (by omega))) (Nat.le_refl _))
          have HUX := Lib.hid (huok.next hbwx (Nat.le_refl _))
          have HEQ : Hid (gv.ch = u.ch) := HGCH.out.trans huch.symm
          have HBX := Lib.hid hbrx
          have HBWX := Lib.hid hbwx
          have yv := HV11.out.below hbx (by omega)
          have yr := HYR.out.below hbrx HYR.out.lt
          have KS : Hid (∀ W, Below wc.heap.size wc W → (W.cell? ⟨w.heap.size, 0, none⟩ = some (.string a.nm.s) ∧ W.cell? ⟨w.heap.size, 1, none⟩ = some (.slice a.nm.A a.nm.n a.nm.c) ∧ W.cell? ⟨w.heap.size, 2, none⟩ = some (.string a.vl.s) ∧ W.cell? ⟨w.heap.size, 3, none⟩ = some (.slice a.vl.A a.vl.n a.vl.c)) ∧
              (W.cell? ⟨w8.heap.size, 0, none⟩ = some (.string gv.s) ∧ W.cell? ⟨w8.heap.size, 1, none⟩ = some (.slice gv.A gv.n gv.c)) ∧ (W.cell? ⟨w9.heap.size, 0, none⟩ = some (.string u.s) ∧ W.cell? ⟨w9.heap.size, 1, none⟩ = some (.slice u.A u.n u.c))) := fun W h =>
            ⟨⟨(yr.below h yr.lt).at_ 0, (yr.below h yr.lt).at_ 1, (yr.below h yr.lt).at_ 2, (yr.below h yr.lt).at_ 3⟩, ⟨(yv.below h yv.lt).at_ 0, (yv.below h yv.lt).at_ 1⟩, ⟨(hWu.below h hWu.lt).at_ 0, (hWu.below h hWu.lt).at_ 1⟩⟩
          obtain ⟨⟨e0, e1, e2, e3⟩, _, _⟩ := KS.out wc (Below.refl _ _)
          clear hbrx hbwx hbx hWu huok huch yv yr
          obtain ⟨wg, rfl⟩ : ∃ wg : World, wg = wc := ⟨_, rfl⟩
          go_wp2_with fail
          refine (put_any L n c ts a wg (HLR.out _ HBX.out).1 (HLR.out _ HBX.out).2.1 HN.out (by omega) (HLR.out _ HBX.out).2.2).mono ?_
          rintro e wa ⟨Aa, ca, xs1, rfl, ho1, hk1, hq1, hba⟩
          have HE1 : Hid (xs1.map AT.ch = ps.map AT.ch) := hq1.trans HQ7.out.symm
          have HO1 := Lib.hid ho1
          have HK1 := Lib.hid hk1
          have hzz : xs1.length = zp := by have h1 := congrArg List.length HE1.out; rw [List.length_map, List.length_map] at h1; rw [h1]; exact HZP.out
          rw [hzz] at HO1 ⊢
          have HZZ := Lib.hid hzz
          have HBA := Lib.hid (below_next HBX.out (Nat.le_refl _) hba)
          have HBG := Lib.hid hba
          clear ho1 hk1 hq1 hzz hba e0 e1 e2 e3
          go_wp2_with fail
          refine (plainAttrs_any Aa zp ca xs1 A7 zp c7 ps wa (Lies.own HO1.out) HK1.out.ok HZZ.out (by omega) (HP7.out _ HBA.out).1 (HP7.out _ HBA.out).2 HZP.out).mono ?_
          rw [decide_eq_true HE1.out]
          rintro e wb ⟨rfl, hbb⟩
          have HBB := Lib.hid (below_next HBA.out (Nat.le_refl _) hbb)
          have HBGB := Lib.hid (below_next HBG.out (Nat.le_refl _) hbb)
          clear hbb
          go_wp2_with fail
          refine (drop_any L n c ts s wb (HLR.out _ HBB.out).1 (HLR.out _ HBB.out).2.1 HN.out (by omega)).mono ?_
          rintro e wh ⟨Ah, ch, xs2, rfl, ho2, hk2, hq2, hbh⟩
          have HE2 : Hid (xs2.map AT.ch = us.map AT.ch) := hq2.trans HQ9.out.symm
          have HO2 := Lib.hid ho2
          have HK2 := Lib.hid hk2
          have hzz : xs2.length = z9 := by have h1 := congrArg List.length HE2.out; rw [List.length_map, List.length_map] at h1; rw [h1]; exact HZ9.out
          rw [hzz] at HO2 ⊢
          have HZZ2 := Lib.hid hzz
          have HBH := Lib.hid (below_next HBB.out (Nat.le_refl _) hbh)
          have HBGH := Lib.hid (below_next HBGB.out (Nat.le_refl _) hbh)
          clear ho2 hk2 hq2 hzz hbh
          go_wp2_with fail
          refine (plainAttrs_any Ah z9 ch xs2 A9 z9 c9 us wh (Lies.own HO2.out) HK2.out.ok HZZ2.out (by omega) (HP9.out _ HBH.out).1 (HP9.out _ HBH.out).2 HZ9.out).mono ?_
          rw [decide_eq_true HE2.out]
          rintro e wj ⟨rfl, hbj⟩
          have HBJ := Lib.hid (below_next HBH.out (Nat.le_refl _) hbj)
          have HBGJ := Lib.hid (below_next HBGH.out (Nat.le_refl _) hbj)
          clear hbj
          go_wp2_with fail
          refine (once_any L n c ts wj (HLR.out _ HBJ.out).1 (HLR.out _ HBJ.out).2.1 HN.out (by omega)).mono ?_
          rintro e wk ⟨Ak, ck, xs3, rfl, ho3, hk3, hq3, hbk⟩
          have HE3 : Hid (xs3.map AT.ch = vs.map AT.ch) := hq3.trans HQ10.out.symm
          have HO3 := Lib.hid ho3
          have HK3 := Lib.hid hk3
          have hzz : xs3.length = z10 := by have h1 := congrArg List.length HE3.out; rw [List.length_map, List.length_map] at h1; rw [h1]; exact HZ10.out
          rw [hzz] at HO3 ⊢
          have HZZ3 := Lib.hid hzz
          have HBK := Lib.hid (below_next HBJ.out (Nat.le_refl _) hbk)
          have HBGK := Lib.hid (below_next HBGJ.out (Nat.le_refl _) hbk)
          clear ho3 hk3 hq3 hzz hbk
          go_wp2_with fail
          refine (plainAttrs_any Ak z10 ck xs3 A10 z10 c10 vs wk (Lies.own HO3.out) HK3.out.ok HZZ3.out (by omega) (HP10.out _ HBK.out).1 (HP10.out _ HBK.out).2 HZ10.out).mono ?_
          rw [decide_eq_true HE3.out]
          rintro e wl ⟨rfl, hbl⟩
          have HBL := Lib.hid (below_next HBK.out (Nat.le_refl _) hbl)
          have HBGL := Lib.hid (below_next HBGK.out (Nat.le_refl _) hbl)
          clear hbl
          go_wp2_with fail
          refine (attPlace_any L n c ts s wl (HLR.out _ HBL.out).1 HN.out (by omega)).mono ?_
          rcases getA_plI (ts.map AT.ch) s.data.toList with ⟨j, h1, h2⟩ | ⟨h1, h2⟩
          · obtain rfl : true = b := h2.symm.trans HBQ.out
            rw [h1]
            rintro e wm ⟨rfl, hbm⟩
            have hj0 : (0 : Int) ≤ (j : Int) := Int.natCast_nonneg _
            have hbgm := below_next HBGL.out (Nat.le_refl _) hbm
            obtain ⟨_, ⟨k0, k1⟩, ⟨k2, k3⟩⟩ := KS.out _ hbgm
            have HXG := Lib.hid (HGX.out.next hbgm (Nat.le_refl _))
            have HXU := Lib.hid (HUX.out.next hbgm (Nat.le_refl _))
            have HBM := Lib.hid (below_next HBWX.out (Nat.le_refl _) hbgm)
            clear hbm hbgm h1 h2
            go_wp2_with fail
            refine (plainStr_any gv u wm HXG.out HXU.out).mono ?_
            rw [decide_eq_true HEQ.out]
            rintro e wn ⟨rfl, hbn⟩
            go_wp2_with fail
            go_ret
            exact ⟨rfl, below_next HBM.out (Nat.le_refl _) hbn⟩
          · obtain rfl : false = b := h2.symm.trans HBQ.out
            rw [h1]
            rintro e wm ⟨rfl, hbm⟩
            have hbgm := below_next HBGL.out (Nat.le_refl _) hbm
            obtain ⟨_, ⟨k0, k1⟩, ⟨k2, k3⟩⟩ := KS.out _ hbgm
            have HXG := Lib.hid (HGX.out.next hbgm (Nat.le_refl _))
            have HXU := Lib.hid (HUX.out.next hbgm (Nat.le_refl _))
            have HBM := Lib.hid (below_next HBWX.out (Nat.le_refl _) hbgm)
            clear hbm hbgm h1 h2
            go_wp2_with fail
            refine (plainStr_any gv u wm HXG.out HXU.out).mono ?_
            rw [decide_eq_true HEQ.out]
            rintro e wn ⟨rfl, hbn⟩
            go_wp2_with fail
            go_ret
            exact ⟨rfl, below_next HBM.out (Nat.le_refl _) hbn⟩

end Go.Proofs.Ythckecfjghjnjaa.mk
