/-
  The contract of seek's Join.
-/
import Derived.Test.YtboenjmhmlfmcaaSeekSplit
namespace Go.Proofs.Ytboenjmhmlfmcaa.mk
open Go.RowKit

/-- one behind the other, with b between -/
def weave {α : Type} (b : α) : List α → List α
  | [] => []
  | x :: xs => x :: xs.flatMap fun y => [b, y]
theorem weave_one {α : Type} (b x : α) : weave b [x] = [x] := rfl
theorem weave_snoc {α : Type} (b y : α) {l : List α} (h : l ≠ []) : weave b (l ++ [y]) = weave b l ++ [b] ++ [y] := by
  cases l with
  | nil => exact absurd rfl h
  | cons x xs => simp [weave]
theorem weave_length {α : Type} (b : α) (l : List α) : (weave b l).length ≤ 2 * l.length := by
  cases l with
  | nil => simp [weave]
  | cons x xs =>
    have : (xs.flatMap fun y => [b, y]).length = 2 * xs.length := by
      induction xs with
      | nil => rfl
      | cons y ys ih => simp only [List.flatMap_cons, List.length_append, List.length_cons, List.length_nil, ih]; omega
    simp only [weave, List.length_cons, this]
    omega
theorem weave_mem {α : Type} {b : α} {l : List α} {x : α} (h : x ∈ weave b l) : x = b ∨ x ∈ l := by
  cases l with
  | nil => simp [weave] at h
  | cons y ys =>
    simp only [weave, List.mem_cons, List.mem_flatMap, List.not_mem_nil, or_false] at h
    rcases h with rfl | ⟨z, hz, rfl | rfl⟩
    · exact .inr (by simp)
    · exact .inl rfl
    · exact .inr (by simp [hz])
theorem weave_map {α β : Type} (g : α → β) (b : α) (l : List α) : (weave b l).map g = weave (g b) (l.map g) := by
  cases l with
  | nil => rfl
  | cons x xs =>
    simp only [weave, List.map_cons]
    congr 1
    induction xs with
    | nil => rfl
    | cons y ys ih => simp only [List.flatMap_cons, List.map_append, List.map_cons, List.map_nil, ih]
theorem catOs_map (ts : List LT) : catOs ts = (ts.map LT.os).flatten := by simp [catOs, List.flatMap]
theorem catBs_map (ts : List LT) : catBs ts = (ts.map LT.bs).flatten := by simp [catBs, List.flatMap]

def JoinRel (ts : List LT) (b : LT) (w0 : World) (v i : Value) (wr : World) : Prop :=
  ∃ k : Nat, k ≤ ts.length ∧ i = .int .i64 (k : Int) ∧ wr.ownsRow w0.heap.size 24 2 v (weave b (ts.take k)).length (ltCells (weave b (ts.take k))) ∧ Below w0.heap.size w0 wr

theorem weave_take {b t : LT} {ts : List LT} {k : Nat} (h : ts[k]? = some t) : weave b (ts.take (k + 1)) = if k = 0 then [t] else weave b (ts.take k) ++ [b] ++ [t] := by
  have hk : k < ts.length := (List.getElem?_eq_some_iff.1 h).1
  rw [take_next h]
  split
  · rename_i h0; subst h0; rfl
  · rename_i h0
    refine weave_snoc b t (fun e => ?_)
    have := congrArg List.length e
    rw [List.length_take, List.length_nil] at this
    omega

theorem cells_new2 (w : World) (t t2 : TypeId) (c2 : Array Value) (cs : List Value) : ∀ j u, cs[j]? = some u → ((w.alloc (.cells c2 t2)).alloc (.cells cs.toArray t)).cell? ((⟨w.heap.size + 1, 0, none⟩ : Addr).add j) = some u := by
  have h := cells_new (w.alloc (.cells c2 t2)) t cs
  simp only [World.size_alloc] at h
  exact h

set_option maxHeartbeats 2000000 in
set_option maxRecDepth 100000 in
theorem seekJoin_any (L : Option Addr) (m c : Nat) (ts : List LT) (b : LT) (w : World) (hl : Lies w w.heap.size L (ltCells ts)) (hm : ts.length = m) (hm2 : m ≤ 1073741824) (hok : ∀ t ∈ ts, t.ok w w.heap.size) (hb : b.ok w w.heap.size) (hsz : (catOs (weave b ts)).length ≤ 4294967296) :
    Calls Try.prog 18 #[.slice L m c, b.v] w (Tells ⟨(catBs (weave b ts)).toArray⟩ (comp (catOs (weave b ts))) w) := by
  obtain ⟨i0, hi, hz0, hz1, hz2⟩ := info_parts str_info
  obtain ⟨s, A, n, cb, rs⟩ := b
  obtain ⟨hb1, hb2, hb3, hb4⟩ := hb
  simp only at hb1 hb2 hb3 hb4
  have HM := Lib.hid hm
  have HN := Lib.hid hb2
  have HOK := Lib.hid hok
  have HSZ := Lib.hid hsz
  clear hm hb2 hok hsz
  unfold LT.v
  go_enter Try.func18, Try.ntmps18
  go_wp2_with fail
  generalize hw0 : (w.alloc (.cells #[.string s, .slice A n cb] 24)).alloc (.cells #[.string ⟨#[]⟩, .slice none 0 0] 24) = w0
  have y0 : Whole w0 w.heap.size 24 #[.string s, .slice A n cb] := by rw [← hw0]; exact (Whole.made w _ _).alloc _
  have y1 : Whole w0 (w.heap.size + 1) 24 #[.string ⟨#[]⟩, .slice none 0 0] := by
    rw [← hw0]
    have h := Whole.made (w.alloc (.cells #[.string s, .slice A n cb] 24)) 24 #[.string ⟨#[]⟩, .slice none 0 0]
    simp only [World.size_alloc] at h
    exact h
  have hz0' : w0.heap.size = w.heap.size + 2 := by rw [← hw0]; simp
  have hb0 : Below w.heap.size w w0 := by rw [← hw0]; exact ((Below.refl _ _).alloc (Nat.le_refl _) _).alloc (by simp) _
  have HZ0 := Lib.hid hz0'
  clear hw0 hz0'
  refine (fix_any s A n cb rs w0 (hb1.next hb0 (Nat.le_refl _)) HN.out hb4 hb3).mono ?_
  rintro e w2 ⟨v2, rfl, hown2, hbF⟩
  obtain ⟨A2, c2, rfl, _, _, _⟩ := own_form hown2
  have hzF := hbF.size
  rw [HZ0.out] at hzF
  have y0' := y0.below hbF y0.lt
  have y1' := y1.below hbF y1.lt
  have fz0 := y0'.free 0
  have fz1 := y0'.free 1
  have k0 : w2.cell? ⟨w.heap.size, 0, none⟩ = some (.string s) := y0'.at_ 0
  have k1 : w2.cell? ⟨w.heap.size, 1, none⟩ = some (.slice A n cb) := y0'.at_ 1
  have hlt2 := hown2.lt
  have HQG : Hid (Good (taken s.size rs)) := Good.comp (origins_in _ _)
  have HQE : Hid (origins s.size (taken s.size rs) = origins s.size rs) := by
    show _ = _
    have he : expand (taken s.size rs) = origins s.size rs := expand_comp _
    rw [origins_good HQG.out (by rw [he, origins_length]), he]
  have hql : (taken s.size rs).length ≤ s.size := by have := comp_length_le (origins s.size rs); rw [origins_length] at this; exact this
  have HO2 := Lib.hid hown2
  clear hown2
  generalize hq : taken s.size rs = q at *
  clear hq
  go_wp2_with fail
  generalize hwB : (w2.setCell ⟨w.heap.size, 0, none⟩ (.string s)).setCell ⟨w.heap.size, 1, none⟩ (.slice A2 q.length c2) = wB
  have z0 : Whole wB w.heap.size 24 #[.string s, .slice A2 q.length c2] := by rw [← hwB]; exact (y0'.put 0 _).put 1 _
  have z1 : Whole wB (w.heap.size + 1) 24 #[.string ⟨#[]⟩, .slice none 0 0] := by rw [← hwB]; exact (y1'.far ⟨w.heap.size, 0, none⟩ (by simp) _).far ⟨w.heap.size, 1, none⟩ (by simp) _
  have hbB : Below w.heap.size w wB := by
    rw [← hwB]
    exact ((hb0.trans (hbF.mono (by have := HZ0.out; omega))).setCell (p := ⟨w.heap.size, 0, none⟩) (Nat.le_refl _) _).setCell (p := ⟨w.heap.size, 1, none⟩) (Nat.le_refl _) _
  have hzB : w.heap.size + 2 ≤ wB.heap.size := by rw [← hwB]; simpa using hzF
  have HOQ : Hid (Lies wB wB.heap.size A2 (runCells q)) := by
    have h := own_far (own_far HO2.out ⟨w.heap.size, 0, none⟩ (fun e => absurd (HO2.out.lt _ e).1 (by rw [HZ0.out]; show ¬ (w.heap.size + 2 ≤ w.heap.size); omega)) (.string s)) ⟨w.heap.size, 1, none⟩ (fun e => absurd (HO2.out.lt _ e).1 (by rw [HZ0.out]; show ¬ (w.heap.size + 2 ≤ w.heap.size); omega)) (.slice A2 q.length c2)
    rw [hwB] at h
    exact Lies.own h
  have HLB := Lib.hid (hl.next hbB (Nat.le_refl _))
  have HOK2 : Hid (∀ t ∈ ts, t.ok wB wB.heap.size) := fun t ht => (HOK.out t ht).next hbB (Nat.le_refl _)
  clear hwB y0' y1' fz0 fz1 k0 k1 hlt2 hl hb1 y0 y1
  obtain ⟨bt, hbt⟩ : ∃ bt : LT, bt = ⟨s, A2, q.length, c2, q⟩ := ⟨_, rfl⟩
  have HBT := Lib.hid hbt
  clear hbt
  have HBO : Hid (∀ w', Below wB.heap.size wB w' → bt.ok w' w'.heap.size) := fun w' h => by
    rw [HBT.out]
    exact ⟨HOQ.out.next h (Nat.le_refl _), rfl, by show q.length ≤ _; omega, hb4⟩
  have HBC : Hid (bt.s = s ∧ bt.A = A2 ∧ bt.n = q.length ∧ bt.c = c2) := by show _ ∧ _; rw [HBT.out]; exact ⟨rfl, rfl, rfl, rfl⟩
  go_loopw [5, 12] (JoinRel ts bt wB) (fun _ i _ => m - (intOf i).toNat)
  case atStart => exact ⟨0, Nat.zero_le _, rfl, World.ownsRow_nil _ _ _ _, Below.refl _ _⟩
  case round =>
    obtain ⟨k, hk, rfl, hown, hbl⟩ := hrel
    rw [HM.out] at hk
    have hws := hbl.size
    have hwl := weave_length bt (ts.take k)
    rw [List.length_take, HM.out] at hwl
    by_cases hlt : k < m
    · obtain ⟨ad, t, rfl, hbA, hd1, hd2, HR⟩ := (HLB.out.below hbl).lt (k := k) (by rw [HM.out]; exact hlt)
      have HWT := Lib.hid (weave_take (b := bt) HR.out)
      have zr := z0.below hbl (by omega)
      have e0 : wr.cell? ⟨w.heap.size, 0, none⟩ = some (.string s) := zr.at_ 0
      have e1 : wr.cell? ⟨w.heap.size, 1, none⟩ = some (.slice A2 q.length c2) := zr.at_ 1
      obtain ⟨A4, d4, rfl, _, _, _⟩ := own_form hown
      have HW0 : Hid (k = 0 → weave bt (ts.take k) = []) := fun h => by subst h; rfl
      generalize hwv : weave bt (ts.take k) = wv at *
      clear hwv
      generalize hz : wv.length = z at *
      have HZ := Lib.hid hz
      clear hz
      by_cases hk0 : k = 0
      · have HWN : Hid (weave bt (ts.take (k + 1)) = [t]) := by show _ = _; rw [HWT.out, if_pos hk0]
        have HWE := Lib.hid (HW0.out hk0)
        have hki : ¬ (0 : Int) < (k : Int) := by omega
        clear hk0
        go_wp2_with (at_builtin; refine wpList_append_own_at _ rfl _ _ 34 rfl wB.heap.size 24 i0 _ 2 40 Try.underlying34 hi hz0 hz1 hz2 rfl (by decide) (.slice A4 z d4) z _ rfl ((hown.alloc _).alloc _) ⟨wr.heap.size + 1, 0, none⟩ 1 1 [.string t.s, .slice t.A t.n t.c] rfl rfl (cells_new2 wr _ _ _ _) (by simp [Value.oneCell']) (by simp only [maxLen]; omega) (by omega) (by simp; omega) ?_)
        intro v' w5 hown5 hgrow _ _
        obtain ⟨A5, d5, rfl, _, _, _⟩ := own_form hown5
        have HB5 := Lib.hid (((hbl.alloc hws (.cells #[.string t.s, .slice t.A t.n t.c] 24)).alloc (by simp; omega) (.cells #[.string t.s, .slice t.A t.n t.c] 24)).grown hgrow (by simp; omega) (fun x hx => (hown.lt x hx).1))
        have HO5 : Hid (w5.ownsRow wB.heap.size 24 2 (.slice A5 (z + 1) d5) (weave bt (ts.take (k + 1))).length (ltCells (weave bt (ts.take (k + 1))))) := by
          show w5.ownsRow _ _ _ _ _ _
          have h := hown5
          rw [← ltCells_snoc, HWE.out] at h
          rw [HWN.out]
          have hz' := HZ.out
          rw [HWE.out] at hz'
          rw [← hz'] at h ⊢
          exact h
        clear hgrow hown5
        go_wp2_with fail
        go_roundw
        case rel => exact ⟨k + 1, by rw [HM.out]; omega, by go_num, HO5.out, HB5.out⟩
        case measure => simp [intOf]; omega
      · have HWN : Hid (weave bt (ts.take (k + 1)) = wv ++ [bt] ++ [t]) := by show _ = _; rw [HWT.out, if_neg hk0]
        have hki : (0 : Int) < (k : Int) := by omega
        clear hk0
        have hneb : w.heap.size ≠ wr.heap.size := by omega
        have e0' : (wr.alloc (.cells #[.string t.s, .slice t.A t.n t.c] 24)).cell? ⟨w.heap.size, 0, none⟩ = some (.string s) := (zr.alloc _).at_ 0
        have e1' : (wr.alloc (.cells #[.string t.s, .slice t.A t.n t.c] 24)).cell? ⟨w.heap.size, 1, none⟩ = some (.slice A2 q.length c2) := (zr.alloc _).at_ 1
        go_wp2_with (at_builtin; refine wpList_append_own_at _ rfl _ _ 34 rfl wB.heap.size 24 i0 _ 2 40 Try.underlying34 hi hz0 hz1 hz2 rfl (by decide) (.slice A4 z d4) z _ rfl ((hown.alloc _).alloc _) ⟨wr.heap.size + 1, 0, none⟩ 1 1 [.string s, .slice A2 q.length c2] rfl rfl (cells_new2 wr _ _ _ _) (by simp [Value.oneCell']) (by simp only [maxLen]; omega) (by omega) (by simp; omega) ?_)
        intro v' w5 hown5 hgrow _ _
        obtain ⟨A5, d5, rfl, _, _, _⟩ := own_form hown5
        have hb5 := (((hbl.alloc hws (.cells #[.string t.s, .slice t.A t.n t.c] 24)).alloc (by simp; omega) (.cells #[.string s, .slice A2 q.length c2] 24)).grown hgrow (by simp; omega) (fun x hx => (hown.lt x hx).1))
        have ht7 : Whole w5 wr.heap.size 24 #[.string t.s, .slice t.A t.n t.c] := ((Whole.made wr _ _).alloc _).grown hgrow (fun e => by have := (hown.lt _ e.symm).2; omega)
        have g0 : w5.cell? ⟨wr.heap.size, 0, none⟩ = some (.string t.s) := ht7.at_ 0
        have g1 : w5.cell? ⟨wr.heap.size, 1, none⟩ = some (.slice t.A t.n t.c) := ht7.at_ 1
        have hws5 := hb5.size
        clear hgrow
        go_wp2_with (at_builtin; refine wpList_append_own_at _ rfl _ _ 34 rfl wB.heap.size 24 i0 _ 2 40 Try.underlying34 hi hz0 hz1 hz2 rfl (by decide) (.slice A5 (z + 1) d5) (z + 1) _ rfl (hown5.alloc _) ⟨w5.heap.size, 0, none⟩ 1 1 [.string t.s, .slice t.A t.n t.c] rfl rfl (cells_new w5 _ _) (by simp [Value.oneCell']) (by simp only [maxLen]; omega) (by omega) (by simp; omega) ?_)
        intro v' w6 hown6 hgrow _ _
        obtain ⟨A6, d6, rfl, _, _, _⟩ := own_form hown6
        have HB6 := Lib.hid ((hb5.alloc hws5 (.cells #[.string t.s, .slice t.A t.n t.c] 24)).grown hgrow (by simp; omega) (fun x hx => (hown5.lt x hx).1))
        have HO6 : Hid (w6.ownsRow wB.heap.size 24 2 (.slice A6 (z + 1 + 1) d6) (weave bt (ts.take (k + 1))).length (ltCells (weave bt (ts.take (k + 1))))) := by
          show w6.ownsRow _ _ _ _ _ _
          have h := hown6
          obtain ⟨q1, q2, q3, q4⟩ := HBC.out
          rw [← q1, ← q2, ← q3, ← q4] at h
          have e9 : ltCells (wv ++ [bt] ++ [t]) = ltCells wv ++ [.string bt.s, .slice bt.A bt.n bt.c, .string t.s, .slice t.A t.n t.c] := by simp [ltCells]
          rw [HWN.out, e9, List.length_append, List.length_append, HZ.out]
          exact h
        clear hgrow hown6 hown5
        go_wp2_with fail
        go_roundw
        case rel => exact ⟨k + 1, by rw [HM.out]; omega, by go_num, HO6.out, HB6.out⟩
        case measure => simp [intOf]; omega
    · have hkm : k = ts.length := by rw [HM.out]; omega
      rw [List.take_of_length_le (by rw [HM.out]; omega)] at hown hwl
      have HOSL : Hid (bt.os = LT.os ⟨s, A, n, cb, rs⟩) := by show _ = _; rw [HBT.out]; exact HQE.out
      have HBSL : Hid (bt.bs = LT.bs ⟨s, A, n, cb, rs⟩) := by show _ = _; rw [HBT.out]; rfl
      have HCO : Hid (catOs (weave bt ts) = catOs (weave ⟨s, A, n, cb, rs⟩ ts)) := by show _ = _; rw [catOs_map, catOs_map, weave_map, weave_map, HOSL.out]
      have HCB : Hid (catBs (weave bt ts) = catBs (weave ⟨s, A, n, cb, rs⟩ ts)) := by show _ = _; rw [catBs_map, catBs_map, weave_map, weave_map, HBSL.out]
      have HZ9 := Lib.hid hkm
      clear hkm
      have z1r := z1.below hbl (by omega)
      obtain ⟨A4, d4, rfl, _, _, _⟩ := own_form hown
      have hwl2 : (weave bt ts).length ≤ 4294967296 := by omega
      have HOK4 : Hid (∀ t ∈ weave bt ts, t.ok wr wr.heap.size) := fun t ht => by
        rcases weave_mem ht with rfl | h
        · exact HBO.out _ hbl
        · exact (HOK2.out t h).next hbl (Nat.le_refl _)
      go_wp2_with fail
      refine (cat_any A4 (weave bt ts).length d4 (weave bt ts) wr (Lies.own hown) rfl hwl2 HOK4.out (by rw [HCO.out]; exact HSZ.out)).mono ?_
      rw [HCO.out, HCB.out]
      rintro e w7 ⟨v7, rfl, h7, hb7⟩
      obtain ⟨A7, d7, rfl, _, _, _⟩ := own_form h7
      have hW7 := z1r.below hb7 (by omega)
      have f0 := hW7.free 0
      have f1 := hW7.free 1
      have c0 : w7.cell? ⟨w.heap.size + 1, 0, none⟩ = some (.string ⟨#[]⟩) := hW7.at_ 0
      have c1 : w7.cell? ⟨w.heap.size + 1, 1, none⟩ = some (.slice none 0 0) := hW7.at_ 1
      have HO := Lib.hid h7
      clear h7 hown
      generalize hr : comp (catOs (weave ⟨s, A, n, cb, rs⟩ ts)) = res at *
      generalize hr2 : catBs (weave ⟨s, A, n, cb, rs⟩ ts) = rbs at *
      have HR1 := Lib.hid hr
      have HR2 := Lib.hid hr2
      clear hr hr2
      go_wp2
      refine bodyPost_ret (v := .agg #[.string ⟨rbs.toArray⟩, .slice A7 res.length d7]) ?_ rfl ?_
      · simp [results, Try.results18, go_sem, c0, c1]
      · exact tells_end (g := w.heap.size + 1) (Nat.le_succ _) (own_mono HO.out (by omega)) (below_next (hbB.trans (hbl.mono (by omega))) (Nat.le_refl _) hb7)

end Go.Proofs.Ytboenjmhmlfmcaa.mk
