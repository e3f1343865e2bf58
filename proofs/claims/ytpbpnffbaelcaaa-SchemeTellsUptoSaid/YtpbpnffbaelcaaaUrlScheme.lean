/-
  Contracts of url's Scheme and Rest.
-/
import Derived.Test.YtpbpnffbaelcaaaUrlReady
import Derived.Test.YtpbpnffbaelcaaaUrlColon
import Derived.Test.YtpbpnffbaelcaaaMarkCut
namespace Go.Proofs.Ytpbpnffbaelcaaa.mk
open Go.RowKit

/-- a labelled text, cut -/
theorem cut_t (a : LT) (f t : Int) (x y : Nat) (w : World) (ha : a.ok w w.heap.size) (hx : min (max f 0) (a.s.size : Int) = x) (hy : min (max t 0) (a.s.size : Int) = y) :
    Calls Try.prog 10 #[a.v, .int .i64 f, .int .i64 t] w (Tells (txtOf ((a.ch.take y).drop x)) (comp (((a.ch.take y).drop x).map (·.2))) w) := by
  have h := cut_any a.s a.A a.n a.c a.rs f t x y w ha.1 ha.2.1 ha.2.2.2 ha.2.2.1 hx hy
  have e1 : ((a.ch.take y).drop x).map (·.1) = (a.s.data.toList.take y).drop x := by
    rw [List.map_drop, List.map_take, LT.ch_fst]; rfl
  have e2 : ((a.ch.take y).drop x).map (·.2) = ((origins a.s.size a.rs).take y).drop x := by
    rw [List.map_drop, List.map_take, LT.ch_snd]; rfl
  unfold txtOf
  rw [e1, e2]
  exact h
/-- a labelled text, lower -/
theorem lower_t (a : LT) (w : World) (ha : a.ok w w.heap.size) :
    Calls Try.prog 18 #[a.v] w (Tells (txtOf (a.ch.map fun x => (lowB x.1, x.2))) (comp ((a.ch.map fun x => (lowB x.1, x.2)).map (·.2))) w) := by
  have h := lower_any a.s a.A a.n a.c a.rs w ha.1 ha.2.1 ha.2.2.2 ha.2.2.1
  have e1 : (a.ch.map fun x => (lowB x.1, x.2)).map (·.1) = a.s.data.toList.map lowB := by
    rw [List.map_map]
    show a.ch.map (lowB ∘ (·.1)) = _
    rw [← List.map_map, LT.ch_fst]; rfl
  have e2 : comp ((a.ch.map fun x => (lowB x.1, x.2)).map (·.2)) = taken a.s.size a.rs := by
    rw [List.map_map]
    show comp (a.ch.map (·.2)) = _
    rw [LT.ch_snd]; rfl
  unfold txtOf
  rw [e1, e2]
  exact h

/-- a labelled text, and whether -/
def TellsB (l : List (UInt8 × Int)) (b : Bool) (w : World) (e : Ending) (w' : World) : Prop :=
  ∃ D k, e = .returned (.tuple #[.agg #[.string (txtOf l), .slice D (runN l) k], .bool b]) ∧ Lies w' w'.heap.size D (runCells (comp (l.map (·.2)))) ∧ Below w.heap.size w w'
theorem lies_end {w w2 : World} {s : ByteArray} {rs : List (Int × Int)} {A : Option Addr} {n c : Nat} {g : Nat} (hg : w.heap.size ≤ g) (hn : rs.length = n) (hown : w2.ownsRow (g + 1) 42 2 (.slice A n c) n (runCells rs)) (hb : Below w.heap.size w w2) :
    Lies ((w2.setCell ⟨g, 0, none⟩ (.string s)).setCell ⟨g, 1, none⟩ (.slice A n c)) ((w2.setCell ⟨g, 0, none⟩ (.string s)).setCell ⟨g, 1, none⟩ (.slice A n c)).heap.size A (runCells rs) ∧ Below w.heap.size w ((w2.setCell ⟨g, 0, none⟩ (.string s)).setCell ⟨g, 1, none⟩ (.slice A n c)) := by
  subst hn
  obtain ⟨v, e, ho, hb'⟩ := tells_end (s := s) hg hown hb
  have e := Ending.returned.inj e
  simp only [Value.agg.injEq] at e
  have e' := congrArg Array.toList e
  simp only [List.cons.injEq, and_true, true_and] at e'
  subst e'
  exact ⟨Lies.own ho, hb'⟩

/-- what a region keeps that reads a variable of the call's own and stores its answer -/
structure VarKeep (t : ByteArray) (q : List (Int × Int)) (A : Option Addr) (c g gR : Nat) (wE w : World) : Prop where
  var : Whole w g 24 #[.string t, .slice A q.length c]
  own : w.ownsRow wE.heap.size 42 2 (.slice A q.length c) q.length (runCells q)
  res : ∃ x y, Whole w gR 24 #[x, y]
  bel : Below gR wE w
theorem VarKeep.drew {t : ByteArray} {q : List (Int × Int)} {A : Option Addr} {c g gR : Nat} {wE w : World} (h : VarKeep t q A c g gR wE w) : VarKeep t q A c g gR wE w.drew := ⟨h.var.drew, h.own, h.res, h.bel.drew⟩
theorem VarKeep.below {t : ByteArray} {q : List (Int × Int)} {A : Option Addr} {c g gR : Nat} {wE w w' : World} (h : VarKeep t q A c g gR wE w) (hz : gR ≤ wE.heap.size) (hb : Below w.heap.size w w') : VarKeep t q A c g gR wE w' := by
  obtain ⟨x, y, hr⟩ := h.res
  exact ⟨h.var.below hb h.var.lt, own_keep h.own hb, ⟨x, y, hr.below hb hr.lt⟩, below_next h.bel hz hb⟩
theorem VarKeep.put {t : ByteArray} {q : List (Int × Int)} {A : Option Addr} {c g gR : Nat} {wE w : World} (h : VarKeep t q A c g gR wE w) (hne : g ≠ gR) (hz : gR < wE.heap.size) (u v : Value) : VarKeep t q A c g gR wE ((w.setCell ⟨gR, 0, none⟩ u).setCell ⟨gR, 1, none⟩ v) := by
  obtain ⟨x, y, hr⟩ := h.res
  have hx : ∀ p : Addr, p.block = gR → (Value.slice A q.length c).ownBlock ≠ some p.block := fun p hp e => by
    have := (h.own.lt _ e).1
    omega
  exact ⟨(h.var.far _ hne _).far _ hne _, own_far (own_far h.own _ (hx _ rfl) _) _ (hx _ rfl) _, ⟨u, v, (hr.put 0 _).put 1 _⟩, (h.bel.setCell (p := ⟨gR, 0, none⟩) (Nat.le_refl _) _).setCell (p := ⟨gR, 1, none⟩) (Nat.le_refl _) _⟩
theorem VarKeep.base {t : ByteArray} {q : List (Int × Int)} {A : Option Addr} {c g gR n : Nat} {wE w : World} (h : VarKeep t q A c g gR wE w) (hz : n ≤ wE.heap.size) : n ≤ w.heap.size := Nat.le_trans hz h.bel.size
theorem VarKeep.cells {t : ByteArray} {q : List (Int × Int)} {A : Option Addr} {c g gR : Nat} {wE w : World} (h : VarKeep t q A c g gR wE w) : w.cell? ⟨g, 0, none⟩ = some (.string t) ∧ w.cell? ⟨g, 1, none⟩ = some (.slice A q.length c) ∧ VarKeep t q A c g gR wE w := ⟨h.var.at_ 0, h.var.at_ 1, h⟩

set_option maxHeartbeats 1000000 in
set_option maxRecDepth 100000 in
theorem scheme_any (a : LT) (w : World) (ha : a.ok w w.heap.size) :
    Calls Try.prog 7 #[a.v] w (TellsB (schemeL (readyL a.ch)) (decide (0 ≤ colonI (readyL a.ch))) w) := by
  have hsz := ha.2.2.2
  obtain ⟨R, hR⟩ : ∃ R, R = readyL a.ch := ⟨_, rfl⟩
  have hlenR : R.length ≤ 4294967296 := by rw [hR]; exact Nat.le_trans (readyL_length _) (by rw [LT.ch_length]; exact hsz)
  have hinR : InR R := by rw [hR]; exact readyL_in a.ch_in
  have HE : Hid (∀ W, Below w.heap.size w W → Calls Try.prog 8 #[.agg #[.string a.s, .slice a.A a.n a.c]] W (Tells (txtOf R) (comp (R.map (·.2))) W)) := fun W hb => by
    rw [hR]
    exact ready_any a W (ha.next hb (Nat.le_refl _))
  rw [← hR]
  clear hR hsz ha
  have hbd := colonI_bd R
  obtain ⟨i, hi⟩ : ∃ i, i = colonI R := ⟨_, rfl⟩
  have HC : Hid (∀ W, Calls Try.prog 17 #[.string (txtOf R)] W fun e W' => e = .returned (.int .i64 i) ∧ W = W') := fun W => by
    rw [hi]
    exact (colonOf_any (txtOf R) W (by rw [txtOf_size]; exact hlenR)).mono fun e W' ⟨he, hw⟩ => ⟨he, hw.symm⟩
  have HQ : Hid (0 ≤ i → ∀ W D k, Lies W W.heap.size D (runCells (comp (R.map (·.2)))) → Calls Try.prog 10 #[.agg #[.string (txtOf R), .slice D (comp (R.map (·.2))).length k], .int .i64 0, .int .i64 i] W (Tells (txtOf (R.take i.toNat)) (comp ((R.take i.toNat).map (·.2))) W)) := fun h0 W D k h => by
    have h2 := cut_t (toldT R D k) 0 i 0 i.toNat W (toldT_ok k h hlenR) (by show min (max (0 : Int) 0) _ = _; omega) (by show min (max i 0) ((txtOf R).size : Int) = _; rw [txtOf_size]; omega)
    rw [toldT_ch hinR, List.drop_zero] at h2
    exact h2
  have hlen2 : (R.take i.toNat).length ≤ 4294967296 := by rw [List.length_take]; omega
  have hin2 : InR (R.take i.toNat) := hinR.take _
  have hS : schemeL R = (R.take i.toNat).map fun x => (lowB x.1, x.2) := by unfold schemeL; rw [hi]
  have hS0 : i = -1 → schemeL R = [] := fun h => schemeL_none (by rw [← hi]; exact h)
  rw [← hi] at hbd ⊢
  generalize R.take i.toNat = R2 at *
  generalize schemeL R = S at *
  have HL : Hid (∀ W D k, Lies W W.heap.size D (runCells (comp (R2.map (·.2)))) → Calls Try.prog 18 #[.agg #[.string (txtOf R2), .slice D (comp (R2.map (·.2))).length k]] W (Tells (txtOf S) (comp (S.map (·.2))) W)) := fun W D k h => by
    have h2 := lower_t (toldT R2 D k) W (toldT_ok k h hlen2)
    rw [toldT_ch hin2] at h2
    rw [hS]
    exact h2
  have HS0 := Lib.hid hS0
  have HBD := Lib.hid hbd
  clear hi hlenR hinR hlen2 hin2 hS hS0 hbd
  generalize comp (R.map (·.2)) = q1 at *
  generalize comp (R2.map (·.2)) = q2 at *
  generalize txtOf R = t1 at *
  generalize txtOf R2 = t2 at *
  obtain ⟨s, A, n, c, rs⟩ := a
  simp only at HE
  show Calls Try.prog 7 #[.agg #[.string s, .slice A n c]] w _
  go_enter Try.func7, Try.ntmps7
  go_wp2_with fail
  generalize hwE : (w.alloc (.cells #[.string s, .slice A n c] 24)).alloc (.cells #[.string ⟨#[]⟩, .slice none 0 0] 24) = wE
  have y3 : Whole wE (w.heap.size + 1) 24 #[.string ⟨#[]⟩, .slice none 0 0] := by
    rw [← hwE]
    have h := Whole.made (w.alloc (.cells #[.string s, .slice A n c] 24)) 24 #[.string ⟨#[]⟩, .slice none 0 0]
    simp only [World.size_alloc] at h
    exact h
  have hzE : w.heap.size + 2 ≤ wE.heap.size := by rw [← hwE]; simp
  have hbE : Below w.heap.size w wE := by rw [← hwE]; exact ((Below.refl _ _).alloc (Nat.le_refl _) _).alloc (by simp) _
  clear hwE
  refine (HE.out _ hbE).mono ?_
  rintro e w1 ⟨v1, rfl, ho1, hb1⟩
  obtain ⟨A1, c1, rfl, _, _, _⟩ := own_form ho1
  have hz1 := hb1.size
  generalize hw2 : w1.alloc (.cells #[.string t1, .slice A1 q1.length c1] 24) = w2
  have hb12 : Below w1.heap.size w1 w2 := by rw [← hw2]; exact (Below.refl _ _).alloc (Nat.le_refl _) _
  have Y1 : Whole w2 w1.heap.size 24 #[.string t1, .slice A1 q1.length c1] := by rw [← hw2]; exact Whole.made _ _ _
  have L1 : Lies w2 w2.heap.size A1 (runCells q1) := (Lies.own ho1).next hb12 (Nat.le_refl _)
  have hbE2 : Below wE.heap.size wE w2 := below_next hb1 (Nat.le_refl _) hb12
  have e0 : w2.cell? ⟨w1.heap.size, 0, none⟩ = some (.string t1) := Y1.at_ 0
  have e1 : w2.cell? ⟨w1.heap.size, 1, none⟩ = some (.slice A1 q1.length c1) := Y1.at_ 1
  have HL1 := Lib.hid L1
  clear ho1 L1
  go_wp2_with fail
  refine (HC.out _).mono ?_
  rintro e w' ⟨rfl, rfl⟩
  by_cases hi : i < 0
  · have hW := y3.below hbE2 y3.lt
    have f0 := hW.free 0
    have f1 := hW.free 1
    have d0 : w2.cell? ⟨w.heap.size + 1, 0, none⟩ = some (.string ⟨#[]⟩) := hW.at_ 0
    have d1 : w2.cell? ⟨w.heap.size + 1, 1, none⟩ = some (.slice none 0 0) := hW.at_ 1
    go_wp2
    refine bodyPost_ret (v := .tuple #[.agg #[.string ⟨#[]⟩, .slice none 0 0], .bool false]) ?_ rfl ?_
    · simp [results, Try.results7, go_sem, d0, d1]
    · obtain ⟨h1, h2⟩ := lies_end (s := ⟨#[]⟩) (rs := []) (g := w.heap.size + 1) (by omega) rfl (World.ownsRow_nil _ _ _ _) (below_next hbE (Nat.le_refl _) hbE2)
      rw [HS0.out (by have := HBD.out; omega), show decide (0 ≤ i) = false by simp; omega]
      exact ⟨none, 0, rfl, h1, h2⟩
  · have h0 : 0 ≤ i := by omega
    go_wp2_with fail
    refine (HQ.out h0 _ A1 c1 HL1.out).mono ?_
    rintro e w3 ⟨v3, rfl, ho3, hb3⟩
    obtain ⟨A3, c3, rfl, _, _, _⟩ := own_form ho3
    have HL3 := Lib.hid (Lies.own ho3)
    have hz3 := hb3.size
    clear ho3 e0 e1
    go_wp2_with fail
    refine (HL.out _ A3 c3 HL3.out).mono ?_
    rintro e w4 ⟨v4, rfl, ho4, hb4⟩
    obtain ⟨A4, c4, rfl, _, _, _⟩ := own_form ho4
    have hb24 : Below wE.heap.size wE w4 := below_next (below_next hbE2 (Nat.le_refl _) hb3) (Nat.le_refl _) hb4
    have hz24 := hbE2.size
    have hW := y3.below hb24 y3.lt
    have f0 := hW.free 0
    have f1 := hW.free 1
    have d0 : w4.cell? ⟨w.heap.size + 1, 0, none⟩ = some (.string ⟨#[]⟩) := hW.at_ 0
    have d1 : w4.cell? ⟨w.heap.size + 1, 1, none⟩ = some (.slice none 0 0) := hW.at_ 1
    have HO := Lib.hid ho4
    clear ho4
    go_wp2
    refine bodyPost_ret (v := .tuple #[.agg #[.string (txtOf S), .slice A4 (comp (S.map (·.2))).length c4], .bool true]) ?_ rfl ?_
    · simp [results, Try.results7, go_sem, d0, d1]
    · obtain ⟨h1, h2⟩ := lies_end (s := txtOf S) (g := w.heap.size + 1) (by omega) rfl (own_mono HO.out (by omega)) (below_next hbE (Nat.le_refl _) hb24)
      rw [show decide (0 ≤ i) = true by simp; omega]
      exact ⟨A4, c4, rfl, h1, h2⟩

end Go.Proofs.Ytpbpnffbaelcaaa.mk
