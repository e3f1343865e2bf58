/-
  The statements' own words: where a name stands, whether texts and lists of attributes are alike.
-/
import Derived.Test.YtnbdldapmllegaaGreatJrAA
import Derived.Deep.DeepCutAuto
import Derived.Test.YtnbdldapmllegaaGreatJrW
import Derived.Deep.RegionHeld3
import Derived.Test.YtnbdldapmllegaaGreatJrT
namespace Go.Proofs.YtnbdldapmllegaaGreat.mk
open Go.RowKit

end Go.Proofs.YtnbdldapmllegaaGreat.mk

namespace Go.Proofs.YtnbdldapmllegaaGreat.mk
open Go.RowKit

end Go.Proofs.YtnbdldapmllegaaGreat.mk

namespace Go.Proofs.YtnbdldapmllegaaGreat.mk
open Go.RowKit

end Go.Proofs.YtnbdldapmllegaaGreat.mk

namespace Go.Proofs.YtnbdldapmllegaaGreat.mk
open Go.RowKit

/-- an attribute that is told, in memory of its own -/
def TellsAt (q : PA) (w : World) (e : Ending) (w' : World) : Prop := ∃ t : AT, e = .returned t.v ∧ t.ch = q ∧ OwnA w' w.heap.size t ∧ Below w.heap.size w w'

theorem OwnL.far {w : World} {base g i : Nat} {t : LT} (h : OwnL w base t) (hg : g < base) (u : Value) : OwnL (w.setCell ⟨g, i, none⟩ u) base t :=
  h.keep fun k _ hk _ => Below.heap_setCell _ _ _ _ (by show k ≠ g; omega)

theorem fixA_end {w w2 : World} {a : AT} {t1 t2 : LT} (h1 : OwnL w2 (w.heap.size + 2) t1) (h2 : OwnL w2 (w.heap.size + 2) t2) (e1 : t1.s = a.nm.s) (e2 : t2.s = a.vl.s) (q1 : t1.ch = a.nm.ch) (q2 : t2.ch = a.vl.ch) (hb : Below w.heap.size w w2) :
    TellsAt a.ch w (.returned (.agg #[.string a.nm.s, .slice t1.A t1.n t1.c, .string a.vl.s, .slice t2.A t2.n t2.c])) ((((w2.setCell ⟨w.heap.size + 1, 0, none⟩ (.string a.nm.s)).setCell ⟨w.heap.size + 1, 1, none⟩ (.slice t1.A t1.n t1.c)).setCell ⟨w.heap.size + 1, 2, none⟩ (.string a.vl.s)).setCell ⟨w.heap.size + 1, 3, none⟩ (.slice t2.A t2.n t2.c)) := by
  refine ⟨⟨t1, t2⟩, ?_, ?_, ?_, ?_⟩
  · unfold AT.v; rw [e1, e2]
  · unfold AT.ch; rw [q1, q2]
  · have hl : w.heap.size + 1 < w.heap.size + 2 := Nat.lt_succ_self _
    exact ⟨((((h1.far hl _).far hl _).far hl _).far hl _).mono (by omega), ((((h2.far hl _).far hl _).far hl _).far hl _).mono (by omega)⟩
  · have hl : w.heap.size ≤ w.heap.size + 1 := Nat.le_succ _
    exact (((hb.setCell hl _).setCell hl _).setCell hl _).setCell hl _

set_option maxHeartbeats 2000000 in
set_option maxRecDepth 100000 in
theorem fixA_any (a : AT) (w : World) (ha : a.ok w w.heap.size) :
    Calls Tryz.prog 61 #[.agg #[.string a.nm.s, .slice a.nm.A a.nm.n a.nm.c, .string a.vl.s, .slice a.vl.A a.vl.n a.vl.c]] w (TellsAt a.ch w) := by
  have HA := Lib.hid ha
  clear ha
  go_enter Tryz.func61, Tryz.ntmps61
  go_wp2_with fail
  generalize hw0 : (w.alloc (.cells #[.string a.nm.s, .slice a.nm.A a.nm.n a.nm.c, .string a.vl.s, .slice a.vl.A a.vl.n a.vl.c] 30)).alloc (.cells #[.string ⟨#[]⟩, .slice none 0 0, .string ⟨#[]⟩, .slice none 0 0] 30) = w0
  have y0 : Whole w0 w.heap.size 30 #[.string a.nm.s, .slice a.nm.A a.nm.n a.nm.c, .string a.vl.s, .slice a.vl.A a.vl.n a.vl.c] := by rw [← hw0]; exact (Whole.made w _ _).alloc _
  have y1 : Whole w0 (w.heap.size + 1) 30 #[.string ⟨#[]⟩, .slice none 0 0, .string ⟨#[]⟩, .slice none 0 0] := by
    rw [← hw0]
    have h := Whole.made (w.alloc (.cells #[.string a.nm.s, .slice a.nm.A a.nm.n a.nm.c, .string a.vl.s, .slice a.vl.A a.vl.n a.vl.c] 30)) 30 #[.string ⟨#[]⟩, .slice none 0 0, .string ⟨#[]⟩, .slice none 0 0]
    simp only [World.size_alloc] at h
    exact h
  have hz0 : w.heap.size + 2 ≤ w0.heap.size := by rw [← hw0]; simp
  have hz1 : w.heap.size + 1 ≤ w0.heap.size := by omega
  have hb0 : Below w.heap.size w w0 := by rw [← hw0]; exact ((Below.refl _ _).alloc (Nat.le_refl _) _).alloc (by simp) _
  have ha0 : a.ok w0 (w.heap.size + 1) := (HA.out.below hb0).mono (by omega)
  have HL1 := Lib.hid ha0.1
  have HL2 := Lib.hid ha0.2
  have HW := Lib.hid hw0
  clear hw0 ha0
  have c0 : w0.cell? ⟨w.heap.size, 0, none⟩ = some (.string a.nm.s) := y0.at_ 0
  have c1 : w0.cell? ⟨w.heap.size, 1, none⟩ = some (.slice a.nm.A a.nm.n a.nm.c) := y0.at_ 1
  have c2 : w0.cell? ⟨w.heap.size, 2, none⟩ = some (.string a.vl.s) := y0.at_ 2
  have c3 : w0.cell? ⟨w.heap.size, 3, none⟩ = some (.slice a.vl.A a.vl.n a.vl.c) := y0.at_ 3
  have KS : ∀ w', Below (w.heap.size + 1) w0 w' → w'.cell? ⟨w.heap.size, 0, none⟩ = some (.string a.nm.s) ∧ w'.cell? ⟨w.heap.size, 1, none⟩ = some (.slice a.nm.A a.nm.n a.nm.c) ∧ w'.cell? ⟨w.heap.size, 2, none⟩ = some (.string a.vl.s) ∧ w'.cell? ⟨w.heap.size, 3, none⟩ = some (.slice a.vl.A a.vl.n a.vl.c) ∧ Below (w.heap.size + 1) w0 w' := fun w' h =>
    ⟨(h.cell (Nat.lt_succ_self _)).trans (y0.at_ 0), (h.cell (Nat.lt_succ_self _)).trans (y0.at_ 1), (h.cell (Nat.lt_succ_self _)).trans (y0.at_ 2), (h.cell (Nat.lt_succ_self _)).trans (y0.at_ 3), h⟩
  have HKS := Lib.hid KS
  clear KS
  have y1' := y1.drew
  go_region_held3 (fun w' => w'.cell? ⟨w.heap.size, 0, none⟩ = some (.string a.nm.s) ∧ w'.cell? ⟨w.heap.size, 1, none⟩ = some (.slice a.nm.A a.nm.n a.nm.c) ∧ w'.cell? ⟨w.heap.size, 2, none⟩ = some (.string a.vl.s) ∧ w'.cell? ⟨w.heap.size, 3, none⟩ = some (.slice a.vl.A a.vl.n a.vl.c) ∧ Below (w.heap.size + 1) w0 w')
    (first
      | exact HKS.out _ (Below.drew (Below.refl _ _))
      | (go_split_ands; exact HKS.out _ (by assumption))
      | (go_split_ands; exact HKS.out _ (below_next (by assumption) hz1 hb1))
      | (go_split_ands; exact HKS.out _ (below_next (by assumption) hz1 hb2))
      | (go_split_ands; refine HKS.out _ ?_; refine Below.setCell (p := ⟨w.heap.size + 1, 3, none⟩) ?_ (Nat.le_refl _) _; refine Below.setCell (p := ⟨w.heap.size + 1, 2, none⟩) ?_ (Nat.le_refl _) _; refine Below.setCell (p := ⟨w.heap.size + 1, 1, none⟩) ?_ (Nat.le_refl _) _; refine Below.setCell (p := ⟨w.heap.size + 1, 0, none⟩) ?_ (Nat.le_refl _) _; assumption))
    (first
      | (go_at_call_of 44 (a.nm.A); refine (fix_any a.nm.s a.nm.A a.nm.n a.nm.c a.nm.rs _ ?_ HL1.out.2.1 HL1.out.2.2.2 HL1.out.2.2.1).mono ?_; (go_split_ands; exact HL1.out.1.next (by assumption) hz1); rintro e w1 ⟨v1, rfl, h1, hb1⟩; obtain ⟨t1, rfl, e1, q1, o1⟩ := own_told HL1.out.2.2.2 h1; have hw1 : Whole w1 (w.heap.size + 1) 30 #[.string ⟨#[]⟩, .slice none 0 0, .string ⟨#[]⟩, .slice none 0 0] := Whole.below (by assumption) hb1 (Whole.lt (by assumption)); have c10 := hw1.at_ 0; have c11 := hw1.at_ 1; have c12 := hw1.at_ 2; have c13 := hw1.at_ 3; have f10 := hw1.free 0; have f11 := hw1.free 1; have f12 := hw1.free 2; have f13 := hw1.free 3)
      | (go_at_call_of 44 (a.vl.A); refine (fix_any a.vl.s a.vl.A a.vl.n a.vl.c a.vl.rs _ ?_ HL2.out.2.1 HL2.out.2.2.2 HL2.out.2.2.1).mono ?_; (go_split_ands; exact HL2.out.1.next (by assumption) hz1); rintro e w2 ⟨v2, rfl, h2, hb2⟩; obtain ⟨t2, rfl, e2, q2, o2⟩ := own_told HL2.out.2.2.2 h2; have hw2 : Whole w2 (w.heap.size + 1) 30 #[.string ⟨#[]⟩, .slice none 0 0, .string ⟨#[]⟩, .slice none 0 0] := Whole.below (by assumption) hb2 (Whole.lt (by assumption)); have c20 := hw2.at_ 0; have c21 := hw2.at_ 1; have c22 := hw2.at_ 2; have c23 := hw2.at_ 3; have f20 := hw2.free 0; have f21 := hw2.free 1; have f22 := hw2.free 2; have f23 := hw2.free 3))
  all_goals
    go_wp2
    refine bodyPost_ret (v := .agg #[.string a.nm.s, .slice t1.A t1.n t1.c, .string a.vl.s, .slice t2.A t2.n t2.c]) ?_ rfl ?_
    · simp [results, Tryz.results61, go_sem, *]
    · have k1 : w.heap.size + 2 ≤ w0.drew.heap.size := hz0
      exact fixA_end ((o1.below hb2).mono k1) (o2.mono (Nat.le_trans k1 hb1.size)) e1 e2 q1 q2 (below_next (below_next hb0.drew (Nat.le_refl _) hb1) (Nat.le_refl _) hb2)

end Go.Proofs.YtnbdldapmllegaaGreat.mk

namespace Go.Proofs.YtnbdldapmllegaaGreat.mk
open Go.RowKit

/-- what is told of those that are wanted -/
def KeptPost (S : Nat → Prop) (I : World → Prop) (qs : List PA) (w : World) (e : Ending) (w' : World) : Prop :=
  ∃ A c ts, e = .returned (.slice A ts.length c) ∧ w'.ownsRow w.heap.size 30 4 (.slice A ts.length c) ts.length (atCells ts) ∧ AllOwn w' w.heap.size ts ∧ ts.map AT.ch = qs ∧ Moved S w w' ∧ I w'

def KeptRel (S : Nat → Prop) (Inv : Nat → World → Prop) (p : Nat → Bool) (L : List PA) (n : Nat) (w0 : World) (v i : Value) (wr : World) : Prop :=
  ∃ (k : Nat) (us : List AT), k ≤ n ∧ i = .int .i64 (k : Int) ∧ wr.ownsRow w0.heap.size 30 4 v us.length (atCells us) ∧ AllOwn wr w0.heap.size us ∧ us.map AT.ch = selTo p L k ∧ Moved S w0 wr ∧ Inv k wr

theorem Moved.cell {S : Nat → Prop} {w w' : World} (h : Moved S w w') {p : Addr} (hp : p.block < w.heap.size) (hs : ¬ S p.block) : w'.cell? p = w.cell? p := by
  unfold World.cell?
  rw [h.block _ hp hs]
theorem AllOwn.moved {S : Nat → Prop} {w w' : World} {base : Nat} {ts : List AT} (h : AllOwn w base ts) (hm : Moved S w w') (hs : ∀ g, S g → g < base) : AllOwn w' base ts :=
  fun t ht => (h t ht).keep fun g _ hg hc => hm.block g (Array.getElem?_eq_some_iff.1 hc).1 (fun h => by have := hs g h; omega)

/-- a round that leaves one out -/
theorem kept_miss {S : Nat → Prop} {Inv : Nat → World → Prop} {p : Nat → Bool} {L : List PA} {n k : Nat} {w0 w w1 w2 : World} {v : Value} {us : List AT} {x : PA} (hx : L[k]? = some x) (hk : k < n) (hp : p k = false) (hS : ∀ g, S g → g < w0.heap.size)
    (hown : w.ownsRow w0.heap.size 30 4 v us.length (atCells us)) (hA : AllOwn w w0.heap.size us) (hq : us.map AT.ch = selTo p L k) (hm : Moved S w0 w) (hb : Below w.heap.size w w1) (hm1 : Moved S w1 w2) (hI : Inv (k + 1) w2) :
    KeptRel S Inv p L n w0 v (.int .i64 ((k : Int) + 1)) w2 := by
  have hm01 : Moved S w w2 := (Moved.of_below hb).trans hm1
  refine ⟨k + 1, us, by omega, by simp, hm01.own hown (fun g hg h => by have := (hown.lt g hg).1; have := hS g h; omega), hA.moved hm01 hS, ?_, hm.trans hm01, hI⟩
  rw [selTo_next hx, hp, hq]
  simp
/-- a round that keeps one -/
theorem kept_hit {S : Nat → Prop} {Inv : Nat → World → Prop} {p : Nat → Bool} {L : List PA} {n k : Nat} {w0 w w1 w2 w3 w4 : World} {v v' : Value} {us : List AT} {t : AT} {x : PA} {ob : Obj} (hx : L[k]? = some x) (hk : k < n) (hp : p k = true) (hS : ∀ g, S g → g < w0.heap.size)
    (hIn : ∀ k w' w'', Inv k w' → Below w0.heap.size w' w'' → Inv k w'')
    (hown : w.ownsRow w0.heap.size 30 4 v us.length (atCells us)) (hA : AllOwn w w0.heap.size us) (hq : us.map AT.ch = selTo p L k) (hm : Moved S w0 w) (hb : Below w.heap.size w w1) (hm1 : Moved S w1 w2) (hI : Inv (k + 1) w2)
    (ht : t.ch = x) (ho : OwnA w3 w2.heap.size t) (hb3 : Below w2.heap.size w2 w3) (hown4 : w4.ownsRow w0.heap.size 30 4 v' (us.length + 1) (atCells us ++ atRow t)) (hg : (w3.alloc ob).grownBy w4 v.ownBlock) :
    KeptRel S Inv p L n w0 v' (.int .i64 ((k : Int) + 1)) w4 := by
  have hm03 : Moved S w w3 := ((Moved.of_below hb).trans hm1).trans (Moved.of_below hb3)
  have hown3 : (w3.alloc ob).ownsRow w0.heap.size 30 4 v us.length (atCells us) := (hm03.own hown (fun g hg h => by have := (hown.lt g hg).1; have := hS g h; omega)).alloc _
  have hlt := fun g (hg : v.ownBlock = some g) => (hown3.lt g hg).1
  have hz : w0.heap.size ≤ w.heap.size := hm.size
  have hz2 : w.heap.size ≤ w2.heap.size := ((Moved.of_below (S := S) hb).trans hm1).size
  have hbg : Below w0.heap.size w2 w4 := ((hb3.mono (by omega)).alloc (by have := hb3.size; omega) ob).grown hg (by have := hb3.size; simp; omega) hlt
  refine ⟨k + 1, us ++ [t], by omega, by simp, ?_, ?_, ?_, ((hm.trans hm03).alloc ob).grown hg (fun g hg => hlt g hg), hIn _ _ _ hI hbg⟩
  · rw [atCells_snoc, List.length_append, List.length_singleton]
    exact hown4
  · have h3 : AllOwn (w3.alloc ob) w0.heap.size (us ++ [t]) := ((hA.moved hm03 hS).snoc (ho.mono (by omega))).below ((Below.refl _ _).alloc (Nat.le_refl _) _)
    exact fun y hy => (h3 y hy).grown hown3 (by decide) hg
  · rw [List.map_append, hq, selTo_next hx, hp]
    simp [ht]

set_option maxHeartbeats 2000000 in
set_option maxRecDepth 100000 in
theorem kept_any (F : Nat) (caps : Array Value) (S : Nat → Prop) (Inv : Nat → World → Prop) (p : Nat → Bool) (B0 : Nat) (A : Option Addr) (n c : Nat) (ts : List AT) (w : World) (hl : Lies w B0 A (atCells ts)) (hok : AllOk w B0 ts) (hn : ts.length = n) (hn2 : n ≤ 4294967296)
    (hE : ∀ args w', Sem.run Tryz.prog (callFunc F args) w' = .ok (.enter F args) w') (hB0 : B0 ≤ w.heap.size) (hS : ∀ g, S g → B0 ≤ g ∧ g < w.heap.size) (hI : ∀ k w' w'', Inv k w' → Below w.heap.size w' w'' → Inv k w'') (hI0 : Inv 0 w)
    (hF : ∀ (k : Nat) (t : AT) w', ts[k]? = some t → Inv k w' → t.ok w' w'.heap.size → w.heap.size ≤ w'.heap.size → Calls Tryz.prog F (#[.agg #[.string t.nm.s, .slice t.nm.A t.nm.n t.nm.c, .string t.vl.s, .slice t.vl.A t.vl.n t.vl.c]] ++ caps) w' fun e w'' => e = .returned (.bool (p k)) ∧ Inv (k + 1) w'' ∧ Moved S w' w'') :
    Calls Tryz.prog 33 #[.slice A n c, .func (.func F) #[] caps] w (KeptPost S (Inv n) (sel p (ts.map AT.ch)) w) := by
  obtain ⟨i0, hi, hz0, hz1, hz2⟩ := info_parts att_info
  have HN := Lib.hid hn
  have HE := Lib.hid hE
  have HF := Lib.hid hF
  have HL := Lib.hid hl
  have HS := Lib.hid hS
  have HI := Lib.hid hI
  have HI0 := Lib.hid hI0
  have HOK := Lib.hid hok
  have HLN : Hid ((ts.map AT.ch).length = n) := by show _ = _; rw [List.length_map]; exact hn
  have HS2 : Hid (∀ g, S g → g < w.heap.size) := fun g h => (hS g h).2
  clear hn hE hF hl hS hI hI0 hok
  go_enter Tryz.func33, Tryz.ntmps33
  go_wp2_with fail
  go_loopw [5, 10] (KeptRel S Inv p (ts.map AT.ch) n w) (fun _ i _ => n - (intOf i).toNat)
  case atStart => exact ⟨0, [], Nat.zero_le _, rfl, World.ownsRow_nil _ _ _ _, (by intro t ht; cases ht), rfl, Moved.refl _ _, HI0.out⟩
  case round =>
    obtain ⟨k, us, hk, rfl, hown, hA, hq, hm, hinv⟩ := hrel
    have hkeep : ∀ q : Addr, q.block < B0 → wr.cell? q = w.cell? q := fun q hq => hm.cell (by omega) (fun h => by have := (HS.out _ h).1; omega)
    have HKEEP := Lib.hid hkeep
    have hzr := hm.size
    have hul : us.length ≤ k := by
      have h1 := selTo_len p (ts.map AT.ch) k
      rw [← hq, List.length_map] at h1
      exact h1
    obtain ⟨A5, c5, rfl, _, _, _⟩ := own_form hown
    have HOW := Lib.hid hown
    have HA := Lib.hid hA
    have HQ := Lib.hid hq
    have HM := Lib.hid hm
    have HINV := Lib.hid hinv
    clear hown hA hq hm hinv hkeep
    by_cases hlt : k < n
    · obtain ⟨ad, t, rfl, hbA, d0, d1, d2, d3, HR⟩ := (HL.out.keep HKEEP.out).att (k := k) (by rw [HN.out]; exact hlt)
      have hk0 : (0 : Int) ≤ (k : Int) := Int.natCast_nonneg _
      have hk1 : (k : Int) < (n : Int) := by omega
      have HRC := Lib.hid (chs_at HR.out)
      have HTO : Hid (t.ok wr B0) := (HOK.out.keep HKEEP.out).get HR.out
      go_wp2_with fail
      generalize hw4 : wr.alloc (.cells #[.string t.nm.s, .slice t.nm.A t.nm.n t.nm.c, .string t.vl.s, .slice t.vl.A t.vl.n t.vl.c] 30) = w4
      have y4 : Whole w4 wr.heap.size 30 #[.string t.nm.s, .slice t.nm.A t.nm.n t.nm.c, .string t.vl.s, .slice t.vl.A t.vl.n t.vl.c] := by rw [← hw4]; exact Whole.made _ _ _
      have hb4 : Below wr.heap.size wr w4 := by rw [← hw4]; exact (Below.refl _ _).alloc (Nat.le_refl _) _
      clear hw4 d0 d1 d2 d3
      have hz4 := hb4.size
      have e0 : w4.cell? ⟨wr.heap.size, 0, none⟩ = some (.string t.nm.s) := y4.at_ 0
      have e1 : w4.cell? ⟨wr.heap.size, 1, none⟩ = some (.slice t.nm.A t.nm.n t.nm.c) := y4.at_ 1
      have e2 : w4.cell? ⟨wr.heap.size, 2, none⟩ = some (.string t.vl.s) := y4.at_ 2
      have e3 : w4.cell? ⟨wr.heap.size, 3, none⟩ = some (.slice t.vl.A t.vl.n t.vl.c) := y4.at_ 3
      go_wp2_with fail
      rw [HE.out]
      refine (HF.out k t w4 HR.out (HI.out _ _ _ HINV.out (hb4.mono (by omega))) ((HTO.out.below (hb4.mono (by omega))).mono (by omega)) (by omega)).mono ?_
      rintro e w5 ⟨rfl, hinv5, hm5⟩
      clear e0 e1 e2 e3
      cases hp : p k with
      | false =>
        have HIN : Hid (KeptRel S Inv p (ts.map AT.ch) n w (.slice A5 us.length c5) (.int .i64 ((k : Int) + 1)) w5) := kept_miss HRC.out hlt hp HS2.out HOW.out HA.out HQ.out HM.out hb4 hm5 hinv5
        clear hinv5 hm5 hp y4 hb4
        go_wp2_with fail
        go_roundw
        case rel => exact HIN.out
        case measure => simp [intOf]; omega
      | true =>
        have hns : ¬ S wr.heap.size := fun h => by have := HS2.out _ h; omega
        have y5 := hm5.whole y4 hns
        have e0 : w5.cell? ⟨wr.heap.size, 0, none⟩ = some (.string t.nm.s) := y5.at_ 0
        have e1 : w5.cell? ⟨wr.heap.size, 1, none⟩ = some (.slice t.nm.A t.nm.n t.nm.c) := y5.at_ 1
        have e2 : w5.cell? ⟨wr.heap.size, 2, none⟩ = some (.string t.vl.s) := y5.at_ 2
        have e3 : w5.cell? ⟨wr.heap.size, 3, none⟩ = some (.slice t.vl.A t.vl.n t.vl.c) := y5.at_ 3
        have hz5 := hm5.size
        have HTO5 : Hid (t.ok w5 w5.heap.size) := ((HTO.out.below (hb4.mono (by omega))).keep (fun q hq => hm5.cell (by omega) (fun h => by have := (HS.out _ h).1; omega))).mono (by omega)
        have H5 := Lib.hid hm5
        have HI5 := Lib.hid hinv5
        have HP := Lib.hid hp
        have HB4 := Lib.hid hb4
        clear hinv5 hm5 hp y4 y5 hb4
        go_wp2_with fail
        refine (fixA_any t w5 HTO5.out).mono ?_
        rintro e w6 ⟨t', rfl, hch, ho6, hb6⟩
        have hown6 : w6.ownsRow w.heap.size 30 4 (.slice A5 us.length c5) us.length (atCells us) := (((Moved.of_below HB4.out).trans H5.out).trans (Moved.of_below hb6)).own HOW.out (fun g hg h => by have := (HOW.out.lt g hg).1; have := HS2.out g h; omega)
        have hz6 := hb6.size
        have HO6 := Lib.hid ho6
        have HB6 := Lib.hid hb6
        have HCH := Lib.hid hch
        clear ho6 hb6 hch e0 e1 e2 e3
        unfold AT.v
        generalize hz : us.length = z at *
        have HZ := Lib.hid hz
        clear hz
        go_wp2_with (at_builtin; refine wpList_append_own_at _ rfl _ _ 23 rfl w.heap.size 30 i0 _ 4 80 Tryz.underlying23 hi hz0 hz1 hz2 rfl (by decide) (.slice A5 z c5) z _ rfl (hown6.alloc _) ⟨w6.heap.size, 0, none⟩ 1 1 (atRow t') rfl rfl (cells_new w6 _ _) (by simp [Value.oneCell', atRow]) (by simp only [maxLen]; omega) (by omega) (by simp; omega) ?_)
        intro v' w7 hown7 hgrow _ _
        obtain ⟨A7, d7, rfl, _, _, _⟩ := own_form hown7
        have HIN : Hid (KeptRel S Inv p (ts.map AT.ch) n w (.slice A7 (z + 1) d7) (.int .i64 ((k : Int) + 1)) w7) := by
          have hgr := hgrow
          have hon := hown7
          have how := HOW.out
          rw [← HZ.out] at hgr hon how ⊢
          exact kept_hit HRC.out hlt HP.out HS2.out HI.out how HA.out HQ.out HM.out HB4.out H5.out HI5.out HCH.out HO6.out HB6.out hon hgr
        clear hgrow hown7 hown6
        go_wp2_with fail
        go_roundw
        case rel => exact HIN.out
        case measure => simp [intOf]; omega
    · obtain rfl : k = n := by omega
      go_wp2_with fail
      go_ret
      exact ⟨A5, c5, us, rfl, HOW.out, HA.out, by rw [HQ.out]; unfold sel; rw [HLN.out], HM.out, HINV.out⟩

end Go.Proofs.YtnbdldapmllegaaGreat.mk

namespace Go.Proofs.YtnbdldapmllegaaGreat.mk
open Go.RowKit

end Go.Proofs.YtnbdldapmllegaaGreat.mk
