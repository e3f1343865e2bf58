/-
  The law's attr: what is left of an attribute. (Written by gen_cln_attr.py out of clnattr.skel.)
-/
import Derived.Test.YtnbdldapmllegaaGreatJsAP
import Derived.Test.YtnbdldapmllegaaGreatJsAC
import Derived.Test.YtnbdldapmllegaaGreatJsAA
import Derived.RegionTactic
import Derived.Deep.DeepCutAuto
namespace Go.Proofs.YtnbdldapmllegaaGreat.mk
open Go.RowKit

/-- what is known while the answers and the variables are made, in whatever order -/
structure Ca (q : AT) (gb : Nat) (l4 l5 : List (UInt8 × Int)) (wc : World) (L : Nat → Bool) (x4 x5 x7 x8 x9 x10 x11 x12 : Value) (w : World) : Prop where
  bel : Below wc.heap.size wc w
  h0 : L 0 = true → x7 = .pointer (some ⟨gb, 0, none⟩)
  h1 : L 1 = true → x8 = .agg #[.string q.nm.s, .slice q.nm.A q.nm.n q.nm.c]
  h2 : L 2 = true → ResO l4 wc.heap.size w x9
  h3 : L 3 = true → x10 = .pointer (some ⟨gb, 2, none⟩)
  h4 : L 4 = true → x11 = .agg #[.string q.vl.s, .slice q.vl.A q.vl.n q.vl.c]
  h5 : L 5 = true → ResO l5 wc.heap.size w x12
  h6 : L 6 = true → VarT wc.heap.size w x4 (L 8) x9
  h7 : L 7 = true → VarT wc.heap.size w x5 (L 9) x12
  d6_7 : L 6 = true → L 7 = true → x4 ≠ x5
  o8 : L 8 = true → L 2 = true ∧ L 6 = true
  o9 : L 9 = true → L 5 = true ∧ L 7 = true
  c5_2 : L 5 = true → L 2 = true
theorem Ca.keep {q : AT} {gb : Nat} {l4 l5 : List (UInt8 × Int)} {wc : World} {L : Nat → Bool} {x4 x5 x7 x8 x9 x10 x11 x12 : Value} {w w' : World} (h : Ca q gb l4 l5 wc L x4 x5 x7 x8 x9 x10 x11 x12 w) (hb : Below w.heap.size w w') : Ca q gb l4 l5 wc L x4 x5 x7 x8 x9 x10 x11 x12 w' :=
  ⟨below_next h.bel (Nat.le_refl _) hb, h.h0, h.h1, (fun e => (h.h2 e).below hb), h.h3, h.h4, (fun e => (h.h5 e).below hb), (fun e => (h.h6 e).below hb), (fun e => (h.h7 e).below hb), h.d6_7, h.o8, h.o9, h.c5_2⟩

def CaRes (l4 l5 : Ch) (w1 : World) (s4 s5 : Value) (wx : World) : Prop :=
  Below w1.heap.size w1 wx ∧ s4 ≠ s5 ∧ InVarO l4 w1.heap.size wx s4 ∧ InVarO l5 w1.heap.size wx s5
/-- what the law tells of an attribute -/
def LawAttr (a : PA) (w : World) (e : Ending) (w' : World) : Prop :=
  ∃ (t : AT) (b : Bool), e = .returned (.tuple #[.agg #[.string t.nm.s, .slice t.nm.A t.nm.n t.nm.c, .string t.vl.s, .slice t.vl.A t.vl.n t.vl.c], .bool b]) ∧ Hid (b = (cleanA a).isSome ∧ (∀ p, cleanA a = some p → t.ch = p) ∧ OwnA w' w.heap.size t) ∧ Below w.heap.size w w'

theorem noT_own (w : World) (base : Nat) : OwnL w base noT := ⟨rfl, ⟨Nat.zero_le _, rfl⟩, Nat.zero_le _, World.ownsRow_nil _ _ _ _⟩
theorem OwnL.set {w : World} {base g j : Nat} {n : LT} {cs : Array Value} {t : TypeId} (h : OwnL w base n) (hR : Whole w g t cs) (ht : 79 ≠ t) (u : Value) : OwnL (w.setCell ⟨g, j, none⟩ u) base n := by
  refine h.keep fun k c _ hc => Below.heap_setCell _ _ _ _ ?_
  exact kind2_ne hc hR ht
/-- an attribute is stored where it is told -/
theorem attr_end {w W : World} {g base : Nat} {n v : LT} {c0 c1 c2 c3 : Value} (hg : w.heap.size ≤ g) (hR : Whole W g 30 #[c0, c1, c2, c3]) (hn : OwnL W base n) (hv : OwnL W base v) (hbase : w.heap.size ≤ base) (hb : Below w.heap.size w W) (u0 u1 u2 u3 : Value) :
    OwnA ((((W.setCell ⟨g, 0, none⟩ u0).setCell ⟨g, 1, none⟩ u1).setCell ⟨g, 2, none⟩ u2).setCell ⟨g, 3, none⟩ u3) w.heap.size ⟨n, v⟩ ∧ Below w.heap.size w ((((W.setCell ⟨g, 0, none⟩ u0).setCell ⟨g, 1, none⟩ u1).setCell ⟨g, 2, none⟩ u2).setCell ⟨g, 3, none⟩ u3) := by
  have ht : 79 ≠ 30 := by decide
  refine ⟨⟨(((hn.set hR ht u0).set (hR.put 0 u0) ht u1).set ((hR.put 0 u0).put 1 u1) ht u2).set (((hR.put 0 u0).put 1 u1).put 2 u2) ht u3 |>.mono hbase, (((hv.set hR ht u0).set (hR.put 0 u0) ht u1).set ((hR.put 0 u0).put 1 u1) ht u2).set (((hR.put 0 u0).put 1 u1).put 2 u2) ht u3 |>.mono hbase⟩,
    (((hb.setCell (p := ⟨g, 0, none⟩) hg _).setCell (p := ⟨g, 1, none⟩) hg _).setCell (p := ⟨g, 2, none⟩) hg _).setCell (p := ⟨g, 3, none⟩) hg _⟩

set_option maxHeartbeats 8000000 in
set_option maxRecDepth 100000 in
theorem lawAttr_any (q : AT) (mx : Int) (w : World) (hm : w.cell? ⟨0, 0, none⟩ = some (.int .i64 mx)) (ha : q.ok w w.heap.size) (hs : q.vl.s.size ≤ 16777216) :
    Calls Tryz.prog 8 #[.agg #[.string q.nm.s, .slice q.nm.A q.nm.n q.nm.c, .string q.vl.s, .slice q.vl.A q.vl.n q.vl.c]] w (LawAttr q.ch w) := by
  obtain ⟨l4, E4⟩ : ∃ l4, l4 = lowC q.nm.ch := ⟨_, rfl⟩
  obtain ⟨l5, E5⟩ : ∃ l5, l5 = rep q.vl.ch := ⟨_, rfl⟩
  have HE4 := Lib.hid E4
  have HE5 := Lib.hid E5
  have HLL : Hid (∀ W, Below w.heap.size w W → Calls Tryz.prog 19 #[.agg #[.string q.nm.s, .slice q.nm.A q.nm.n q.nm.c]] W (ToldO l4 W)) := fun W hb => by
    rw [E4]; exact lowO_any q.nm W (ha.1.next hb (Nat.le_refl _))
  have HRR : Hid (∀ W, Below w.heap.size w W → Calls Tryz.prog 20 #[.agg #[.string q.vl.s, .slice q.vl.A q.vl.n q.vl.c]] W (ToldO l5 W)) := fun W hb => by
    rw [E5]; exact repO_any q.vl W (ha.2.next hb (Nat.le_refl _)) (by omega)
  have HZ5 : Hid (l5.length ≤ 50331648) := by
    show _ ≤ _
    have := rep_length q.vl.ch
    rw [LT.ch_length] at this
    rw [E5]; omega
  have HMX : Hid (∀ W, Below w.heap.size w W → W.cell? ⟨0, 0, none⟩ = some (.int .i64 mx)) := fun W hb => (hb.cell (block_zero _ _ _ hm)).trans hm
  clear E4 E5 ha hs hm
  go_enter Tryz.func8, Tryz.ntmps8
  go_upto_region 1 with (fail)
  generalize hw1 : (w.alloc (.cells #[.string q.nm.s, .slice q.nm.A q.nm.n q.nm.c, .string q.vl.s, .slice q.vl.A q.vl.n q.vl.c] 30)).alloc (.cells #[.string ⟨#[]⟩, .slice none 0 0, .string ⟨#[]⟩, .slice none 0 0] 30) = w1
  have y0 : Whole w1 w.heap.size 30 #[.string q.nm.s, .slice q.nm.A q.nm.n q.nm.c, .string q.vl.s, .slice q.vl.A q.vl.n q.vl.c] := by rw [← hw1]; exact (Whole.made w _ _).alloc _
  have yR : Whole w1 (w.heap.size + 1) 30 #[.string ⟨#[]⟩, .slice none 0 0, .string ⟨#[]⟩, .slice none 0 0] := by
    rw [← hw1]
    have h := Whole.made (w.alloc (.cells #[.string q.nm.s, .slice q.nm.A q.nm.n q.nm.c, .string q.vl.s, .slice q.vl.A q.vl.n q.vl.c] 30)) 30 #[.string ⟨#[]⟩, .slice none 0 0, .string ⟨#[]⟩, .slice none 0 0]
    rw [World.size_alloc] at h
    exact h
  have hbw : Below w.heap.size w w1 := by rw [← hw1]; exact ((Below.refl _ _).alloc (Nat.le_refl _) _).alloc (by rw [World.size_alloc]; exact Nat.le_succ _) _
  have HLO : Hid (∀ w', Below w1.heap.size w1 w' → Calls Tryz.prog 19 #[.agg #[.string q.nm.s, .slice q.nm.A q.nm.n q.nm.c]] w' fun e w'' => ∃ x, e = .returned x ∧ ResO l4 w1.heap.size w'' x ∧ Below w'.heap.size w' w'') := fun w' hb' =>
    (HLL.out w' (hbw.trans (hb'.mono hbw.size))).mono fun e w'' h => resO_told hb'.size h
  have HRP : Hid (∀ w', Below w1.heap.size w1 w' → Calls Tryz.prog 20 #[.agg #[.string q.vl.s, .slice q.vl.A q.vl.n q.vl.c]] w' fun e w'' => ∃ x, e = .returned x ∧ ResO l5 w1.heap.size w'' x ∧ Below w'.heap.size w' w'') := fun w' hb' =>
    (HRR.out w' (hbw.trans (hb'.mono hbw.size))).mono fun e w'' h => resO_told hb'.size h
  have HBW := Lib.hid hbw
  clear hw1 HLL HRR
  go_cut [4, 5] (fun s4 s5 wx => CaRes l4 l5 w1 s4 s5 wx)
  case first =>
    refine wp_region_any (by kernel_rfl) ?_
    refine wpAny_inv (fun listed a w' => listed.size = 10 ∧ ∃ x4 x5 x7 x8 x9 x10 x11 x12, a = ⟨#[.agg #[.string q.nm.s, .slice q.nm.A q.nm.n q.nm.c, .string q.vl.s, .slice q.vl.A q.vl.n q.vl.c], .pointer (some ⟨w.heap.size, 0, none⟩), .pointer (some ⟨w.heap.size + 1, 0, none⟩), .bool false, x4, x5, undef, x7, x8, x9, x10, x11, x12, undef, undef, undef, undef, undef, undef, undef, undef, undef, undef, undef, undef, undef, undef, undef, undef, undef, undef, undef, undef, undef, undef, undef, undef, undef, undef, undef, undef, undef], []⟩ ∧ Ca q w.heap.size l4 l5 w1 (fun k => listed.getD k false) x4 x5 x7 x8 x9 x10 x11 x12 w') ?_ ?_ _ _ _ _ (by rfl) (by decide) ⟨rfl, _, _, _, _, _, _, _, _, rfl, ?_⟩
    · rintro listed a w' ⟨hsz, x4, x5, x7, x8, x9, x10, x11, x12, rfl, h⟩ hr
      have al := ready_nil (md := .any) hsz (by kernel_rfl) hr
      have al' : ∀ k, k < 10 → listed.getD k false = true := al
      go_wp2_with fail
      go_meet
      exact ⟨h.bel, h.d6_7 (al' 6 (by decide)) (al' 7 (by decide)), ⟨_, h.h2 (al' 2 (by decide)), by have h1 := h.h6 (al' 6 (by decide)); rw [al' 8 (by decide)] at h1; exact h1⟩, ⟨_, h.h5 (al' 5 (by decide)), by have h1 := h.h7 (al' 7 (by decide)); rw [al' 9 (by decide)] at h1; exact h1⟩⟩
    · rintro listed a w' i ⟨hsz, x4, x5, x7, x8, x9, x10, x11, x12, rfl, h⟩ hi
      obtain ⟨hi1, hi2, hrd⟩ := ready_mem hi
      have d0 : w'.cell? ⟨w.heap.size, 0, none⟩ = some (.string q.nm.s) := (h.bel.cell y0.lt).trans (y0.at_ 0)
      have d1 : w'.cell? ⟨w.heap.size, 1, none⟩ = some (.slice q.nm.A q.nm.n q.nm.c) := (h.bel.cell y0.lt).trans (y0.at_ 1)
      have d2 : w'.cell? ⟨w.heap.size, 2, none⟩ = some (.string q.vl.s) := (h.bel.cell y0.lt).trans (y0.at_ 2)
      have d3 : w'.cell? ⟨w.heap.size, 3, none⟩ = some (.slice q.vl.A q.vl.n q.vl.c) := (h.bel.cell y0.lt).trans (y0.at_ 3)
      have hN : i = 0 ∨ i = 1 ∨ i = 2 ∨ i = 3 ∨ i = 4 ∨ i = 5 ∨ i = 6 ∨ i = 7 ∨ i = 8 ∨ i = 9 := by have : i < 10 := hi1; omega
      rcases hN with rfl | rfl | rfl | rfl | rfl | rfl | rfl | rfl | rfl | rfl
      · have hlt : 0 < listed.size := by rw [hsz]; decide
        have nme := getD2_tf hi2
        clear hrd hi
        refine wpOp_step (i := 0) rfl (fun K' hK => ?_)
        go_simp
        refine hK _ _ ⟨by simpa using hsz, x4, x5, _, x8, x9, x10, x11, x12, rfl, ?_⟩
        rw [getD2_upd hlt]
        exact ⟨h.bel, (fun _ => rfl), h.h1, h.h2, h.h3, h.h4, h.h5, h.h6, h.h7, h.d6_7, (fun e => ⟨upd2_of (h.o8 e).1, upd2_of (h.o8 e).2⟩), (fun e => ⟨upd2_of (h.o9 e).1, upd2_of (h.o9 e).2⟩), (fun e => upd2_of (h.c5_2 e))⟩
      · have hlt : 1 < listed.size := by rw [hsz]; decide
        have nme := getD2_tf hi2
        have hd : listed.getD 0 false = true := by simp [Region.binds] at hrd; simp [hrd]
        have e0 := hd
        obtain rfl := h.h0 e0
        clear hrd hi
        refine wpOp_step (i := 1) rfl (fun K' hK => ?_)
        go_simp
        refine hK _ _ ⟨by simpa using hsz, x4, x5, _, _, x9, x10, x11, x12, rfl, ?_⟩
        rw [getD2_upd hlt]
        exact ⟨h.bel, h.h0, (fun _ => rfl), h.h2, h.h3, h.h4, h.h5, h.h6, h.h7, h.d6_7, (fun e => ⟨upd2_of (h.o8 e).1, upd2_of (h.o8 e).2⟩), (fun e => ⟨upd2_of (h.o9 e).1, upd2_of (h.o9 e).2⟩), (fun e => upd2_of (h.c5_2 e))⟩
      · have hlt : 2 < listed.size := by rw [hsz]; decide
        have nme := getD2_tf hi2
        have hd : listed.getD 1 false = true := by simp [Region.binds] at hrd; simp [hrd]
        have e1 := hd
        clear hrd hi
        obtain rfl := h.h1 e1
        have nl : listed.getD 8 false = false := by cases hx : listed.getD 8 false with | false => rfl | true => exact absurd (h.o8 hx).1 (by rw [nme]; decide)
        refine wpOp_step (i := 2) rfl (fun K' hK => ?_)
        go_simp
        refine (HLO.out _ h.bel).mono ?_
        rintro e w' ⟨x, rfl, hr, hb⟩
        refine hK _ _ ⟨by simpa using hsz, x4, x5, x7, _, _, x10, x11, x12, rfl, ?_⟩
        rw [getD2_upd hlt]
        have h' := h.keep hb
        exact ⟨h'.bel, h'.h0, h'.h1, (fun _ => hr), h'.h3, h'.h4, h'.h5, (fun e => by obtain ⟨p, u, v, g1, g2, g3, g4⟩ := h'.h6 e; exact ⟨p, u, v, g1, g2, g3, fun e' => absurd (show listed.getD 8 false = true from e') (by rw [nl]; decide)⟩), h'.h7, h'.d6_7, (fun e => ⟨upd2_of (h.o8 e).1, upd2_of (h.o8 e).2⟩), (fun e => ⟨upd2_of (h.o9 e).1, upd2_of (h.o9 e).2⟩), (fun e => upd2_of (h.c5_2 e))⟩
      · have hlt : 3 < listed.size := by rw [hsz]; decide
        have nme := getD2_tf hi2
        clear hrd hi
        refine wpOp_step (i := 3) rfl (fun K' hK => ?_)
        go_simp
        refine hK _ _ ⟨by simpa using hsz, x4, x5, x7, x8, x9, _, x11, x12, rfl, ?_⟩
        rw [getD2_upd hlt]
        exact ⟨h.bel, h.h0, h.h1, h.h2, (fun _ => rfl), h.h4, h.h5, h.h6, h.h7, h.d6_7, (fun e => ⟨upd2_of (h.o8 e).1, upd2_of (h.o8 e).2⟩), (fun e => ⟨upd2_of (h.o9 e).1, upd2_of (h.o9 e).2⟩), (fun e => upd2_of (h.c5_2 e))⟩
      · have hlt : 4 < listed.size := by rw [hsz]; decide
        have nme := getD2_tf hi2
        have hd : listed.getD 3 false = true := by simp [Region.binds] at hrd; simp [hrd]
        have e3 := hd
        obtain rfl := h.h3 e3
        clear hrd hi
        refine wpOp_step (i := 4) rfl (fun K' hK => ?_)
        go_simp
        refine hK _ _ ⟨by simpa using hsz, x4, x5, x7, x8, x9, _, _, x12, rfl, ?_⟩
        rw [getD2_upd hlt]
        exact ⟨h.bel, h.h0, h.h1, h.h2, h.h3, (fun _ => rfl), h.h5, h.h6, h.h7, h.d6_7, (fun e => ⟨upd2_of (h.o8 e).1, upd2_of (h.o8 e).2⟩), (fun e => ⟨upd2_of (h.o9 e).1, upd2_of (h.o9 e).2⟩), (fun e => upd2_of (h.c5_2 e))⟩
      · have hlt : 5 < listed.size := by rw [hsz]; decide
        have nme := getD2_tf hi2
        have hd : listed.getD 4 false = true ∧ listed.getD 2 false = true := by simp [Region.binds] at hrd; simp [hrd]
        obtain ⟨e4, e2⟩ := hd
        clear hrd hi
        obtain rfl := h.h4 e4
        have nl : listed.getD 9 false = false := by cases hx : listed.getD 9 false with | false => rfl | true => exact absurd (h.o9 hx).1 (by rw [nme]; decide)
        refine wpOp_step (i := 5) rfl (fun K' hK => ?_)
        go_simp
        refine (HRP.out _ h.bel).mono ?_
        rintro e w' ⟨x, rfl, hr, hb⟩
        refine hK _ _ ⟨by simpa using hsz, x4, x5, x7, x8, x9, x10, _, _, rfl, ?_⟩
        rw [getD2_upd hlt]
        have h' := h.keep hb
        exact ⟨h'.bel, h'.h0, h'.h1, h'.h2, h'.h3, h'.h4, (fun _ => hr), h'.h6, (fun e => by obtain ⟨p, u, v, g1, g2, g3, g4⟩ := h'.h7 e; exact ⟨p, u, v, g1, g2, g3, fun e' => absurd (show listed.getD 9 false = true from e') (by rw [nl]; decide)⟩), h'.d6_7, (fun e => ⟨upd2_of (h.o8 e).1, upd2_of (h.o8 e).2⟩), (fun e => ⟨upd2_of (h.o9 e).1, upd2_of (h.o9 e).2⟩), (fun _ => upd2_of e2)⟩
      · have hlt : 6 < listed.size := by rw [hsz]; decide
        have nme := getD2_tf hi2
        clear hrd hi
        have nl : listed.getD 8 false = false := by cases hx : listed.getD 8 false with | false => rfl | true => exact absurd (h.o8 hx).2 (by rw [nme]; decide)
        refine wpOp_step (i := 6) rfl (fun K' hK => ?_)
        go_simp
        refine hK _ _ ⟨by simpa using hsz, _, x5, x7, x8, x9, x10, x11, x12, rfl, ?_⟩
        rw [getD2_upd hlt]
        have h' := h.keep ((Below.refl _ _).alloc (Nat.le_refl _) (.cells #[.string ⟨#[]⟩, .slice none 0 0] 28))
        exact ⟨h'.bel, h'.h0, h'.h1, h'.h2, h'.h3, h'.h4, h'.h5, (fun _ => ⟨_, _, _, rfl, h.bel.size, Whole.made _ _ _, fun e' => absurd (show listed.getD 8 false = true from e') (by rw [nl]; decide)⟩), h'.h7, (fun _ e => (h.h7 e).old.symm), (fun e => ⟨upd2_of (h.o8 e).1, upd2_of (h.o8 e).2⟩), (fun e => ⟨upd2_of (h.o9 e).1, upd2_of (h.o9 e).2⟩), (fun e => upd2_of (h.c5_2 e))⟩
      · have hlt : 7 < listed.size := by rw [hsz]; decide
        have nme := getD2_tf hi2
        clear hrd hi
        have nl : listed.getD 9 false = false := by cases hx : listed.getD 9 false with | false => rfl | true => exact absurd (h.o9 hx).2 (by rw [nme]; decide)
        refine wpOp_step (i := 7) rfl (fun K' hK => ?_)
        go_simp
        refine hK _ _ ⟨by simpa using hsz, x4, _, x7, x8, x9, x10, x11, x12, rfl, ?_⟩
        rw [getD2_upd hlt]
        have h' := h.keep ((Below.refl _ _).alloc (Nat.le_refl _) (.cells #[.string ⟨#[]⟩, .slice none 0 0] 28))
        exact ⟨h'.bel, h'.h0, h'.h1, h'.h2, h'.h3, h'.h4, h'.h5, h'.h6, (fun _ => ⟨_, _, _, rfl, h.bel.size, Whole.made _ _ _, fun e' => absurd (show listed.getD 9 false = true from e') (by rw [nl]; decide)⟩), (fun e _ => (h.h6 e).old), (fun e => ⟨upd2_of (h.o8 e).1, upd2_of (h.o8 e).2⟩), (fun e => ⟨upd2_of (h.o9 e).1, upd2_of (h.o9 e).2⟩), (fun e => upd2_of (h.c5_2 e))⟩
      · have hlt : 8 < listed.size := by rw [hsz]; decide
        have nme := getD2_tf hi2
        have hd : listed.getD 6 false = true ∧ listed.getD 2 false = true ∧ listed.getD 5 false = true := by simp [Region.binds] at hrd; simp [hrd]
        obtain ⟨e6, e2, e5⟩ := hd
        clear hrd hi
        obtain ⟨p, u, v, hx, hp1, hp2, _⟩ := h.h6 e6
        obtain ⟨t', hy', hyo⟩ := h.h2 e2
        subst hx
        subst hy'
        have k0 : w'.cell? ⟨p, 0, none⟩ = some u := hp2.at_ 0
        have k1 : w'.cell? ⟨p, 1, none⟩ = some v := hp2.at_ 1
        have k2 := hp2.free 0
        have k3 := hp2.free 1
        refine wpOp_step (i := 8) rfl (fun K' hK => ?_)
        go_simp
        refine hK _ _ ⟨by simpa using hsz, _, x5, x7, x8, _, x10, x11, x12, rfl, ?_⟩
        rw [getD2_upd hlt]
        exact ⟨(below_put2 h.bel hp1), h.h0, h.h1, (fun e => (h.h2 e).put hp2), h.h3, h.h4, (fun e => (h.h5 e).put hp2), (fun _ => ⟨p, _, _, rfl, hp1, (hp2.put 0 _).put 1 _, fun _ => rfl⟩), (fun e => (h.h7 e).put (fun hh => h.d6_7 e6 e hh.symm)), h.d6_7, (fun _ => ⟨upd2_of e2, upd2_of e6⟩), (fun e => ⟨upd2_of (h.o9 e).1, upd2_of (h.o9 e).2⟩), (fun e => upd2_of (h.c5_2 e))⟩
      · have hlt : 9 < listed.size := by rw [hsz]; decide
        have nme := getD2_tf hi2
        have hd : listed.getD 7 false = true ∧ listed.getD 5 false = true := by simp [Region.binds] at hrd; simp [hrd]
        obtain ⟨e7, e5⟩ := hd
        clear hrd hi
        obtain ⟨p, u, v, hx, hp1, hp2, _⟩ := h.h7 e7
        obtain ⟨t', hy', hyo⟩ := h.h5 e5
        subst hx
        subst hy'
        have k0 : w'.cell? ⟨p, 0, none⟩ = some u := hp2.at_ 0
        have k1 : w'.cell? ⟨p, 1, none⟩ = some v := hp2.at_ 1
        have k2 := hp2.free 0
        have k3 := hp2.free 1
        refine wpOp_step (i := 9) rfl (fun K' hK => ?_)
        go_simp
        refine hK _ _ ⟨by simpa using hsz, x4, _, x7, x8, x9, x10, x11, _, rfl, ?_⟩
        rw [getD2_upd hlt]
        exact ⟨(below_put2 h.bel hp1), h.h0, h.h1, (fun e => (h.h2 e).put hp2), h.h3, h.h4, (fun e => (h.h5 e).put hp2), (fun e => (h.h6 e).put (fun hh => h.d6_7 e e7 hh)), (fun _ => ⟨p, _, _, rfl, hp1, (hp2.put 0 _).put 1 _, fun _ => rfl⟩), h.d6_7, (fun e => ⟨upd2_of (h.o8 e).1, upd2_of (h.o8 e).2⟩), (fun _ => ⟨upd2_of e5, upd2_of e7⟩), (fun e => upd2_of (h.c5_2 e))⟩
    · exact ⟨Below.drew (Below.refl _ _), (fun e => absurd e (by decide)), (fun e => absurd e (by decide)), (fun e => absurd e (by decide)), (fun e => absurd e (by decide)), (fun e => absurd e (by decide)), (fun e => absurd e (by decide)), (fun e => absurd e (by decide)), (fun e => absurd e (by decide)), (fun e => absurd e (by decide)), (fun e => absurd e (by decide)), (fun e => absurd e (by decide)), (fun e => absurd e (by decide))⟩
  case rest =>
    obtain ⟨hbc, hne, hr1, hr2⟩ := hcut
    obtain ⟨p4, n4, rfl, hp4, h4wc, HN4⟩ := hr1.get
    obtain ⟨p5, v5, rfl, hp5, h5wc, HV5⟩ := hr2.get
    have HBC : Hid (Below w.heap.size w wc) := hbw.trans (hbc.mono hbw.size)
    have hRwc := yR.below hbc yR.lt
    have hpn : p4 ≠ p5 := fun e => hne (by rw [e])
    have HNE := Lib.hid hpn
    have hRne : w.heap.size + 1 < p4 ∧ w.heap.size + 1 < p5 := by have := yR.lt; omega
    have HRN := Lib.hid hRne
    have HWZ : Hid (w1.heap.size ≤ wc.heap.size) := hbc.size
    have HBwc : Hid (Below wc.heap.size wc wc) := Below.refl _ _
    have HCL : Hid (cleanA q.ch = if wor l4 ≠ 0 then none else if isT attrL (byC l4) then some (l4, l5) else if isT addrL (byC l4) then (if safeB (readyL l5) then some (l4, readyL l5) else none) else if isT handL (byC l4) then (if wor l5 = 0 then some (l4, l5) else none) else none) := by
      show _ = _
      rw [HE4.out, HE5.out]; rfl
    have HWN : Hid (∀ W, Below wc.heap.size wc W → Calls Tryz.prog 21 #[.agg #[.string n4.s, .slice n4.A n4.n n4.c]] W fun e w' => e = .returned (.int .i64 (wor l4)) ∧ Below W.heap.size W w') := fun W hb => by
      have h := worO_any n4 W (HN4.out.2.ok.next hb (Nat.le_refl _))
      rw [HN4.out.1] at h
      exact h
    have HAT : Hid (∀ W, Calls Tryz.prog 22 #[.string n4.s] W fun e w' => e = .returned (.bool (isT attrL (byC l4))) ∧ Below W.heap.size W w') := fun W => by
      have h := attrO_any n4 W
      rw [HN4.out.1] at h
      exact h
    have HAD : Hid (∀ W, Calls Tryz.prog 23 #[.string n4.s] W fun e w' => e = .returned (.bool (isT addrL (byC l4))) ∧ Below W.heap.size W w') := fun W => by
      have h := addrO_any n4 W
      rw [HN4.out.1] at h
      exact h
    have HHD : Hid (∀ W, Calls Tryz.prog 25 #[.string n4.s] W fun e w' => e = .returned (.bool (isT handL (byC l4))) ∧ Below W.heap.size W w') := fun W => by
      have h := handO_any n4 W
      rw [HN4.out.1] at h
      exact h
    have HFI : Hid (∀ W, Below wc.heap.size wc W → Calls Tryz.prog 24 #[.agg #[.string v5.s, .slice v5.A v5.n v5.c]] W (ToldB (filterL (readyL l5)) (safeB (readyL l5)) W)) := fun W hb => by
      have h := filterO_any v5 mx W (HMX.out W (below_next HBC.out (Nat.le_refl _) hb)) (HV5.out.2.ok.next hb (Nat.le_refl _)) (by have h1 := HZ5.out; rw [← HV5.out.1, LT.ch_length] at h1; omega)
      rw [HV5.out.1] at h
      exact h
    have HWV : Hid (∀ W, Below wc.heap.size wc W → Calls Tryz.prog 21 #[.agg #[.string v5.s, .slice v5.A v5.n v5.c]] W fun e w' => e = .returned (.int .i64 (wor l5)) ∧ Below W.heap.size W w') := fun W hb => by
      have h := worO_any v5 W (HV5.out.2.ok.next hb (Nat.le_refl _))
      rw [HV5.out.1] at h
      exact h
    clear hr1 hr2 hbc hne y0 yR hbw hp4 hp5 hpn hRne HLO HRP
    have s0 : wc.cell? ⟨p4, 0, none⟩ = some (.string n4.s) := h4wc.at_ 0
    have s1 : wc.cell? ⟨p4, 1, none⟩ = some (.slice n4.A n4.n n4.c) := h4wc.at_ 1
    go_wp2_with fail
    refine (HWN.out wc (Below.refl _ _)).mono ?_
    rintro e wd ⟨rfl, hq⟩
    have hRwd := hRwc.below hq hRwc.lt
    have h4wd := h4wc.below hq h4wc.lt
    have h5wd := h5wc.below hq h5wc.lt
    have HBwd : Hid (Below wc.heap.size wc wd) := below_next HBwc.out (Nat.le_refl _) hq
    clear hq
    clear s0 s1
    by_cases hw : wor l4 = 0
    · have HW0 := Lib.hid hw
      have s0 : wd.cell? ⟨p4, 0, none⟩ = some (.string n4.s) := h4wd.at_ 0
      have s1 : wd.cell? ⟨p4, 1, none⟩ = some (.slice n4.A n4.n n4.c) := h4wd.at_ 1
      go_wp2_with fail
      refine (HAT.out wd).mono ?_
      cases hba : isT attrL (byC l4) with
      | true =>
        have HA1 := Lib.hid hba
        rintro e we ⟨rfl, hq⟩
        clear hba hw s0 s1
        have hRwe := hRwd.below hq hRwd.lt
        have h4we := h4wd.below hq h4wd.lt
        have h5we := h5wd.below hq h5wd.lt
        have HBwe : Hid (Below wc.heap.size wc we) := below_next HBwd.out (Nat.le_refl _) hq
        clear hq
        have HBA : Hid (Below w.heap.size w we) := below_next HBC.out (Nat.le_refl _) HBwe.out
        have HON : Hid (OwnL we w1.heap.size n4) := HN4.out.2.keep fun g c _ hc => HBwe.out.block _ (Array.getElem?_eq_some_iff.1 hc).1
        have HOV : Hid (OwnL we w1.heap.size v5) := HV5.out.2.keep fun g c _ hc => HBwe.out.block _ (Array.getElem?_eq_some_iff.1 hc).1
        have r0 : we.cell? ⟨w.heap.size + 1, 0, none⟩ = some (.string ⟨#[]⟩) := hRwe.at_ 0
        have r1 : we.cell? ⟨w.heap.size + 1, 1, none⟩ = some (.slice none 0 0) := hRwe.at_ 1
        have r2 : we.cell? ⟨w.heap.size + 1, 2, none⟩ = some (.string ⟨#[]⟩) := hRwe.at_ 2
        have r3 : we.cell? ⟨w.heap.size + 1, 3, none⟩ = some (.slice none 0 0) := hRwe.at_ 3
        have f0 := hRwe.free 0
        have f1 := hRwe.free 1
        have f2 := hRwe.free 2
        have f3 := hRwe.free 3
        have s0 : we.cell? ⟨p4, 0, none⟩ = some (.string n4.s) := h4we.at_ 0
        have s1 : we.cell? ⟨p4, 1, none⟩ = some (.slice n4.A n4.n n4.c) := h4we.at_ 1
        have t0 : we.cell? ⟨p5, 0, none⟩ = some (.string v5.s) := h5we.at_ 0
        have t1 : we.cell? ⟨p5, 1, none⟩ = some (.slice v5.A v5.n v5.c) := h5we.at_ 1
        have HE := Lib.hid (attr_end (n := n4) (v := v5) (Nat.le_succ _) hRwe HON.out HOV.out HBW.out.size HBA.out (.string n4.s) (.slice n4.A n4.n n4.c) (.string v5.s) (.slice v5.A v5.n v5.c))
        go_wp2_with fail
        refine bodyPost_ret (v := .tuple #[.agg #[.string n4.s, .slice n4.A n4.n n4.c, .string v5.s, .slice v5.A v5.n v5.c], .bool true]) ?_ rfl ?_
        · simp [results, Tryz.results8, go_sem, r0, r1, r2, r3]
        · exact ⟨⟨n4, v5⟩, true, rfl, ⟨by rw [HCL.out, HW0.out, HA1.out]; rfl, (fun p hp => by rw [HCL.out, HW0.out, HA1.out] at hp; injection hp with hp; rw [← hp]; show (n4.ch, v5.ch) = _; rw [HN4.out.1, HV5.out.1]), HE.out.1⟩, HE.out.2⟩
      | false =>
        have HA1 := Lib.hid hba
        rintro e we ⟨rfl, hq⟩
        clear hba hw s0 s1
        have hRwe := hRwd.below hq hRwd.lt
        have h4we := h4wd.below hq h4wd.lt
        have h5we := h5wd.below hq h5wd.lt
        have HBwe : Hid (Below wc.heap.size wc we) := below_next HBwd.out (Nat.le_refl _) hq
        clear hq
        have s0 : we.cell? ⟨p4, 0, none⟩ = some (.string n4.s) := h4we.at_ 0
        have s1 : we.cell? ⟨p4, 1, none⟩ = some (.slice n4.A n4.n n4.c) := h4we.at_ 1
        go_wp2_with fail
        refine (HAD.out we).mono ?_
        cases hbd : isT addrL (byC l4) with
        | true =>
          have HA2 := Lib.hid hbd
          rintro e wf ⟨rfl, hq⟩
          clear hbd s0 s1
          have hRwf := hRwe.below hq hRwe.lt
          have h4wf := h4we.below hq h4we.lt
          have h5wf := h5we.below hq h5we.lt
          have HBwf : Hid (Below wc.heap.size wc wf) := below_next HBwe.out (Nat.le_refl _) hq
          clear hq
          have t0 : wf.cell? ⟨p5, 0, none⟩ = some (.string v5.s) := h5wf.at_ 0
          have t1 : wf.cell? ⟨p5, 1, none⟩ = some (.slice v5.A v5.n v5.c) := h5wf.at_ 1
          have k2 := h5wf.free 0
          have k3 := h5wf.free 1
          go_wp2_with fail
          refine (HFI.out wf HBwf.out).mono ?_
          rintro e wg ⟨t, rfl, ht, hq⟩
          have HT := ht
          have hRwg := hRwf.below hq hRwf.lt
          have h4wg := h4wf.below hq h4wf.lt
          have h5wg := h5wf.below hq h5wf.lt
          have HBwg : Hid (Below wc.heap.size wc wg) := below_next HBwf.out (Nat.le_refl _) hq
          clear hq
          clear t0 t1 k2 k3
          have t0 : wg.cell? ⟨p5, 0, none⟩ = some (.string v5.s) := h5wg.at_ 0
          have t1 : wg.cell? ⟨p5, 1, none⟩ = some (.slice v5.A v5.n v5.c) := h5wg.at_ 1
          have k2 := h5wg.free 0
          have k3 := h5wg.free 1
          obtain ⟨bs, HBS⟩ : ∃ bs, Hid (safeB (readyL l5) = bs) := ⟨_, rfl⟩
          rw [HBS.out]
          go_upto_region 11 with (fail)
          generalize hwh : (wg.setCell ⟨p5, 0, none⟩ (.string t.s)).setCell ⟨p5, 1, none⟩ (.slice t.A t.n t.c) = wh
          have ht5 : 79 ≠ 28 := by decide
          have h5wh : Whole wh p5 28 #[.string t.s, .slice t.A t.n t.c] := by rw [← hwh]; exact (h5wg.put 0 _).put 1 _
          have h4wh : Whole wh p4 28 #[.string n4.s, .slice n4.A n4.n n4.c] := by rw [← hwh]; exact (h4wg.far _ HNE.out _).far _ HNE.out _
          have hRwh : Whole wh (w.heap.size + 1) 30 #[.string ⟨#[]⟩, .slice none 0 0, .string ⟨#[]⟩, .slice none 0 0] := by
            have hx : w.heap.size + 1 ≠ p5 := fun e => by have := HRN.out.2; omega
            rw [← hwh]; exact (hRwg.far _ hx _).far _ hx _
          have HBA : Hid (Below w.heap.size w wh) := by
            have hx : w.heap.size ≤ p5 := by have := HRN.out.2; omega
            have h := below_next HBC.out (Nat.le_refl _) HBwg.out
            show Below _ _ _
            rw [← hwh]; exact (h.setCell (p := ⟨p5, 0, none⟩) hx _).setCell (p := ⟨p5, 1, none⟩) hx _
          have HON : Hid (OwnL wh w1.heap.size n4) := by
            have h : OwnL wg w1.heap.size n4 := HN4.out.2.keep fun g c _ hc => HBwg.out.block _ (Array.getElem?_eq_some_iff.1 hc).1
            show OwnL _ _ _
            rw [← hwh]; exact (h.set h5wg ht5 _).set (h5wg.put 0 _) ht5 _
          have HOV : Hid (OwnL wh w1.heap.size t) := by
            have h : OwnL wg w1.heap.size t := HT.out.2.mono (by have h1 := HBwf.out.size; have h2 := HWZ.out; omega)
            show OwnL _ _ _
            rw [← hwh]; exact (h.set h5wg ht5 _).set (h5wg.put 0 _) ht5 _
          clear hwh t0 t1 k2 k3 ht5
          have r0 : wh.cell? ⟨w.heap.size + 1, 0, none⟩ = some (.string ⟨#[]⟩) := hRwh.at_ 0
          have r1 : wh.cell? ⟨w.heap.size + 1, 1, none⟩ = some (.slice none 0 0) := hRwh.at_ 1
          have r2 : wh.cell? ⟨w.heap.size + 1, 2, none⟩ = some (.string ⟨#[]⟩) := hRwh.at_ 2
          have r3 : wh.cell? ⟨w.heap.size + 1, 3, none⟩ = some (.slice none 0 0) := hRwh.at_ 3
          have f0 := hRwh.free 0
          have f1 := hRwh.free 1
          have f2 := hRwh.free 2
          have f3 := hRwh.free 3
          have s0 : wh.cell? ⟨p4, 0, none⟩ = some (.string n4.s) := h4wh.at_ 0
          have s1 : wh.cell? ⟨p4, 1, none⟩ = some (.slice n4.A n4.n n4.c) := h4wh.at_ 1
          have t0 : wh.cell? ⟨p5, 0, none⟩ = some (.string t.s) := h5wh.at_ 0
          have t1 : wh.cell? ⟨p5, 1, none⟩ = some (.slice t.A t.n t.c) := h5wh.at_ 1
          have HE := Lib.hid (attr_end (n := n4) (v := t) (Nat.le_succ _) hRwh HON.out HOV.out HBW.out.size HBA.out (.string n4.s) (.slice n4.A n4.n n4.c) (.string t.s) (.slice t.A t.n t.c))
          go_wp2_with fail
          refine bodyPost_ret (v := .tuple #[.agg #[.string n4.s, .slice n4.A n4.n n4.c, .string t.s, .slice t.A t.n t.c], .bool bs]) ?_ rfl ?_
          · simp [results, Tryz.results8, go_sem, r0, r1, r2, r3]
          · have hc := HCL.out
            rw [HW0.out, HA1.out, HA2.out, HBS.out] at hc
            refine ⟨⟨n4, t⟩, bs, rfl, ⟨?_, ?_, HE.out.1⟩, HE.out.2⟩
            · rw [hc]; cases bs <;> rfl
            · intro p hp
              rw [hc] at hp
              cases bs with
              | false => cases hp
              | true =>
                have h2 : t.ch = readyL l5 := by rw [HT.out.1, filterL_true HBS.out]
                injection hp with hp
                rw [← hp]; show (n4.ch, t.ch) = _; rw [HN4.out.1, h2]
        | false =>
          have HA2 := Lib.hid hbd
          rintro e wf ⟨rfl, hq⟩
          clear hbd s0 s1
          have hRwf := hRwe.below hq hRwe.lt
          have h4wf := h4we.below hq h4we.lt
          have h5wf := h5we.below hq h5we.lt
          have HBwf : Hid (Below wc.heap.size wc wf) := below_next HBwe.out (Nat.le_refl _) hq
          clear hq
          have s0 : wf.cell? ⟨p4, 0, none⟩ = some (.string n4.s) := h4wf.at_ 0
          have s1 : wf.cell? ⟨p4, 1, none⟩ = some (.slice n4.A n4.n n4.c) := h4wf.at_ 1
          go_wp2_with fail
          refine (HHD.out wf).mono ?_
          cases hbh : isT handL (byC l4) with
          | true =>
            have HA3 := Lib.hid hbh
            rintro e wg ⟨rfl, hq⟩
            clear hbh s0 s1
            have hRwg := hRwf.below hq hRwf.lt
            have h4wg := h4wf.below hq h4wf.lt
            have h5wg := h5wf.below hq h5wf.lt
            have HBwg : Hid (Below wc.heap.size wc wg) := below_next HBwf.out (Nat.le_refl _) hq
            clear hq
            have t0 : wg.cell? ⟨p5, 0, none⟩ = some (.string v5.s) := h5wg.at_ 0
            have t1 : wg.cell? ⟨p5, 1, none⟩ = some (.slice v5.A v5.n v5.c) := h5wg.at_ 1
            go_wp2_with fail
            refine (HWV.out wg HBwg.out).mono ?_
            rintro e wh ⟨rfl, hq⟩
            have hRwh := hRwg.below hq hRwg.lt
            have h4wh := h4wg.below hq h4wg.lt
            have h5wh := h5wg.below hq h5wg.lt
            have HBwh : Hid (Below wc.heap.size wc wh) := below_next HBwg.out (Nat.le_refl _) hq
            clear hq
            clear t0 t1
            by_cases hv : wor l5 = 0
            · have HV0 := Lib.hid hv
              have HBA : Hid (Below w.heap.size w wh) := below_next HBC.out (Nat.le_refl _) HBwh.out
              have HON : Hid (OwnL wh w1.heap.size n4) := HN4.out.2.keep fun g c _ hc => HBwh.out.block _ (Array.getElem?_eq_some_iff.1 hc).1
              have HOV : Hid (OwnL wh w1.heap.size v5) := HV5.out.2.keep fun g c _ hc => HBwh.out.block _ (Array.getElem?_eq_some_iff.1 hc).1
              have r0 : wh.cell? ⟨w.heap.size + 1, 0, none⟩ = some (.string ⟨#[]⟩) := hRwh.at_ 0
              have r1 : wh.cell? ⟨w.heap.size + 1, 1, none⟩ = some (.slice none 0 0) := hRwh.at_ 1
              have r2 : wh.cell? ⟨w.heap.size + 1, 2, none⟩ = some (.string ⟨#[]⟩) := hRwh.at_ 2
              have r3 : wh.cell? ⟨w.heap.size + 1, 3, none⟩ = some (.slice none 0 0) := hRwh.at_ 3
              have f0 := hRwh.free 0
              have f1 := hRwh.free 1
              have f2 := hRwh.free 2
              have f3 := hRwh.free 3
              have s0 : wh.cell? ⟨p4, 0, none⟩ = some (.string n4.s) := h4wh.at_ 0
              have s1 : wh.cell? ⟨p4, 1, none⟩ = some (.slice n4.A n4.n n4.c) := h4wh.at_ 1
              have t0 : wh.cell? ⟨p5, 0, none⟩ = some (.string v5.s) := h5wh.at_ 0
              have t1 : wh.cell? ⟨p5, 1, none⟩ = some (.slice v5.A v5.n v5.c) := h5wh.at_ 1
              have HE := Lib.hid (attr_end (n := n4) (v := v5) (Nat.le_succ _) hRwh HON.out HOV.out HBW.out.size HBA.out (.string n4.s) (.slice n4.A n4.n n4.c) (.string v5.s) (.slice v5.A v5.n v5.c))
              go_wp2_with fail
              refine bodyPost_ret (v := .tuple #[.agg #[.string n4.s, .slice n4.A n4.n n4.c, .string v5.s, .slice v5.A v5.n v5.c], .bool true]) ?_ rfl ?_
              · simp [results, Tryz.results8, go_sem, r0, r1, r2, r3]
              · exact ⟨⟨n4, v5⟩, true, rfl, ⟨by rw [HCL.out, HW0.out, HA1.out, HA2.out, HA3.out, HV0.out]; rfl, (fun p hp => by rw [HCL.out, HW0.out, HA1.out, HA2.out, HA3.out, HV0.out] at hp; injection hp with hp; rw [← hp]; show (n4.ch, v5.ch) = _; rw [HN4.out.1, HV5.out.1]), HE.out.1⟩, HE.out.2⟩
            · have HV0 := Lib.hid hv
              have HBA : Hid (Below w.heap.size w wh) := below_next HBC.out (Nat.le_refl _) HBwh.out
              have HON : Hid (OwnL wh w1.heap.size n4) := HN4.out.2.keep fun g c _ hc => HBwh.out.block _ (Array.getElem?_eq_some_iff.1 hc).1
              have HOV : Hid (OwnL wh w1.heap.size v5) := HV5.out.2.keep fun g c _ hc => HBwh.out.block _ (Array.getElem?_eq_some_iff.1 hc).1
              have r0 : wh.cell? ⟨w.heap.size + 1, 0, none⟩ = some (.string ⟨#[]⟩) := hRwh.at_ 0
              have r1 : wh.cell? ⟨w.heap.size + 1, 1, none⟩ = some (.slice none 0 0) := hRwh.at_ 1
              have r2 : wh.cell? ⟨w.heap.size + 1, 2, none⟩ = some (.string ⟨#[]⟩) := hRwh.at_ 2
              have r3 : wh.cell? ⟨w.heap.size + 1, 3, none⟩ = some (.slice none 0 0) := hRwh.at_ 3
              have f0 := hRwh.free 0
              have f1 := hRwh.free 1
              have f2 := hRwh.free 2
              have f3 := hRwh.free 3
              have s0 : wh.cell? ⟨p4, 0, none⟩ = some (.string n4.s) := h4wh.at_ 0
              have s1 : wh.cell? ⟨p4, 1, none⟩ = some (.slice n4.A n4.n n4.c) := h4wh.at_ 1
              have t0 : wh.cell? ⟨p5, 0, none⟩ = some (.string v5.s) := h5wh.at_ 0
              have t1 : wh.cell? ⟨p5, 1, none⟩ = some (.slice v5.A v5.n v5.c) := h5wh.at_ 1
              have HE := Lib.hid (attr_end (n := n4) (v := v5) (Nat.le_succ _) hRwh HON.out HOV.out HBW.out.size HBA.out (.string n4.s) (.slice n4.A n4.n n4.c) (.string v5.s) (.slice v5.A v5.n v5.c))
              go_wp2_with fail
              refine bodyPost_ret (v := .tuple #[.agg #[.string n4.s, .slice n4.A n4.n n4.c, .string v5.s, .slice v5.A v5.n v5.c], .bool false]) ?_ rfl ?_
              · simp [results, Tryz.results8, go_sem, r0, r1, r2, r3, hv]
              · exact ⟨⟨n4, v5⟩, false, rfl, ⟨by rw [HCL.out, HW0.out, HA1.out, HA2.out, HA3.out, if_neg HV0.out]; rfl, (fun p hp => by rw [HCL.out, HW0.out, HA1.out, HA2.out, HA3.out, if_neg HV0.out] at hp; cases hp), HE.out.1⟩, HE.out.2⟩
          | false =>
            have HA3 := Lib.hid hbh
            rintro e wg ⟨rfl, hq⟩
            clear hbh s0 s1
            have hRwg := hRwf.below hq hRwf.lt
            have h4wg := h4wf.below hq h4wf.lt
            have h5wg := h5wf.below hq h5wf.lt
            have HBwg : Hid (Below wc.heap.size wc wg) := below_next HBwf.out (Nat.le_refl _) hq
            clear hq
            have HBA : Hid (Below w.heap.size w wg) := below_next HBC.out (Nat.le_refl _) HBwg.out
            have HON : Hid (OwnL wg w1.heap.size n4) := HN4.out.2.keep fun g c _ hc => HBwg.out.block _ (Array.getElem?_eq_some_iff.1 hc).1
            have HOV : Hid (OwnL wg w1.heap.size v5) := HV5.out.2.keep fun g c _ hc => HBwg.out.block _ (Array.getElem?_eq_some_iff.1 hc).1
            have r0 : wg.cell? ⟨w.heap.size + 1, 0, none⟩ = some (.string ⟨#[]⟩) := hRwg.at_ 0
            have r1 : wg.cell? ⟨w.heap.size + 1, 1, none⟩ = some (.slice none 0 0) := hRwg.at_ 1
            have r2 : wg.cell? ⟨w.heap.size + 1, 2, none⟩ = some (.string ⟨#[]⟩) := hRwg.at_ 2
            have r3 : wg.cell? ⟨w.heap.size + 1, 3, none⟩ = some (.slice none 0 0) := hRwg.at_ 3
            have f0 := hRwg.free 0
            have f1 := hRwg.free 1
            have f2 := hRwg.free 2
            have f3 := hRwg.free 3
            have s0 : wg.cell? ⟨p4, 0, none⟩ = some (.string n4.s) := h4wg.at_ 0
            have s1 : wg.cell? ⟨p4, 1, none⟩ = some (.slice n4.A n4.n n4.c) := h4wg.at_ 1
            have t0 : wg.cell? ⟨p5, 0, none⟩ = some (.string v5.s) := h5wg.at_ 0
            have t1 : wg.cell? ⟨p5, 1, none⟩ = some (.slice v5.A v5.n v5.c) := h5wg.at_ 1
            have HE := Lib.hid (attr_end (n := n4) (v := v5) (Nat.le_succ _) hRwg HON.out HOV.out HBW.out.size HBA.out (.string n4.s) (.slice n4.A n4.n n4.c) (.string v5.s) (.slice v5.A v5.n v5.c))
            go_wp2_with fail
            refine bodyPost_ret (v := .tuple #[.agg #[.string n4.s, .slice n4.A n4.n n4.c, .string v5.s, .slice v5.A v5.n v5.c], .bool false]) ?_ rfl ?_
            · simp [results, Tryz.results8, go_sem, r0, r1, r2, r3]
            · exact ⟨⟨n4, v5⟩, false, rfl, ⟨by rw [HCL.out, HW0.out, HA1.out, HA2.out, HA3.out]; rfl, (fun p hp => by rw [HCL.out, HW0.out, HA1.out, HA2.out, HA3.out] at hp; cases hp), HE.out.1⟩, HE.out.2⟩
    · have HW0 := Lib.hid hw
      have HBA : Hid (Below w.heap.size w wd) := below_next HBC.out (Nat.le_refl _) HBwd.out
      have r0 : wd.cell? ⟨w.heap.size + 1, 0, none⟩ = some (.string ⟨#[]⟩) := hRwd.at_ 0
      have r1 : wd.cell? ⟨w.heap.size + 1, 1, none⟩ = some (.slice none 0 0) := hRwd.at_ 1
      have r2 : wd.cell? ⟨w.heap.size + 1, 2, none⟩ = some (.string ⟨#[]⟩) := hRwd.at_ 2
      have r3 : wd.cell? ⟨w.heap.size + 1, 3, none⟩ = some (.slice none 0 0) := hRwd.at_ 3
      have f0 := hRwd.free 0
      have f1 := hRwd.free 1
      have f2 := hRwd.free 2
      have f3 := hRwd.free 3
      have HE := Lib.hid (attr_end (n := noT) (v := noT) (base := w.heap.size) (Nat.le_succ _) hRwd (noT_own _ _) (noT_own _ _) (Nat.le_refl _) HBA.out (.string ⟨#[]⟩) (.slice none 0 0) (.string ⟨#[]⟩) (.slice none 0 0))
      go_wp2_with fail
      refine bodyPost_ret (v := .tuple #[.agg #[.string ⟨#[]⟩, .slice none 0 0, .string ⟨#[]⟩, .slice none 0 0], .bool false]) ?_ rfl ?_
      · simp [results, Tryz.results8, go_sem, r0, r1, r2, r3]
      · exact ⟨⟨noT, noT⟩, false, rfl, ⟨by rw [HCL.out, if_pos HW0.out]; rfl, (fun p hp => by rw [HCL.out, if_pos HW0.out] at hp; cases hp), HE.out.1⟩, HE.out.2⟩

end Go.Proofs.YtnbdldapmllegaaGreat.mk
