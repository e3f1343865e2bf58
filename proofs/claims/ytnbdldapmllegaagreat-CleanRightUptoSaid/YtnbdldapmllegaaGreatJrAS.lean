/-
  The program's element: what is left of one. (Written by gen_clnp_el.py and rl.py.)
-/
import Derived.Test.YtnbdldapmllegaaGreatJrAR
import Derived.Test.YtnbdldapmllegaaGreatJrAM
import Derived.Test.YtnbdldapmllegaaGreatJrAH
import Derived.RegionTactic
import Derived.Test.YtnbdldapmllegaaGreatJrO
import Derived.Deep.DeepCutAuto
import Derived.Deep.CutBlock
import Derived.Test.YtnbdldapmllegaaGreatJrH
import Derived.Test.YtnbdldapmllegaaGreatJrAP
namespace Go.Proofs.YtnbdldapmllegaaGreat.mk
open Go.RowKit

/-- the element that is made: its block, and all that it names, new -/
def elX (n : LT) (key : ByteArray) (A : Option Addr) (m c : Nat) (H : Option Addr) (hn hc : Nat) (K : Option Addr) (kn kc : Nat) : Array Value :=
  #[.int .i64 1, .string n.s, .slice n.A n.n n.c, .string key, .slice A m c, .slice H hn hc, .slice K kn kc, .string ⟨#[]⟩, .slice none 0 0, .int .i64 0]
structure ElX (w0 wx : World) (g : Nat) (lt : Ch) (key : ByteArray) (n : LT) (A : Option Addr) (c : Nat) (us : List AT) (H : Option Addr) (hc : Nat) (hs : List PH) (K : Option Addr) (kn kc : Nat) : Prop where
  blk : Whole wx g 43 (elX n key A us.length c H hs.length hc K kn kc)
  ge : w0.heap.size ≤ g
  tag : n.ch = lt ∧ OwnL wx w0.heap.size n
  att : wx.ownsRow w0.heap.size 30 4 (.slice A us.length c) us.length (atCells us)
  atts : AllOwn wx w0.heap.size us
  hook : wx.ownsRow w0.heap.size 94 3 (.slice H hs.length hc) hs.length (hkCells hs)
  bel : Below w0.heap.size w0 wx

theorem view_put {B g : Nat} {wr w3 : World} {c0 c1 c2 c3 c4 c5 c6 c7 c8 c9 : Value} (h : Below B wr w3) (hg : B ≤ g) (hW : Whole w3 g 43 #[c0, c1, c2, c3, c4, c5, c6, c7, c8, c9]) (u0 u1 u2 u3 u4 u5 u6 u7 u8 u9 : Value) :
    Below B wr ((((((((((w3.setCell ⟨g, 0, none⟩ u0).setCell ⟨g, 1, none⟩ u1).setCell ⟨g, 2, none⟩ u2).setCell ⟨g, 3, none⟩ u3).setCell ⟨g, 4, none⟩ u4).setCell ⟨g, 5, none⟩ u5).setCell ⟨g, 6, none⟩ u6).setCell ⟨g, 7, none⟩ u7).setCell ⟨g, 8, none⟩ u8).setCell ⟨g, 9, none⟩ u9) ∧ Whole ((((((((((w3.setCell ⟨g, 0, none⟩ u0).setCell ⟨g, 1, none⟩ u1).setCell ⟨g, 2, none⟩ u2).setCell ⟨g, 3, none⟩ u3).setCell ⟨g, 4, none⟩ u4).setCell ⟨g, 5, none⟩ u5).setCell ⟨g, 6, none⟩ u6).setCell ⟨g, 7, none⟩ u7).setCell ⟨g, 8, none⟩ u8).setCell ⟨g, 9, none⟩ u9) g 43 #[u0, u1, u2, u3, u4, u5, u6, u7, u8, u9] ∧ ∀ k, k ≠ g → ((((((((((w3.setCell ⟨g, 0, none⟩ u0).setCell ⟨g, 1, none⟩ u1).setCell ⟨g, 2, none⟩ u2).setCell ⟨g, 3, none⟩ u3).setCell ⟨g, 4, none⟩ u4).setCell ⟨g, 5, none⟩ u5).setCell ⟨g, 6, none⟩ u6).setCell ⟨g, 7, none⟩ u7).setCell ⟨g, 8, none⟩ u8).setCell ⟨g, 9, none⟩ u9).heap[k]? = w3.heap[k]? := by
  refine ⟨(((((((((h.setCell (p := ⟨g, 0, none⟩) hg _).setCell (p := ⟨g, 1, none⟩) hg _).setCell (p := ⟨g, 2, none⟩) hg _).setCell (p := ⟨g, 3, none⟩) hg _).setCell (p := ⟨g, 4, none⟩) hg _).setCell (p := ⟨g, 5, none⟩) hg _).setCell (p := ⟨g, 6, none⟩) hg _).setCell (p := ⟨g, 7, none⟩) hg _).setCell (p := ⟨g, 8, none⟩) hg _).setCell (p := ⟨g, 9, none⟩) hg _, ?_, fun k hk => ((Below.heap_setCell _ ⟨g, 9, none⟩ _ k hk).trans ((Below.heap_setCell _ ⟨g, 8, none⟩ _ k hk).trans ((Below.heap_setCell _ ⟨g, 7, none⟩ _ k hk).trans ((Below.heap_setCell _ ⟨g, 6, none⟩ _ k hk).trans ((Below.heap_setCell _ ⟨g, 5, none⟩ _ k hk).trans ((Below.heap_setCell _ ⟨g, 4, none⟩ _ k hk).trans ((Below.heap_setCell _ ⟨g, 3, none⟩ _ k hk).trans ((Below.heap_setCell _ ⟨g, 2, none⟩ _ k hk).trans ((Below.heap_setCell _ ⟨g, 1, none⟩ _ k hk).trans (Below.heap_setCell _ ⟨g, 0, none⟩ _ k hk))))))))))⟩
  have h2 := (((((((((hW.put 0 u0).put 1 u1).put 2 u2).put 3 u3).put 4 u4).put 5 u5).put 6 u6).put 7 u7).put 8 u8).put 9 u9
  simp only [List.setIfInBounds_toArray, List.set_cons_zero, List.set_cons_succ] at h2
  exact h2
/-- what is owned and is no row of views stays when a view is written -/
theorem own_view {w3 : World} {base g n sz : Nat} {e : TypeId} {v : Value} {xs : List Value} {cs : Array Value} (ho : w3.ownsRow base e sz v n xs) (hW : Whole w3 g 43 cs) (he : e ≠ 43) (j : Nat) (u : Value) : (w3.setCell ⟨g, j, none⟩ u).ownsRow base e sz v n xs := by
  refine own_far ho _ (fun e2 => ?_) _
  obtain ⟨cur, hc⟩ := own_kind ho e2
  exact kind2_ne hc hW he rfl

theorem OwnA.set {w : World} {base g j : Nat} {n : AT} {cs : Array Value} {t : TypeId} (h : OwnA w base n) (hR : Whole w g t cs) (ht : 79 ≠ t) (u : Value) : OwnA (w.setCell ⟨g, j, none⟩ u) base n := ⟨h.1.set hR ht u, h.2.set hR ht u⟩
section
variable {w0 W W2 : World} {g : Nat} {lt : Ch} {key : ByteArray} {n : LT} {A : Option Addr} {c : Nat} {us : List AT} {H : Option Addr} {hc : Nat} {hs : List PH} {K : Option Addr} {kn kc : Nat}
theorem ElX.keep (h : ElX w0 W g lt key n A c us H hc hs K kn kc) (hb : Below W.heap.size W W2) : ElX w0 W2 g lt key n A c us H hc hs K kn kc :=
  ⟨h.blk.below hb h.blk.lt, h.ge, ⟨h.tag.1, h.tag.2.below hb⟩, own_keep h.att hb, h.atts.below hb, own_keep h.hook hb, below_next h.bel (Nat.le_refl _) hb⟩
end
theorem atRow_oneC (t : AT) : ∀ u ∈ atRow t, u.oneCell' = true := by simp [Value.oneCell', atRow]
theorem atW_mem {l : List PA} {a : PA} (h : a ∈ l) : a.1.length + a.2.length + 1 ≤ atWs l := by
  induction l with
  | nil => cases h
  | cons b l ih =>
    rw [atWs_cons]
    rcases List.mem_cons.1 h with rfl | h
    · omega
    · have := ih h; omega
theorem att_sizeV {v : VT} {a : AT} (h : a ∈ v.atts) : a.vl.s.size ≤ v.ch.bk := by
  have h1 := atW_mem (List.mem_map.2 ⟨a, h, rfl⟩ : a.ch ∈ v.atts.map AT.ch)
  have h2 := v.ch.bk_eq
  rw [VT.ch_attrs] at h2
  have h3 : a.ch.2.length = a.vl.s.size := LT.ch_length a.vl
  omega
section
variable {w0 W W2 : World} {g : Nat} {lt : Ch} {key : ByteArray} {n : LT} {A : Option Addr} {c : Nat} {us : List AT} {H : Option Addr} {hc : Nat} {hs : List PH} {K : Option Addr} {kn kc : Nat}
theorem ElX.kids {K' : Option Addr} {kn' kc' : Nat} (h : ElX w0 W g lt key n A c us H hc hs K kn kc) : ElX w0 (W.setCell ⟨g, 6, none⟩ (.slice K' kn' kc')) g lt key n A c us H hc hs K' kn' kc' := by
  refine ⟨?_, h.ge, ⟨h.tag.1, h.tag.2.set h.blk (by decide) _⟩, own_view h.att h.blk (by decide) _ _, fun x hx => (h.atts x hx).set h.blk (by decide) _, own_view h.hook h.blk (by decide) _ _, h.bel.setCell (p := ⟨g, 6, none⟩) h.ge _⟩
  have h2 := h.blk.put 6 (.slice K' kn' kc')
  unfold elX at h2 ⊢
  simp only [List.setIfInBounds_toArray, List.set_cons_zero, List.set_cons_succ] at h2
  exact h2
theorem VRow.far {w : World} {base g j : Nat} {qs : List PV} {v u : Value} (h : VRow w base qs v) (hg : g < base) : VRow (w.setCell ⟨g, j, none⟩ u) base qs v := by
  obtain ⟨A, c, us, h1, h2, h3, h4⟩ := h
  refine ⟨A, c, us, h1, own_far h2 _ (fun e => ?_) _, h3.keep ⟨by rw [World.size_setCell]; exact Nat.le_refl _, fun b hb _ => Below.heap_setCell _ _ _ _ (fun e => ?_)⟩, h4⟩
  · have := (h2.lt _ e).1
    simp at this
    omega
  · have := hb.1
    rw [e] at this
    simp at this
    omega
end
theorem hk_next {l : List PH} {k : Nat} {t : PH} (h : l[k]? = some t) : (l.take (k + 1)).filter hookOk = (l.take k).filter hookOk ++ (if hookOk t then [t] else []) := by
  rw [take_next h, List.filter_append]
  congr 1
  rw [List.filter_cons, List.filter_nil]
theorem filt_next {ats : List AT} {k : Nat} {a : AT} (h : ats[k]? = some a) : ((ats.take (k + 1)).map AT.ch).filterMap cleanA = ((ats.take k).map AT.ch).filterMap cleanA ++ (cleanA a.ch).toList := by
  rw [take_next h, List.map_append, List.filterMap_append]
  congr 1

theorem wp_region_lastE {P : Program} {ops : Array Oper} {Q : Exit → Act → World → Prop} {S : World → Prop} {Z : Nat → Bool} {id : Nat} {a : Act} {w : World} (hm : P.follows .mixedOrders = true)
    (h : wpAnyL P .any ops Q S Z ops.size (Array.replicate ops.size false) a w.drew) : (Code.region id ops true).wp P Q a w := wp_region_any hm (wpAny_of_last _ _ _ _ h)
end Go.Proofs.YtnbdldapmllegaaGreat.mk

namespace Go.Proofs.YtnbdldapmllegaaGreat.mk
open Go.RowKit

/-- what is known while the answers and the variables are made, in whatever order -/
structure Cp (q : AT) (gb : Nat) (l4 l5 : List (UInt8 × Int)) (wc : World) (L : Nat → Bool) (x4 x5 x9 x10 x11 x12 x13 x14 : Value) (w : World) : Prop where
  bel : Below wc.heap.size wc w
  h0 : L 0 = true → x9 = .pointer (some ⟨gb, 0, none⟩)
  h1 : L 1 = true → x10 = .agg #[.string q.nm.s, .slice q.nm.A q.nm.n q.nm.c]
  h2 : L 2 = true → ResO l4 wc.heap.size w x11
  h3 : L 3 = true → x12 = .pointer (some ⟨gb, 2, none⟩)
  h4 : L 4 = true → x13 = .agg #[.string q.vl.s, .slice q.vl.A q.vl.n q.vl.c]
  h5 : L 5 = true → ResO l5 wc.heap.size w x14
  h6 : L 6 = true → VarT wc.heap.size w x4 (L 8) x11
  h7 : L 7 = true → VarT wc.heap.size w x5 (L 9) x14
  d6_7 : L 6 = true → L 7 = true → x4 ≠ x5
  o8 : L 8 = true → L 2 = true ∧ L 6 = true
  o9 : L 9 = true → L 5 = true ∧ L 7 = true
  c5_2 : L 5 = true → L 2 = true
theorem Cp.keep {q : AT} {gb : Nat} {l4 l5 : List (UInt8 × Int)} {wc : World} {L : Nat → Bool} {x4 x5 x9 x10 x11 x12 x13 x14 : Value} {w w' : World} (h : Cp q gb l4 l5 wc L x4 x5 x9 x10 x11 x12 x13 x14 w) (hb : Below w.heap.size w w') : Cp q gb l4 l5 wc L x4 x5 x9 x10 x11 x12 x13 x14 w' :=
  ⟨below_next h.bel (Nat.le_refl _) hb, h.h0, h.h1, (fun e => (h.h2 e).below hb), h.h3, h.h4, (fun e => (h.h5 e).below hb), (fun e => (h.h6 e).below hb), (fun e => (h.h7 e).below hb), h.d6_7, h.o8, h.o9, h.c5_2⟩

/-- what is known behind the ways of the program's attr -/
def PaRes (a : PA) (p4 p5 : Nat) (n4 : LT) (g : Nat) (w1 : World) (s6 : Value) (wx : World) : Prop :=
  ∃ (b : Bool) (v : LT), s6 = .bool b ∧ Hid (b = (cleanA a).isSome ∧ ∀ p, cleanA a = some p → (n4.ch, v.ch) = p) ∧ Whole wx p4 28 #[.string n4.s, .slice n4.A n4.n n4.c] ∧ Whole wx p5 28 #[.string v.s, .slice v.A v.n v.c] ∧
    Hid (OwnL wx w1.heap.size n4 ∧ OwnL wx w1.heap.size v) ∧ Whole wx g 30 #[.string ⟨#[]⟩, .slice none 0 0, .string ⟨#[]⟩, .slice none 0 0] ∧ Hid (Below w1.heap.size w1 wx)

set_option maxHeartbeats 8000000 in
set_option maxRecDepth 100000 in
theorem pAttr_any (q : AT) (mx : Int) (w : World) (hm : w.cell? ⟨0, 0, none⟩ = some (.int .i64 mx)) (ha : q.ok w w.heap.size) (hs : q.vl.s.size ≤ 16777216) :
    Calls Tryz.prog 32 #[.agg #[.string q.nm.s, .slice q.nm.A q.nm.n q.nm.c, .string q.vl.s, .slice q.vl.A q.vl.n q.vl.c]] w (LawAttr q.ch w) := by
  obtain ⟨l4, E4⟩ : ∃ l4, l4 = lowC q.nm.ch := ⟨_, rfl⟩
  obtain ⟨l5, E5⟩ : ∃ l5, l5 = rep q.vl.ch := ⟨_, rfl⟩
  have HE4 := Lib.hid E4
  have HE5 := Lib.hid E5
  have HLL : Hid (∀ W, Below w.heap.size w W → Calls Tryz.prog 19 #[.agg #[.string q.nm.s, .slice q.nm.A q.nm.n q.nm.c]] W (ToldO l4 W)) := fun W hb => by
    rw [E4]; exact lowO_any q.nm W (ha.1.next hb (Nat.le_refl _))
  have HRR : Hid (∀ W, Below w.heap.size w W → Calls Tryz.prog 20 #[.agg #[.string q.vl.s, .slice q.vl.A q.vl.n q.vl.c]] W (ToldO l5 W)) := fun W hb => by
    rw [E5]; exact repO_any q.vl W (ha.2.next hb (Nat.le_refl _)) (by omega)
  have HZ5 : Hid (l5.length ≤ 50331648) := by
    show _ ≤ _
    have := rep_length q.vl.ch
    rw [LT.ch_length] at this
    rw [E5]; omega
  have HMX : Hid (∀ W, Below w.heap.size w W → W.cell? ⟨0, 0, none⟩ = some (.int .i64 mx)) := fun W hb => (hb.cell (block_zero _ _ _ hm)).trans hm
  clear E4 E5 ha hs hm
  go_enter Tryz.func32, Tryz.ntmps32
  go_upto_region 1 with (fail)
  generalize hw1 : (w.alloc (.cells #[.string q.nm.s, .slice q.nm.A q.nm.n q.nm.c, .string q.vl.s, .slice q.vl.A q.vl.n q.vl.c] 30)).alloc (.cells #[.string ⟨#[]⟩, .slice none 0 0, .string ⟨#[]⟩, .slice none 0 0] 30) = w1
  have y0 : Whole w1 w.heap.size 30 #[.string q.nm.s, .slice q.nm.A q.nm.n q.nm.c, .string q.vl.s, .slice q.vl.A q.vl.n q.vl.c] := by rw [← hw1]; exact (Whole.made w _ _).alloc _
  have yR : Whole w1 (w.heap.size + 1) 30 #[.string ⟨#[]⟩, .slice none 0 0, .string ⟨#[]⟩, .slice none 0 0] := by
    rw [← hw1]
    have h := Whole.made (w.alloc (.cells #[.string q.nm.s, .slice q.nm.A q.nm.n q.nm.c, .string q.vl.s, .slice q.vl.A q.vl.n q.vl.c] 30)) 30 #[.string ⟨#[]⟩, .slice none 0 0, .string ⟨#[]⟩, .slice none 0 0]
    rw [World.size_alloc] at h
    exact h
  have hbw : Below w.heap.size w w1 := by rw [← hw1]; exact ((Below.refl _ _).alloc (Nat.le_refl _) _).alloc (by rw [World.size_alloc]; exact Nat.le_succ _) _
  have HLO : Hid (∀ w', Below w1.heap.size w1 w' → Calls Tryz.prog 19 #[.agg #[.string q.nm.s, .slice q.nm.A q.nm.n q.nm.c]] w' fun e w'' => ∃ x, e = .returned x ∧ ResO l4 w1.heap.size w'' x ∧ Below w'.heap.size w' w'') := fun w' hb' =>
    (HLL.out w' (hbw.trans (hb'.mono hbw.size))).mono fun e w'' h => resO_told hb'.size h
  have HRP : Hid (∀ w', Below w1.heap.size w1 w' → Calls Tryz.prog 20 #[.agg #[.string q.vl.s, .slice q.vl.A q.vl.n q.vl.c]] w' fun e w'' => ∃ x, e = .returned x ∧ ResO l5 w1.heap.size w'' x ∧ Below w'.heap.size w' w'') := fun w' hb' =>
    (HRR.out w' (hbw.trans (hb'.mono hbw.size))).mono fun e w'' h => resO_told hb'.size h
  have HBW := Lib.hid hbw
  clear hw1 HLL HRR
  go_cut [4, 5] (fun s4 s5 wx => CaRes l4 l5 w1 s4 s5 wx)
  case first =>
    refine wp_region_any (by kernel_rfl) ?_
    refine wpAny_inv (fun listed a w' => listed.size = 10 ∧ ∃ x4 x5 x9 x10 x11 x12 x13 x14, a = ⟨#[.agg #[.string q.nm.s, .slice q.nm.A q.nm.n q.nm.c, .string q.vl.s, .slice q.vl.A q.vl.n q.vl.c], .pointer (some ⟨w.heap.size, 0, none⟩), .pointer (some ⟨w.heap.size + 1, 0, none⟩), .bool false, x4, x5, undef, undef, undef, x9, x10, x11, x12, x13, x14, undef, undef, undef, undef, undef, undef, undef, undef, undef, undef, undef, undef, undef, undef, undef, undef, undef, undef, undef, undef, undef, undef, undef, undef, undef, undef, undef, undef, undef, undef, undef, undef, undef], []⟩ ∧ Cp q w.heap.size l4 l5 w1 (fun k => listed.getD k false) x4 x5 x9 x10 x11 x12 x13 x14 w') ?_ ?_ _ _ _ _ (by rfl) (by decide) ⟨rfl, _, _, _, _, _, _, _, _, rfl, ?_⟩
    · rintro listed a w' ⟨hsz, x4, x5, x9, x10, x11, x12, x13, x14, rfl, h⟩ hr
      have al := ready_nil (md := .any) hsz (by kernel_rfl) hr
      have al' : ∀ k, k < 10 → listed.getD k false = true := al
      go_wp2_with fail
      go_meet
      exact ⟨h.bel, h.d6_7 (al' 6 (by decide)) (al' 7 (by decide)), ⟨_, h.h2 (al' 2 (by decide)), by have h1 := h.h6 (al' 6 (by decide)); rw [al' 8 (by decide)] at h1; exact h1⟩, ⟨_, h.h5 (al' 5 (by decide)), by have h1 := h.h7 (al' 7 (by decide)); rw [al' 9 (by decide)] at h1; exact h1⟩⟩
    · rintro listed a w' i ⟨hsz, x4, x5, x9, x10, x11, x12, x13, x14, rfl, h⟩ hi
      obtain ⟨hi1, hi2, hrd⟩ := ready_mem hi
      have d0 : w'.cell? ⟨w.heap.size, 0, none⟩ = some (.string q.nm.s) := (h.bel.cell y0.lt).trans (y0.at_ 0)
      have d1 : w'.cell? ⟨w.heap.size, 1, none⟩ = some (.slice q.nm.A q.nm.n q.nm.c) := (h.bel.cell y0.lt).trans (y0.at_ 1)
      have d2 : w'.cell? ⟨w.heap.size, 2, none⟩ = some (.string q.vl.s) := (h.bel.cell y0.lt).trans (y0.at_ 2)
      have d3 : w'.cell? ⟨w.heap.size, 3, none⟩ = some (.slice q.vl.A q.vl.n q.vl.c) := (h.bel.cell y0.lt).trans (y0.at_ 3)
      have hN : i = 0 ∨ i = 1 ∨ i = 2 ∨ i = 3 ∨ i = 4 ∨ i = 5 ∨ i = 6 ∨ i = 7 ∨ i = 8 ∨ i = 9 := by have : i < 10 := hi1; omega
      rcases hN with rfl | rfl | rfl | rfl | rfl | rfl | rfl | rfl | rfl | rfl
      · have hlt : 0 < listed.size := by rw [hsz]; decide
        have nme := getD2_tf hi2
        clear hrd hi
        refine wpOp_step (i := 0) rfl (fun K' hK => ?_)
        go_simp
        refine hK _ _ ⟨by simpa using hsz, x4, x5, _, x10, x11, x12, x13, x14, rfl, ?_⟩
        rw [getD2_upd hlt]
        exact ⟨h.bel, (fun _ => rfl), h.h1, h.h2, h.h3, h.h4, h.h5, h.h6, h.h7, h.d6_7, (fun e => ⟨upd2_of (h.o8 e).1, upd2_of (h.o8 e).2⟩), (fun e => ⟨upd2_of (h.o9 e).1, upd2_of (h.o9 e).2⟩), (fun e => upd2_of (h.c5_2 e))⟩
      · have hlt : 1 < listed.size := by rw [hsz]; decide
        have nme := getD2_tf hi2
        have hd : listed.getD 0 false = true := by simp [Region.binds] at hrd; simp [hrd]
        have e0 := hd
        obtain rfl := h.h0 e0
        clear hrd hi
        refine wpOp_step (i := 1) rfl (fun K' hK => ?_)
        go_simp
        refine hK _ _ ⟨by simpa using hsz, x4, x5, _, _, x11, x12, x13, x14, rfl, ?_⟩
        rw [getD2_upd hlt]
        exact ⟨h.bel, h.h0, (fun _ => rfl), h.h2, h.h3, h.h4, h.h5, h.h6, h.h7, h.d6_7, (fun e => ⟨upd2_of (h.o8 e).1, upd2_of (h.o8 e).2⟩), (fun e => ⟨upd2_of (h.o9 e).1, upd2_of (h.o9 e).2⟩), (fun e => upd2_of (h.c5_2 e))⟩
      · have hlt : 2 < listed.size := by rw [hsz]; decide
        have nme := getD2_tf hi2
        have hd : listed.getD 1 false = true := by simp [Region.binds] at hrd; simp [hrd]
        have e1 := hd
        clear hrd hi
        obtain rfl := h.h1 e1
        have nl : listed.getD 8 false = false := by cases hx : listed.getD 8 false with | false => rfl | true => exact absurd (h.o8 hx).1 (by rw [nme]; decide)
        refine wpOp_step (i := 2) rfl (fun K' hK => ?_)
        go_simp
        refine (HLO.out _ h.bel).mono ?_
        rintro e w' ⟨x, rfl, hr, hb⟩
        refine hK _ _ ⟨by simpa using hsz, x4, x5, x9, _, _, x12, x13, x14, rfl, ?_⟩
        rw [getD2_upd hlt]
        have h' := h.keep hb
        exact ⟨h'.bel, h'.h0, h'.h1, (fun _ => hr), h'.h3, h'.h4, h'.h5, (fun e => by obtain ⟨p, u, v, g1, g2, g3, g4⟩ := h'.h6 e; exact ⟨p, u, v, g1, g2, g3, fun e' => absurd (show listed.getD 8 false = true from e') (by rw [nl]; decide)⟩), h'.h7, h'.d6_7, (fun e => ⟨upd2_of (h.o8 e).1, upd2_of (h.o8 e).2⟩), (fun e => ⟨upd2_of (h.o9 e).1, upd2_of (h.o9 e).2⟩), (fun e => upd2_of (h.c5_2 e))⟩
      · have hlt : 3 < listed.size := by rw [hsz]; decide
        have nme := getD2_tf hi2
        clear hrd hi
        refine wpOp_step (i := 3) rfl (fun K' hK => ?_)
        go_simp
        refine hK _ _ ⟨by simpa using hsz, x4, x5, x9, x10, x11, _, x13, x14, rfl, ?_⟩
        rw [getD2_upd hlt]
        exact ⟨h.bel, h.h0, h.h1, h.h2, (fun _ => rfl), h.h4, h.h5, h.h6, h.h7, h.d6_7, (fun e => ⟨upd2_of (h.o8 e).1, upd2_of (h.o8 e).2⟩), (fun e => ⟨upd2_of (h.o9 e).1, upd2_of (h.o9 e).2⟩), (fun e => upd2_of (h.c5_2 e))⟩
      · have hlt : 4 < listed.size := by rw [hsz]; decide
        have nme := getD2_tf hi2
        have hd : listed.getD 3 false = true := by simp [Region.binds] at hrd; simp [hrd]
        have e3 := hd
        obtain rfl := h.h3 e3
        clear hrd hi
        refine wpOp_step (i := 4) rfl (fun K' hK => ?_)
        go_simp
        refine hK _ _ ⟨by simpa using hsz, x4, x5, x9, x10, x11, _, _, x14, rfl, ?_⟩
        rw [getD2_upd hlt]
        exact ⟨h.bel, h.h0, h.h1, h.h2, h.h3, (fun _ => rfl), h.h5, h.h6, h.h7, h.d6_7, (fun e => ⟨upd2_of (h.o8 e).1, upd2_of (h.o8 e).2⟩), (fun e => ⟨upd2_of (h.o9 e).1, upd2_of (h.o9 e).2⟩), (fun e => upd2_of (h.c5_2 e))⟩
      · have hlt : 5 < listed.size := by rw [hsz]; decide
        have nme := getD2_tf hi2
        have hd : listed.getD 4 false = true ∧ listed.getD 2 false = true := by simp [Region.binds] at hrd; simp [hrd]
        obtain ⟨e4, e2⟩ := hd
        clear hrd hi
        obtain rfl := h.h4 e4
        have nl : listed.getD 9 false = false := by cases hx : listed.getD 9 false with | false => rfl | true => exact absurd (h.o9 hx).1 (by rw [nme]; decide)
        refine wpOp_step (i := 5) rfl (fun K' hK => ?_)
        go_simp
        refine (HRP.out _ h.bel).mono ?_
        rintro e w' ⟨x, rfl, hr, hb⟩
        refine hK _ _ ⟨by simpa using hsz, x4, x5, x9, x10, x11, x12, _, _, rfl, ?_⟩
        rw [getD2_upd hlt]
        have h' := h.keep hb
        exact ⟨h'.bel, h'.h0, h'.h1, h'.h2, h'.h3, h'.h4, (fun _ => hr), h'.h6, (fun e => by obtain ⟨p, u, v, g1, g2, g3, g4⟩ := h'.h7 e; exact ⟨p, u, v, g1, g2, g3, fun e' => absurd (show listed.getD 9 false = true from e') (by rw [nl]; decide)⟩), h'.d6_7, (fun e => ⟨upd2_of (h.o8 e).1, upd2_of (h.o8 e).2⟩), (fun e => ⟨upd2_of (h.o9 e).1, upd2_of (h.o9 e).2⟩), (fun _ => upd2_of e2)⟩
      · have hlt : 6 < listed.size := by rw [hsz]; decide
        have nme := getD2_tf hi2
        clear hrd hi
        have nl : listed.getD 8 false = false := by cases hx : listed.getD 8 false with | false => rfl | true => exact absurd (h.o8 hx).2 (by rw [nme]; decide)
        refine wpOp_step (i := 6) rfl (fun K' hK => ?_)
        go_simp
        refine hK _ _ ⟨by simpa using hsz, _, x5, x9, x10, x11, x12, x13, x14, rfl, ?_⟩
        rw [getD2_upd hlt]
        have h' := h.keep ((Below.refl _ _).alloc (Nat.le_refl _) (.cells #[.string ⟨#[]⟩, .slice none 0 0] 28))
        exact ⟨h'.bel, h'.h0, h'.h1, h'.h2, h'.h3, h'.h4, h'.h5, (fun _ => ⟨_, _, _, rfl, h.bel.size, Whole.made _ _ _, fun e' => absurd (show listed.getD 8 false = true from e') (by rw [nl]; decide)⟩), h'.h7, (fun _ e => (h.h7 e).old.symm), (fun e => ⟨upd2_of (h.o8 e).1, upd2_of (h.o8 e).2⟩), (fun e => ⟨upd2_of (h.o9 e).1, upd2_of (h.o9 e).2⟩), (fun e => upd2_of (h.c5_2 e))⟩
      · have hlt : 7 < listed.size := by rw [hsz]; decide
        have nme := getD2_tf hi2
        clear hrd hi
        have nl : listed.getD 9 false = false := by cases hx : listed.getD 9 false with | false => rfl | true => exact absurd (h.o9 hx).2 (by rw [nme]; decide)
        refine wpOp_step (i := 7) rfl (fun K' hK => ?_)
        go_simp
        refine hK _ _ ⟨by simpa using hsz, x4, _, x9, x10, x11, x12, x13, x14, rfl, ?_⟩
        rw [getD2_upd hlt]
        have h' := h.keep ((Below.refl _ _).alloc (Nat.le_refl _) (.cells #[.string ⟨#[]⟩, .slice none 0 0] 28))
        exact ⟨h'.bel, h'.h0, h'.h1, h'.h2, h'.h3, h'.h4, h'.h5, h'.h6, (fun _ => ⟨_, _, _, rfl, h.bel.size, Whole.made _ _ _, fun e' => absurd (show listed.getD 9 false = true from e') (by rw [nl]; decide)⟩), (fun e _ => (h.h6 e).old), (fun e => ⟨upd2_of (h.o8 e).1, upd2_of (h.o8 e).2⟩), (fun e => ⟨upd2_of (h.o9 e).1, upd2_of (h.o9 e).2⟩), (fun e => upd2_of (h.c5_2 e))⟩
      · have hlt : 8 < listed.size := by rw [hsz]; decide
        have nme := getD2_tf hi2
        have hd : listed.getD 6 false = true ∧ listed.getD 2 false = true ∧ listed.getD 5 false = true := by simp [Region.binds] at hrd; simp [hrd]
        obtain ⟨e6, e2, e5⟩ := hd
        clear hrd hi
        obtain ⟨p, u, v, hx, hp1, hp2, _⟩ := h.h6 e6
        obtain ⟨t', hy', hyo⟩ := h.h2 e2
        subst hx
        subst hy'
        have k0 : w'.cell? ⟨p, 0, none⟩ = some u := hp2.at_ 0
        have k1 : w'.cell? ⟨p, 1, none⟩ = some v := hp2.at_ 1
        have k2 := hp2.free 0
        have k3 := hp2.free 1
        refine wpOp_step (i := 8) rfl (fun K' hK => ?_)
        go_simp
        refine hK _ _ ⟨by simpa using hsz, _, x5, x9, x10, _, x12, x13, x14, rfl, ?_⟩
        rw [getD2_upd hlt]
        exact ⟨(below_put2 h.bel hp1), h.h0, h.h1, (fun e => (h.h2 e).put hp2), h.h3, h.h4, (fun e => (h.h5 e).put hp2), (fun _ => ⟨p, _, _, rfl, hp1, (hp2.put 0 _).put 1 _, fun _ => rfl⟩), (fun e => (h.h7 e).put (fun hh => h.d6_7 e6 e hh.symm)), h.d6_7, (fun _ => ⟨upd2_of e2, upd2_of e6⟩), (fun e => ⟨upd2_of (h.o9 e).1, upd2_of (h.o9 e).2⟩), (fun e => upd2_of (h.c5_2 e))⟩
      · have hlt : 9 < listed.size := by rw [hsz]; decide
        have nme := getD2_tf hi2
        have hd : listed.getD 7 false = true ∧ listed.getD 5 false = true := by simp [Region.binds] at hrd; simp [hrd]
        obtain ⟨e7, e5⟩ := hd
        clear hrd hi
        obtain ⟨p, u, v, hx, hp1, hp2, _⟩ := h.h7 e7
        obtain ⟨t', hy', hyo⟩ := h.h5 e5
        subst hx
        subst hy'
        have k0 : w'.cell? ⟨p, 0, none⟩ = some u := hp2.at_ 0
        have k1 : w'.cell? ⟨p, 1, none⟩ = some v := hp2.at_ 1
        have k2 := hp2.free 0
        have k3 := hp2.free 1
        refine wpOp_step (i := 9) rfl (fun K' hK => ?_)
        go_simp
        refine hK _ _ ⟨by simpa using hsz, x4, _, x9, x10, x11, x12, x13, _, rfl, ?_⟩
        rw [getD2_upd hlt]
        exact ⟨(below_put2 h.bel hp1), h.h0, h.h1, (fun e => (h.h2 e).put hp2), h.h3, h.h4, (fun e => (h.h5 e).put hp2), (fun e => (h.h6 e).put (fun hh => h.d6_7 e e7 hh)), (fun _ => ⟨p, _, _, rfl, hp1, (hp2.put 0 _).put 1 _, fun _ => rfl⟩), h.d6_7, (fun e => ⟨upd2_of (h.o8 e).1, upd2_of (h.o8 e).2⟩), (fun _ => ⟨upd2_of e5, upd2_of e7⟩), (fun e => upd2_of (h.c5_2 e))⟩
    · exact ⟨Below.drew (Below.refl _ _), (fun e => absurd e (by decide)), (fun e => absurd e (by decide)), (fun e => absurd e (by decide)), (fun e => absurd e (by decide)), (fun e => absurd e (by decide)), (fun e => absurd e (by decide)), (fun e => absurd e (by decide)), (fun e => absurd e (by decide)), (fun e => absurd e (by decide)), (fun e => absurd e (by decide)), (fun e => absurd e (by decide)), (fun e => absurd e (by decide))⟩
  case rest =>
    obtain ⟨hbc, hne, hr1, hr2⟩ := hcut
    obtain ⟨p4, n4, rfl, hp4, h4wc, HN4⟩ := hr1.get
    obtain ⟨p5, v5, rfl, hp5, h5wc, HV5⟩ := hr2.get
    have HBC : Hid (Below w1.heap.size w1 wc) := hbc
    have HYR := Lib.hid yR
    have hpn : p4 ≠ p5 := fun e => hne (by rw [e])
    have HNE := Lib.hid hpn
    have hRne : w.heap.size + 1 < p4 ∧ w.heap.size + 1 < p5 := by have := yR.lt; omega
    have HRN := Lib.hid hRne
    have HP5 := Lib.hid hp5
    have HC4 := Lib.hid h4wc
    have HC5 := Lib.hid h5wc
    obtain ⟨wz, rfl⟩ : ∃ wz : World, wz = wc := ⟨_, rfl⟩
    have HCL : Hid (cleanA q.ch = if wor l4 ≠ 0 then none else if isT attrL (byC l4) then some (l4, l5) else if isT addrL (byC l4) then (if safeB (readyL l5) then some (l4, readyL l5) else none) else if isT handL (byC l4) then (if wor l5 = 0 then some (l4, l5) else none) else none) := by
      show _ = _
      rw [HE4.out, HE5.out]; rfl
    have HPN : Hid (∀ W, Below wz.heap.size wz W → Calls Tryz.prog 36 #[.agg #[.string n4.s, .slice n4.A n4.n n4.c]] W fun e w' => e = .returned (.bool (decide (wor l4 = 0))) ∧ Below W.heap.size W w') := fun W hb => by
      have h := purO_any n4 W (HN4.out.2.ok.next hb (Nat.le_refl _))
      rw [HN4.out.1] at h
      exact h
    have HAT : Hid (∀ W, Calls Tryz.prog 22 #[.string n4.s] W fun e w' => e = .returned (.bool (isT attrL (byC l4))) ∧ Below W.heap.size W w') := fun W => by
      have h := attrO_any n4 W
      rw [HN4.out.1] at h
      exact h
    have HAD : Hid (∀ W, Calls Tryz.prog 23 #[.string n4.s] W fun e w' => e = .returned (.bool (isT addrL (byC l4))) ∧ Below W.heap.size W w') := fun W => by
      have h := addrO_any n4 W
      rw [HN4.out.1] at h
      exact h
    have HHD : Hid (∀ W, Calls Tryz.prog 25 #[.string n4.s] W fun e w' => e = .returned (.bool (isT handL (byC l4))) ∧ Below W.heap.size W w') := fun W => by
      have h := handO_any n4 W
      rw [HN4.out.1] at h
      exact h
    have HFI : Hid (∀ W, Below wz.heap.size wz W → Calls Tryz.prog 24 #[.agg #[.string v5.s, .slice v5.A v5.n v5.c]] W (ToldB (filterL (readyL l5)) (safeB (readyL l5)) W)) := fun W hb => by
      have h := filterO_any v5 mx W (HMX.out W (below_next (below_next HBW.out (Nat.le_refl _) HBC.out) (Nat.le_refl _) hb)) (HV5.out.2.ok.next hb (Nat.le_refl _)) (by have h1 := HZ5.out; rw [← HV5.out.1, LT.ch_length] at h1; omega)
      rw [HV5.out.1] at h
      exact h
    have HPV : Hid (∀ W, Below wz.heap.size wz W → Calls Tryz.prog 36 #[.agg #[.string v5.s, .slice v5.A v5.n v5.c]] W fun e w' => e = .returned (.bool (decide (wor l5 = 0))) ∧ Below W.heap.size W w') := fun W hb => by
      have h := purO_any v5 W (HV5.out.2.ok.next hb (Nat.le_refl _))
      rw [HV5.out.1] at h
      exact h
    -- where nothing is written
    have HSTAY : Hid (∀ (b : Bool) W, Below wz.heap.size wz W → b = (cleanA q.ch).isSome → (∀ p, cleanA q.ch = some p → (l4, l5) = p) → PaRes q.ch p4 p5 n4 (w.heap.size + 1) w1 (.bool b) W) := fun b W hb h1 h2 =>
      ⟨b, v5, rfl, ⟨h1, fun p hp => by rw [HN4.out.1, HV5.out.1]; exact h2 p hp⟩, HC4.out.below hb HC4.out.lt, HC5.out.below hb HC5.out.lt,
        ⟨HN4.out.2.keep fun g c _ hc => hb.block _ (Array.getElem?_eq_some_iff.1 hc).1, HV5.out.2.keep fun g c _ hc => hb.block _ (Array.getElem?_eq_some_iff.1 hc).1⟩,
        (HYR.out.below HBC.out HYR.out.lt).below hb (Nat.lt_of_lt_of_le HYR.out.lt HBC.out.size), below_next HBC.out (Nat.le_refl _) hb⟩
    clear hr1 hr2 hbc hne y0 yR hbw hp4 hp5 hpn hRne HLO HRP
    have s0 : wz.cell? ⟨p4, 0, none⟩ = some (.string n4.s) := h4wc.at_ 0
    have s1 : wz.cell? ⟨p4, 1, none⟩ = some (.slice n4.A n4.n n4.c) := h4wc.at_ 1
    clear h4wc h5wc
    go_wp2_with fail
    refine (HPN.out wz (Below.refl _ _)).mono ?_
    rintro e wd ⟨rfl, hq⟩
    have HBwd : Hid (Below wz.heap.size wz wd) := hq
    obtain ⟨b0, HB0⟩ : ∃ b0, Hid (decide (wor l4 = 0) = b0) := ⟨_, rfl⟩
    rw [HB0.out]
    have HN0 : Hid (b0 = false → cleanA q.ch = none) := fun e => by
      have h := HB0.out
      rw [e] at h
      rw [HCL.out, if_pos (of_decide_eq_false h)]
    have HT0 : Hid (b0 = true → wor l4 = 0) := fun e => by
      have h := HB0.out
      rw [e] at h
      exact of_decide_eq_true h
    clear hq s0 s1
    go_upto_block 0 with fail
    go_cut [6] (fun s6 wx => PaRes q.ch p4 p5 n4 (w.heap.size + 1) w1 s6 wx)
    case first =>
      have h4 := HC4.out.below HBwd.out HC4.out.lt
      have s0 : wd.cell? ⟨p4, 0, none⟩ = some (.string n4.s) := h4.at_ 0
      have s1 : wd.cell? ⟨p4, 1, none⟩ = some (.slice n4.A n4.n n4.c) := h4.at_ 1
      clear h4
      go_wp2_with fail
      refine (HAT.out wd).mono ?_
      rintro e we ⟨rfl, hq⟩
      have HBwe : Hid (Below wz.heap.size wz we) := below_next HBwd.out (Nat.le_refl _) hq
      clear hq s0 s1
      cases hba : isT attrL (byC l4) with
      | true =>
        have HE := Lib.hid (HSTAY.out b0 we HBwe.out (by
          cases hb : b0 with
          | false => rw [HN0.out hb]; rfl
          | true => rw [HCL.out, HT0.out hb, hba]; rfl) (fun p hp => by
          cases hb : b0 with
          | false => rw [HN0.out hb] at hp; cases hp
          | true => rw [HCL.out, HT0.out hb, hba] at hp; injection hp))
        clear hba
        go_wp2_with fail
        go_meet
        exact HE.out
      | false =>
        have HA1 := Lib.hid hba
        have h4 := HC4.out.below HBwe.out HC4.out.lt
        have s0 : we.cell? ⟨p4, 0, none⟩ = some (.string n4.s) := h4.at_ 0
        have s1 : we.cell? ⟨p4, 1, none⟩ = some (.slice n4.A n4.n n4.c) := h4.at_ 1
        clear h4 hba
        go_wp2_with fail
        refine (HAD.out we).mono ?_
        rintro e wf ⟨rfl, hq⟩
        have HBwf : Hid (Below wz.heap.size wz wf) := below_next HBwe.out (Nat.le_refl _) hq
        clear hq s0 s1
        cases hbd : isT addrL (byC l4) with
        | true =>
          have HA2 := Lib.hid hbd
          have h5 := HC5.out.below HBwf.out HC5.out.lt
          have t0 : wf.cell? ⟨p5, 0, none⟩ = some (.string v5.s) := h5.at_ 0
          have t1 : wf.cell? ⟨p5, 1, none⟩ = some (.slice v5.A v5.n v5.c) := h5.at_ 1
          clear h5 hbd
          go_wp2_with fail
          refine (HFI.out wf HBwf.out).mono ?_
          rintro e wg ⟨t, rfl, ht, hq⟩
          have HT := ht
          have HBwg : Hid (Below wz.heap.size wz wg) := below_next HBwf.out (Nat.le_refl _) hq
          have HOT : Hid (OwnL wg w1.heap.size t) := HT.out.2.mono (by have h1 := HBwf.out.size; have h2 := HBC.out.size; omega)
          clear hq t0 t1 ht
          obtain ⟨bs, HBS⟩ : ∃ bs, Hid (safeB (readyL l5) = bs) := ⟨_, rfl⟩
          rw [HBS.out]
          go_upto_region 7 with (fail)
          obtain ⟨wh, hwh⟩ : ∃ wh : World, wg.alloc (.cells #[.string t.s, .slice t.A t.n t.c] 28) = wh := ⟨_, rfl⟩
          have y7 : Whole wh wg.heap.size 28 #[.string t.s, .slice t.A t.n t.c] := by rw [← hwh]; exact Whole.made _ _ _
          have hgh : Below wg.heap.size wg wh := by rw [← hwh]; exact (Below.refl _ _).alloc (Nat.le_refl _) _
          have HBwh : Hid (Below wz.heap.size wz wh) := below_next HBwg.out (Nat.le_refl _) hgh
          have HOTh : Hid (OwnL wh w1.heap.size t) := HOT.out.below hgh
          try rw [hwh]
          clear hwh hgh
          have h5 := HC5.out.below HBwh.out HC5.out.lt
          have k0 := y7.at_ 0
          have k1 := y7.at_ 1
          have t0 : wh.cell? ⟨p5, 0, none⟩ = some (.string v5.s) := h5.at_ 0
          have t1 : wh.cell? ⟨p5, 1, none⟩ = some (.slice v5.A v5.n v5.c) := h5.at_ 1
          have f0 := h5.free 0
          have f1 := h5.free 1
          have HE : Hid (∀ b : Bool, b = (b0 && bs) → PaRes q.ch p4 p5 n4 (w.heap.size + 1) w1 (.bool b) ((wh.setCell ⟨p5, 0, none⟩ (.string t.s)).setCell ⟨p5, 1, none⟩ (.slice t.A t.n t.c))) := fun b hb => by
            have h5 := HC5.out.below HBwh.out HC5.out.lt
            have ht5 : 79 ≠ 28 := by decide
            have hx : w.heap.size + 1 ≠ p5 := fun e => by have := HRN.out.2; omega
            have hx2 : w1.heap.size ≤ p5 := HP5.out
            refine ⟨b, t, rfl, ⟨?_, fun p hp => ?_⟩, ((HC4.out.below HBwh.out HC4.out.lt).far _ HNE.out _).far _ HNE.out _, (h5.put 0 _).put 1 _, ⟨?_, ?_⟩, ?_, ?_⟩
            · cases hb0 : b0 with
              | false => rw [hb, hb0, HN0.out hb0]; rfl
              | true =>
                rw [hb, hb0, HCL.out, HT0.out hb0, HA1.out, HA2.out, HBS.out]
                cases bs <;> rfl
            · cases hb0 : b0 with
              | false => rw [HN0.out hb0] at hp; cases hp
              | true =>
                rw [HCL.out, HT0.out hb0, HA1.out, HA2.out, HBS.out] at hp
                cases hbs : bs with
                | false => rw [hbs] at hp; cases hp
                | true =>
                  rw [hbs] at hp
                  have h2 : t.ch = readyL l5 := by rw [HT.out.1, filterL_true (by rw [HBS.out, hbs])]
                  injection hp with hp
                  rw [← hp, HN4.out.1, h2]
            · have h : OwnL wh w1.heap.size n4 := HN4.out.2.keep fun g c _ hc => HBwh.out.block _ (Array.getElem?_eq_some_iff.1 hc).1
              exact (h.set h5 ht5 _).set (h5.put 0 _) ht5 _
            · exact (HOTh.out.set h5 ht5 _).set (h5.put 0 _) ht5 _
            · exact (((HYR.out.below HBC.out HYR.out.lt).below HBwh.out (Nat.lt_of_lt_of_le HYR.out.lt HBC.out.size)).far _ hx _).far _ hx _
            · exact ((below_next HBC.out (Nat.le_refl _) HBwh.out).setCell (p := ⟨p5, 0, none⟩) hx2 _).setCell (p := ⟨p5, 1, none⟩) hx2 _
          clear h5 y7
          cases b0 with
          | false =>
            go_wp2_with fail
            go_meet
            exact HE.out false rfl
          | true =>
            go_wp2_with fail
            go_meet
            exact HE.out bs (Bool.true_and _).symm
        | false =>
          have HA2 := Lib.hid hbd
          have h4 := HC4.out.below HBwf.out HC4.out.lt
          have s0 : wf.cell? ⟨p4, 0, none⟩ = some (.string n4.s) := h4.at_ 0
          have s1 : wf.cell? ⟨p4, 1, none⟩ = some (.slice n4.A n4.n n4.c) := h4.at_ 1
          clear h4 hbd
          go_wp2_with fail
          refine (HHD.out wf).mono ?_
          rintro e wg ⟨rfl, hq⟩
          have HBwg : Hid (Below wz.heap.size wz wg) := below_next HBwf.out (Nat.le_refl _) hq
          clear hq s0 s1
          cases hbh : isT handL (byC l4) with
          | true =>
            have HA3 := Lib.hid hbh
            clear hbh
            cases hb0 : b0 with
            | false =>
              have HE := Lib.hid (HSTAY.out false wg HBwg.out (by rw [HN0.out hb0]; rfl) (fun p hp => by rw [HN0.out hb0] at hp; cases hp))
              clear hb0
              go_wp2_with fail
              go_meet
              exact HE.out
            | true =>
              have HC3 : Hid (cleanA q.ch = if wor l5 = 0 then some (l4, l5) else none) := by show _ = _; rw [HCL.out, HT0.out hb0, HA1.out, HA2.out, HA3.out]; rfl
              have h5 := HC5.out.below HBwg.out HC5.out.lt
              have t0 : wg.cell? ⟨p5, 0, none⟩ = some (.string v5.s) := h5.at_ 0
              have t1 : wg.cell? ⟨p5, 1, none⟩ = some (.slice v5.A v5.n v5.c) := h5.at_ 1
              clear h5 hb0
              go_wp2_with fail
              refine (HPV.out wg HBwg.out).mono ?_
              rintro e wh ⟨rfl, hq⟩
              have HBwh : Hid (Below wz.heap.size wz wh) := below_next HBwg.out (Nat.le_refl _) hq
              have HE := Lib.hid (HSTAY.out (decide (wor l5 = 0)) wh HBwh.out (by rw [HC3.out]; by_cases hv : wor l5 = 0 <;> simp [hv]) (fun p hp => by
                rw [HC3.out] at hp
                by_cases hv : wor l5 = 0
                · rw [if_pos hv] at hp; injection hp
                · rw [if_neg hv] at hp; cases hp))
              clear hq t0 t1
              obtain ⟨bv, HBV⟩ : ∃ bv, Hid (decide (wor l5 = 0) = bv) := ⟨_, rfl⟩
              rw [HBV.out] at HE ⊢
              go_wp2_with fail
              go_meet
              exact HE.out
          | false =>
            have HE := Lib.hid (HSTAY.out false wg HBwg.out (by
              cases hb : b0 with
              | false => rw [HN0.out hb]; rfl
              | true => rw [HCL.out, HT0.out hb, HA1.out, HA2.out, hbh]; rfl) (fun p hp => by
              cases hb : b0 with
              | false => rw [HN0.out hb] at hp; cases hp
              | true => rw [HCL.out, HT0.out hb, HA1.out, HA2.out, hbh] at hp; cases hp))
            clear hbh
            go_wp2_with fail
            go_meet
            exact HE.out
    case rest =>
      obtain ⟨b, v, rfl, hbp, h4, h5, hown, hR, hbel⟩ := hcut
      have HP := hbp
      have HBA : Hid (Below w.heap.size w wc) := below_next HBW.out (Nat.le_refl _) hbel.out
      have HE := Lib.hid (attr_end (n := n4) (v := v) (Nat.le_succ _) hR hown.out.1 hown.out.2 HBW.out.size HBA.out (.string n4.s) (.slice n4.A n4.n n4.c) (.string v.s) (.slice v.A v.n v.c))
      have s0 := h4.at_ 0
      have s1 := h4.at_ 1
      have t0 := h5.at_ 0
      have t1 := h5.at_ 1
      have r0 := hR.at_ 0
      have r1 := hR.at_ 1
      have r2 := hR.at_ 2
      have r3 := hR.at_ 3
      have f0 := hR.free 0
      have f1 := hR.free 1
      have f2 := hR.free 2
      have f3 := hR.free 3
      clear h4 h5 hown hR hbel hbp
      go_wp2_with fail
      refine bodyPost_ret (v := .tuple #[.agg #[.string n4.s, .slice n4.A n4.n n4.c, .string v.s, .slice v.A v.n v.c], .bool b]) ?_ rfl ?_
      · simp [results, Tryz.results32, go_sem, r0, r1, r2, r3]
      · exact ⟨⟨n4, v⟩, b, rfl, ⟨HP.out.1, fun p hp => HP.out.2 p hp, HE.out.1⟩, HE.out.2⟩

/-- what the row of attributes is when k are gone through -/
def AtRel (qs : List PA) (n : Nat) (w0 : World) (s i : Value) (wr : World) : Prop :=
  ∃ (k : Nat) (A : Option Addr) (c : Nat) (us : List AT), k ≤ n ∧ i = .int .i64 (k : Int) ∧ s = .slice A us.length c ∧ wr.ownsRow w0.heap.size 30 4 (.slice A us.length c) us.length (atCells us) ∧ AllOwn wr w0.heap.size us ∧ us.map AT.ch = (qs.take k).filterMap cleanA ∧ Below w0.heap.size w0 wr

set_option maxHeartbeats 4000000 in
set_option maxRecDepth 100000 in
theorem toldA_any (mx : Int) (A0 : Option Addr) (n c : Nat) (ats : List AT) (w : World) (hm : w.cell? ⟨0, 0, none⟩ = some (.int .i64 mx)) (hl : Lies w w.heap.size A0 (atCells ats)) (hok : AllOk w w.heap.size ats) (hn : ats.length = n) (hn2 : n ≤ 4194304) (hs : ∀ a ∈ ats, a.vl.s.size ≤ 16777216) :
    Calls Tryz.prog 31 #[.slice A0 n c, .func (.func 32) #[] #[]] w (TellsA ((ats.map AT.ch).filterMap cleanA) w) := by
  obtain ⟨i0, hi, hz0, hz1, hz2⟩ := info_parts att_info
  obtain ⟨qs, hqs⟩ : ∃ qs, qs = (ats.map AT.ch).filterMap cleanA := ⟨_, rfl⟩
  rw [← hqs]
  have HQS := Lib.hid hqs
  clear hqs
  have HL := Lib.hid hl
  have HN := Lib.hid hn
  have HOK := Lib.hid hok
  have HSZ := Lib.hid hs
  have HMX : Hid (∀ W, Below w.heap.size w W → W.cell? ⟨0, 0, none⟩ = some (.int .i64 mx)) := fun W hb => (hb.cell (block_zero _ _ _ hm)).trans hm
  clear hl hn hok hs hm
  go_enter Tryz.func31, Tryz.ntmps31
  go_wp2_with fail
  go_loopw [5, 12] (AtRel (ats.map AT.ch) n w) (fun _ i _ => n - (intOf i).toNat)
  case atStart => exact ⟨0, none, 0, [], Nat.zero_le _, rfl, rfl, World.ownsRow_nil _ _ _ _, (fun x hx => by cases hx), rfl, Below.refl _ _⟩
  case round =>
    obtain ⟨k, A, d, us, hk, rfl, rfl, hown, hall, hq, hb⟩ := hrel
    have HB := Lib.hid hb
    have HOW := Lib.hid hown
    have HAL := Lib.hid hall
    have HQ := Lib.hid hq
    have hzl : us.length ≤ k := by
      have h1 := congrArg List.length hq
      rw [List.length_map] at h1
      have h2 := List.length_filterMap_le cleanA ((ats.map AT.ch).take k)
      rw [List.length_take] at h2
      omega
    clear hown hall hq hb
    by_cases hlt : k < n
    · obtain ⟨ad, a, rfl, hba, d0, d1, d2, d3, HR⟩ := (HL.out.next HB.out (Nat.le_refl _)).att (k := k) (by rw [HN.out]; exact hlt)
      have hk0 : (0 : Int) ≤ (k : Int) := Int.natCast_nonneg _
      have hk1 : (k : Int) < (n : Int) := by omega
      have HMEM := Lib.hid (List.mem_of_getElem? HR.out)
      have HNX : Hid (((ats.map AT.ch).take (k + 1)).filterMap cleanA = ((ats.map AT.ch).take k).filterMap cleanA ++ (cleanA a.ch).toList) := by
        have h := filt_next HR.out
        rw [List.map_take, List.map_take] at h
        exact h
      go_upto_region 5 with (fail)
      obtain ⟨w2, hw2⟩ : ∃ w2 : World, wr.alloc (.cells #[.string a.nm.s, .slice a.nm.A a.nm.n a.nm.c, .string a.vl.s, .slice a.vl.A a.vl.n a.vl.c] 30) = w2 := ⟨_, rfl⟩
      have y2 : Whole w2 wr.heap.size 30 #[.string a.nm.s, .slice a.nm.A a.nm.n a.nm.c, .string a.vl.s, .slice a.vl.A a.vl.n a.vl.c] := by rw [← hw2]; exact Whole.made _ _ _
      have HB2 : Hid (Below wr.heap.size wr w2) := by show Below _ _ _; rw [← hw2]; exact (Below.refl _ _).alloc (Nat.le_refl _) _
      try rw [hw2]
      clear hw2 d0 d1 d2 d3
      have HBW2 : Hid (Below w.heap.size w w2) := below_next HB.out (Nat.le_refl _) HB2.out
      have HAT := Lib.hid (pAttr_any a mx w2 (HMX.out w2 HBW2.out) ((HOK.out a HMEM.out).next HBW2.out (Nat.le_refl _)) (HSZ.out a HMEM.out))
      have e0 := y2.at_ 0
      have e1 := y2.at_ 1
      have e2 := y2.at_ 2
      have e3 := y2.at_ 3
      go_wp2_with fail
      refine HAT.out.mono ?_
      rintro e w3 ⟨t, b, rfl, hT, hb3⟩
      have HT := hT
      have HB3 : Hid (Below wr.heap.size wr w3) := below_next HB2.out (Nat.le_refl _) hb3
      have HOW3 : Hid (w3.ownsRow w.heap.size 30 4 (.slice A us.length d) us.length (atCells us)) := own_keep HOW.out HB3.out
      have HAL3 : Hid (AllOwn w3 w.heap.size us) := HAL.out.below HB3.out
      have HTO : Hid (OwnA w3 w.heap.size t) := HT.out.2.2.mono HBW2.out.size
      clear hb3 y2 e0 e1 e2 e3 hT
      cases b with
      | false =>
        have HE : Hid (AtRel (ats.map AT.ch) n w (.slice A us.length d) (.int .i64 ((k : Int) + 1)) (w3.alloc (.cells #[.string t.nm.s, .slice t.nm.A t.nm.n t.nm.c, .string t.vl.s, .slice t.vl.A t.vl.n t.vl.c] 30))) :=
          ⟨k + 1, A, d, us, by omega, by simp, rfl, HOW3.out.alloc _, HAL3.out.below ((Below.refl _ _).alloc (Nat.le_refl _) _), by
            have h1 := HT.out.1
            cases hc : cleanA a.ch with
            | none => rw [HNX.out, hc, HQ.out]; simp
            | some p => (rw [hc] at h1; cases h1), (below_next HB.out (Nat.le_refl _) HB3.out).alloc (Nat.le_trans HB.out.size HB3.out.size) _⟩
        go_wp2_with fail
        go_roundw
        case rel => exact HE.out
        case measure => simp [intOf]; omega
      | true =>
        have HNY : Hid ((us ++ [t]).map AT.ch = ((ats.map AT.ch).take (k + 1)).filterMap cleanA) := by
          show _ = _
          have h1 := HT.out.1
          cases hc : cleanA a.ch with
          | none => rw [hc] at h1; cases h1
          | some p =>
            have h2 := HT.out.2.1 p hc
            rw [HNX.out, hc, List.map_append, HQ.out, List.map_singleton, h2]; rfl
        go_upto_region 7 with (fail)
        obtain ⟨w4, hw4⟩ : ∃ w4 : World, w3.alloc (.cells #[.string t.nm.s, .slice t.nm.A t.nm.n t.nm.c, .string t.vl.s, .slice t.vl.A t.vl.n t.vl.c] 30) = w4 := ⟨_, rfl⟩
        have y4 : Whole w4 w3.heap.size 30 #[.string t.nm.s, .slice t.nm.A t.nm.n t.nm.c, .string t.vl.s, .slice t.vl.A t.vl.n t.vl.c] := by rw [← hw4]; exact Whole.made _ _ _
        have hb34 : Below w3.heap.size w3 w4 := by rw [← hw4]; exact (Below.refl _ _).alloc (Nat.le_refl _) _
        have HB4 : Hid (Below wr.heap.size wr w4) := below_next HB3.out (Nat.le_refl _) hb34
        have hown4 := own_keep HOW3.out hb34
        have HAL4 : Hid (AllOwn w4 w.heap.size us) := HAL3.out.below hb34
        have HTO4 : Hid (OwnA w4 w.heap.size t) := HTO.out.below hb34
        try rw [hw4]
        clear hw4 hb34
        have e0 := y4.at_ 0
        have e1 := y4.at_ 1
        have e2 := y4.at_ 2
        have e3 := y4.at_ 3
        have hw04 := (below_next HB.out (Nat.le_refl _) HB4.out).size
        generalize hzz : us.length = m at *
        have HM := Lib.hid hzz
        have HOW4 := Lib.hid hown4
        clear hzz
        go_wp2_with (at_builtin; go_loud (refine wpList_append_own_at _ rfl _ _ 23 rfl w.heap.size 30 i0 _ 4 80 Tryz.underlying23 hi hz0 hz1 hz2 rfl (by decide) (.slice A m d) m (atCells us) rfl (hown4.alloc _) ⟨w4.heap.size, 0, none⟩ 1 1 (atRow t) rfl rfl (cells_new w4 _ _) (atRow_oneC t) (by simp only [maxLen]; omega) (by omega) (by simp; omega) ?_))
        intro v' w7 hown7 hgrow _ hv7
        obtain ⟨A7, c7, rfl, _, _, _⟩ := own_form hown7
        have HE : Hid (AtRel (ats.map AT.ch) n w (.slice A7 (m + 1) c7) (.int .i64 ((k : Int) + 1)) w7) := by
          have hl : (us ++ [t]).length = m + 1 := by rw [List.length_append, HM.out]; rfl
          have hba := (Below.refl w4.heap.size w4).alloc (Nat.le_refl _) (.cells (atRow t).toArray 30)
          have ho5 := HOW4.out.alloc (.cells (atRow t).toArray 30)
          refine ⟨k + 1, A7, c7, us ++ [t], by omega, by simp, by rw [hl], ?_, fun x hx => ?_, HNY.out, ?_⟩
          · rw [hl, atCells_snoc]; exact hown7
          · rcases List.mem_append.1 hx with hx | hx
            · exact ((HAL4.out.below hba) x hx).grown ho5 (by decide) hgrow
            · rw [List.mem_singleton.1 hx]; exact (HTO4.out.below hba).grown ho5 (by decide) hgrow
          · exact ((below_next HB.out (Nat.le_refl _) HB4.out).alloc hw04 _).grown hgrow (by rw [World.size_alloc]; omega) (fun g hg => (hown4.lt g hg).1)
        clear hown7 hgrow hv7 y4 e0 e1 e2 e3 hown4
        go_wp2_with fail
        go_roundw
        case rel => exact HE.out
        case measure => simp [intOf]; omega
    · obtain rfl : k = n := by omega
      have hk1 : ¬ (k : Int) < (k : Int) := by omega
      have HQ2 : Hid (us.map AT.ch = (ats.map AT.ch).filterMap cleanA) := by
        show _ = _
        have h := HQ.out
        rwa [List.take_of_length_le (by rw [List.length_map, HN.out]; exact Nat.le_refl _)] at h
      go_wp2_with fail
      go_ret
      exact ⟨A, d, us, rfl, HOW.out, HAL.out, by rw [HQS.out]; exact HQ2.out, HB.out⟩

set_option maxHeartbeats 1000000 in
set_option maxRecDepth 100000 in
theorem pAttrs_any (mx : Int) (A0 : Option Addr) (n c : Nat) (ats : List AT) (w : World) (hm : w.cell? ⟨0, 0, none⟩ = some (.int .i64 mx)) (hl : Lies w w.heap.size A0 (atCells ats)) (hok : AllOk w w.heap.size ats) (hn : ats.length = n) (hn2 : n ≤ 4194304) (hs : ∀ a ∈ ats, a.vl.s.size ≤ 16777216) :
    Calls Tryz.prog 13 #[.slice A0 n c] w (TellsA (cleanAs (ats.map AT.ch)) w) := by
  have HC := Lib.hid (toldA_any mx A0 n c ats w hm hl hok hn hn2 hs)
  have HN := Lib.hid hn
  clear hl hn hok hs hm
  go_enter Tryz.func13, Tryz.ntmps13
  go_wp2_with fail
  refine HC.out.mono ?_
  rintro e w2 ⟨A, d, us, rfl, h1, h2, h3, h4⟩
  have HON := Lib.hid (once_any A us.length d us w2 (Lies.own h1) h2.ok rfl (by
    have e1 := congrArg List.length h3
    rw [List.length_map] at e1
    have e2 := List.length_filterMap_le cleanA (ats.map AT.ch)
    rw [List.length_map, HN.out] at e2
    omega))
  have HQ : Hid (onceA (us.map AT.ch) = cleanAs (ats.map AT.ch)) := by show _ = _; rw [h3]; rfl
  have HB := Lib.hid h4
  clear h1 h2 h3 h4
  go_wp2_with fail
  refine HON.out.mono ?_
  rintro e w3 ⟨A3, d3, u3, rfl, g1, g2, g3, g4⟩
  have HE : Hid (TellsA (cleanAs (ats.map AT.ch)) w (.returned (.slice A3 u3.length d3)) w3) := ⟨A3, d3, u3, rfl, own_mono g1 HB.out.size, g2.mono HB.out.size, g3.trans HQ.out, below_next HB.out (Nat.le_refl _) g4⟩
  clear g1 g2 g3 g4
  go_wp2
  go_ret
  exact HE.out

end Go.Proofs.YtnbdldapmllegaaGreat.mk

namespace Go.Proofs.YtnbdldapmllegaaGreat.mk
open Go.RowKit


set_option maxHeartbeats 4000000 in
set_option maxRecDepth 100000 in
theorem hook1_any (t : PH) (w : World) :
    Calls Tryz.prog 92 #[.agg #[.int .i64 t.1, .bool t.2.1, .int .i64 t.2.2]] w fun e w' => e = .returned (.tuple #[.agg #[.int .i64 t.1, .bool t.2.1, .int .i64 t.2.2], .bool (hookOk t)]) ∧ Below w.heap.size w w' := by
  obtain ⟨E, X, N⟩ := t
  go_enter Tryz.func92, Tryz.ntmps92
  go_upto_region 1 with (fail)
  generalize hw1 : (w.alloc (.cells #[.int .i64 E, .bool X, .int .i64 N] 94)).alloc (.cells #[.int .i64 0, .bool false, .int .i64 0] 94) = w1
  have y0 : Whole w1 w.heap.size 94 #[.int .i64 E, .bool X, .int .i64 N] := by rw [← hw1]; exact (Whole.made w _ _).alloc _
  have yR : Whole w1 (w.heap.size + 1) 94 #[.int .i64 0, .bool false, .int .i64 0] := by
    rw [← hw1]
    have h := Whole.made (w.alloc (.cells #[.int .i64 E, .bool X, .int .i64 N] 94)) 94 #[.int .i64 0, .bool false, .int .i64 0]
    rw [World.size_alloc] at h
    exact h
  have hbw : Below w.heap.size w w1 := by rw [← hw1]; exact ((Below.refl _ _).alloc (Nat.le_refl _) _).alloc (by rw [World.size_alloc]; exact Nat.le_succ _) _
  clear hw1
  have HBW := Lib.hid hbw
  have HYR := Lib.hid yR
  have HY0 := Lib.hid y0
  have HEND : Hid (∀ W : World, Below w1.heap.size w1 W → Below w.heap.size w (((W.setCell ⟨w.heap.size + 1, 0, none⟩ (.int .i64 E)).setCell ⟨w.heap.size + 1, 1, none⟩ (.bool X)).setCell ⟨w.heap.size + 1, 2, none⟩ (.int .i64 N))) := fun W h => (((below_next HBW.out (Nat.le_refl _) h).setCell (p := ⟨_, 0, none⟩) (Nat.le_succ _) _).setCell (p := ⟨_, 1, none⟩) (Nat.le_succ _) _).setCell (p := ⟨_, 2, none⟩) (Nat.le_succ _) _
  clear hbw
  have hS0 : (w1.drew).cell? ⟨w.heap.size, 0, none⟩ = some (.int .i64 E) ∧ (w1.drew).cell? ⟨w.heap.size, 1, none⟩ = some (.bool X) ∧ (w1.drew).cell? ⟨w.heap.size, 2, none⟩ = some (.int .i64 N) := ⟨y0.drew.at_ 0, y0.drew.at_ 1, y0.drew.at_ 2⟩
  clear y0 yR
  by_cases h1 : 1 ≤ E
  · by_cases h8 : E ≤ 8
    · by_cases h0 : 0 ≤ N
      · skip
        have HR : Hid (hookOk (E, X, N) = true) := by show _ = _; unfold hookOk; simp [h1, h8, h0]
        refine wp_region_lastE (S := (fun V => V.cell? ⟨w.heap.size, 0, none⟩ = some (.int .i64 E) ∧ V.cell? ⟨w.heap.size, 1, none⟩ = some (.bool X) ∧ V.cell? ⟨w.heap.size, 2, none⟩ = some (.int .i64 N))) (Z := (fun _ => false)) (by kernel_rfl) ?_
        have hS := hS0
        refine' wpAnyL_take (i := 0) ?hi1 (by kernel_rfl) (by kernel_rfl) (by kernel_rfl) (by kernel_rfl) ?hQ1 ?hy1 hS ?rest1
        case hi1 => simp only [List.getElem?_toArray, List.getElem?_cons_zero]; rfl
        case hQ1 => exact fun _ _ _ h => h
        case hy1 =>
          refine Or.inl ⟨by rfl, ?_⟩
          intro wq hq
          try dsimp only at hq
          try obtain ⟨hq0, hq1, hq2, hq3, hq4, hq5, hq6⟩ := hq
          try obtain ⟨hq0, hq1, hq2, hq3, hq4, hq5⟩ := hq
          try obtain ⟨hq0, hq1, hq2, hq3, hq4⟩ := hq
          try obtain ⟨hq0, hq1, hq2, hq3⟩ := hq
          try obtain ⟨hq0, hq1, hq2⟩ := hq
          try obtain ⟨hq0, hq1⟩ := hq
          go_simp
          try with_reducible rfl
        try simp only [Act.put, List.setIfInBounds_toArray, List.set_cons_zero, List.set_cons_succ]
        refine' wpAnyL_take (i := 1) ?hi2 (by kernel_rfl) (by kernel_rfl) (by kernel_rfl) (by kernel_rfl) ?hQ2 ?hy2 hS ?rest2
        case hi2 => simp only [List.getElem?_toArray, List.getElem?_cons_succ, List.getElem?_cons_zero]; rfl
        case hQ2 => exact fun _ _ _ h => h
        case hy2 =>
          refine Or.inl ⟨by rfl, ?_⟩
          intro wq hq
          try dsimp only at hq
          try obtain ⟨hq0, hq1, hq2, hq3, hq4, hq5, hq6⟩ := hq
          try obtain ⟨hq0, hq1, hq2, hq3, hq4, hq5⟩ := hq
          try obtain ⟨hq0, hq1, hq2, hq3, hq4⟩ := hq
          try obtain ⟨hq0, hq1, hq2, hq3⟩ := hq
          try obtain ⟨hq0, hq1, hq2⟩ := hq
          try obtain ⟨hq0, hq1⟩ := hq
          go_simp
          try with_reducible rfl
        try simp only [Act.put, List.setIfInBounds_toArray, List.set_cons_zero, List.set_cons_succ]
        refine' wpAnyL_take (i := 2) ?hi3 (by kernel_rfl) (by kernel_rfl) (by kernel_rfl) (by kernel_rfl) ?hQ3 ?hy3 hS ?rest3
        case hi3 => simp only [List.getElem?_toArray, List.getElem?_cons_succ, List.getElem?_cons_zero]; rfl
        case hQ3 => exact fun _ _ _ h => h
        case hy3 =>
          refine Or.inl ⟨by rfl, ?_⟩
          intro wq hq
          try dsimp only at hq
          try obtain ⟨hq0, hq1, hq2, hq3, hq4, hq5, hq6⟩ := hq
          try obtain ⟨hq0, hq1, hq2, hq3, hq4, hq5⟩ := hq
          try obtain ⟨hq0, hq1, hq2, hq3, hq4⟩ := hq
          try obtain ⟨hq0, hq1, hq2, hq3⟩ := hq
          try obtain ⟨hq0, hq1, hq2⟩ := hq
          try obtain ⟨hq0, hq1⟩ := hq
          go_simp
          try with_reducible rfl
        try simp only [Act.put, List.setIfInBounds_toArray, List.set_cons_zero, List.set_cons_succ]
        refine' wpAnyL_take (i := 3) ?hi4 (by kernel_rfl) (by kernel_rfl) (by kernel_rfl) (by kernel_rfl) ?hQ4 ?hy4 hS ?rest4
        case hi4 => simp only [List.getElem?_toArray, List.getElem?_cons_succ, List.getElem?_cons_zero]; rfl
        case hQ4 => exact fun _ _ _ h => h
        case hy4 =>
          refine Or.inl ⟨by rfl, ?_⟩
          intro wq hq
          try dsimp only at hq
          try obtain ⟨hq0, hq1, hq2, hq3, hq4, hq5, hq6⟩ := hq
          try obtain ⟨hq0, hq1, hq2, hq3, hq4, hq5⟩ := hq
          try obtain ⟨hq0, hq1, hq2, hq3, hq4⟩ := hq
          try obtain ⟨hq0, hq1, hq2, hq3⟩ := hq
          try obtain ⟨hq0, hq1, hq2⟩ := hq
          try obtain ⟨hq0, hq1⟩ := hq
          go_simp
          try with_reducible rfl
        try simp only [Act.put, List.setIfInBounds_toArray, List.set_cons_zero, List.set_cons_succ]
        refine' wpAnyL_take (i := 4) ?hi5 (by kernel_rfl) (by kernel_rfl) (by kernel_rfl) (by kernel_rfl) ?hQ5 ?hy5 hS ?rest5
        case hi5 => simp only [List.getElem?_toArray, List.getElem?_cons_succ, List.getElem?_cons_zero]; rfl
        case hQ5 => exact fun _ _ _ h => h
        case hy5 =>
          refine Or.inl ⟨by rfl, ?_⟩
          intro wq hq
          try dsimp only at hq
          try obtain ⟨hq0, hq1, hq2, hq3, hq4, hq5, hq6⟩ := hq
          try obtain ⟨hq0, hq1, hq2, hq3, hq4, hq5⟩ := hq
          try obtain ⟨hq0, hq1, hq2, hq3, hq4⟩ := hq
          try obtain ⟨hq0, hq1, hq2, hq3⟩ := hq
          try obtain ⟨hq0, hq1, hq2⟩ := hq
          try obtain ⟨hq0, hq1⟩ := hq
          go_simp
          try with_reducible rfl
        try simp only [Act.put, List.setIfInBounds_toArray, List.set_cons_zero, List.set_cons_succ]
        refine' wpAnyL_take (i := 5) ?hi6 (by kernel_rfl) (by kernel_rfl) (by kernel_rfl) (by kernel_rfl) ?hQ6 ?hy6 hS ?rest6
        case hi6 => simp only [List.getElem?_toArray, List.getElem?_cons_succ, List.getElem?_cons_zero]; rfl
        case hQ6 => exact fun _ _ _ h => h
        case hy6 =>
          refine Or.inl ⟨by rfl, ?_⟩
          intro wq hq
          try dsimp only at hq
          try obtain ⟨hq0, hq1, hq2, hq3, hq4, hq5, hq6⟩ := hq
          try obtain ⟨hq0, hq1, hq2, hq3, hq4, hq5⟩ := hq
          try obtain ⟨hq0, hq1, hq2, hq3, hq4⟩ := hq
          try obtain ⟨hq0, hq1, hq2, hq3⟩ := hq
          try obtain ⟨hq0, hq1, hq2⟩ := hq
          try obtain ⟨hq0, hq1⟩ := hq
          go_simp
          try with_reducible rfl
        try simp only [Act.put, List.setIfInBounds_toArray, List.set_cons_zero, List.set_cons_succ]
        refine' wpAnyL_take (i := 6) ?hi7 (by kernel_rfl) (by kernel_rfl) (by kernel_rfl) (by kernel_rfl) ?hQ7 ?hy7 hS ?rest7
        case hi7 => simp only [List.getElem?_toArray, List.getElem?_cons_succ, List.getElem?_cons_zero]; rfl
        case hQ7 => exact fun _ _ _ h => h
        case hy7 =>
          refine Or.inl ⟨by rfl, ?_⟩
          intro wq hq
          try dsimp only at hq
          try obtain ⟨hq0, hq1, hq2, hq3, hq4, hq5, hq6⟩ := hq
          try obtain ⟨hq0, hq1, hq2, hq3, hq4, hq5⟩ := hq
          try obtain ⟨hq0, hq1, hq2, hq3, hq4⟩ := hq
          try obtain ⟨hq0, hq1, hq2, hq3⟩ := hq
          try obtain ⟨hq0, hq1, hq2⟩ := hq
          try obtain ⟨hq0, hq1⟩ := hq
          go_simp
          try with_reducible rfl
        try simp only [Act.put, List.setIfInBounds_toArray, List.set_cons_zero, List.set_cons_succ]
        refine' wpAnyL_take (i := 7) ?hi8 (by kernel_rfl) (by kernel_rfl) (by kernel_rfl) (by kernel_rfl) ?hQ8 ?hy8 hS ?rest8
        case hi8 => simp only [List.getElem?_toArray, List.getElem?_cons_succ, List.getElem?_cons_zero]; rfl
        case hQ8 => exact fun _ _ _ h => h
        case hy8 =>
          refine Or.inl ⟨by rfl, ?_⟩
          intro wq hq
          try dsimp only at hq
          try obtain ⟨hq0, hq1, hq2, hq3, hq4, hq5, hq6⟩ := hq
          try obtain ⟨hq0, hq1, hq2, hq3, hq4, hq5⟩ := hq
          try obtain ⟨hq0, hq1, hq2, hq3, hq4⟩ := hq
          try obtain ⟨hq0, hq1, hq2, hq3⟩ := hq
          try obtain ⟨hq0, hq1, hq2⟩ := hq
          try obtain ⟨hq0, hq1⟩ := hq
          go_simp
          try with_reducible rfl
        try simp only [Act.put, List.setIfInBounds_toArray, List.set_cons_zero, List.set_cons_succ]
        refine' wpAnyL_take (i := 8) ?hi9 (by kernel_rfl) (by kernel_rfl) (by kernel_rfl) (by kernel_rfl) ?hQ9 ?hy9 hS ?rest9
        case hi9 => simp only [List.getElem?_toArray, List.getElem?_cons_succ, List.getElem?_cons_zero]; rfl
        case hQ9 => exact fun _ _ _ h => h
        case hy9 =>
          refine Or.inl ⟨by rfl, ?_⟩
          intro wq hq
          try dsimp only at hq
          try obtain ⟨hq0, hq1, hq2, hq3, hq4, hq5, hq6⟩ := hq
          try obtain ⟨hq0, hq1, hq2, hq3, hq4, hq5⟩ := hq
          try obtain ⟨hq0, hq1, hq2, hq3, hq4⟩ := hq
          try obtain ⟨hq0, hq1, hq2, hq3⟩ := hq
          try obtain ⟨hq0, hq1, hq2⟩ := hq
          try obtain ⟨hq0, hq1⟩ := hq
          go_simp
          try with_reducible rfl
        try simp only [Act.put, List.setIfInBounds_toArray, List.set_cons_zero, List.set_cons_succ]
        refine' wpAnyL_take (i := 9) ?hi10 (by kernel_rfl) (by kernel_rfl) (by kernel_rfl) (by kernel_rfl) ?hQ10 ?hy10 hS ?rest10
        case hi10 => simp only [List.getElem?_toArray, List.getElem?_cons_succ, List.getElem?_cons_zero]; rfl
        case hQ10 => exact fun _ _ _ h => h
        case hy10 =>
          refine Or.inl ⟨by rfl, ?_⟩
          intro wq hq
          try dsimp only at hq
          try obtain ⟨hq0, hq1, hq2, hq3, hq4, hq5, hq6⟩ := hq
          try obtain ⟨hq0, hq1, hq2, hq3, hq4, hq5⟩ := hq
          try obtain ⟨hq0, hq1, hq2, hq3, hq4⟩ := hq
          try obtain ⟨hq0, hq1, hq2, hq3⟩ := hq
          try obtain ⟨hq0, hq1, hq2⟩ := hq
          try obtain ⟨hq0, hq1⟩ := hq
          go_simp
          try with_reducible rfl
        try simp only [Act.put, List.setIfInBounds_toArray, List.set_cons_zero, List.set_cons_succ]
        refine' wpAnyL_take (i := 10) ?hi11 (by kernel_rfl) (by kernel_rfl) (by kernel_rfl) (by kernel_rfl) ?hQ11 ?hy11 hS ?rest11
        case hi11 => simp only [List.getElem?_toArray, List.getElem?_cons_succ, List.getElem?_cons_zero]; rfl
        case hQ11 => exact fun _ _ _ h => h
        case hy11 =>
          refine Or.inl ⟨by rfl, ?_⟩
          intro wq hq
          try dsimp only at hq
          try obtain ⟨hq0, hq1, hq2, hq3, hq4, hq5, hq6⟩ := hq
          try obtain ⟨hq0, hq1, hq2, hq3, hq4, hq5⟩ := hq
          try obtain ⟨hq0, hq1, hq2, hq3, hq4⟩ := hq
          try obtain ⟨hq0, hq1, hq2, hq3⟩ := hq
          try obtain ⟨hq0, hq1, hq2⟩ := hq
          try obtain ⟨hq0, hq1⟩ := hq
          go_simp
          try with_reducible rfl
        try simp only [Act.put, List.setIfInBounds_toArray, List.set_cons_zero, List.set_cons_succ]
        refine' wpAnyL_take (i := 11) ?hi12 (by kernel_rfl) (by kernel_rfl) (by kernel_rfl) (by kernel_rfl) ?hQ12 ?hy12 hS ?rest12
        case hi12 => simp only [List.getElem?_toArray, List.getElem?_cons_succ, List.getElem?_cons_zero]; rfl
        case hQ12 => exact fun _ _ _ h => h
        case hy12 =>
          refine Or.inl ⟨by rfl, ?_⟩
          intro wq hq
          try dsimp only at hq
          try obtain ⟨hq0, hq1, hq2, hq3, hq4, hq5, hq6⟩ := hq
          try obtain ⟨hq0, hq1, hq2, hq3, hq4, hq5⟩ := hq
          try obtain ⟨hq0, hq1, hq2, hq3, hq4⟩ := hq
          try obtain ⟨hq0, hq1, hq2, hq3⟩ := hq
          try obtain ⟨hq0, hq1, hq2⟩ := hq
          try obtain ⟨hq0, hq1⟩ := hq
          go_simp
          try with_reducible rfl
        try simp only [Act.put, List.setIfInBounds_toArray, List.set_cons_zero, List.set_cons_succ]
        refine' wpAnyL_take (i := 12) ?hi13 (by kernel_rfl) (by kernel_rfl) (by kernel_rfl) (by kernel_rfl) ?hQ13 ?hy13 hS ?rest13
        case hi13 => simp only [List.getElem?_toArray, List.getElem?_cons_succ, List.getElem?_cons_zero]; rfl
        case hQ13 => exact fun _ _ _ h => h
        case hy13 =>
          refine Or.inl ⟨by rfl, ?_⟩
          intro wq hq
          try dsimp only at hq
          try obtain ⟨hq0, hq1, hq2, hq3, hq4, hq5, hq6⟩ := hq
          try obtain ⟨hq0, hq1, hq2, hq3, hq4, hq5⟩ := hq
          try obtain ⟨hq0, hq1, hq2, hq3, hq4⟩ := hq
          try obtain ⟨hq0, hq1, hq2, hq3⟩ := hq
          try obtain ⟨hq0, hq1, hq2⟩ := hq
          try obtain ⟨hq0, hq1⟩ := hq
          go_simp
          try with_reducible rfl
        try simp only [Act.put, List.setIfInBounds_toArray, List.set_cons_zero, List.set_cons_succ]
        refine' wpAnyL_take (i := 13) ?hi14 (by kernel_rfl) (by kernel_rfl) (by kernel_rfl) (by kernel_rfl) ?hQ14 ?hy14 hS ?rest14
        case hi14 => simp only [List.getElem?_toArray, List.getElem?_cons_succ, List.getElem?_cons_zero]; rfl
        case hQ14 => exact fun _ _ _ h => h
        case hy14 =>
          refine Or.inl ⟨by rfl, ?_⟩
          intro wq hq
          try dsimp only at hq
          try obtain ⟨hq0, hq1, hq2, hq3, hq4, hq5, hq6⟩ := hq
          try obtain ⟨hq0, hq1, hq2, hq3, hq4, hq5⟩ := hq
          try obtain ⟨hq0, hq1, hq2, hq3, hq4⟩ := hq
          try obtain ⟨hq0, hq1, hq2, hq3⟩ := hq
          try obtain ⟨hq0, hq1, hq2⟩ := hq
          try obtain ⟨hq0, hq1⟩ := hq
          go_simp
          try with_reducible rfl
        try simp only [Act.put, List.setIfInBounds_toArray, List.set_cons_zero, List.set_cons_succ]
        refine wpAnyL_ready (rs := [14]) (by kernel_rfl) (by simp) ?_
        refine' ReadyL.cons ?ho15 (fun K hK => ?step15) ?more15
        case ho15 => simp only [List.getElem?_toArray, List.getElem?_cons_succ, List.getElem?_cons_zero]; rfl
        case step15 =>
          have yRw := HYR.out
          have r0 : w1.cell? ⟨w.heap.size + 1, 0, none⟩ = some (.int .i64 0) := yRw.at_ 0
          have r1 : w1.cell? ⟨w.heap.size + 1, 1, none⟩ = some (.bool false) := yRw.at_ 1
          have r2 : w1.cell? ⟨w.heap.size + 1, 2, none⟩ = some (.int .i64 0) := yRw.at_ 2
          have f0 := yRw.free 0
          have f1 := yRw.free 1
          have f2 := yRw.free 2
          go_simp
          have y2 := ((yRw.put 0 (.int .i64 E)).put 1 (.bool X)).put 2 (.int .i64 N)
          simp only [List.setIfInBounds_toArray, List.set_cons_zero, List.set_cons_succ] at y2
          have q0 : _ = some _ := y2.at_ 0
          have q1 : _ = some _ := y2.at_ 1
          have q2 : _ = some _ := y2.at_ 2
          have HE := Lib.hid (HEND.out _ (Below.refl w1.heap.size w1))
          generalize hw5 : ((w1.setCell ⟨w.heap.size + 1, 0, none⟩ (.int .i64 E)).setCell ⟨w.heap.size + 1, 1, none⟩ (.bool X)).setCell ⟨w.heap.size + 1, 2, none⟩ (.int .i64 N) = w5 at *
          have hS5 : w5.cell? ⟨w.heap.size, 0, none⟩ = some (.int .i64 E) ∧ w5.cell? ⟨w.heap.size, 1, none⟩ = some (.bool X) ∧ w5.cell? ⟨w.heap.size, 2, none⟩ = some (.int .i64 N) := by
            have hne : w.heap.size ≠ w.heap.size + 1 := by omega
            have y5 : Whole w5 w.heap.size 94 #[.int .i64 E, .bool X, .int .i64 N] := by
              rw [← hw5]
              exact ((HY0.out.far _ hne _).far _ hne _).far _ hne _
            exact ⟨y5.at_ 0, y5.at_ 1, y5.at_ 2⟩
          refine hK.out _ w5.drew (.inr hS5) ?_
          have hS := hS5
          clear hK K hw5 r0 r1 r2 f0 f1 f2 yRw y2
          try simp only [Act.put, List.setIfInBounds_toArray, List.set_cons_zero, List.set_cons_succ]
          refine wpAnyL_ready (rs := [15]) (by kernel_rfl) (by simp) ?_
          refine' ReadyL.cons ?ho16 (fun K hK => ?step16) ?more16
          case ho16 => simp only [List.getElem?_toArray, List.getElem?_cons_succ, List.getElem?_cons_zero]; rfl
          case step16 =>
            go_simp
            refine hK.out _ _ (.inr hS) ?_
            clear hK K
            try simp only [Act.put, List.setIfInBounds_toArray, List.set_cons_zero, List.set_cons_succ]
            refine wpAnyL_done (by kernel_rfl) ?_ _
            go_wp2_with fail
            refine bodyPost_ret (v := .tuple #[.agg #[.int .i64 E, .bool X, .int .i64 N], .bool true]) ?_ rfl ?_
            · simp [results, Tryz.results92, go_sem, q0, q1, q2]
            · exact ⟨by rw [HR.out], HE.out.drew⟩
          exact ReadyL.nil
        exact ReadyL.nil
      · skip
        have HR : Hid (hookOk (E, X, N) = false) := by show _ = _; unfold hookOk; simp [h1, h8, h0]
        refine wp_region_lastE (S := (fun V => V.cell? ⟨w.heap.size, 0, none⟩ = some (.int .i64 E) ∧ V.cell? ⟨w.heap.size, 1, none⟩ = some (.bool X) ∧ V.cell? ⟨w.heap.size, 2, none⟩ = some (.int .i64 N))) (Z := (fun _ => false)) (by kernel_rfl) ?_
        have hS := hS0
        refine' wpAnyL_take (i := 0) ?hi17 (by kernel_rfl) (by kernel_rfl) (by kernel_rfl) (by kernel_rfl) ?hQ17 ?hy17 hS ?rest17
        case hi17 => simp only [List.getElem?_toArray, List.getElem?_cons_zero]; rfl
        case hQ17 => exact fun _ _ _ h => h
        case hy17 =>
          refine Or.inl ⟨by rfl, ?_⟩
          intro wq hq
          try dsimp only at hq
          try obtain ⟨hq0, hq1, hq2, hq3, hq4, hq5, hq6⟩ := hq
          try obtain ⟨hq0, hq1, hq2, hq3, hq4, hq5⟩ := hq
          try obtain ⟨hq0, hq1, hq2, hq3, hq4⟩ := hq
          try obtain ⟨hq0, hq1, hq2, hq3⟩ := hq
          try obtain ⟨hq0, hq1, hq2⟩ := hq
          try obtain ⟨hq0, hq1⟩ := hq
          go_simp
          try with_reducible rfl
        try simp only [Act.put, List.setIfInBounds_toArray, List.set_cons_zero, List.set_cons_succ]
        refine' wpAnyL_take (i := 1) ?hi18 (by kernel_rfl) (by kernel_rfl) (by kernel_rfl) (by kernel_rfl) ?hQ18 ?hy18 hS ?rest18
        case hi18 => simp only [List.getElem?_toArray, List.getElem?_cons_succ, List.getElem?_cons_zero]; rfl
        case hQ18 => exact fun _ _ _ h => h
        case hy18 =>
          refine Or.inl ⟨by rfl, ?_⟩
          intro wq hq
          try dsimp only at hq
          try obtain ⟨hq0, hq1, hq2, hq3, hq4, hq5, hq6⟩ := hq
          try obtain ⟨hq0, hq1, hq2, hq3, hq4, hq5⟩ := hq
          try obtain ⟨hq0, hq1, hq2, hq3, hq4⟩ := hq
          try obtain ⟨hq0, hq1, hq2, hq3⟩ := hq
          try obtain ⟨hq0, hq1, hq2⟩ := hq
          try obtain ⟨hq0, hq1⟩ := hq
          go_simp
          try with_reducible rfl
        try simp only [Act.put, List.setIfInBounds_toArray, List.set_cons_zero, List.set_cons_succ]
        refine' wpAnyL_take (i := 2) ?hi19 (by kernel_rfl) (by kernel_rfl) (by kernel_rfl) (by kernel_rfl) ?hQ19 ?hy19 hS ?rest19
        case hi19 => simp only [List.getElem?_toArray, List.getElem?_cons_succ, List.getElem?_cons_zero]; rfl
        case hQ19 => exact fun _ _ _ h => h
        case hy19 =>
          refine Or.inl ⟨by rfl, ?_⟩
          intro wq hq
          try dsimp only at hq
          try obtain ⟨hq0, hq1, hq2, hq3, hq4, hq5, hq6⟩ := hq
          try obtain ⟨hq0, hq1, hq2, hq3, hq4, hq5⟩ := hq
          try obtain ⟨hq0, hq1, hq2, hq3, hq4⟩ := hq
          try obtain ⟨hq0, hq1, hq2, hq3⟩ := hq
          try obtain ⟨hq0, hq1, hq2⟩ := hq
          try obtain ⟨hq0, hq1⟩ := hq
          go_simp
          try with_reducible rfl
        try simp only [Act.put, List.setIfInBounds_toArray, List.set_cons_zero, List.set_cons_succ]
        refine' wpAnyL_take (i := 3) ?hi20 (by kernel_rfl) (by kernel_rfl) (by kernel_rfl) (by kernel_rfl) ?hQ20 ?hy20 hS ?rest20
        case hi20 => simp only [List.getElem?_toArray, List.getElem?_cons_succ, List.getElem?_cons_zero]; rfl
        case hQ20 => exact fun _ _ _ h => h
        case hy20 =>
          refine Or.inl ⟨by rfl, ?_⟩
          intro wq hq
          try dsimp only at hq
          try obtain ⟨hq0, hq1, hq2, hq3, hq4, hq5, hq6⟩ := hq
          try obtain ⟨hq0, hq1, hq2, hq3, hq4, hq5⟩ := hq
          try obtain ⟨hq0, hq1, hq2, hq3, hq4⟩ := hq
          try obtain ⟨hq0, hq1, hq2, hq3⟩ := hq
          try obtain ⟨hq0, hq1, hq2⟩ := hq
          try obtain ⟨hq0, hq1⟩ := hq
          go_simp
          try with_reducible rfl
        try simp only [Act.put, List.setIfInBounds_toArray, List.set_cons_zero, List.set_cons_succ]
        refine' wpAnyL_take (i := 4) ?hi21 (by kernel_rfl) (by kernel_rfl) (by kernel_rfl) (by kernel_rfl) ?hQ21 ?hy21 hS ?rest21
        case hi21 => simp only [List.getElem?_toArray, List.getElem?_cons_succ, List.getElem?_cons_zero]; rfl
        case hQ21 => exact fun _ _ _ h => h
        case hy21 =>
          refine Or.inl ⟨by rfl, ?_⟩
          intro wq hq
          try dsimp only at hq
          try obtain ⟨hq0, hq1, hq2, hq3, hq4, hq5, hq6⟩ := hq
          try obtain ⟨hq0, hq1, hq2, hq3, hq4, hq5⟩ := hq
          try obtain ⟨hq0, hq1, hq2, hq3, hq4⟩ := hq
          try obtain ⟨hq0, hq1, hq2, hq3⟩ := hq
          try obtain ⟨hq0, hq1, hq2⟩ := hq
          try obtain ⟨hq0, hq1⟩ := hq
          go_simp
          try with_reducible rfl
        try simp only [Act.put, List.setIfInBounds_toArray, List.set_cons_zero, List.set_cons_succ]
        refine' wpAnyL_take (i := 5) ?hi22 (by kernel_rfl) (by kernel_rfl) (by kernel_rfl) (by kernel_rfl) ?hQ22 ?hy22 hS ?rest22
        case hi22 => simp only [List.getElem?_toArray, List.getElem?_cons_succ, List.getElem?_cons_zero]; rfl
        case hQ22 => exact fun _ _ _ h => h
        case hy22 =>
          refine Or.inl ⟨by rfl, ?_⟩
          intro wq hq
          try dsimp only at hq
          try obtain ⟨hq0, hq1, hq2, hq3, hq4, hq5, hq6⟩ := hq
          try obtain ⟨hq0, hq1, hq2, hq3, hq4, hq5⟩ := hq
          try obtain ⟨hq0, hq1, hq2, hq3, hq4⟩ := hq
          try obtain ⟨hq0, hq1, hq2, hq3⟩ := hq
          try obtain ⟨hq0, hq1, hq2⟩ := hq
          try obtain ⟨hq0, hq1⟩ := hq
          go_simp
          try with_reducible rfl
        try simp only [Act.put, List.setIfInBounds_toArray, List.set_cons_zero, List.set_cons_succ]
        refine' wpAnyL_take (i := 6) ?hi23 (by kernel_rfl) (by kernel_rfl) (by kernel_rfl) (by kernel_rfl) ?hQ23 ?hy23 hS ?rest23
        case hi23 => simp only [List.getElem?_toArray, List.getElem?_cons_succ, List.getElem?_cons_zero]; rfl
        case hQ23 => exact fun _ _ _ h => h
        case hy23 =>
          refine Or.inl ⟨by rfl, ?_⟩
          intro wq hq
          try dsimp only at hq
          try obtain ⟨hq0, hq1, hq2, hq3, hq4, hq5, hq6⟩ := hq
          try obtain ⟨hq0, hq1, hq2, hq3, hq4, hq5⟩ := hq
          try obtain ⟨hq0, hq1, hq2, hq3, hq4⟩ := hq
          try obtain ⟨hq0, hq1, hq2, hq3⟩ := hq
          try obtain ⟨hq0, hq1, hq2⟩ := hq
          try obtain ⟨hq0, hq1⟩ := hq
          go_simp
          try with_reducible rfl
        try simp only [Act.put, List.setIfInBounds_toArray, List.set_cons_zero, List.set_cons_succ]
        refine' wpAnyL_take (i := 7) ?hi24 (by kernel_rfl) (by kernel_rfl) (by kernel_rfl) (by kernel_rfl) ?hQ24 ?hy24 hS ?rest24
        case hi24 => simp only [List.getElem?_toArray, List.getElem?_cons_succ, List.getElem?_cons_zero]; rfl
        case hQ24 => exact fun _ _ _ h => h
        case hy24 =>
          refine Or.inl ⟨by rfl, ?_⟩
          intro wq hq
          try dsimp only at hq
          try obtain ⟨hq0, hq1, hq2, hq3, hq4, hq5, hq6⟩ := hq
          try obtain ⟨hq0, hq1, hq2, hq3, hq4, hq5⟩ := hq
          try obtain ⟨hq0, hq1, hq2, hq3, hq4⟩ := hq
          try obtain ⟨hq0, hq1, hq2, hq3⟩ := hq
          try obtain ⟨hq0, hq1, hq2⟩ := hq
          try obtain ⟨hq0, hq1⟩ := hq
          go_simp
          try with_reducible rfl
        try simp only [Act.put, List.setIfInBounds_toArray, List.set_cons_zero, List.set_cons_succ]
        refine' wpAnyL_take (i := 8) ?hi25 (by kernel_rfl) (by kernel_rfl) (by kernel_rfl) (by kernel_rfl) ?hQ25 ?hy25 hS ?rest25
        case hi25 => simp only [List.getElem?_toArray, List.getElem?_cons_succ, List.getElem?_cons_zero]; rfl
        case hQ25 => exact fun _ _ _ h => h
        case hy25 =>
          refine Or.inl ⟨by rfl, ?_⟩
          intro wq hq
          try dsimp only at hq
          try obtain ⟨hq0, hq1, hq2, hq3, hq4, hq5, hq6⟩ := hq
          try obtain ⟨hq0, hq1, hq2, hq3, hq4, hq5⟩ := hq
          try obtain ⟨hq0, hq1, hq2, hq3, hq4⟩ := hq
          try obtain ⟨hq0, hq1, hq2, hq3⟩ := hq
          try obtain ⟨hq0, hq1, hq2⟩ := hq
          try obtain ⟨hq0, hq1⟩ := hq
          go_simp
          try with_reducible rfl
        try simp only [Act.put, List.setIfInBounds_toArray, List.set_cons_zero, List.set_cons_succ]
        refine' wpAnyL_take (i := 9) ?hi26 (by kernel_rfl) (by kernel_rfl) (by kernel_rfl) (by kernel_rfl) ?hQ26 ?hy26 hS ?rest26
        case hi26 => simp only [List.getElem?_toArray, List.getElem?_cons_succ, List.getElem?_cons_zero]; rfl
        case hQ26 => exact fun _ _ _ h => h
        case hy26 =>
          refine Or.inl ⟨by rfl, ?_⟩
          intro wq hq
          try dsimp only at hq
          try obtain ⟨hq0, hq1, hq2, hq3, hq4, hq5, hq6⟩ := hq
          try obtain ⟨hq0, hq1, hq2, hq3, hq4, hq5⟩ := hq
          try obtain ⟨hq0, hq1, hq2, hq3, hq4⟩ := hq
          try obtain ⟨hq0, hq1, hq2, hq3⟩ := hq
          try obtain ⟨hq0, hq1, hq2⟩ := hq
          try obtain ⟨hq0, hq1⟩ := hq
          go_simp
          try with_reducible rfl
        try simp only [Act.put, List.setIfInBounds_toArray, List.set_cons_zero, List.set_cons_succ]
        refine' wpAnyL_take (i := 10) ?hi27 (by kernel_rfl) (by kernel_rfl) (by kernel_rfl) (by kernel_rfl) ?hQ27 ?hy27 hS ?rest27
        case hi27 => simp only [List.getElem?_toArray, List.getElem?_cons_succ, List.getElem?_cons_zero]; rfl
        case hQ27 => exact fun _ _ _ h => h
        case hy27 =>
          refine Or.inl ⟨by rfl, ?_⟩
          intro wq hq
          try dsimp only at hq
          try obtain ⟨hq0, hq1, hq2, hq3, hq4, hq5, hq6⟩ := hq
          try obtain ⟨hq0, hq1, hq2, hq3, hq4, hq5⟩ := hq
          try obtain ⟨hq0, hq1, hq2, hq3, hq4⟩ := hq
          try obtain ⟨hq0, hq1, hq2, hq3⟩ := hq
          try obtain ⟨hq0, hq1, hq2⟩ := hq
          try obtain ⟨hq0, hq1⟩ := hq
          go_simp
          try with_reducible rfl
        try simp only [Act.put, List.setIfInBounds_toArray, List.set_cons_zero, List.set_cons_succ]
        refine' wpAnyL_take (i := 11) ?hi28 (by kernel_rfl) (by kernel_rfl) (by kernel_rfl) (by kernel_rfl) ?hQ28 ?hy28 hS ?rest28
        case hi28 => simp only [List.getElem?_toArray, List.getElem?_cons_succ, List.getElem?_cons_zero]; rfl
        case hQ28 => exact fun _ _ _ h => h
        case hy28 =>
          refine Or.inl ⟨by rfl, ?_⟩
          intro wq hq
          try dsimp only at hq
          try obtain ⟨hq0, hq1, hq2, hq3, hq4, hq5, hq6⟩ := hq
          try obtain ⟨hq0, hq1, hq2, hq3, hq4, hq5⟩ := hq
          try obtain ⟨hq0, hq1, hq2, hq3, hq4⟩ := hq
          try obtain ⟨hq0, hq1, hq2, hq3⟩ := hq
          try obtain ⟨hq0, hq1, hq2⟩ := hq
          try obtain ⟨hq0, hq1⟩ := hq
          go_simp
          try with_reducible rfl
        try simp only [Act.put, List.setIfInBounds_toArray, List.set_cons_zero, List.set_cons_succ]
        refine' wpAnyL_take (i := 12) ?hi29 (by kernel_rfl) (by kernel_rfl) (by kernel_rfl) (by kernel_rfl) ?hQ29 ?hy29 hS ?rest29
        case hi29 => simp only [List.getElem?_toArray, List.getElem?_cons_succ, List.getElem?_cons_zero]; rfl
        case hQ29 => exact fun _ _ _ h => h
        case hy29 =>
          refine Or.inl ⟨by rfl, ?_⟩
          intro wq hq
          try dsimp only at hq
          try obtain ⟨hq0, hq1, hq2, hq3, hq4, hq5, hq6⟩ := hq
          try obtain ⟨hq0, hq1, hq2, hq3, hq4, hq5⟩ := hq
          try obtain ⟨hq0, hq1, hq2, hq3, hq4⟩ := hq
          try obtain ⟨hq0, hq1, hq2, hq3⟩ := hq
          try obtain ⟨hq0, hq1, hq2⟩ := hq
          try obtain ⟨hq0, hq1⟩ := hq
          go_simp
          try with_reducible rfl
        try simp only [Act.put, List.setIfInBounds_toArray, List.set_cons_zero, List.set_cons_succ]
        refine' wpAnyL_take (i := 13) ?hi30 (by kernel_rfl) (by kernel_rfl) (by kernel_rfl) (by kernel_rfl) ?hQ30 ?hy30 hS ?rest30
        case hi30 => simp only [List.getElem?_toArray, List.getElem?_cons_succ, List.getElem?_cons_zero]; rfl
        case hQ30 => exact fun _ _ _ h => h
        case hy30 =>
          refine Or.inl ⟨by rfl, ?_⟩
          intro wq hq
          try dsimp only at hq
          try obtain ⟨hq0, hq1, hq2, hq3, hq4, hq5, hq6⟩ := hq
          try obtain ⟨hq0, hq1, hq2, hq3, hq4, hq5⟩ := hq
          try obtain ⟨hq0, hq1, hq2, hq3, hq4⟩ := hq
          try obtain ⟨hq0, hq1, hq2, hq3⟩ := hq
          try obtain ⟨hq0, hq1, hq2⟩ := hq
          try obtain ⟨hq0, hq1⟩ := hq
          go_simp
          try with_reducible rfl
        try simp only [Act.put, List.setIfInBounds_toArray, List.set_cons_zero, List.set_cons_succ]
        refine wpAnyL_ready (rs := [14]) (by kernel_rfl) (by simp) ?_
        refine' ReadyL.cons ?ho31 (fun K hK => ?step31) ?more31
        case ho31 => simp only [List.getElem?_toArray, List.getElem?_cons_succ, List.getElem?_cons_zero]; rfl
        case step31 =>
          have yRw := HYR.out
          have r0 : w1.cell? ⟨w.heap.size + 1, 0, none⟩ = some (.int .i64 0) := yRw.at_ 0
          have r1 : w1.cell? ⟨w.heap.size + 1, 1, none⟩ = some (.bool false) := yRw.at_ 1
          have r2 : w1.cell? ⟨w.heap.size + 1, 2, none⟩ = some (.int .i64 0) := yRw.at_ 2
          have f0 := yRw.free 0
          have f1 := yRw.free 1
          have f2 := yRw.free 2
          go_simp
          have y2 := ((yRw.put 0 (.int .i64 E)).put 1 (.bool X)).put 2 (.int .i64 N)
          simp only [List.setIfInBounds_toArray, List.set_cons_zero, List.set_cons_succ] at y2
          have q0 : _ = some _ := y2.at_ 0
          have q1 : _ = some _ := y2.at_ 1
          have q2 : _ = some _ := y2.at_ 2
          have HE := Lib.hid (HEND.out _ (Below.refl w1.heap.size w1))
          generalize hw5 : ((w1.setCell ⟨w.heap.size + 1, 0, none⟩ (.int .i64 E)).setCell ⟨w.heap.size + 1, 1, none⟩ (.bool X)).setCell ⟨w.heap.size + 1, 2, none⟩ (.int .i64 N) = w5 at *
          have hS5 : w5.cell? ⟨w.heap.size, 0, none⟩ = some (.int .i64 E) ∧ w5.cell? ⟨w.heap.size, 1, none⟩ = some (.bool X) ∧ w5.cell? ⟨w.heap.size, 2, none⟩ = some (.int .i64 N) := by
            have hne : w.heap.size ≠ w.heap.size + 1 := by omega
            have y5 : Whole w5 w.heap.size 94 #[.int .i64 E, .bool X, .int .i64 N] := by
              rw [← hw5]
              exact ((HY0.out.far _ hne _).far _ hne _).far _ hne _
            exact ⟨y5.at_ 0, y5.at_ 1, y5.at_ 2⟩
          refine hK.out _ w5.drew (.inr hS5) ?_
          have hS := hS5
          clear hK K hw5 r0 r1 r2 f0 f1 f2 yRw y2
          try simp only [Act.put, List.setIfInBounds_toArray, List.set_cons_zero, List.set_cons_succ]
          refine wpAnyL_ready (rs := [15]) (by kernel_rfl) (by simp) ?_
          refine' ReadyL.cons ?ho32 (fun K hK => ?step32) ?more32
          case ho32 => simp only [List.getElem?_toArray, List.getElem?_cons_succ, List.getElem?_cons_zero]; rfl
          case step32 =>
            go_simp
            refine hK.out _ _ (.inr hS) ?_
            clear hK K
            try simp only [Act.put, List.setIfInBounds_toArray, List.set_cons_zero, List.set_cons_succ]
            refine wpAnyL_done (by kernel_rfl) ?_ _
            go_wp2_with fail
            refine bodyPost_ret (v := .tuple #[.agg #[.int .i64 E, .bool X, .int .i64 N], .bool false]) ?_ rfl ?_
            · simp [results, Tryz.results92, go_sem, q0, q1, q2]
            · exact ⟨by rw [HR.out], HE.out.drew⟩
          exact ReadyL.nil
        exact ReadyL.nil
    · skip
      have HR : Hid (hookOk (E, X, N) = false) := by show _ = _; unfold hookOk; simp [h1, h8]
      refine wp_region_lastE (S := (fun V => V.cell? ⟨w.heap.size, 0, none⟩ = some (.int .i64 E) ∧ V.cell? ⟨w.heap.size, 1, none⟩ = some (.bool X) ∧ V.cell? ⟨w.heap.size, 2, none⟩ = some (.int .i64 N))) (Z := (fun _ => false)) (by kernel_rfl) ?_
      have hS := hS0
      refine' wpAnyL_take (i := 0) ?hi33 (by kernel_rfl) (by kernel_rfl) (by kernel_rfl) (by kernel_rfl) ?hQ33 ?hy33 hS ?rest33
      case hi33 => simp only [List.getElem?_toArray, List.getElem?_cons_zero]; rfl
      case hQ33 => exact fun _ _ _ h => h
      case hy33 =>
        refine Or.inl ⟨by rfl, ?_⟩
        intro wq hq
        try dsimp only at hq
        try obtain ⟨hq0, hq1, hq2, hq3, hq4, hq5, hq6⟩ := hq
        try obtain ⟨hq0, hq1, hq2, hq3, hq4, hq5⟩ := hq
        try obtain ⟨hq0, hq1, hq2, hq3, hq4⟩ := hq
        try obtain ⟨hq0, hq1, hq2, hq3⟩ := hq
        try obtain ⟨hq0, hq1, hq2⟩ := hq
        try obtain ⟨hq0, hq1⟩ := hq
        go_simp
        try with_reducible rfl
      try simp only [Act.put, List.setIfInBounds_toArray, List.set_cons_zero, List.set_cons_succ]
      refine' wpAnyL_take (i := 1) ?hi34 (by kernel_rfl) (by kernel_rfl) (by kernel_rfl) (by kernel_rfl) ?hQ34 ?hy34 hS ?rest34
      case hi34 => simp only [List.getElem?_toArray, List.getElem?_cons_succ, List.getElem?_cons_zero]; rfl
      case hQ34 => exact fun _ _ _ h => h
      case hy34 =>
        refine Or.inl ⟨by rfl, ?_⟩
        intro wq hq
        try dsimp only at hq
        try obtain ⟨hq0, hq1, hq2, hq3, hq4, hq5, hq6⟩ := hq
        try obtain ⟨hq0, hq1, hq2, hq3, hq4, hq5⟩ := hq
        try obtain ⟨hq0, hq1, hq2, hq3, hq4⟩ := hq
        try obtain ⟨hq0, hq1, hq2, hq3⟩ := hq
        try obtain ⟨hq0, hq1, hq2⟩ := hq
        try obtain ⟨hq0, hq1⟩ := hq
        go_simp
        try with_reducible rfl
      try simp only [Act.put, List.setIfInBounds_toArray, List.set_cons_zero, List.set_cons_succ]
      refine' wpAnyL_take (i := 2) ?hi35 (by kernel_rfl) (by kernel_rfl) (by kernel_rfl) (by kernel_rfl) ?hQ35 ?hy35 hS ?rest35
      case hi35 => simp only [List.getElem?_toArray, List.getElem?_cons_succ, List.getElem?_cons_zero]; rfl
      case hQ35 => exact fun _ _ _ h => h
      case hy35 =>
        refine Or.inl ⟨by rfl, ?_⟩
        intro wq hq
        try dsimp only at hq
        try obtain ⟨hq0, hq1, hq2, hq3, hq4, hq5, hq6⟩ := hq
        try obtain ⟨hq0, hq1, hq2, hq3, hq4, hq5⟩ := hq
        try obtain ⟨hq0, hq1, hq2, hq3, hq4⟩ := hq
        try obtain ⟨hq0, hq1, hq2, hq3⟩ := hq
        try obtain ⟨hq0, hq1, hq2⟩ := hq
        try obtain ⟨hq0, hq1⟩ := hq
        go_simp
        try with_reducible rfl
      try simp only [Act.put, List.setIfInBounds_toArray, List.set_cons_zero, List.set_cons_succ]
      refine' wpAnyL_take (i := 3) ?hi36 (by kernel_rfl) (by kernel_rfl) (by kernel_rfl) (by kernel_rfl) ?hQ36 ?hy36 hS ?rest36
      case hi36 => simp only [List.getElem?_toArray, List.getElem?_cons_succ, List.getElem?_cons_zero]; rfl
      case hQ36 => exact fun _ _ _ h => h
      case hy36 =>
        refine Or.inl ⟨by rfl, ?_⟩
        intro wq hq
        try dsimp only at hq
        try obtain ⟨hq0, hq1, hq2, hq3, hq4, hq5, hq6⟩ := hq
        try obtain ⟨hq0, hq1, hq2, hq3, hq4, hq5⟩ := hq
        try obtain ⟨hq0, hq1, hq2, hq3, hq4⟩ := hq
        try obtain ⟨hq0, hq1, hq2, hq3⟩ := hq
        try obtain ⟨hq0, hq1, hq2⟩ := hq
        try obtain ⟨hq0, hq1⟩ := hq
        go_simp
        try with_reducible rfl
      try simp only [Act.put, List.setIfInBounds_toArray, List.set_cons_zero, List.set_cons_succ]
      refine' wpAnyL_take (i := 4) ?hi37 (by kernel_rfl) (by kernel_rfl) (by kernel_rfl) (by kernel_rfl) ?hQ37 ?hy37 hS ?rest37
      case hi37 => simp only [List.getElem?_toArray, List.getElem?_cons_succ, List.getElem?_cons_zero]; rfl
      case hQ37 => exact fun _ _ _ h => h
      case hy37 =>
        refine Or.inl ⟨by rfl, ?_⟩
        intro wq hq
        try dsimp only at hq
        try obtain ⟨hq0, hq1, hq2, hq3, hq4, hq5, hq6⟩ := hq
        try obtain ⟨hq0, hq1, hq2, hq3, hq4, hq5⟩ := hq
        try obtain ⟨hq0, hq1, hq2, hq3, hq4⟩ := hq
        try obtain ⟨hq0, hq1, hq2, hq3⟩ := hq
        try obtain ⟨hq0, hq1, hq2⟩ := hq
        try obtain ⟨hq0, hq1⟩ := hq
        go_simp
        try with_reducible rfl
      try simp only [Act.put, List.setIfInBounds_toArray, List.set_cons_zero, List.set_cons_succ]
      refine' wpAnyL_take (i := 5) ?hi38 (by kernel_rfl) (by kernel_rfl) (by kernel_rfl) (by kernel_rfl) ?hQ38 ?hy38 hS ?rest38
      case hi38 => simp only [List.getElem?_toArray, List.getElem?_cons_succ, List.getElem?_cons_zero]; rfl
      case hQ38 => exact fun _ _ _ h => h
      case hy38 =>
        refine Or.inl ⟨by rfl, ?_⟩
        intro wq hq
        try dsimp only at hq
        try obtain ⟨hq0, hq1, hq2, hq3, hq4, hq5, hq6⟩ := hq
        try obtain ⟨hq0, hq1, hq2, hq3, hq4, hq5⟩ := hq
        try obtain ⟨hq0, hq1, hq2, hq3, hq4⟩ := hq
        try obtain ⟨hq0, hq1, hq2, hq3⟩ := hq
        try obtain ⟨hq0, hq1, hq2⟩ := hq
        try obtain ⟨hq0, hq1⟩ := hq
        go_simp
        try with_reducible rfl
      try simp only [Act.put, List.setIfInBounds_toArray, List.set_cons_zero, List.set_cons_succ]
      refine' wpAnyL_take (i := 6) ?hi39 (by kernel_rfl) (by kernel_rfl) (by kernel_rfl) (by kernel_rfl) ?hQ39 ?hy39 hS ?rest39
      case hi39 => simp only [List.getElem?_toArray, List.getElem?_cons_succ, List.getElem?_cons_zero]; rfl
      case hQ39 => exact fun _ _ _ h => h
      case hy39 =>
        refine Or.inl ⟨by rfl, ?_⟩
        intro wq hq
        try dsimp only at hq
        try obtain ⟨hq0, hq1, hq2, hq3, hq4, hq5, hq6⟩ := hq
        try obtain ⟨hq0, hq1, hq2, hq3, hq4, hq5⟩ := hq
        try obtain ⟨hq0, hq1, hq2, hq3, hq4⟩ := hq
        try obtain ⟨hq0, hq1, hq2, hq3⟩ := hq
        try obtain ⟨hq0, hq1, hq2⟩ := hq
        try obtain ⟨hq0, hq1⟩ := hq
        go_simp
        try with_reducible rfl
      try simp only [Act.put, List.setIfInBounds_toArray, List.set_cons_zero, List.set_cons_succ]
      refine' wpAnyL_take (i := 7) ?hi40 (by kernel_rfl) (by kernel_rfl) (by kernel_rfl) (by kernel_rfl) ?hQ40 ?hy40 hS ?rest40
      case hi40 => simp only [List.getElem?_toArray, List.getElem?_cons_succ, List.getElem?_cons_zero]; rfl
      case hQ40 => exact fun _ _ _ h => h
      case hy40 =>
        refine Or.inl ⟨by rfl, ?_⟩
        intro wq hq
        try dsimp only at hq
        try obtain ⟨hq0, hq1, hq2, hq3, hq4, hq5, hq6⟩ := hq
        try obtain ⟨hq0, hq1, hq2, hq3, hq4, hq5⟩ := hq
        try obtain ⟨hq0, hq1, hq2, hq3, hq4⟩ := hq
        try obtain ⟨hq0, hq1, hq2, hq3⟩ := hq
        try obtain ⟨hq0, hq1, hq2⟩ := hq
        try obtain ⟨hq0, hq1⟩ := hq
        go_simp
        try with_reducible rfl
      try simp only [Act.put, List.setIfInBounds_toArray, List.set_cons_zero, List.set_cons_succ]
      refine' wpAnyL_take (i := 8) ?hi41 (by kernel_rfl) (by kernel_rfl) (by kernel_rfl) (by kernel_rfl) ?hQ41 ?hy41 hS ?rest41
      case hi41 => simp only [List.getElem?_toArray, List.getElem?_cons_succ, List.getElem?_cons_zero]; rfl
      case hQ41 => exact fun _ _ _ h => h
      case hy41 =>
        refine Or.inl ⟨by rfl, ?_⟩
        intro wq hq
        try dsimp only at hq
        try obtain ⟨hq0, hq1, hq2, hq3, hq4, hq5, hq6⟩ := hq
        try obtain ⟨hq0, hq1, hq2, hq3, hq4, hq5⟩ := hq
        try obtain ⟨hq0, hq1, hq2, hq3, hq4⟩ := hq
        try obtain ⟨hq0, hq1, hq2, hq3⟩ := hq
        try obtain ⟨hq0, hq1, hq2⟩ := hq
        try obtain ⟨hq0, hq1⟩ := hq
        go_simp
        try with_reducible rfl
      try simp only [Act.put, List.setIfInBounds_toArray, List.set_cons_zero, List.set_cons_succ]
      refine' wpAnyL_take (i := 9) ?hi42 (by kernel_rfl) (by kernel_rfl) (by kernel_rfl) (by kernel_rfl) ?hQ42 ?hy42 hS ?rest42
      case hi42 => simp only [List.getElem?_toArray, List.getElem?_cons_succ, List.getElem?_cons_zero]; rfl
      case hQ42 => exact fun _ _ _ h => h
      case hy42 =>
        refine Or.inl ⟨by rfl, ?_⟩
        intro wq hq
        try dsimp only at hq
        try obtain ⟨hq0, hq1, hq2, hq3, hq4, hq5, hq6⟩ := hq
        try obtain ⟨hq0, hq1, hq2, hq3, hq4, hq5⟩ := hq
        try obtain ⟨hq0, hq1, hq2, hq3, hq4⟩ := hq
        try obtain ⟨hq0, hq1, hq2, hq3⟩ := hq
        try obtain ⟨hq0, hq1, hq2⟩ := hq
        try obtain ⟨hq0, hq1⟩ := hq
        go_simp
        try with_reducible rfl
      try simp only [Act.put, List.setIfInBounds_toArray, List.set_cons_zero, List.set_cons_succ]
      refine' wpAnyL_take (i := 10) ?hi43 (by kernel_rfl) (by kernel_rfl) (by kernel_rfl) (by kernel_rfl) ?hQ43 ?hy43 hS ?rest43
      case hi43 => simp only [List.getElem?_toArray, List.getElem?_cons_succ, List.getElem?_cons_zero]; rfl
      case hQ43 => exact fun _ _ _ h => h
      case hy43 => exact Or.inr ⟨by rfl, rfl⟩
      try simp only [Act.put, List.setIfInBounds_toArray, List.set_cons_zero, List.set_cons_succ]
      refine' wpAnyL_take (i := 11) ?hi44 (by kernel_rfl) (by kernel_rfl) (by kernel_rfl) (by kernel_rfl) ?hQ44 ?hy44 hS ?rest44
      case hi44 => simp only [List.getElem?_toArray, List.getElem?_cons_succ, List.getElem?_cons_zero]; rfl
      case hQ44 => exact fun _ _ _ h => h
      case hy44 => exact Or.inr ⟨by rfl, rfl⟩
      try simp only [Act.put, List.setIfInBounds_toArray, List.set_cons_zero, List.set_cons_succ]
      refine' wpAnyL_take (i := 12) ?hi45 (by kernel_rfl) (by kernel_rfl) (by kernel_rfl) (by kernel_rfl) ?hQ45 ?hy45 hS ?rest45
      case hi45 => simp only [List.getElem?_toArray, List.getElem?_cons_succ, List.getElem?_cons_zero]; rfl
      case hQ45 => exact fun _ _ _ h => h
      case hy45 => exact Or.inr ⟨by rfl, rfl⟩
      try simp only [Act.put, List.setIfInBounds_toArray, List.set_cons_zero, List.set_cons_succ]
      refine' wpAnyL_take (i := 13) ?hi46 (by kernel_rfl) (by kernel_rfl) (by kernel_rfl) (by kernel_rfl) ?hQ46 ?hy46 hS ?rest46
      case hi46 => simp only [List.getElem?_toArray, List.getElem?_cons_succ, List.getElem?_cons_zero]; rfl
      case hQ46 => exact fun _ _ _ h => h
      case hy46 =>
        refine Or.inl ⟨by rfl, ?_⟩
        intro wq hq
        try dsimp only at hq
        try obtain ⟨hq0, hq1, hq2, hq3, hq4, hq5, hq6⟩ := hq
        try obtain ⟨hq0, hq1, hq2, hq3, hq4, hq5⟩ := hq
        try obtain ⟨hq0, hq1, hq2, hq3, hq4⟩ := hq
        try obtain ⟨hq0, hq1, hq2, hq3⟩ := hq
        try obtain ⟨hq0, hq1, hq2⟩ := hq
        try obtain ⟨hq0, hq1⟩ := hq
        go_simp
        try with_reducible rfl
      try simp only [Act.put, List.setIfInBounds_toArray, List.set_cons_zero, List.set_cons_succ]
      refine wpAnyL_ready (rs := [14]) (by kernel_rfl) (by simp) ?_
      refine' ReadyL.cons ?ho47 (fun K hK => ?step47) ?more47
      case ho47 => simp only [List.getElem?_toArray, List.getElem?_cons_succ, List.getElem?_cons_zero]; rfl
      case step47 =>
        have yRw := HYR.out
        have r0 : w1.cell? ⟨w.heap.size + 1, 0, none⟩ = some (.int .i64 0) := yRw.at_ 0
        have r1 : w1.cell? ⟨w.heap.size + 1, 1, none⟩ = some (.bool false) := yRw.at_ 1
        have r2 : w1.cell? ⟨w.heap.size + 1, 2, none⟩ = some (.int .i64 0) := yRw.at_ 2
        have f0 := yRw.free 0
        have f1 := yRw.free 1
        have f2 := yRw.free 2
        go_simp
        have y2 := ((yRw.put 0 (.int .i64 E)).put 1 (.bool X)).put 2 (.int .i64 N)
        simp only [List.setIfInBounds_toArray, List.set_cons_zero, List.set_cons_succ] at y2
        have q0 : _ = some _ := y2.at_ 0
        have q1 : _ = some _ := y2.at_ 1
        have q2 : _ = some _ := y2.at_ 2
        have HE := Lib.hid (HEND.out _ (Below.refl w1.heap.size w1))
        generalize hw5 : ((w1.setCell ⟨w.heap.size + 1, 0, none⟩ (.int .i64 E)).setCell ⟨w.heap.size + 1, 1, none⟩ (.bool X)).setCell ⟨w.heap.size + 1, 2, none⟩ (.int .i64 N) = w5 at *
        have hS5 : w5.cell? ⟨w.heap.size, 0, none⟩ = some (.int .i64 E) ∧ w5.cell? ⟨w.heap.size, 1, none⟩ = some (.bool X) ∧ w5.cell? ⟨w.heap.size, 2, none⟩ = some (.int .i64 N) := by
          have hne : w.heap.size ≠ w.heap.size + 1 := by omega
          have y5 : Whole w5 w.heap.size 94 #[.int .i64 E, .bool X, .int .i64 N] := by
            rw [← hw5]
            exact ((HY0.out.far _ hne _).far _ hne _).far _ hne _
          exact ⟨y5.at_ 0, y5.at_ 1, y5.at_ 2⟩
        refine hK.out _ w5.drew (.inr hS5) ?_
        have hS := hS5
        clear hK K hw5 r0 r1 r2 f0 f1 f2 yRw y2
        try simp only [Act.put, List.setIfInBounds_toArray, List.set_cons_zero, List.set_cons_succ]
        refine wpAnyL_ready (rs := [15]) (by kernel_rfl) (by simp) ?_
        refine' ReadyL.cons ?ho48 (fun K hK => ?step48) ?more48
        case ho48 => simp only [List.getElem?_toArray, List.getElem?_cons_succ, List.getElem?_cons_zero]; rfl
        case step48 =>
          go_simp
          refine hK.out _ _ (.inr hS) ?_
          clear hK K
          try simp only [Act.put, List.setIfInBounds_toArray, List.set_cons_zero, List.set_cons_succ]
          refine wpAnyL_done (by kernel_rfl) ?_ _
          go_wp2_with fail
          refine bodyPost_ret (v := .tuple #[.agg #[.int .i64 E, .bool X, .int .i64 N], .bool false]) ?_ rfl ?_
          · simp [results, Tryz.results92, go_sem, q0, q1, q2]
          · exact ⟨by rw [HR.out], HE.out.drew⟩
        exact ReadyL.nil
      exact ReadyL.nil
  · skip
    have HR : Hid (hookOk (E, X, N) = false) := by show _ = _; unfold hookOk; simp [h1]
    refine wp_region_lastE (S := (fun V => V.cell? ⟨w.heap.size, 0, none⟩ = some (.int .i64 E) ∧ V.cell? ⟨w.heap.size, 1, none⟩ = some (.bool X) ∧ V.cell? ⟨w.heap.size, 2, none⟩ = some (.int .i64 N))) (Z := (fun _ => false)) (by kernel_rfl) ?_
    have hS := hS0
    refine' wpAnyL_take (i := 0) ?hi49 (by kernel_rfl) (by kernel_rfl) (by kernel_rfl) (by kernel_rfl) ?hQ49 ?hy49 hS ?rest49
    case hi49 => simp only [List.getElem?_toArray, List.getElem?_cons_zero]; rfl
    case hQ49 => exact fun _ _ _ h => h
    case hy49 =>
      refine Or.inl ⟨by rfl, ?_⟩
      intro wq hq
      try dsimp only at hq
      try obtain ⟨hq0, hq1, hq2, hq3, hq4, hq5, hq6⟩ := hq
      try obtain ⟨hq0, hq1, hq2, hq3, hq4, hq5⟩ := hq
      try obtain ⟨hq0, hq1, hq2, hq3, hq4⟩ := hq
      try obtain ⟨hq0, hq1, hq2, hq3⟩ := hq
      try obtain ⟨hq0, hq1, hq2⟩ := hq
      try obtain ⟨hq0, hq1⟩ := hq
      go_simp
      try with_reducible rfl
    try simp only [Act.put, List.setIfInBounds_toArray, List.set_cons_zero, List.set_cons_succ]
    refine' wpAnyL_take (i := 1) ?hi50 (by kernel_rfl) (by kernel_rfl) (by kernel_rfl) (by kernel_rfl) ?hQ50 ?hy50 hS ?rest50
    case hi50 => simp only [List.getElem?_toArray, List.getElem?_cons_succ, List.getElem?_cons_zero]; rfl
    case hQ50 => exact fun _ _ _ h => h
    case hy50 =>
      refine Or.inl ⟨by rfl, ?_⟩
      intro wq hq
      try dsimp only at hq
      try obtain ⟨hq0, hq1, hq2, hq3, hq4, hq5, hq6⟩ := hq
      try obtain ⟨hq0, hq1, hq2, hq3, hq4, hq5⟩ := hq
      try obtain ⟨hq0, hq1, hq2, hq3, hq4⟩ := hq
      try obtain ⟨hq0, hq1, hq2, hq3⟩ := hq
      try obtain ⟨hq0, hq1, hq2⟩ := hq
      try obtain ⟨hq0, hq1⟩ := hq
      go_simp
      try with_reducible rfl
    try simp only [Act.put, List.setIfInBounds_toArray, List.set_cons_zero, List.set_cons_succ]
    refine' wpAnyL_take (i := 2) ?hi51 (by kernel_rfl) (by kernel_rfl) (by kernel_rfl) (by kernel_rfl) ?hQ51 ?hy51 hS ?rest51
    case hi51 => simp only [List.getElem?_toArray, List.getElem?_cons_succ, List.getElem?_cons_zero]; rfl
    case hQ51 => exact fun _ _ _ h => h
    case hy51 =>
      refine Or.inl ⟨by rfl, ?_⟩
      intro wq hq
      try dsimp only at hq
      try obtain ⟨hq0, hq1, hq2, hq3, hq4, hq5, hq6⟩ := hq
      try obtain ⟨hq0, hq1, hq2, hq3, hq4, hq5⟩ := hq
      try obtain ⟨hq0, hq1, hq2, hq3, hq4⟩ := hq
      try obtain ⟨hq0, hq1, hq2, hq3⟩ := hq
      try obtain ⟨hq0, hq1, hq2⟩ := hq
      try obtain ⟨hq0, hq1⟩ := hq
      go_simp
      try with_reducible rfl
    try simp only [Act.put, List.setIfInBounds_toArray, List.set_cons_zero, List.set_cons_succ]
    refine' wpAnyL_take (i := 3) ?hi52 (by kernel_rfl) (by kernel_rfl) (by kernel_rfl) (by kernel_rfl) ?hQ52 ?hy52 hS ?rest52
    case hi52 => simp only [List.getElem?_toArray, List.getElem?_cons_succ, List.getElem?_cons_zero]; rfl
    case hQ52 => exact fun _ _ _ h => h
    case hy52 =>
      refine Or.inl ⟨by rfl, ?_⟩
      intro wq hq
      try dsimp only at hq
      try obtain ⟨hq0, hq1, hq2, hq3, hq4, hq5, hq6⟩ := hq
      try obtain ⟨hq0, hq1, hq2, hq3, hq4, hq5⟩ := hq
      try obtain ⟨hq0, hq1, hq2, hq3, hq4⟩ := hq
      try obtain ⟨hq0, hq1, hq2, hq3⟩ := hq
      try obtain ⟨hq0, hq1, hq2⟩ := hq
      try obtain ⟨hq0, hq1⟩ := hq
      go_simp
      try with_reducible rfl
    try simp only [Act.put, List.setIfInBounds_toArray, List.set_cons_zero, List.set_cons_succ]
    refine' wpAnyL_take (i := 4) ?hi53 (by kernel_rfl) (by kernel_rfl) (by kernel_rfl) (by kernel_rfl) ?hQ53 ?hy53 hS ?rest53
    case hi53 => simp only [List.getElem?_toArray, List.getElem?_cons_succ, List.getElem?_cons_zero]; rfl
    case hQ53 => exact fun _ _ _ h => h
    case hy53 =>
      refine Or.inl ⟨by rfl, ?_⟩
      intro wq hq
      try dsimp only at hq
      try obtain ⟨hq0, hq1, hq2, hq3, hq4, hq5, hq6⟩ := hq
      try obtain ⟨hq0, hq1, hq2, hq3, hq4, hq5⟩ := hq
      try obtain ⟨hq0, hq1, hq2, hq3, hq4⟩ := hq
      try obtain ⟨hq0, hq1, hq2, hq3⟩ := hq
      try obtain ⟨hq0, hq1, hq2⟩ := hq
      try obtain ⟨hq0, hq1⟩ := hq
      go_simp
      try with_reducible rfl
    try simp only [Act.put, List.setIfInBounds_toArray, List.set_cons_zero, List.set_cons_succ]
    refine' wpAnyL_take (i := 5) ?hi54 (by kernel_rfl) (by kernel_rfl) (by kernel_rfl) (by kernel_rfl) ?hQ54 ?hy54 hS ?rest54
    case hi54 => simp only [List.getElem?_toArray, List.getElem?_cons_succ, List.getElem?_cons_zero]; rfl
    case hQ54 => exact fun _ _ _ h => h
    case hy54 => exact Or.inr ⟨by rfl, rfl⟩
    try simp only [Act.put, List.setIfInBounds_toArray, List.set_cons_zero, List.set_cons_succ]
    refine' wpAnyL_take (i := 6) ?hi55 (by kernel_rfl) (by kernel_rfl) (by kernel_rfl) (by kernel_rfl) ?hQ55 ?hy55 hS ?rest55
    case hi55 => simp only [List.getElem?_toArray, List.getElem?_cons_succ, List.getElem?_cons_zero]; rfl
    case hQ55 => exact fun _ _ _ h => h
    case hy55 => exact Or.inr ⟨by rfl, rfl⟩
    try simp only [Act.put, List.setIfInBounds_toArray, List.set_cons_zero, List.set_cons_succ]
    refine' wpAnyL_take (i := 7) ?hi56 (by kernel_rfl) (by kernel_rfl) (by kernel_rfl) (by kernel_rfl) ?hQ56 ?hy56 hS ?rest56
    case hi56 => simp only [List.getElem?_toArray, List.getElem?_cons_succ, List.getElem?_cons_zero]; rfl
    case hQ56 => exact fun _ _ _ h => h
    case hy56 => exact Or.inr ⟨by rfl, rfl⟩
    try simp only [Act.put, List.setIfInBounds_toArray, List.set_cons_zero, List.set_cons_succ]
    refine' wpAnyL_take (i := 8) ?hi57 (by kernel_rfl) (by kernel_rfl) (by kernel_rfl) (by kernel_rfl) ?hQ57 ?hy57 hS ?rest57
    case hi57 => simp only [List.getElem?_toArray, List.getElem?_cons_succ, List.getElem?_cons_zero]; rfl
    case hQ57 => exact fun _ _ _ h => h
    case hy57 =>
      refine Or.inl ⟨by rfl, ?_⟩
      intro wq hq
      try dsimp only at hq
      try obtain ⟨hq0, hq1, hq2, hq3, hq4, hq5, hq6⟩ := hq
      try obtain ⟨hq0, hq1, hq2, hq3, hq4, hq5⟩ := hq
      try obtain ⟨hq0, hq1, hq2, hq3, hq4⟩ := hq
      try obtain ⟨hq0, hq1, hq2, hq3⟩ := hq
      try obtain ⟨hq0, hq1, hq2⟩ := hq
      try obtain ⟨hq0, hq1⟩ := hq
      go_simp
      try with_reducible rfl
    try simp only [Act.put, List.setIfInBounds_toArray, List.set_cons_zero, List.set_cons_succ]
    refine' wpAnyL_take (i := 9) ?hi58 (by kernel_rfl) (by kernel_rfl) (by kernel_rfl) (by kernel_rfl) ?hQ58 ?hy58 hS ?rest58
    case hi58 => simp only [List.getElem?_toArray, List.getElem?_cons_succ, List.getElem?_cons_zero]; rfl
    case hQ58 => exact fun _ _ _ h => h
    case hy58 =>
      refine Or.inl ⟨by rfl, ?_⟩
      intro wq hq
      try dsimp only at hq
      try obtain ⟨hq0, hq1, hq2, hq3, hq4, hq5, hq6⟩ := hq
      try obtain ⟨hq0, hq1, hq2, hq3, hq4, hq5⟩ := hq
      try obtain ⟨hq0, hq1, hq2, hq3, hq4⟩ := hq
      try obtain ⟨hq0, hq1, hq2, hq3⟩ := hq
      try obtain ⟨hq0, hq1, hq2⟩ := hq
      try obtain ⟨hq0, hq1⟩ := hq
      go_simp
      try with_reducible rfl
    try simp only [Act.put, List.setIfInBounds_toArray, List.set_cons_zero, List.set_cons_succ]
    refine' wpAnyL_take (i := 10) ?hi59 (by kernel_rfl) (by kernel_rfl) (by kernel_rfl) (by kernel_rfl) ?hQ59 ?hy59 hS ?rest59
    case hi59 => simp only [List.getElem?_toArray, List.getElem?_cons_succ, List.getElem?_cons_zero]; rfl
    case hQ59 => exact fun _ _ _ h => h
    case hy59 => exact Or.inr ⟨by rfl, rfl⟩
    try simp only [Act.put, List.setIfInBounds_toArray, List.set_cons_zero, List.set_cons_succ]
    refine' wpAnyL_take (i := 11) ?hi60 (by kernel_rfl) (by kernel_rfl) (by kernel_rfl) (by kernel_rfl) ?hQ60 ?hy60 hS ?rest60
    case hi60 => simp only [List.getElem?_toArray, List.getElem?_cons_succ, List.getElem?_cons_zero]; rfl
    case hQ60 => exact fun _ _ _ h => h
    case hy60 => exact Or.inr ⟨by rfl, rfl⟩
    try simp only [Act.put, List.setIfInBounds_toArray, List.set_cons_zero, List.set_cons_succ]
    refine' wpAnyL_take (i := 12) ?hi61 (by kernel_rfl) (by kernel_rfl) (by kernel_rfl) (by kernel_rfl) ?hQ61 ?hy61 hS ?rest61
    case hi61 => simp only [List.getElem?_toArray, List.getElem?_cons_succ, List.getElem?_cons_zero]; rfl
    case hQ61 => exact fun _ _ _ h => h
    case hy61 => exact Or.inr ⟨by rfl, rfl⟩
    try simp only [Act.put, List.setIfInBounds_toArray, List.set_cons_zero, List.set_cons_succ]
    refine' wpAnyL_take (i := 13) ?hi62 (by kernel_rfl) (by kernel_rfl) (by kernel_rfl) (by kernel_rfl) ?hQ62 ?hy62 hS ?rest62
    case hi62 => simp only [List.getElem?_toArray, List.getElem?_cons_succ, List.getElem?_cons_zero]; rfl
    case hQ62 => exact fun _ _ _ h => h
    case hy62 =>
      refine Or.inl ⟨by rfl, ?_⟩
      intro wq hq
      try dsimp only at hq
      try obtain ⟨hq0, hq1, hq2, hq3, hq4, hq5, hq6⟩ := hq
      try obtain ⟨hq0, hq1, hq2, hq3, hq4, hq5⟩ := hq
      try obtain ⟨hq0, hq1, hq2, hq3, hq4⟩ := hq
      try obtain ⟨hq0, hq1, hq2, hq3⟩ := hq
      try obtain ⟨hq0, hq1, hq2⟩ := hq
      try obtain ⟨hq0, hq1⟩ := hq
      go_simp
      try with_reducible rfl
    try simp only [Act.put, List.setIfInBounds_toArray, List.set_cons_zero, List.set_cons_succ]
    refine wpAnyL_ready (rs := [14]) (by kernel_rfl) (by simp) ?_
    refine' ReadyL.cons ?ho63 (fun K hK => ?step63) ?more63
    case ho63 => simp only [List.getElem?_toArray, List.getElem?_cons_succ, List.getElem?_cons_zero]; rfl
    case step63 =>
      have yRw := HYR.out
      have r0 : w1.cell? ⟨w.heap.size + 1, 0, none⟩ = some (.int .i64 0) := yRw.at_ 0
      have r1 : w1.cell? ⟨w.heap.size + 1, 1, none⟩ = some (.bool false) := yRw.at_ 1
      have r2 : w1.cell? ⟨w.heap.size + 1, 2, none⟩ = some (.int .i64 0) := yRw.at_ 2
      have f0 := yRw.free 0
      have f1 := yRw.free 1
      have f2 := yRw.free 2
      go_simp
      have y2 := ((yRw.put 0 (.int .i64 E)).put 1 (.bool X)).put 2 (.int .i64 N)
      simp only [List.setIfInBounds_toArray, List.set_cons_zero, List.set_cons_succ] at y2
      have q0 : _ = some _ := y2.at_ 0
      have q1 : _ = some _ := y2.at_ 1
      have q2 : _ = some _ := y2.at_ 2
      have HE := Lib.hid (HEND.out _ (Below.refl w1.heap.size w1))
      generalize hw5 : ((w1.setCell ⟨w.heap.size + 1, 0, none⟩ (.int .i64 E)).setCell ⟨w.heap.size + 1, 1, none⟩ (.bool X)).setCell ⟨w.heap.size + 1, 2, none⟩ (.int .i64 N) = w5 at *
      have hS5 : w5.cell? ⟨w.heap.size, 0, none⟩ = some (.int .i64 E) ∧ w5.cell? ⟨w.heap.size, 1, none⟩ = some (.bool X) ∧ w5.cell? ⟨w.heap.size, 2, none⟩ = some (.int .i64 N) := by
        have hne : w.heap.size ≠ w.heap.size + 1 := by omega
        have y5 : Whole w5 w.heap.size 94 #[.int .i64 E, .bool X, .int .i64 N] := by
          rw [← hw5]
          exact ((HY0.out.far _ hne _).far _ hne _).far _ hne _
        exact ⟨y5.at_ 0, y5.at_ 1, y5.at_ 2⟩
      refine hK.out _ w5.drew (.inr hS5) ?_
      have hS := hS5
      clear hK K hw5 r0 r1 r2 f0 f1 f2 yRw y2
      try simp only [Act.put, List.setIfInBounds_toArray, List.set_cons_zero, List.set_cons_succ]
      refine wpAnyL_ready (rs := [15]) (by kernel_rfl) (by simp) ?_
      refine' ReadyL.cons ?ho64 (fun K hK => ?step64) ?more64
      case ho64 => simp only [List.getElem?_toArray, List.getElem?_cons_succ, List.getElem?_cons_zero]; rfl
      case step64 =>
        go_simp
        refine hK.out _ _ (.inr hS) ?_
        clear hK K
        try simp only [Act.put, List.setIfInBounds_toArray, List.set_cons_zero, List.set_cons_succ]
        refine wpAnyL_done (by kernel_rfl) ?_ _
        go_wp2_with fail
        refine bodyPost_ret (v := .tuple #[.agg #[.int .i64 E, .bool X, .int .i64 N], .bool false]) ?_ rfl ?_
        · simp [results, Tryz.results92, go_sem, q0, q1, q2]
        · exact ⟨by rw [HR.out], HE.out.drew⟩
      exact ReadyL.nil
    exact ReadyL.nil

/-- what the row of hooks is when k are gone through -/
def HkRel (hks : List PH) (n : Nat) (w0 : World) (s i : Value) (wr : World) : Prop :=
  ∃ (k : Nat) (H : Option Addr) (c : Nat) (hs : List PH), k ≤ n ∧ i = .int .i64 (k : Int) ∧ s = .slice H hs.length c ∧ wr.ownsRow w0.heap.size 94 3 (.slice H hs.length c) hs.length (hkCells hs) ∧ hs = (hks.take k).filter hookOk ∧ Below w0.heap.size w0 wr
/-- a row of hooks that is told: in memory of its own -/
def TellsH (hs : List PH) (w : World) (e : Ending) (w' : World) : Prop :=
  ∃ H c, e = .returned (.slice H hs.length c) ∧ w'.ownsRow w.heap.size 94 3 (.slice H hs.length c) hs.length (hkCells hs) ∧ Below w.heap.size w w'

set_option maxHeartbeats 4000000 in
set_option maxRecDepth 100000 in
theorem toldH_any (H : Option Addr) (n c : Nat) (hks : List PH) (w : World) (hl : Lies w w.heap.size H (hkCells hks)) (hn : hks.length = n) (hn2 : n ≤ 4194304) :
    Calls Tryz.prog 91 #[.slice H n c, .func (.func 92) #[] #[]] w (TellsH (hks.filter hookOk) w) := by
  obtain ⟨i1, hi1, hz10, hz11, hz12⟩ := info_parts hook_info
  have HL := Lib.hid hl
  have HN := Lib.hid hn
  clear hl hn
  go_enter Tryz.func91, Tryz.ntmps91
  go_wp2_with fail
  go_loopw [5, 12] (HkRel hks n w) (fun _ i _ => n - (intOf i).toNat)
  case atStart => exact ⟨0, none, 0, [], Nat.zero_le _, rfl, rfl, World.ownsRow_nil _ _ _ _, rfl, Below.refl _ _⟩
  case round =>
    obtain ⟨k, A, d, hs, hk, rfl, rfl, hown, hq, hb⟩ := hrel
    have HB := Lib.hid hb
    have HOW := Lib.hid hown
    have HQ := Lib.hid hq
    have hzl : hs.length ≤ k := by
      rw [hq]
      have h2 := List.length_filter_le hookOk (hks.take k)
      rw [List.length_take] at h2
      omega
    clear hown hq hb
    by_cases hlt : k < n
    · obtain ⟨ad, t, rfl, hba, d0, d1, d2, HR⟩ := (HL.out.next HB.out (Nat.le_refl _)).hook (k := k) (by rw [HN.out]; exact hlt)
      have hk0 : (0 : Int) ≤ (k : Int) := Int.natCast_nonneg _
      have hk1 : (k : Int) < (n : Int) := by omega
      have HNX := Lib.hid (hk_next HR.out)
      go_upto_region 5 with (fail)
      obtain ⟨w2, hw2⟩ : ∃ w2 : World, wr.alloc (.cells #[.int .i64 t.1, .bool t.2.1, .int .i64 t.2.2] 94) = w2 := ⟨_, rfl⟩
      have y2 : Whole w2 wr.heap.size 94 #[.int .i64 t.1, .bool t.2.1, .int .i64 t.2.2] := by rw [← hw2]; exact Whole.made _ _ _
      have HB2 : Hid (Below wr.heap.size wr w2) := by show Below _ _ _; rw [← hw2]; exact (Below.refl _ _).alloc (Nat.le_refl _) _
      try rw [hw2]
      clear hw2 d0 d1 d2
      have e0 := y2.at_ 0
      have e1 := y2.at_ 1
      have e2 := y2.at_ 2
      go_wp2_with fail
      refine (hook1_any t w2).mono ?_
      rintro e w3 ⟨rfl, hb3⟩
      have HB3 : Hid (Below wr.heap.size wr w3) := below_next HB2.out (Nat.le_refl _) hb3
      have HOW3 : Hid (w3.ownsRow w.heap.size 94 3 (.slice A hs.length d) hs.length (hkCells hs)) := own_keep HOW.out HB3.out
      clear hb3 y2 e0 e1 e2
      cases hok : hookOk t with
      | false =>
        have HE : Hid (HkRel hks n w (.slice A hs.length d) (.int .i64 ((k : Int) + 1)) (w3.alloc (.cells #[.int .i64 t.1, .bool t.2.1, .int .i64 t.2.2] 94))) :=
          ⟨k + 1, A, d, hs, by omega, by simp, rfl, HOW3.out.alloc _, by rw [HNX.out, hok, HQ.out]; simp, (below_next HB.out (Nat.le_refl _) HB3.out).alloc (Nat.le_trans HB.out.size HB3.out.size) _⟩
        clear hok
        go_wp2_with fail
        go_roundw
        case rel => exact HE.out
        case measure => simp [intOf]; omega
      | true =>
        have HNY : Hid ((hks.take (k + 1)).filter hookOk = hs ++ [t]) := by show _ = _; rw [HNX.out, hok, HQ.out]; rfl
        clear hok
        go_upto_region 7 with (fail)
        obtain ⟨w4, hw4⟩ : ∃ w4 : World, w3.alloc (.cells #[.int .i64 t.1, .bool t.2.1, .int .i64 t.2.2] 94) = w4 := ⟨_, rfl⟩
        have y4 : Whole w4 w3.heap.size 94 #[.int .i64 t.1, .bool t.2.1, .int .i64 t.2.2] := by rw [← hw4]; exact Whole.made _ _ _
        have HB4 : Hid (Below wr.heap.size wr w4) := by show Below _ _ _; rw [← hw4]; exact HB3.out.alloc HB3.out.size _
        have hown4 : w4.ownsRow w.heap.size 94 3 (.slice A hs.length d) hs.length (hkCells hs) := by rw [← hw4]; exact HOW3.out.alloc _
        try rw [hw4]
        clear hw4
        have e0 := y4.at_ 0
        have e1 := y4.at_ 1
        have e2 := y4.at_ 2
        have hw04 := (below_next HB.out (Nat.le_refl _) HB4.out).size
        generalize hzz : hs.length = m at *
        have HM := Lib.hid hzz
        clear hzz
        go_wp2_with (at_builtin; go_loud (refine wpList_append_own_at _ rfl _ _ 41 rfl w.heap.size 94 i1 _ 3 24 Tryz.underlying41 hi1 hz10 hz11 hz12 rfl (by decide) (.slice A m d) m (hkCells hs) rfl (hown4.alloc _) ⟨w4.heap.size, 0, none⟩ 1 1 (hkRow t) rfl rfl (cells_new w4 _ _) (hkRow_one t) (by simp only [maxLen]; omega) (by omega) (by simp; omega) ?_))
        intro v' w7 hown7 hgrow _ hv7
        obtain ⟨A7, c7, rfl, _, _, _⟩ := own_form hown7
        have HE : Hid (HkRel hks n w (.slice A7 (m + 1) c7) (.int .i64 ((k : Int) + 1)) w7) := by
          have hl : (hs ++ [t]).length = m + 1 := by rw [List.length_append, HM.out]; rfl
          refine ⟨k + 1, A7, c7, hs ++ [t], by omega, by simp, by rw [hl], ?_, HNY.out.symm, ?_⟩
          · rw [hl, hkCells_snoc]; exact hown7
          · exact ((below_next HB.out (Nat.le_refl _) HB4.out).alloc hw04 _).grown hgrow (by rw [World.size_alloc]; omega) (fun g hg => (hown4.lt g hg).1)
        clear hown7 hgrow hv7 y4 e0 e1 e2 hown4
        go_wp2_with fail
        go_roundw
        case rel => exact HE.out
        case measure => simp [intOf]; omega
    · obtain rfl : k = n := by omega
      have hk1 : ¬ (k : Int) < (k : Int) := by omega
      have HQ2 : Hid (hs = hks.filter hookOk) := by
        show _ = _
        have h := HQ.out
        rwa [List.take_of_length_le (by rw [HN.out]; exact Nat.le_refl _)] at h
      go_wp2_with fail
      go_ret
      rw [← HQ2.out]
      exact ⟨A, d, rfl, HOW.out, HB.out⟩

set_option maxHeartbeats 1000000 in
set_option maxRecDepth 100000 in
theorem hooks_any (H : Option Addr) (n c : Nat) (hks : List PH) (w : World) (hl : Lies w w.heap.size H (hkCells hks)) (hn : hks.length = n) (hn2 : n ≤ 4194304) :
    Calls Tryz.prog 77 #[.slice H n c] w (TellsH (hks.filter hookOk) w) := by
  have HC := Lib.hid (toldH_any H n c hks w hl hn hn2)
  clear hl hn hn2
  go_enter Tryz.func77, Tryz.ntmps77
  go_wp2_with fail
  refine HC.out.mono ?_
  rintro e w' ⟨A, d, rfl, h1, h2⟩
  go_wp2
  go_ret
  exact ⟨A, d, rfl, h1, h2⟩

end Go.Proofs.YtnbdldapmllegaaGreat.mk

namespace Go.Proofs.YtnbdldapmllegaaGreat.mk
open Go.RowKit

def LawLeft (qs : List PV) (w : World) (e : Ending) (w' : World) : Prop := (∃ A n c, e = .returned (.slice A n c) ∧ VRow w' w.heap.size qs (.slice A n c)) ∧ Below w.heap.size w w'
def LfRel (L : List PV) (n : Nat) (w0 : World) (s i : Value) (wr : World) : Prop :=
  ∃ k : Nat, k ≤ n ∧ i = .int .i64 (k : Int) ∧ VRow wr w0.heap.size (leftV (L.take k)) s ∧ Below w0.heap.size w0 wr
/-- one more that is new altogether, and made behind the row -/
theorem VRow.push {w0 w w2 : World} {base m : Nat} {A A' : Option Addr} {c c' : Nat} {us : List VT} {t : VT} {qs : List PV} (hn : us.length = m) (hall : AllV (OutV base (.slice A m c)) w us) (hq : chV us = qs) (hb0 : base ≤ w0.heap.size) (hlt : ∀ g, (Value.slice A m c).ownBlock = some g → g < w0.heap.size)
    (ht : t.inS (fun b => w0.heap.size ≤ b) w) (hk : AllV (fun b => w0.heap.size ≤ b) w t.kids) (hg : w.grownBy w2 (Value.slice A m c).ownBlock) (hv : (Value.slice A' (m + 1) c').ownBlock = (Value.slice A m c).ownBlock ∨ (Value.slice A' (m + 1) c').ownBlock = some w.heap.size)
    (ho : w2.ownsRow base 43 10 (.slice A' (m + 1) c') (m + 1) (viewCells us ++ viewRow t)) : VRow w2 base (qs ++ [t.ch]) (.slice A' (m + 1) c') := by
  have hf : ∀ b, w0.heap.size ≤ b → OutV base (.slice A m c) b := fun b hb => ⟨Nat.le_trans hb0 hb, fun e => by have := hlt b e; omega⟩
  exact VRow.more hn hall hq (ht.mono fun b hb _ => hf b hb) (hk.mono fun b hb _ => hf b hb) hg hv ho
/-- words, and a slot, that are left -/
def wordT (key : ByteArray) (t : LT) : VT := ⟨2, noT, key, none, 0, 0, [], none, 0, 0, [], none, 0, 0, [], t, 0⟩
def slotT (key : ByteArray) (sl : Int) : VT := ⟨3, noT, key, none, 0, 0, [], none, 0, 0, [], none, 0, 0, [], noT, sl⟩
theorem wordT_ch (key : ByteArray) (t : LT) : (wordT key t).ch = ⟨2, [], key.data.toList, [], [], [], t.ch, 0⟩ := by rw [VT.ch_eq]; show PV.mk 2 noT.ch _ [] [] (chV []) t.ch 0 = _; rw [noT_ch, chV]; rfl
theorem slotT_ch (key : ByteArray) (sl : Int) : (slotT key sl).ch = ⟨3, [], key.data.toList, [], [], [], [], sl⟩ := by rw [VT.ch_eq]; show PV.mk 3 noT.ch _ [] [] (chV []) noT.ch sl = _; rw [noT_ch, chV]; rfl
theorem wordT_in {S : Nat → Prop} {w : World} {key : ByteArray} {t : LT} (hk : key.size ≤ 4294967296) (h : t.inS S w) : (wordT key t).inS S w := ⟨noT_in _ _, h, hk, LiesS.nil _ _ _, rfl, fun _ => rfl, Nat.zero_le _, (fun a ha => by cases ha), LiesS.nil _ _ _, rfl, fun _ => rfl, Nat.zero_le _, LiesS.nil _ _ _, rfl, fun _ => rfl, Nat.zero_le _⟩
theorem slotT_in {S : Nat → Prop} {w : World} {key : ByteArray} {sl : Int} (hk : key.size ≤ 4294967296) : (slotT key sl).inS S w := ⟨noT_in _ _, noT_in _ _, hk, LiesS.nil _ _ _, rfl, fun _ => rfl, Nat.zero_le _, (fun a ha => by cases ha), LiesS.nil _ _ _, rfl, fun _ => rfl, Nat.zero_le _, LiesS.nil _ _ _, rfl, fun _ => rfl, Nat.zero_le _⟩
end Go.Proofs.YtnbdldapmllegaaGreat.mk

namespace Go.Proofs.YtnbdldapmllegaaGreat.mk
open Go.RowKit

/-- one view that is left, or nothing: with whether -/
def PEl (qs : List PV) (w : World) (e : Ending) (w' : World) : Prop :=
  ∃ (t : VT) (b : Bool), e = .returned (.tuple #[.agg #[.int .i64 t.kind, .string t.tag.s, .slice t.tag.A t.tag.n t.tag.c, .string t.key, .slice t.A t.n t.c, .slice t.H t.hn t.hc, .slice t.K t.kn t.kc, .string t.text.s, .slice t.text.A t.text.n t.text.c, .int .i64 t.slot], .bool b]) ∧ Hid ((if b then [t.ch] else []) = qs ∧ (b = true → t.inS (fun b => w.heap.size ≤ b) w' ∧ AllV (fun b => w.heap.size ≤ b) w' t.kids)) ∧ Below w.heap.size w w'
/-- a view of which nothing stands anywhere -/
def zeroV : VT := ⟨0, noT, ⟨#[]⟩, none, 0, 0, [], none, 0, 0, [], none, 0, 0, [], noT, 0⟩
theorem leftV_length (L : List PV) : (leftV L).length ≤ L.length := by
  induction L with
  | nil => rw [leftV]; exact Nat.le_refl _
  | cons v L ih =>
    rw [leftV, List.length_append, List.length_cons]
    have h : v.left.length ≤ 1 := by
      rw [PV.left_eq]
      unfold oneV
      split
      · split <;> simp
      · split
        · split <;> simp
        · split
          · unfold elV
            split
            · simp
            · split <;> simp
          · simp
    omega
theorem elX_made {w1 W W2 : World} {g : Nat} {lt : Ch} {key : ByteArray} {n : LT} {A : Option Addr} {d : Nat} {us : List AT} {H : Option Addr} {hd : Nat} {hs : List PH} {cs : Array Value} (hge : w1.heap.size ≤ g) (yz : Whole W g 43 cs)
    (hput : Below w1.heap.size w1 W2 ∧ Whole W2 g 43 (elX n key A us.length d H hs.length hd none 0 0) ∧ ∀ k, k ≠ g → W2.heap[k]? = W.heap[k]?) (hn : n.ch = lt ∧ OwnL W w1.heap.size n) (ha : W.ownsRow w1.heap.size 30 4 (.slice A us.length d) us.length (atCells us)) (hal : AllOwn W w1.heap.size us)
    (hh : W.ownsRow w1.heap.size 94 3 (.slice H hs.length hd) hs.length (hkCells hs)) : ElX w1 W2 g lt key n A d us H hd hs none 0 0 := by
  refine ⟨hput.2.1, hge, ⟨hn.1, hn.2.keep fun k c _ hc => hput.2.2 k (kind2_ne hc yz (by decide))⟩, own_same ha fun k hk => ?_, fun x hx => (hal x hx).keep fun k c _ hc => hput.2.2 k (kind2_ne hc yz (by decide)), own_same hh fun k hk => ?_, hput.1⟩
  · obtain ⟨cur, hc⟩ := own_kind ha hk
    exact hput.2.2 k (kind2_ne hc yz (by decide))
  · obtain ⟨cur, hc⟩ := own_kind hh hk
    exact hput.2.2 k (kind2_ne hc yz (by decide))

set_option maxHeartbeats 16000000 in
set_option maxRecDepth 100000 in
theorem pEl_any (v : VT) (mx : Int) (w : World) (hm : w.cell? ⟨0, 0, none⟩ = some (.int .i64 mx)) (hv : v.inS (fun b => b < w.heap.size) w) (hbk : v.ch.bk ≤ 3145728)
    (hkd : ∀ W, Below w.heap.size w W → Calls Tryz.prog 10 #[.slice v.K v.kn v.kc] W fun e w' => (∃ A n c, e = .returned (.slice A n c) ∧ VRow w' W.heap.size (leftV (chV v.kids)) (.slice A n c)) ∧ Below W.heap.size W w') :
    Calls Tryz.prog 58 #[.agg #[.int .i64 v.kind, .string v.tag.s, .slice v.tag.A v.tag.n v.tag.c, .string v.key, .slice v.A v.n v.c, .slice v.H v.hn v.hc, .slice v.K v.kn v.kc, .string v.text.s, .slice v.text.A v.text.n v.text.c, .int .i64 v.slot]] w (PEl (elV v.tag.ch v.key.data.toList (v.atts.map AT.ch) v.hooks (leftV (chV v.kids))) w) := by
  obtain ⟨lt, ET⟩ : ∃ lt, lt = lowC v.tag.ch := ⟨_, rfl⟩
  have HET := Lib.hid ET
  have HLL : Hid (∀ W, Below w.heap.size w W → Calls Tryz.prog 19 #[.agg #[.string v.tag.s, .slice v.tag.A v.tag.n v.tag.c]] W (ToldO lt W)) := fun W hb => by
    rw [ET]; exact lowO_any v.tag W (hv.tag.ok.next hb (Nat.le_refl _))
  have HV := Lib.hid hv
  have HMX : Hid (∀ W, Below w.heap.size w W → W.cell? ⟨0, 0, none⟩ = some (.int .i64 mx)) := fun W hb => (hb.cell (block_zero _ _ _ hm)).trans hm
  have HBK := Lib.hid hbk
  have HKD := Lib.hid hkd
  clear hv hm hbk hkd ET
  go_enter Tryz.func58, Tryz.ntmps58
  go_upto_region 1 with (fail)
  generalize hw1 : (w.alloc (.cells #[.int .i64 v.kind, .string v.tag.s, .slice v.tag.A v.tag.n v.tag.c, .string v.key, .slice v.A v.n v.c, .slice v.H v.hn v.hc, .slice v.K v.kn v.kc, .string v.text.s, .slice v.text.A v.text.n v.text.c, .int .i64 v.slot] 43)).alloc (.cells #[.int .i64 0, .string ⟨#[]⟩, .slice none 0 0, .string ⟨#[]⟩, .slice none 0 0, .slice none 0 0, .slice none 0 0, .string ⟨#[]⟩, .slice none 0 0, .int .i64 0] 43) = w1
  have y0 : Whole w1 w.heap.size 43 #[.int .i64 v.kind, .string v.tag.s, .slice v.tag.A v.tag.n v.tag.c, .string v.key, .slice v.A v.n v.c, .slice v.H v.hn v.hc, .slice v.K v.kn v.kc, .string v.text.s, .slice v.text.A v.text.n v.text.c, .int .i64 v.slot] := by rw [← hw1]; exact (Whole.made w _ _).alloc _
  have yR : Whole w1 (w.heap.size + 1) 43 #[.int .i64 0, .string ⟨#[]⟩, .slice none 0 0, .string ⟨#[]⟩, .slice none 0 0, .slice none 0 0, .slice none 0 0, .string ⟨#[]⟩, .slice none 0 0, .int .i64 0] := by
    rw [← hw1]
    have h := Whole.made (w.alloc (.cells #[.int .i64 v.kind, .string v.tag.s, .slice v.tag.A v.tag.n v.tag.c, .string v.key, .slice v.A v.n v.c, .slice v.H v.hn v.hc, .slice v.K v.kn v.kc, .string v.text.s, .slice v.text.A v.text.n v.text.c, .int .i64 v.slot] 43)) 43 #[.int .i64 0, .string ⟨#[]⟩, .slice none 0 0, .string ⟨#[]⟩, .slice none 0 0, .slice none 0 0, .slice none 0 0, .string ⟨#[]⟩, .slice none 0 0, .int .i64 0]
    rw [World.size_alloc] at h
    exact h
  have hbw : Below w.heap.size w w1 := by rw [← hw1]; exact ((Below.refl _ _).alloc (Nat.le_refl _) _).alloc (by rw [World.size_alloc]; exact Nat.le_succ _) _
  have HBW := Lib.hid hbw
  have HY0 := Lib.hid y0
  have HYR := Lib.hid yR
  have HELV : Hid (elV v.tag.ch v.key.data.toList (v.atts.map AT.ch) v.hooks (leftV (chV v.kids)) = if wor lt ≠ 0 ∨ isT tagL (byC lt) = false then [] else if fitV lt (cleanAs (v.atts.map AT.ch)) (kidsV lt (leftV (chV v.kids))) then [⟨1, lt, v.key.data.toList, cleanAs (v.atts.map AT.ch), v.hooks.filter hookOk, kidsV lt (leftV (chV v.kids)), [], 0⟩] else []) := by
    show _ = _
    rw [HET.out]; rfl
  have t1 := y0.at_ 1
  have t2 := y0.at_ 2
  clear hw1 y0 yR hbw
  go_wp2_with fail
  refine (HLL.out w1 HBW.out).mono ?_
  rintro e w2 ⟨n, rfl, hn, hb2⟩
  have HN := hn
  have HB2 : Hid (Below w1.heap.size w1 w2) := hb2
  clear hn hb2 t1 t2
  go_upto_region 2 with (fail)
  obtain ⟨w3, hw3⟩ : ∃ w3 : World, w2.alloc (.cells #[.string n.s, .slice n.A n.n n.c] 28) = w3 := ⟨_, rfl⟩
  have y4 : Whole w3 w2.heap.size 28 #[.string n.s, .slice n.A n.n n.c] := by rw [← hw3]; exact Whole.made _ _ _
  have HY4 := Lib.hid y4
  have hb23 : Below w2.heap.size w2 w3 := by rw [← hw3]; exact (Below.refl _ _).alloc (Nat.le_refl _) _
  have HB3 : Hid (Below w1.heap.size w1 w3) := below_next HB2.out (Nat.le_refl _) hb23
  have HN3 : Hid (OwnL w3 w1.heap.size n) := HN.out.2.below hb23
  try rw [hw3]
  clear hw3 hb23
  have HBW3 : Hid (Below w.heap.size w w3) := below_next HBW.out (Nat.le_refl _) HB3.out
  have HTG : Hid (∀ W, Calls Tryz.prog 37 #[.string n.s] W fun e w' => e = .returned (.bool (isT tagL (byC lt))) ∧ Below W.heap.size W w') := fun W => by
    have h := tagO_any n W
    rw [HN.out.1] at h
    exact h
  have HVD : Hid (∀ W, Calls Tryz.prog 59 #[.string n.s] W fun e w' => e = .returned (.bool (isT voidL (byC lt))) ∧ Below W.heap.size W w') := fun W => by
    have h := voidO_any n W
    rw [HN.out.1] at h
    exact h
  have HRW : Hid (∀ W, Calls Tryz.prog 38 #[.string n.s] W fun e w' => e = .returned (.bool (isT rawL (byC lt))) ∧ Below W.heap.size W w') := fun W => by
    have h := alwRawO_any n W
    rw [HN.out.1] at h
    exact h
  have HPN : Hid (∀ W, Below w3.heap.size w3 W → Calls Tryz.prog 36 #[.agg #[.string n.s, .slice n.A n.n n.c]] W fun e w' => e = .returned (.bool (decide (wor lt = 0))) ∧ Below W.heap.size W w') := fun W hb => by
    have h := purO_any n W (HN3.out.ok.next hb (Nat.le_refl _))
    rw [HN.out.1] at h
    exact h
  have s0 : w3.cell? ⟨w2.heap.size, 0, none⟩ = some (.string n.s) := y4.at_ 0
  have s1 : w3.cell? ⟨w2.heap.size, 1, none⟩ = some (.slice n.A n.n n.c) := y4.at_ 1
  clear y4
  go_wp2_with fail
  refine (HTG.out w3).mono ?_
  rintro e w4 ⟨rfl, hb4⟩
  have HB34 : Hid (Below w3.heap.size w3 w4) := hb4
  have HB4 : Hid (Below w1.heap.size w1 w4) := below_next HB3.out (Nat.le_refl _) hb4
  clear hb4 s0 s1
  cases hta : isT tagL (byC lt) with
  | false =>
    have HTA := Lib.hid hta
    clear hta
    have HE0 : Hid (elV v.tag.ch v.key.data.toList (v.atts.map AT.ch) v.hooks (leftV (chV v.kids)) = []) := by show _ = _; rw [HELV.out, if_pos (.inr HTA.out)]
    have yRq := HYR.out.below HB4.out HYR.out.lt
    have HVP := Lib.hid (view_put (below_next HBW.out (Nat.le_refl _) HB4.out) (Nat.le_succ _) yRq (.int .i64 0) (.string ⟨#[]⟩) (.slice none 0 0) (.string ⟨#[]⟩) (.slice none 0 0) (.slice none 0 0) (.slice none 0 0) (.string ⟨#[]⟩) (.slice none 0 0) (.int .i64 0))
    have r0 : w4.cell? ⟨w.heap.size + 1, 0, none⟩ = some (.int .i64 0) := yRq.at_ 0
    have r1 : w4.cell? ⟨w.heap.size + 1, 1, none⟩ = some (.string ⟨#[]⟩) := yRq.at_ 1
    have r2 : w4.cell? ⟨w.heap.size + 1, 2, none⟩ = some (.slice none 0 0) := yRq.at_ 2
    have r3 : w4.cell? ⟨w.heap.size + 1, 3, none⟩ = some (.string ⟨#[]⟩) := yRq.at_ 3
    have r4 : w4.cell? ⟨w.heap.size + 1, 4, none⟩ = some (.slice none 0 0) := yRq.at_ 4
    have r5 : w4.cell? ⟨w.heap.size + 1, 5, none⟩ = some (.slice none 0 0) := yRq.at_ 5
    have r6 : w4.cell? ⟨w.heap.size + 1, 6, none⟩ = some (.slice none 0 0) := yRq.at_ 6
    have r7 : w4.cell? ⟨w.heap.size + 1, 7, none⟩ = some (.string ⟨#[]⟩) := yRq.at_ 7
    have r8 : w4.cell? ⟨w.heap.size + 1, 8, none⟩ = some (.slice none 0 0) := yRq.at_ 8
    have r9 : w4.cell? ⟨w.heap.size + 1, 9, none⟩ = some (.int .i64 0) := yRq.at_ 9
    have f0 := yRq.free 0
    have f1 := yRq.free 1
    have f2 := yRq.free 2
    have f3 := yRq.free 3
    have f4 := yRq.free 4
    have f5 := yRq.free 5
    have f6 := yRq.free 6
    have f7 := yRq.free 7
    have f8 := yRq.free 8
    have f9 := yRq.free 9
    clear yRq
    go_wp2_with fail
    refine bodyPost_ret (v := .tuple #[.agg #[.int .i64 0, .string ⟨#[]⟩, .slice none 0 0, .string ⟨#[]⟩, .slice none 0 0, .slice none 0 0, .slice none 0 0, .string ⟨#[]⟩, .slice none 0 0, .int .i64 0], .bool false]) ?_ rfl ?_
    · simp [results, Tryz.results58, go_sem, r0, r1, r2, r3, r4, r5, r6, r7, r8, r9]
    · exact ⟨zeroV, false, rfl, ⟨by rw [HE0.out]; rfl, fun e => by cases e⟩, HVP.out.1⟩
  | true =>
    have HTA := Lib.hid hta
    clear hta
    have y4 := HY4.out.below HB34.out HY4.out.lt
    have s0 : w4.cell? ⟨w2.heap.size, 0, none⟩ = some (.string n.s) := y4.at_ 0
    have s1 : w4.cell? ⟨w2.heap.size, 1, none⟩ = some (.slice n.A n.n n.c) := y4.at_ 1
    clear y4
    go_wp2_with fail
    refine (HPN.out w4 HB34.out).mono ?_
    rintro e w5 ⟨rfl, hb5⟩
    have HB35 : Hid (Below w3.heap.size w3 w5) := below_next HB34.out (Nat.le_refl _) hb5
    have HB5 : Hid (Below w1.heap.size w1 w5) := below_next HB4.out (Nat.le_refl _) hb5
    clear hb5 s0 s1
    by_cases hw0 : wor lt = 0
    case neg =>
      have HW0 := Lib.hid hw0
      rw [decide_eq_false hw0]
      clear hw0
      have HE0 : Hid (elV v.tag.ch v.key.data.toList (v.atts.map AT.ch) v.hooks (leftV (chV v.kids)) = []) := by show _ = _; rw [HELV.out, if_pos (.inl HW0.out)]
      have yRq := HYR.out.below HB5.out HYR.out.lt
      have HVP := Lib.hid (view_put (below_next HBW.out (Nat.le_refl _) HB5.out) (Nat.le_succ _) yRq (.int .i64 0) (.string ⟨#[]⟩) (.slice none 0 0) (.string ⟨#[]⟩) (.slice none 0 0) (.slice none 0 0) (.slice none 0 0) (.string ⟨#[]⟩) (.slice none 0 0) (.int .i64 0))
      have r0 : w5.cell? ⟨w.heap.size + 1, 0, none⟩ = some (.int .i64 0) := yRq.at_ 0
      have r1 : w5.cell? ⟨w.heap.size + 1, 1, none⟩ = some (.string ⟨#[]⟩) := yRq.at_ 1
      have r2 : w5.cell? ⟨w.heap.size + 1, 2, none⟩ = some (.slice none 0 0) := yRq.at_ 2
      have r3 : w5.cell? ⟨w.heap.size + 1, 3, none⟩ = some (.string ⟨#[]⟩) := yRq.at_ 3
      have r4 : w5.cell? ⟨w.heap.size + 1, 4, none⟩ = some (.slice none 0 0) := yRq.at_ 4
      have r5 : w5.cell? ⟨w.heap.size + 1, 5, none⟩ = some (.slice none 0 0) := yRq.at_ 5
      have r6 : w5.cell? ⟨w.heap.size + 1, 6, none⟩ = some (.slice none 0 0) := yRq.at_ 6
      have r7 : w5.cell? ⟨w.heap.size + 1, 7, none⟩ = some (.string ⟨#[]⟩) := yRq.at_ 7
      have r8 : w5.cell? ⟨w.heap.size + 1, 8, none⟩ = some (.slice none 0 0) := yRq.at_ 8
      have r9 : w5.cell? ⟨w.heap.size + 1, 9, none⟩ = some (.int .i64 0) := yRq.at_ 9
      have f0 := yRq.free 0
      have f1 := yRq.free 1
      have f2 := yRq.free 2
      have f3 := yRq.free 3
      have f4 := yRq.free 4
      have f5 := yRq.free 5
      have f6 := yRq.free 6
      have f7 := yRq.free 7
      have f8 := yRq.free 8
      have f9 := yRq.free 9
      clear yRq
      go_wp2_with fail
      refine bodyPost_ret (v := .tuple #[.agg #[.int .i64 0, .string ⟨#[]⟩, .slice none 0 0, .string ⟨#[]⟩, .slice none 0 0, .slice none 0 0, .slice none 0 0, .string ⟨#[]⟩, .slice none 0 0, .int .i64 0], .bool false]) ?_ rfl ?_
      · simp [results, Tryz.results58, go_sem, r0, r1, r2, r3, r4, r5, r6, r7, r8, r9]
      · exact ⟨zeroV, false, rfl, ⟨by rw [HE0.out]; rfl, fun e => by cases e⟩, HVP.out.1⟩
    case pos =>
      have HW0 : Hid (¬ (wor lt ≠ 0 ∨ isT tagL (byC lt) = false)) := fun h => by
        rcases h with h | h
        · exact h hw0
        · rw [HTA.out] at h; cases h
      rw [decide_eq_true hw0]
      clear hw0
      obtain ⟨hs, HHS⟩ : ∃ hs, Hid (v.hooks.filter hookOk = hs) := ⟨_, rfl⟩
      have HBW5 : Hid (Below w.heap.size w w5) := below_next HBW.out (Nat.le_refl _) HB5.out
      have HAT : Hid (∀ W, Below w5.heap.size w5 W → Calls Tryz.prog 13 #[.slice v.A v.n v.c] W (TellsA (cleanAs (v.atts.map AT.ch)) W)) := fun W hb => by
        have hb2 := below_next HBW5.out (Nat.le_refl _) hb
        exact pAttrs_any mx v.A v.n v.c v.atts W (HMX.out W hb2) (((HV.out.att.keep (Stays.of hb2)).mono fun b h _ => Nat.lt_of_lt_of_le h hb2.size).lies) (fun a ha => (((HV.out.atts a ha).keep (Stays.of hb2)).mono fun b h _ => Nat.lt_of_lt_of_le h hb2.size).ok) HV.out.an HV.out.am (fun a ha => by have h1 := att_sizeV ha; have h2 := HBK.out; omega)
      have HHK : Hid (∀ W, Below w5.heap.size w5 W → Calls Tryz.prog 77 #[.slice v.H v.hn v.hc] W (TellsH hs W)) := fun W hb => by
        have hb2 := below_next HBW5.out (Nat.le_refl _) hb
        have h := hooks_any v.H v.hn v.hc v.hooks W (((HV.out.hook.keep (Stays.of hb2)).mono fun b h _ => Nat.lt_of_lt_of_le h hb2.size).lies) HV.out.hn HV.out.hm
        rw [HHS.out] at h
        exact h
      have HSS : Hid (∀ W, Below w5.heap.size w5 W → (W.cell? ⟨w.heap.size, 3, none⟩ = some (.string v.key) ∧ W.cell? ⟨w.heap.size, 4, none⟩ = some (.slice v.A v.n v.c) ∧ W.cell? ⟨w.heap.size, 5, none⟩ = some (.slice v.H v.hn v.hc) ∧ W.cell? ⟨w2.heap.size, 0, none⟩ = some (.string n.s) ∧ W.cell? ⟨w2.heap.size, 1, none⟩ = some (.slice n.A n.n n.c))) := fun W hb => by
        have ya := HY0.out.below (below_next HB5.out (Nat.le_refl _) hb) HY0.out.lt
        have yb := HY4.out.below (below_next HB35.out (Nat.le_refl _) hb) HY4.out.lt
        exact ⟨ya.at_ 3, ya.at_ 4, ya.at_ 5, yb.at_ 0, yb.at_ 1⟩
      have HKZ : Hid (v.key.size ≤ 281474976710656) := by have := HV.out.key; show _ ≤ _; omega
      have hs15 := HB5.out.size
      have HS15 := Lib.hid hs15
      clear hs15
      go_upto_region 4 with (fail)
      go_cut [5] (fun s5 wx => ∃ (g : Nat) (A : Option Addr) (d : Nat) (us : List AT) (H : Option Addr) (hd : Nat), s5 = .pointer (some ⟨g, 0, none⟩) ∧ ElX w1 wx g lt v.key n A d us H hd hs none 0 0 ∧ us.map AT.ch = cleanAs (v.atts.map AT.ch) ∧ Below w5.heap.size w5 wx)
      case first =>
        have hS := HSS.out _ (Below.drew (Below.refl w5.heap.size w5))
        refine wp_region_lastE (S := (fun W => (W.cell? ⟨w.heap.size, 3, none⟩ = some (.string v.key) ∧ W.cell? ⟨w.heap.size, 4, none⟩ = some (.slice v.A v.n v.c) ∧ W.cell? ⟨w.heap.size, 5, none⟩ = some (.slice v.H v.hn v.hc) ∧ W.cell? ⟨w2.heap.size, 0, none⟩ = some (.string n.s) ∧ W.cell? ⟨w2.heap.size, 1, none⟩ = some (.slice n.A n.n n.c)))) (Z := (fun i => i == 12)) (by kernel_rfl) ?_
        obtain ⟨x0, hx0⟩ : ∃ X : World, w5.drew = X := ⟨_, rfl⟩
        have HX0 : Hid (Below w5.heap.size w5 x0) := by show Below _ _ _; rw [← hx0]; exact Below.drew (Below.refl _ _)
        rw [hx0] at hS ⊢
        clear hx0
        refine' wpAnyL_take (i := 0) ?hi1 (by kernel_rfl) (by kernel_rfl) (by kernel_rfl) (by kernel_rfl) ?hQ1 ?hy1 hS ?rest1
        case hi1 => simp only [List.getElem?_toArray, List.getElem?_cons_zero]; rfl
        case hQ1 => exact fun _ _ _ h => h
        case hy1 =>
          refine Or.inl ⟨by rfl, ?_⟩
          intro wq hq
          try dsimp only at hq
          try obtain ⟨hq0, hq1, hq2, hq3, hq4, hq5, hq6⟩ := hq
          try obtain ⟨hq0, hq1, hq2, hq3, hq4, hq5⟩ := hq
          try obtain ⟨hq0, hq1, hq2, hq3, hq4⟩ := hq
          try obtain ⟨hq0, hq1, hq2, hq3⟩ := hq
          try obtain ⟨hq0, hq1, hq2⟩ := hq
          try obtain ⟨hq0, hq1⟩ := hq
          go_simp
          try with_reducible rfl
        try simp only [Act.put, List.setIfInBounds_toArray, List.set_cons_zero, List.set_cons_succ]
        refine' wpAnyL_take (i := 1) ?hi2 (by kernel_rfl) (by kernel_rfl) (by kernel_rfl) (by kernel_rfl) ?hQ2 ?hy2 hS ?rest2
        case hi2 => simp only [List.getElem?_toArray, List.getElem?_cons_succ, List.getElem?_cons_zero]; rfl
        case hQ2 => exact fun _ _ _ h => h
        case hy2 =>
          refine Or.inl ⟨by rfl, ?_⟩
          intro wq hq
          try dsimp only at hq
          try obtain ⟨hq0, hq1, hq2, hq3, hq4, hq5, hq6⟩ := hq
          try obtain ⟨hq0, hq1, hq2, hq3, hq4, hq5⟩ := hq
          try obtain ⟨hq0, hq1, hq2, hq3, hq4⟩ := hq
          try obtain ⟨hq0, hq1, hq2, hq3⟩ := hq
          try obtain ⟨hq0, hq1, hq2⟩ := hq
          try obtain ⟨hq0, hq1⟩ := hq
          go_simp
          try with_reducible rfl
        try simp only [Act.put, List.setIfInBounds_toArray, List.set_cons_zero, List.set_cons_succ]
        refine' wpAnyL_take (i := 2) ?hi3 (by kernel_rfl) (by kernel_rfl) (by kernel_rfl) (by kernel_rfl) ?hQ3 ?hy3 hS ?rest3
        case hi3 => simp only [List.getElem?_toArray, List.getElem?_cons_succ, List.getElem?_cons_zero]; rfl
        case hQ3 => exact fun _ _ _ h => h
        case hy3 =>
          refine Or.inl ⟨by rfl, ?_⟩
          intro wq hq
          try dsimp only at hq
          try obtain ⟨hq0, hq1, hq2, hq3, hq4, hq5, hq6⟩ := hq
          try obtain ⟨hq0, hq1, hq2, hq3, hq4, hq5⟩ := hq
          try obtain ⟨hq0, hq1, hq2, hq3, hq4⟩ := hq
          try obtain ⟨hq0, hq1, hq2, hq3⟩ := hq
          try obtain ⟨hq0, hq1, hq2⟩ := hq
          try obtain ⟨hq0, hq1⟩ := hq
          go_simp
          try with_reducible rfl
        try simp only [Act.put, List.setIfInBounds_toArray, List.set_cons_zero, List.set_cons_succ]
        refine' wpAnyL_take (i := 4) ?hi4 (by kernel_rfl) (by kernel_rfl) (by kernel_rfl) (by kernel_rfl) ?hQ4 ?hy4 hS ?rest4
        case hi4 => simp only [List.getElem?_toArray, List.getElem?_cons_succ, List.getElem?_cons_zero]; rfl
        case hQ4 => exact fun _ _ _ h => h
        case hy4 =>
          refine Or.inl ⟨by rfl, ?_⟩
          intro wq hq
          try dsimp only at hq
          try obtain ⟨hq0, hq1, hq2, hq3, hq4, hq5, hq6⟩ := hq
          try obtain ⟨hq0, hq1, hq2, hq3, hq4, hq5⟩ := hq
          try obtain ⟨hq0, hq1, hq2, hq3, hq4⟩ := hq
          try obtain ⟨hq0, hq1, hq2, hq3⟩ := hq
          try obtain ⟨hq0, hq1, hq2⟩ := hq
          try obtain ⟨hq0, hq1⟩ := hq
          go_simp
          try with_reducible rfl
        try simp only [Act.put, List.setIfInBounds_toArray, List.set_cons_zero, List.set_cons_succ]
        refine' wpAnyL_take (i := 5) ?hi5 (by kernel_rfl) (by kernel_rfl) (by kernel_rfl) (by kernel_rfl) ?hQ5 ?hy5 hS ?rest5
        case hi5 => simp only [List.getElem?_toArray, List.getElem?_cons_succ, List.getElem?_cons_zero]; rfl
        case hQ5 => exact fun _ _ _ h => h
        case hy5 =>
          refine Or.inl ⟨by rfl, ?_⟩
          intro wq hq
          try dsimp only at hq
          try obtain ⟨hq0, hq1, hq2, hq3, hq4, hq5, hq6⟩ := hq
          try obtain ⟨hq0, hq1, hq2, hq3, hq4, hq5⟩ := hq
          try obtain ⟨hq0, hq1, hq2, hq3, hq4⟩ := hq
          try obtain ⟨hq0, hq1, hq2, hq3⟩ := hq
          try obtain ⟨hq0, hq1, hq2⟩ := hq
          try obtain ⟨hq0, hq1⟩ := hq
          go_simp
          try with_reducible rfl
        try simp only [Act.put, List.setIfInBounds_toArray, List.set_cons_zero, List.set_cons_succ]
        refine' wpAnyL_take (i := 7) ?hi6 (by kernel_rfl) (by kernel_rfl) (by kernel_rfl) (by kernel_rfl) ?hQ6 ?hy6 hS ?rest6
        case hi6 => simp only [List.getElem?_toArray, List.getElem?_cons_succ, List.getElem?_cons_zero]; rfl
        case hQ6 => exact fun _ _ _ h => h
        case hy6 =>
          refine Or.inl ⟨by rfl, ?_⟩
          intro wq hq
          try dsimp only at hq
          try obtain ⟨hq0, hq1, hq2, hq3, hq4, hq5, hq6⟩ := hq
          try obtain ⟨hq0, hq1, hq2, hq3, hq4, hq5⟩ := hq
          try obtain ⟨hq0, hq1, hq2, hq3, hq4⟩ := hq
          try obtain ⟨hq0, hq1, hq2, hq3⟩ := hq
          try obtain ⟨hq0, hq1, hq2⟩ := hq
          try obtain ⟨hq0, hq1⟩ := hq
          go_simp
          try with_reducible rfl
        try simp only [Act.put, List.setIfInBounds_toArray, List.set_cons_zero, List.set_cons_succ]
        refine' wpAnyL_take (i := 8) ?hi7 (by kernel_rfl) (by kernel_rfl) (by kernel_rfl) (by kernel_rfl) ?hQ7 ?hy7 hS ?rest7
        case hi7 => simp only [List.getElem?_toArray, List.getElem?_cons_succ, List.getElem?_cons_zero]; rfl
        case hQ7 => exact fun _ _ _ h => h
        case hy7 =>
          refine Or.inl ⟨by rfl, ?_⟩
          intro wq hq
          try dsimp only at hq
          try obtain ⟨hq0, hq1, hq2, hq3, hq4, hq5, hq6⟩ := hq
          try obtain ⟨hq0, hq1, hq2, hq3, hq4, hq5⟩ := hq
          try obtain ⟨hq0, hq1, hq2, hq3, hq4⟩ := hq
          try obtain ⟨hq0, hq1, hq2, hq3⟩ := hq
          try obtain ⟨hq0, hq1, hq2⟩ := hq
          try obtain ⟨hq0, hq1⟩ := hq
          go_simp
          try with_reducible rfl
        try simp only [Act.put, List.setIfInBounds_toArray, List.set_cons_zero, List.set_cons_succ]
        refine wpAnyL_ready (rs := [3, 11]) (by kernel_rfl) (by simp) ?_
        refine' ReadyL.cons ?ho8 (fun K hK => ?step8) ?more8
        case ho8 => simp only [List.getElem?_toArray, List.getElem?_cons_succ, List.getElem?_cons_zero]; rfl
        case step8 =>
          go_simp
          refine (clone_any v.key x0 HKZ.out).mono ?_
          rintro e x1 ⟨rfl, hb⟩
          have HX1 : Hid (Below w5.heap.size w5 x1) := below_next HX0.out (Nat.le_refl _) hb
          have hS := HSS.out x1 HX1.out
          refine hK.out _ _ (.inr hS) ?_
          clear hK K hb
          try simp only [Act.put, List.setIfInBounds_toArray, List.set_cons_zero, List.set_cons_succ]
          refine wpAnyL_ready (rs := [6, 11]) (by kernel_rfl) (by simp) ?_
          refine' ReadyL.cons ?ho9 (fun K hK => ?step9) ?more9
          case ho9 => simp only [List.getElem?_toArray, List.getElem?_cons_succ, List.getElem?_cons_zero]; rfl
          case step9 =>
            go_simp
            refine (HAT.out x1 HX1.out).mono ?_
            rintro e x2 ⟨A, d, us, rfl, ho, hal, hch, hb⟩
            have HX2 : Hid (Below w5.heap.size w5 x2) := below_next HX1.out (Nat.le_refl _) hb
            have HA2 : Hid (x2.ownsRow w1.heap.size 30 4 (.slice A us.length d) us.length (atCells us) ∧ AllOwn x2 w1.heap.size us ∧ us.map AT.ch = cleanAs (v.atts.map AT.ch)) := ⟨own_mono ho (Nat.le_trans HS15.out HX1.out.size), hal.mono (Nat.le_trans HS15.out HX1.out.size), hch⟩
            clear ho hal hch
            have hS := HSS.out x2 HX2.out
            refine hK.out _ _ (.inr hS) ?_
            clear hK K hb
            try simp only [Act.put, List.setIfInBounds_toArray, List.set_cons_zero, List.set_cons_succ]
            refine wpAnyL_ready (rs := [9, 11]) (by kernel_rfl) (by simp) ?_
            refine' ReadyL.cons ?ho10 (fun K hK => ?step10) ?more10
            case ho10 => simp only [List.getElem?_toArray, List.getElem?_cons_succ, List.getElem?_cons_zero]; rfl
            case step10 =>
              go_simp
              refine (HHK.out x2 HX2.out).mono ?_
              rintro e x3 ⟨H, hd, rfl, ho, hb⟩
              have HX3 : Hid (Below w5.heap.size w5 x3) := below_next HX2.out (Nat.le_refl _) hb
              have HA3 : Hid (x3.ownsRow w1.heap.size 30 4 (.slice A us.length d) us.length (atCells us) ∧ AllOwn x3 w1.heap.size us ∧ us.map AT.ch = cleanAs (v.atts.map AT.ch)) := ⟨own_keep HA2.out.1 hb, HA2.out.2.1.below hb, HA2.out.2.2⟩
              have HH3 : Hid (x3.ownsRow w1.heap.size 94 3 (.slice H hs.length hd) hs.length (hkCells hs)) := own_mono ho (Nat.le_trans HS15.out HX2.out.size)
              clear ho
              have hS := HSS.out x3 HX3.out
              refine hK.out _ _ (.inr hS) ?_
              clear hK K hb
              try simp only [Act.put, List.setIfInBounds_toArray, List.set_cons_zero, List.set_cons_succ]
              refine' wpAnyL_take (i := 10) ?hi11 (by kernel_rfl) (by kernel_rfl) (by kernel_rfl) (by kernel_rfl) ?hQ11 ?hy11 hS ?rest11
              case hi11 => simp only [List.getElem?_toArray, List.getElem?_cons_succ, List.getElem?_cons_zero]; rfl
              case hQ11 => exact fun _ _ _ h => h
              case hy11 =>
                refine Or.inl ⟨by rfl, ?_⟩
                intro wq hq
                try dsimp only at hq
                try obtain ⟨hq0, hq1, hq2, hq3, hq4, hq5, hq6⟩ := hq
                try obtain ⟨hq0, hq1, hq2, hq3, hq4, hq5⟩ := hq
                try obtain ⟨hq0, hq1, hq2, hq3, hq4⟩ := hq
                try obtain ⟨hq0, hq1, hq2, hq3⟩ := hq
                try obtain ⟨hq0, hq1, hq2⟩ := hq
                try obtain ⟨hq0, hq1⟩ := hq
                go_simp
                try with_reducible rfl
              try simp only [Act.put, List.setIfInBounds_toArray, List.set_cons_zero, List.set_cons_succ]
              refine wpAnyL_ready (rs := [11]) (by kernel_rfl) (by simp) ?_
              refine' ReadyL.cons ?ho12 (fun K hK => ?step12) ?more12
              case ho12 => simp only [List.getElem?_toArray, List.getElem?_cons_succ, List.getElem?_cons_zero]; rfl
              case step12 =>
                go_simp
                obtain ⟨x4, hwa⟩ : ∃ X : World, x3.alloc (.cells #[.int .i64 0, .string ⟨#[]⟩, .slice none 0 0, .string ⟨#[]⟩, .slice none 0 0, .slice none 0 0, .slice none 0 0, .string ⟨#[]⟩, .slice none 0 0, .int .i64 0] 43) = X := ⟨_, rfl⟩
                rw [hwa]
                have hb : Below x3.heap.size x3 x4 := by rw [← hwa]; exact (Below.refl _ _).alloc (Nat.le_refl _) _
                have HX4 : Hid (Below w5.heap.size w5 x4) := below_next HX3.out (Nat.le_refl _) hb
                have HY4 : Hid (Whole x4 x3.heap.size 43 #[.int .i64 0, .string ⟨#[]⟩, .slice none 0 0, .string ⟨#[]⟩, .slice none 0 0, .slice none 0 0, .slice none 0 0, .string ⟨#[]⟩, .slice none 0 0, .int .i64 0] ∧ w5.heap.size ≤ x3.heap.size) := by
                  refine ⟨?_, HX3.out.size⟩
                  rw [← hwa]; exact Whole.made _ _ _
                clear hwa
                have HA4 : Hid (x4.ownsRow w1.heap.size 30 4 (.slice A us.length d) us.length (atCells us) ∧ AllOwn x4 w1.heap.size us ∧ us.map AT.ch = cleanAs (v.atts.map AT.ch)) := ⟨own_keep HA3.out.1 hb, HA3.out.2.1.below hb, HA3.out.2.2⟩
                have HH4 : Hid (x4.ownsRow w1.heap.size 94 3 (.slice H hs.length hd) hs.length (hkCells hs)) := own_keep HH3.out hb
                have hS := HSS.out x4 HX4.out
                refine hK.out _ _ (.inr hS) ?_
                clear hK K hb
                try simp only [Act.put, List.setIfInBounds_toArray, List.set_cons_zero, List.set_cons_succ]
                refine wpAnyL_ready (rs := [12]) (by kernel_rfl) (by simp) ?_
                refine' ReadyL.cons ?ho13 (fun K hK => ?step13) ?more13
                case ho13 => simp only [List.getElem?_toArray, List.getElem?_cons_succ, List.getElem?_cons_zero]; rfl
                case step13 =>
                  have yz := HY4.out.1
                  have z0 : x4.cell? ⟨x3.heap.size, 0, none⟩ = some (.int .i64 0) := yz.at_ 0
                  have z1 : x4.cell? ⟨x3.heap.size, 1, none⟩ = some (.string ⟨#[]⟩) := yz.at_ 1
                  have z2 : x4.cell? ⟨x3.heap.size, 2, none⟩ = some (.slice none 0 0) := yz.at_ 2
                  have z3 : x4.cell? ⟨x3.heap.size, 3, none⟩ = some (.string ⟨#[]⟩) := yz.at_ 3
                  have z4 : x4.cell? ⟨x3.heap.size, 4, none⟩ = some (.slice none 0 0) := yz.at_ 4
                  have z5 : x4.cell? ⟨x3.heap.size, 5, none⟩ = some (.slice none 0 0) := yz.at_ 5
                  have z6 : x4.cell? ⟨x3.heap.size, 6, none⟩ = some (.slice none 0 0) := yz.at_ 6
                  have z7 : x4.cell? ⟨x3.heap.size, 7, none⟩ = some (.string ⟨#[]⟩) := yz.at_ 7
                  have z8 : x4.cell? ⟨x3.heap.size, 8, none⟩ = some (.slice none 0 0) := yz.at_ 8
                  have z9 : x4.cell? ⟨x3.heap.size, 9, none⟩ = some (.int .i64 0) := yz.at_ 9
                  have k0 := yz.free 0
                  have k1 := yz.free 1
                  have k2 := yz.free 2
                  have k3 := yz.free 3
                  have k4 := yz.free 4
                  have k5 := yz.free 5
                  have k6 := yz.free 6
                  have k7 := yz.free 7
                  have k8 := yz.free 8
                  have k9 := yz.free 9
                  go_simp
                  refine hK.out _ _ (.inl rfl) ?_
                  clear hK K
                  try simp only [Act.put, List.setIfInBounds_toArray, List.set_cons_zero, List.set_cons_succ]
                  refine wpAnyL_done (by kernel_rfl) ?_ _
                  have HP1 := Lib.hid (view_put (below_next HB5.out (Nat.le_refl _) HX4.out) (Nat.le_trans HS15.out HY4.out.2) yz (.int .i64 1) (.string n.s) (.slice n.A n.n n.c) (.string v.key) (.slice A us.length d) (.slice H hs.length hd) (.slice none 0 0) (.string ⟨#[]⟩) (.slice none 0 0) (.int .i64 0))
                  have HP5 := Lib.hid (view_put HX4.out HY4.out.2 yz (.int .i64 1) (.string n.s) (.slice n.A n.n n.c) (.string v.key) (.slice A us.length d) (.slice H hs.length hd) (.slice none 0 0) (.string ⟨#[]⟩) (.slice none 0 0) (.int .i64 0))
                  have HYZ := Lib.hid yz
                  clear yz z0 k0 z1 k1 z2 k2 z3 k3 z4 k4 z5 k5 z6 k6 z7 k7 z8 k8 z9 k9 hS
                  go_wp2_with fail
                  go_meet
                  exact ⟨_, A, d, us, H, hd, rfl, elX_made (Nat.le_trans HS15.out HY4.out.2) HYZ.out HP1.out ⟨HN.out.1, HN3.out.below (below_next HB35.out (Nat.le_refl _) HX4.out)⟩ HA4.out.1 HA4.out.2.1 HH4.out, HA4.out.2.2, HP5.out.1⟩
                exact ReadyL.nil
              exact ReadyL.nil
            refine' ReadyL.cons ?ho14 (fun K hK => ?step14) ?more14
            case ho14 => simp only [List.getElem?_toArray, List.getElem?_cons_succ, List.getElem?_cons_zero]; rfl
            case step14 =>
              go_simp
              obtain ⟨x6, hwa⟩ : ∃ X : World, x2.alloc (.cells #[.int .i64 0, .string ⟨#[]⟩, .slice none 0 0, .string ⟨#[]⟩, .slice none 0 0, .slice none 0 0, .slice none 0 0, .string ⟨#[]⟩, .slice none 0 0, .int .i64 0] 43) = X := ⟨_, rfl⟩
              rw [hwa]
              have hb : Below x2.heap.size x2 x6 := by rw [← hwa]; exact (Below.refl _ _).alloc (Nat.le_refl _) _
              have HX6 : Hid (Below w5.heap.size w5 x6) := below_next HX2.out (Nat.le_refl _) hb
              have HY6 : Hid (Whole x6 x2.heap.size 43 #[.int .i64 0, .string ⟨#[]⟩, .slice none 0 0, .string ⟨#[]⟩, .slice none 0 0, .slice none 0 0, .slice none 0 0, .string ⟨#[]⟩, .slice none 0 0, .int .i64 0] ∧ w5.heap.size ≤ x2.heap.size) := by
                refine ⟨?_, HX2.out.size⟩
                rw [← hwa]; exact Whole.made _ _ _
              clear hwa
              have HA6 : Hid (x6.ownsRow w1.heap.size 30 4 (.slice A us.length d) us.length (atCells us) ∧ AllOwn x6 w1.heap.size us ∧ us.map AT.ch = cleanAs (v.atts.map AT.ch)) := ⟨own_keep HA2.out.1 hb, HA2.out.2.1.below hb, HA2.out.2.2⟩
              have hS := HSS.out x6 HX6.out
              refine hK.out _ _ (.inr hS) ?_
              clear hK K hb
              try simp only [Act.put, List.setIfInBounds_toArray, List.set_cons_zero, List.set_cons_succ]
              refine wpAnyL_ready (rs := [9]) (by kernel_rfl) (by simp) ?_
              refine' ReadyL.cons ?ho15 (fun K hK => ?step15) ?more15
              case ho15 => simp only [List.getElem?_toArray, List.getElem?_cons_succ, List.getElem?_cons_zero]; rfl
              case step15 =>
                go_simp
                refine (HHK.out x6 HX6.out).mono ?_
                rintro e x7 ⟨H, hd, rfl, ho, hb⟩
                have HX7 : Hid (Below w5.heap.size w5 x7) := below_next HX6.out (Nat.le_refl _) hb
                have HY7 : Hid (Whole x7 x2.heap.size 43 #[.int .i64 0, .string ⟨#[]⟩, .slice none 0 0, .string ⟨#[]⟩, .slice none 0 0, .slice none 0 0, .slice none 0 0, .string ⟨#[]⟩, .slice none 0 0, .int .i64 0] ∧ w5.heap.size ≤ x2.heap.size) := ⟨HY6.out.1.below hb HY6.out.1.lt, HY6.out.2⟩
                have HA7 : Hid (x7.ownsRow w1.heap.size 30 4 (.slice A us.length d) us.length (atCells us) ∧ AllOwn x7 w1.heap.size us ∧ us.map AT.ch = cleanAs (v.atts.map AT.ch)) := ⟨own_keep HA6.out.1 hb, HA6.out.2.1.below hb, HA6.out.2.2⟩
                have HH7 : Hid (x7.ownsRow w1.heap.size 94 3 (.slice H hs.length hd) hs.length (hkCells hs)) := own_mono ho (Nat.le_trans HS15.out HX6.out.size)
                clear ho
                have hS := HSS.out x7 HX7.out
                refine hK.out _ _ (.inr hS) ?_
                clear hK K hb
                try simp only [Act.put, List.setIfInBounds_toArray, List.set_cons_zero, List.set_cons_succ]
                refine' wpAnyL_take (i := 10) ?hi16 (by kernel_rfl) (by kernel_rfl) (by kernel_rfl) (by kernel_rfl) ?hQ16 ?hy16 hS ?rest16
                case hi16 => simp only [List.getElem?_toArray, List.getElem?_cons_succ, List.getElem?_cons_zero]; rfl
                case hQ16 => exact fun _ _ _ h => h
                case hy16 =>
                  refine Or.inl ⟨by rfl, ?_⟩
                  intro wq hq
                  try dsimp only at hq
                  try obtain ⟨hq0, hq1, hq2, hq3, hq4, hq5, hq6⟩ := hq
                  try obtain ⟨hq0, hq1, hq2, hq3, hq4, hq5⟩ := hq
                  try obtain ⟨hq0, hq1, hq2, hq3, hq4⟩ := hq
                  try obtain ⟨hq0, hq1, hq2, hq3⟩ := hq
                  try obtain ⟨hq0, hq1, hq2⟩ := hq
                  try obtain ⟨hq0, hq1⟩ := hq
                  go_simp
                  try with_reducible rfl
                try simp only [Act.put, List.setIfInBounds_toArray, List.set_cons_zero, List.set_cons_succ]
                refine wpAnyL_ready (rs := [12]) (by kernel_rfl) (by simp) ?_
                refine' ReadyL.cons ?ho17 (fun K hK => ?step17) ?more17
                case ho17 => simp only [List.getElem?_toArray, List.getElem?_cons_succ, List.getElem?_cons_zero]; rfl
                case step17 =>
                  have yz := HY7.out.1
                  have z0 : x7.cell? ⟨x2.heap.size, 0, none⟩ = some (.int .i64 0) := yz.at_ 0
                  have z1 : x7.cell? ⟨x2.heap.size, 1, none⟩ = some (.string ⟨#[]⟩) := yz.at_ 1
                  have z2 : x7.cell? ⟨x2.heap.size, 2, none⟩ = some (.slice none 0 0) := yz.at_ 2
                  have z3 : x7.cell? ⟨x2.heap.size, 3, none⟩ = some (.string ⟨#[]⟩) := yz.at_ 3
                  have z4 : x7.cell? ⟨x2.heap.size, 4, none⟩ = some (.slice none 0 0) := yz.at_ 4
                  have z5 : x7.cell? ⟨x2.heap.size, 5, none⟩ = some (.slice none 0 0) := yz.at_ 5
                  have z6 : x7.cell? ⟨x2.heap.size, 6, none⟩ = some (.slice none 0 0) := yz.at_ 6
                  have z7 : x7.cell? ⟨x2.heap.size, 7, none⟩ = some (.string ⟨#[]⟩) := yz.at_ 7
                  have z8 : x7.cell? ⟨x2.heap.size, 8, none⟩ = some (.slice none 0 0) := yz.at_ 8
                  have z9 : x7.cell? ⟨x2.heap.size, 9, none⟩ = some (.int .i64 0) := yz.at_ 9
                  have k0 := yz.free 0
                  have k1 := yz.free 1
                  have k2 := yz.free 2
                  have k3 := yz.free 3
                  have k4 := yz.free 4
                  have k5 := yz.free 5
                  have k6 := yz.free 6
                  have k7 := yz.free 7
                  have k8 := yz.free 8
                  have k9 := yz.free 9
                  go_simp
                  refine hK.out _ _ (.inl rfl) ?_
                  clear hK K
                  try simp only [Act.put, List.setIfInBounds_toArray, List.set_cons_zero, List.set_cons_succ]
                  refine wpAnyL_done (by kernel_rfl) ?_ _
                  have HP1 := Lib.hid (view_put (below_next HB5.out (Nat.le_refl _) HX7.out) (Nat.le_trans HS15.out HY7.out.2) yz (.int .i64 1) (.string n.s) (.slice n.A n.n n.c) (.string v.key) (.slice A us.length d) (.slice H hs.length hd) (.slice none 0 0) (.string ⟨#[]⟩) (.slice none 0 0) (.int .i64 0))
                  have HP5 := Lib.hid (view_put HX7.out HY7.out.2 yz (.int .i64 1) (.string n.s) (.slice n.A n.n n.c) (.string v.key) (.slice A us.length d) (.slice H hs.length hd) (.slice none 0 0) (.string ⟨#[]⟩) (.slice none 0 0) (.int .i64 0))
                  have HYZ := Lib.hid yz
                  clear yz z0 k0 z1 k1 z2 k2 z3 k3 z4 k4 z5 k5 z6 k6 z7 k7 z8 k8 z9 k9 hS
                  go_wp2_with fail
                  go_meet
                  exact ⟨_, A, d, us, H, hd, rfl, elX_made (Nat.le_trans HS15.out HY7.out.2) HYZ.out HP1.out ⟨HN.out.1, HN3.out.below (below_next HB35.out (Nat.le_refl _) HX7.out)⟩ HA7.out.1 HA7.out.2.1 HH7.out, HA7.out.2.2, HP5.out.1⟩
                exact ReadyL.nil
              exact ReadyL.nil
            exact ReadyL.nil
          refine' ReadyL.cons ?ho18 (fun K hK => ?step18) ?more18
          case ho18 => simp only [List.getElem?_toArray, List.getElem?_cons_succ, List.getElem?_cons_zero]; rfl
          case step18 =>
            go_simp
            obtain ⟨x9, hwa⟩ : ∃ X : World, x1.alloc (.cells #[.int .i64 0, .string ⟨#[]⟩, .slice none 0 0, .string ⟨#[]⟩, .slice none 0 0, .slice none 0 0, .slice none 0 0, .string ⟨#[]⟩, .slice none 0 0, .int .i64 0] 43) = X := ⟨_, rfl⟩
            rw [hwa]
            have hb : Below x1.heap.size x1 x9 := by rw [← hwa]; exact (Below.refl _ _).alloc (Nat.le_refl _) _
            have HX9 : Hid (Below w5.heap.size w5 x9) := below_next HX1.out (Nat.le_refl _) hb
            have HY9 : Hid (Whole x9 x1.heap.size 43 #[.int .i64 0, .string ⟨#[]⟩, .slice none 0 0, .string ⟨#[]⟩, .slice none 0 0, .slice none 0 0, .slice none 0 0, .string ⟨#[]⟩, .slice none 0 0, .int .i64 0] ∧ w5.heap.size ≤ x1.heap.size) := by
              refine ⟨?_, HX1.out.size⟩
              rw [← hwa]; exact Whole.made _ _ _
            clear hwa
            have hS := HSS.out x9 HX9.out
            refine hK.out _ _ (.inr hS) ?_
            clear hK K hb
            try simp only [Act.put, List.setIfInBounds_toArray, List.set_cons_zero, List.set_cons_succ]
            refine wpAnyL_ready (rs := [6]) (by kernel_rfl) (by simp) ?_
            refine' ReadyL.cons ?ho19 (fun K hK => ?step19) ?more19
            case ho19 => simp only [List.getElem?_toArray, List.getElem?_cons_succ, List.getElem?_cons_zero]; rfl
            case step19 =>
              go_simp
              refine (HAT.out x9 HX9.out).mono ?_
              rintro e x10 ⟨A, d, us, rfl, ho, hal, hch, hb⟩
              have HX10 : Hid (Below w5.heap.size w5 x10) := below_next HX9.out (Nat.le_refl _) hb
              have HY10 : Hid (Whole x10 x1.heap.size 43 #[.int .i64 0, .string ⟨#[]⟩, .slice none 0 0, .string ⟨#[]⟩, .slice none 0 0, .slice none 0 0, .slice none 0 0, .string ⟨#[]⟩, .slice none 0 0, .int .i64 0] ∧ w5.heap.size ≤ x1.heap.size) := ⟨HY9.out.1.below hb HY9.out.1.lt, HY9.out.2⟩
              have HA10 : Hid (x10.ownsRow w1.heap.size 30 4 (.slice A us.length d) us.length (atCells us) ∧ AllOwn x10 w1.heap.size us ∧ us.map AT.ch = cleanAs (v.atts.map AT.ch)) := ⟨own_mono ho (Nat.le_trans HS15.out HX9.out.size), hal.mono (Nat.le_trans HS15.out HX9.out.size), hch⟩
              clear ho hal hch
              have hS := HSS.out x10 HX10.out
              refine hK.out _ _ (.inr hS) ?_
              clear hK K hb
              try simp only [Act.put, List.setIfInBounds_toArray, List.set_cons_zero, List.set_cons_succ]
              refine wpAnyL_ready (rs := [9]) (by kernel_rfl) (by simp) ?_
              refine' ReadyL.cons ?ho20 (fun K hK => ?step20) ?more20
              case ho20 => simp only [List.getElem?_toArray, List.getElem?_cons_succ, List.getElem?_cons_zero]; rfl
              case step20 =>
                go_simp
                refine (HHK.out x10 HX10.out).mono ?_
                rintro e x11 ⟨H, hd, rfl, ho, hb⟩
                have HX11 : Hid (Below w5.heap.size w5 x11) := below_next HX10.out (Nat.le_refl _) hb
                have HY11 : Hid (Whole x11 x1.heap.size 43 #[.int .i64 0, .string ⟨#[]⟩, .slice none 0 0, .string ⟨#[]⟩, .slice none 0 0, .slice none 0 0, .slice none 0 0, .string ⟨#[]⟩, .slice none 0 0, .int .i64 0] ∧ w5.heap.size ≤ x1.heap.size) := ⟨HY10.out.1.below hb HY10.out.1.lt, HY10.out.2⟩
                have HA11 : Hid (x11.ownsRow w1.heap.size 30 4 (.slice A us.length d) us.length (atCells us) ∧ AllOwn x11 w1.heap.size us ∧ us.map AT.ch = cleanAs (v.atts.map AT.ch)) := ⟨own_keep HA10.out.1 hb, HA10.out.2.1.below hb, HA10.out.2.2⟩
                have HH11 : Hid (x11.ownsRow w1.heap.size 94 3 (.slice H hs.length hd) hs.length (hkCells hs)) := own_mono ho (Nat.le_trans HS15.out HX10.out.size)
                clear ho
                have hS := HSS.out x11 HX11.out
                refine hK.out _ _ (.inr hS) ?_
                clear hK K hb
                try simp only [Act.put, List.setIfInBounds_toArray, List.set_cons_zero, List.set_cons_succ]
                refine' wpAnyL_take (i := 10) ?hi21 (by kernel_rfl) (by kernel_rfl) (by kernel_rfl) (by kernel_rfl) ?hQ21 ?hy21 hS ?rest21
                case hi21 => simp only [List.getElem?_toArray, List.getElem?_cons_succ, List.getElem?_cons_zero]; rfl
                case hQ21 => exact fun _ _ _ h => h
                case hy21 =>
                  refine Or.inl ⟨by rfl, ?_⟩
                  intro wq hq
                  try dsimp only at hq
                  try obtain ⟨hq0, hq1, hq2, hq3, hq4, hq5, hq6⟩ := hq
                  try obtain ⟨hq0, hq1, hq2, hq3, hq4, hq5⟩ := hq
                  try obtain ⟨hq0, hq1, hq2, hq3, hq4⟩ := hq
                  try obtain ⟨hq0, hq1, hq2, hq3⟩ := hq
                  try obtain ⟨hq0, hq1, hq2⟩ := hq
                  try obtain ⟨hq0, hq1⟩ := hq
                  go_simp
                  try with_reducible rfl
                try simp only [Act.put, List.setIfInBounds_toArray, List.set_cons_zero, List.set_cons_succ]
                refine wpAnyL_ready (rs := [12]) (by kernel_rfl) (by simp) ?_
                refine' ReadyL.cons ?ho22 (fun K hK => ?step22) ?more22
                case ho22 => simp only [List.getElem?_toArray, List.getElem?_cons_succ, List.getElem?_cons_zero]; rfl
                case step22 =>
                  have yz := HY11.out.1
                  have z0 : x11.cell? ⟨x1.heap.size, 0, none⟩ = some (.int .i64 0) := yz.at_ 0
                  have z1 : x11.cell? ⟨x1.heap.size, 1, none⟩ = some (.string ⟨#[]⟩) := yz.at_ 1
                  have z2 : x11.cell? ⟨x1.heap.size, 2, none⟩ = some (.slice none 0 0) := yz.at_ 2
                  have z3 : x11.cell? ⟨x1.heap.size, 3, none⟩ = some (.string ⟨#[]⟩) := yz.at_ 3
                  have z4 : x11.cell? ⟨x1.heap.size, 4, none⟩ = some (.slice none 0 0) := yz.at_ 4
                  have z5 : x11.cell? ⟨x1.heap.size, 5, none⟩ = some (.slice none 0 0) := yz.at_ 5
                  have z6 : x11.cell? ⟨x1.heap.size, 6, none⟩ = some (.slice none 0 0) := yz.at_ 6
                  have z7 : x11.cell? ⟨x1.heap.size, 7, none⟩ = some (.string ⟨#[]⟩) := yz.at_ 7
                  have z8 : x11.cell? ⟨x1.heap.size, 8, none⟩ = some (.slice none 0 0) := yz.at_ 8
                  have z9 : x11.cell? ⟨x1.heap.size, 9, none⟩ = some (.int .i64 0) := yz.at_ 9
                  have k0 := yz.free 0
                  have k1 := yz.free 1
                  have k2 := yz.free 2
                  have k3 := yz.free 3
                  have k4 := yz.free 4
                  have k5 := yz.free 5
                  have k6 := yz.free 6
                  have k7 := yz.free 7
                  have k8 := yz.free 8
                  have k9 := yz.free 9
                  go_simp
                  refine hK.out _ _ (.inl rfl) ?_
                  clear hK K
                  try simp only [Act.put, List.setIfInBounds_toArray, List.set_cons_zero, List.set_cons_succ]
                  refine wpAnyL_done (by kernel_rfl) ?_ _
                  have HP1 := Lib.hid (view_put (below_next HB5.out (Nat.le_refl _) HX11.out) (Nat.le_trans HS15.out HY11.out.2) yz (.int .i64 1) (.string n.s) (.slice n.A n.n n.c) (.string v.key) (.slice A us.length d) (.slice H hs.length hd) (.slice none 0 0) (.string ⟨#[]⟩) (.slice none 0 0) (.int .i64 0))
                  have HP5 := Lib.hid (view_put HX11.out HY11.out.2 yz (.int .i64 1) (.string n.s) (.slice n.A n.n n.c) (.string v.key) (.slice A us.length d) (.slice H hs.length hd) (.slice none 0 0) (.string ⟨#[]⟩) (.slice none 0 0) (.int .i64 0))
                  have HYZ := Lib.hid yz
                  clear yz z0 k0 z1 k1 z2 k2 z3 k3 z4 k4 z5 k5 z6 k6 z7 k7 z8 k8 z9 k9 hS
                  go_wp2_with fail
                  go_meet
                  exact ⟨_, A, d, us, H, hd, rfl, elX_made (Nat.le_trans HS15.out HY11.out.2) HYZ.out HP1.out ⟨HN.out.1, HN3.out.below (below_next HB35.out (Nat.le_refl _) HX11.out)⟩ HA11.out.1 HA11.out.2.1 HH11.out, HA11.out.2.2, HP5.out.1⟩
                exact ReadyL.nil
              exact ReadyL.nil
            exact ReadyL.nil
          exact ReadyL.nil
        refine' ReadyL.cons ?ho23 (fun K hK => ?step23) ?more23
        case ho23 => simp only [List.getElem?_toArray, List.getElem?_cons_succ, List.getElem?_cons_zero]; rfl
        case step23 =>
          go_simp
          obtain ⟨x13, hwa⟩ : ∃ X : World, x0.alloc (.cells #[.int .i64 0, .string ⟨#[]⟩, .slice none 0 0, .string ⟨#[]⟩, .slice none 0 0, .slice none 0 0, .slice none 0 0, .string ⟨#[]⟩, .slice none 0 0, .int .i64 0] 43) = X := ⟨_, rfl⟩
          rw [hwa]
          have hb : Below x0.heap.size x0 x13 := by rw [← hwa]; exact (Below.refl _ _).alloc (Nat.le_refl _) _
          have HX13 : Hid (Below w5.heap.size w5 x13) := below_next HX0.out (Nat.le_refl _) hb
          have HY13 : Hid (Whole x13 x0.heap.size 43 #[.int .i64 0, .string ⟨#[]⟩, .slice none 0 0, .string ⟨#[]⟩, .slice none 0 0, .slice none 0 0, .slice none 0 0, .string ⟨#[]⟩, .slice none 0 0, .int .i64 0] ∧ w5.heap.size ≤ x0.heap.size) := by
            refine ⟨?_, HX0.out.size⟩
            rw [← hwa]; exact Whole.made _ _ _
          clear hwa
          have hS := HSS.out x13 HX13.out
          refine hK.out _ _ (.inr hS) ?_
          clear hK K hb
          try simp only [Act.put, List.setIfInBounds_toArray, List.set_cons_zero, List.set_cons_succ]
          refine wpAnyL_ready (rs := [3]) (by kernel_rfl) (by simp) ?_
          refine' ReadyL.cons ?ho24 (fun K hK => ?step24) ?more24
          case ho24 => simp only [List.getElem?_toArray, List.getElem?_cons_succ, List.getElem?_cons_zero]; rfl
          case step24 =>
            go_simp
            refine (clone_any v.key x13 HKZ.out).mono ?_
            rintro e x14 ⟨rfl, hb⟩
            have HX14 : Hid (Below w5.heap.size w5 x14) := below_next HX13.out (Nat.le_refl _) hb
            have HY14 : Hid (Whole x14 x0.heap.size 43 #[.int .i64 0, .string ⟨#[]⟩, .slice none 0 0, .string ⟨#[]⟩, .slice none 0 0, .slice none 0 0, .slice none 0 0, .string ⟨#[]⟩, .slice none 0 0, .int .i64 0] ∧ w5.heap.size ≤ x0.heap.size) := ⟨HY13.out.1.below hb HY13.out.1.lt, HY13.out.2⟩
            have hS := HSS.out x14 HX14.out
            refine hK.out _ _ (.inr hS) ?_
            clear hK K hb
            try simp only [Act.put, List.setIfInBounds_toArray, List.set_cons_zero, List.set_cons_succ]
            refine wpAnyL_ready (rs := [6]) (by kernel_rfl) (by simp) ?_
            refine' ReadyL.cons ?ho25 (fun K hK => ?step25) ?more25
            case ho25 => simp only [List.getElem?_toArray, List.getElem?_cons_succ, List.getElem?_cons_zero]; rfl
            case step25 =>
              go_simp
              refine (HAT.out x14 HX14.out).mono ?_
              rintro e x15 ⟨A, d, us, rfl, ho, hal, hch, hb⟩
              have HX15 : Hid (Below w5.heap.size w5 x15) := below_next HX14.out (Nat.le_refl _) hb
              have HY15 : Hid (Whole x15 x0.heap.size 43 #[.int .i64 0, .string ⟨#[]⟩, .slice none 0 0, .string ⟨#[]⟩, .slice none 0 0, .slice none 0 0, .slice none 0 0, .string ⟨#[]⟩, .slice none 0 0, .int .i64 0] ∧ w5.heap.size ≤ x0.heap.size) := ⟨HY14.out.1.below hb HY14.out.1.lt, HY14.out.2⟩
              have HA15 : Hid (x15.ownsRow w1.heap.size 30 4 (.slice A us.length d) us.length (atCells us) ∧ AllOwn x15 w1.heap.size us ∧ us.map AT.ch = cleanAs (v.atts.map AT.ch)) := ⟨own_mono ho (Nat.le_trans HS15.out HX14.out.size), hal.mono (Nat.le_trans HS15.out HX14.out.size), hch⟩
              clear ho hal hch
              have hS := HSS.out x15 HX15.out
              refine hK.out _ _ (.inr hS) ?_
              clear hK K hb
              try simp only [Act.put, List.setIfInBounds_toArray, List.set_cons_zero, List.set_cons_succ]
              refine wpAnyL_ready (rs := [9]) (by kernel_rfl) (by simp) ?_
              refine' ReadyL.cons ?ho26 (fun K hK => ?step26) ?more26
              case ho26 => simp only [List.getElem?_toArray, List.getElem?_cons_succ, List.getElem?_cons_zero]; rfl
              case step26 =>
                go_simp
                refine (HHK.out x15 HX15.out).mono ?_
                rintro e x16 ⟨H, hd, rfl, ho, hb⟩
                have HX16 : Hid (Below w5.heap.size w5 x16) := below_next HX15.out (Nat.le_refl _) hb
                have HY16 : Hid (Whole x16 x0.heap.size 43 #[.int .i64 0, .string ⟨#[]⟩, .slice none 0 0, .string ⟨#[]⟩, .slice none 0 0, .slice none 0 0, .slice none 0 0, .string ⟨#[]⟩, .slice none 0 0, .int .i64 0] ∧ w5.heap.size ≤ x0.heap.size) := ⟨HY15.out.1.below hb HY15.out.1.lt, HY15.out.2⟩
                have HA16 : Hid (x16.ownsRow w1.heap.size 30 4 (.slice A us.length d) us.length (atCells us) ∧ AllOwn x16 w1.heap.size us ∧ us.map AT.ch = cleanAs (v.atts.map AT.ch)) := ⟨own_keep HA15.out.1 hb, HA15.out.2.1.below hb, HA15.out.2.2⟩
                have HH16 : Hid (x16.ownsRow w1.heap.size 94 3 (.slice H hs.length hd) hs.length (hkCells hs)) := own_mono ho (Nat.le_trans HS15.out HX15.out.size)
                clear ho
                have hS := HSS.out x16 HX16.out
                refine hK.out _ _ (.inr hS) ?_
                clear hK K hb
                try simp only [Act.put, List.setIfInBounds_toArray, List.set_cons_zero, List.set_cons_succ]
                refine' wpAnyL_take (i := 10) ?hi27 (by kernel_rfl) (by kernel_rfl) (by kernel_rfl) (by kernel_rfl) ?hQ27 ?hy27 hS ?rest27
                case hi27 => simp only [List.getElem?_toArray, List.getElem?_cons_succ, List.getElem?_cons_zero]; rfl
                case hQ27 => exact fun _ _ _ h => h
                case hy27 =>
                  refine Or.inl ⟨by rfl, ?_⟩
                  intro wq hq
                  try dsimp only at hq
                  try obtain ⟨hq0, hq1, hq2, hq3, hq4, hq5, hq6⟩ := hq
                  try obtain ⟨hq0, hq1, hq2, hq3, hq4, hq5⟩ := hq
                  try obtain ⟨hq0, hq1, hq2, hq3, hq4⟩ := hq
                  try obtain ⟨hq0, hq1, hq2, hq3⟩ := hq
                  try obtain ⟨hq0, hq1, hq2⟩ := hq
                  try obtain ⟨hq0, hq1⟩ := hq
                  go_simp
                  try with_reducible rfl
                try simp only [Act.put, List.setIfInBounds_toArray, List.set_cons_zero, List.set_cons_succ]
                refine wpAnyL_ready (rs := [12]) (by kernel_rfl) (by simp) ?_
                refine' ReadyL.cons ?ho28 (fun K hK => ?step28) ?more28
                case ho28 => simp only [List.getElem?_toArray, List.getElem?_cons_succ, List.getElem?_cons_zero]; rfl
                case step28 =>
                  have yz := HY16.out.1
                  have z0 : x16.cell? ⟨x0.heap.size, 0, none⟩ = some (.int .i64 0) := yz.at_ 0
                  have z1 : x16.cell? ⟨x0.heap.size, 1, none⟩ = some (.string ⟨#[]⟩) := yz.at_ 1
                  have z2 : x16.cell? ⟨x0.heap.size, 2, none⟩ = some (.slice none 0 0) := yz.at_ 2
                  have z3 : x16.cell? ⟨x0.heap.size, 3, none⟩ = some (.string ⟨#[]⟩) := yz.at_ 3
                  have z4 : x16.cell? ⟨x0.heap.size, 4, none⟩ = some (.slice none 0 0) := yz.at_ 4
                  have z5 : x16.cell? ⟨x0.heap.size, 5, none⟩ = some (.slice none 0 0) := yz.at_ 5
                  have z6 : x16.cell? ⟨x0.heap.size, 6, none⟩ = some (.slice none 0 0) := yz.at_ 6
                  have z7 : x16.cell? ⟨x0.heap.size, 7, none⟩ = some (.string ⟨#[]⟩) := yz.at_ 7
                  have z8 : x16.cell? ⟨x0.heap.size, 8, none⟩ = some (.slice none 0 0) := yz.at_ 8
                  have z9 : x16.cell? ⟨x0.heap.size, 9, none⟩ = some (.int .i64 0) := yz.at_ 9
                  have k0 := yz.free 0
                  have k1 := yz.free 1
                  have k2 := yz.free 2
                  have k3 := yz.free 3
                  have k4 := yz.free 4
                  have k5 := yz.free 5
                  have k6 := yz.free 6
                  have k7 := yz.free 7
                  have k8 := yz.free 8
                  have k9 := yz.free 9
                  go_simp
                  refine hK.out _ _ (.inl rfl) ?_
                  clear hK K
                  try simp only [Act.put, List.setIfInBounds_toArray, List.set_cons_zero, List.set_cons_succ]
                  refine wpAnyL_done (by kernel_rfl) ?_ _
                  have HP1 := Lib.hid (view_put (below_next HB5.out (Nat.le_refl _) HX16.out) (Nat.le_trans HS15.out HY16.out.2) yz (.int .i64 1) (.string n.s) (.slice n.A n.n n.c) (.string v.key) (.slice A us.length d) (.slice H hs.length hd) (.slice none 0 0) (.string ⟨#[]⟩) (.slice none 0 0) (.int .i64 0))
                  have HP5 := Lib.hid (view_put HX16.out HY16.out.2 yz (.int .i64 1) (.string n.s) (.slice n.A n.n n.c) (.string v.key) (.slice A us.length d) (.slice H hs.length hd) (.slice none 0 0) (.string ⟨#[]⟩) (.slice none 0 0) (.int .i64 0))
                  have HYZ := Lib.hid yz
                  clear yz z0 k0 z1 k1 z2 k2 z3 k3 z4 k4 z5 k5 z6 k6 z7 k7 z8 k8 z9 k9 hS
                  go_wp2_with fail
                  go_meet
                  exact ⟨_, A, d, us, H, hd, rfl, elX_made (Nat.le_trans HS15.out HY16.out.2) HYZ.out HP1.out ⟨HN.out.1, HN3.out.below (below_next HB35.out (Nat.le_refl _) HX16.out)⟩ HA16.out.1 HA16.out.2.1 HH16.out, HA16.out.2.2, HP5.out.1⟩
                exact ReadyL.nil
              exact ReadyL.nil
            exact ReadyL.nil
          exact ReadyL.nil
        exact ReadyL.nil
      case rest =>
        obtain ⟨g, A, d, us, H, hd, rfl, hE, hus, hb5⟩ := hcut
        have HE := Lib.hid hE
        have HUS := Lib.hid hus
        obtain ⟨wa, rfl⟩ : ∃ wa : World, wa = wc := ⟨_, rfl⟩
        have HYA : Hid (Whole wa w2.heap.size 28 #[.string n.s, .slice n.A n.n n.c]) := HY4.out.below (below_next HB35.out (Nat.le_refl _) hb5) HY4.out.lt
        have HNE : Hid (w2.heap.size ≠ g) := fun e => by
          have h1 := HE.out.blk
          have h2 := HYA.out
          rw [e] at h2
          have h3 := h1.symm.trans h2
          injection h3 with h3
          injection h3 with _ h3 _
          exact absurd h3 (by decide)
        clear hE hus hb5
        obtain ⟨vd, HD⟩ : ∃ vd, Hid (isT voidL (byC lt) = vd) := ⟨_, rfl⟩
        rw [HD.out] at HVD
        have s0 : wa.cell? ⟨w2.heap.size, 0, none⟩ = some (.string n.s) := HYA.out.at_ 0
        go_wp2_with fail
        refine (HVD.out wa).mono ?_
        rintro e wi ⟨rfl, hb⟩
        have HEI := Lib.hid (HE.out.keep hb)
        have HYI : Hid (Whole wi w2.heap.size 28 #[.string n.s, .slice n.A n.n n.c]) := HYA.out.below hb HYA.out.lt
        have HBI : Hid (Below w.heap.size w wi) := below_next HBW.out (Nat.le_refl _) HEI.out.bel
        clear hb s0
        go_upto_if 33 with (fail)
        go_cut [] (fun wx => ∃ (KA : Option Addr) (kn kc : Nat), ElX w1 wx g lt v.key n A d us H hd hs KA kn kc ∧ VRow wx (g + 1) (kidsV lt (leftV (chV v.kids))) (.slice KA kn kc) ∧ Whole wx w2.heap.size 28 #[.string n.s, .slice n.A n.n n.c])
        case first =>
          cases vd with
          | true =>
            go_wp2_with fail
            go_meet
            exact ⟨none, 0, 0, HEI.out, by unfold kidsV; rw [HD.out]; exact VRow.zero _ _, HYI.out⟩
          | false =>
            have c6 : wi.cell? ⟨w.heap.size, 6, none⟩ = some (.slice v.K v.kn v.kc) := (HY0.out.below HEI.out.bel HY0.out.lt).at_ 6
            go_wp2_with fail
            refine (HKD.out wi HBI.out).mono ?_
            rintro e wj ⟨⟨KA, kn, kc, rfl, hvr⟩, hb⟩
            have HEJ := Lib.hid (HEI.out.keep hb)
            have HYJ : Hid (Whole wj w2.heap.size 28 #[.string n.s, .slice n.A n.n n.c]) := HYI.out.below hb HYI.out.lt
            have hgi := HEI.out.blk.lt
            have HVR : Hid (VRow wj (g + 1) (kidsV lt (leftV (chV v.kids))) (.slice KA kn kc)) := by
              show VRow _ _ _ _
              unfold kidsV
              rw [HD.out]
              exact hvr.mono hgi
            have yb := HEJ.out.blk
            unfold elX at yb
            have x6 : wj.cell? ⟨g, 6, none⟩ = some (.slice none 0 0) := yb.at_ 6
            have f6 := yb.free 6
            clear hb hvr hgi c6 yb
            go_wp2_with fail
            go_meet
            exact ⟨KA, kn, kc, HEJ.out.kids, HVR.out.far (Nat.lt_succ_self _), HYJ.out.far _ HNE.out _⟩
        case rest =>
          obtain ⟨KA, kn, kc, hE, hVR, hY⟩ := hcut
          obtain ⟨us2, hkl, hkn, hKc, hka, hkch⟩ := hVR.new
          have HEC := Lib.hid hE
          have HKL := Lib.hid hkl
          have HKN := Lib.hid hkn
          have HKC := Lib.hid hKc
          have HKA := Lib.hid hka
          have HKH := Lib.hid hkch
          have HYC := Lib.hid hY
          have HSZ : Hid (bkV (chV us2) ≤ 9437184) := by
            show _ ≤ _
            rw [hkch]
            have h1 := left_size (chV v.kids)
            have h2 := v.ch.bk_eq
            rw [VT.ch_kids] at h2
            have h3 := HBK.out
            unfold kidsV
            split
            · rw [bkV]; exact Nat.zero_le _
            · omega
          have HK3 : Hid (kn ≤ 4194304) := by
            show _ ≤ _
            have h1 := congrArg List.length hkch
            rw [chV_length, hkn] at h1
            have h2 := leftV_length (chV v.kids)
            rw [chV_length, HV.out.kn] at h2
            have h3 := HV.out.km
            unfold kidsV at h1
            split at h1
            · rw [List.length_nil] at h1; omega
            · omega
          have HTS : Hid (us.length ≤ 4194304) := by
            show _ ≤ _
            have h1 := congrArg List.length HUS.out
            rw [List.length_map] at h1
            have h2 : (cleanAs (v.atts.map AT.ch)).length ≤ ((v.atts.map AT.ch).filterMap cleanA).length := sel_len _ _
            have h3 := List.length_filterMap_le cleanA (v.atts.map AT.ch)
            rw [List.length_map, HV.out.an] at h3
            have h4 := HV.out.am
            omega
          have HHL : Hid (hs.length ≤ 4194304) := by
            show _ ≤ _
            have h2 := List.length_filter_le hookOk v.hooks
            rw [HHS.out, HV.out.hn] at h2
            have h4 := HV.out.hm
            omega
          clear hE hVR hkl hkn hKc hka hkch hY
          obtain ⟨wm, rfl⟩ : ∃ wm : World, wm = wc := ⟨_, rfl⟩
          obtain ⟨_, _, ea, hac, _, _⟩ := own_form HEC.out.att
          obtain ⟨_, _, eh, hhc, _, _⟩ := own_form HEC.out.hook
          injection ea with ea1 _ ea3
          injection eh with eh1 _ eh3
          subst ea1 ea3 eh1 eh3
          have HIN : Hid ((VT.mk 1 n v.key A us.length d us H hs.length hd hs KA kn kc us2 noT 0).inS (fun b => w1.heap.size ≤ b) wm) :=
            ⟨HEC.out.tag.2.inS, noT_in _ _, HV.out.key, own_inS HEC.out.att, rfl, hac, HTS.out, fun a ha => (HEC.out.atts a ha).inS, own_inS HEC.out.hook, rfl, hhc, HHL.out,
              HKL.out.mono fun b hb _ => by have := HEC.out.ge; omega, HKN.out, HKC.out, HK3.out⟩
          have HKI : Hid (AllV (fun b => w1.heap.size ≤ b) wm us2) := HKA.out.mono fun b hb _ => by have := HEC.out.ge; omega
          clear hac hhc
          obtain ⟨rb, HRB⟩ : ∃ rb, Hid (isT rawL (byC lt) = rb) := ⟨_, rfl⟩
          rw [HRB.out] at HRW
          obtain ⟨bh, HBH⟩ : ∃ bh, Hid (((chV us2).all rawKid && (us.map AT.ch).all fun a => decide (wor a.2 = 0)) = bh) := ⟨_, rfl⟩
          have HHM : Hid (∀ W, Below wm.heap.size wm W → Calls Tryz.prog 78 #[.agg #[.int .i64 1, .string n.s, .slice n.A n.n n.c, .string v.key, .slice A us.length d, .slice H hs.length hd, .slice KA kn kc, .string ⟨#[]⟩, .slice none 0 0, .int .i64 0]] W fun e w' => e = .returned (.bool bh) ∧ Below W.heap.size W w') := fun W hb => by
            have h := harm_any (VT.mk 1 n v.key A us.length d us H hs.length hd hs KA kn kc us2 noT 0) W ((HIN.out.keep (Stays.of hb)).mono fun b _ h => h) ((HKI.out.keep (Stays.of hb)).mono fun b _ h => h) (fun x hx => by
              have hx2 : x ∈ us2 := hx
              have h1 := bkV_mem (chV_mem hx2)
              have h2 := x.ch.bk_eq
              rw [VT.ch_text, LT.ch_length] at h2
              have h3 := HSZ.out
              omega)
            rw [← HBH.out]
            exact h
          have HFV : Hid (fitV lt (cleanAs (v.atts.map AT.ch)) (kidsV lt (leftV (chV v.kids))) = (!rb || bh)) := by
            show _ = _
            unfold fitV
            rw [HRB.out, ← HUS.out, ← HKH.out, HBH.out]
          have HS7 : Hid (∀ W, Below wm.heap.size wm W → (W.cell? ⟨w2.heap.size, 0, none⟩ = some (.string n.s) ∧ W.cell? ⟨g, 0, none⟩ = some (.int .i64 1) ∧ W.cell? ⟨g, 1, none⟩ = some (.string n.s) ∧ W.cell? ⟨g, 2, none⟩ = some (.slice n.A n.n n.c) ∧ W.cell? ⟨g, 3, none⟩ = some (.string v.key) ∧ W.cell? ⟨g, 4, none⟩ = some (.slice A us.length d) ∧ W.cell? ⟨g, 5, none⟩ = some (.slice H hs.length hd) ∧ W.cell? ⟨g, 6, none⟩ = some (.slice KA kn kc) ∧ W.cell? ⟨g, 7, none⟩ = some (.string ⟨#[]⟩) ∧ W.cell? ⟨g, 8, none⟩ = some (.slice none 0 0) ∧ W.cell? ⟨g, 9, none⟩ = some (.int .i64 0))) := fun W hb => by
            have ya := HYC.out.below hb HYC.out.lt
            have yb := HEC.out.blk.below hb HEC.out.blk.lt
            unfold elX at yb
            exact ⟨ya.at_ 0, yb.at_ 0, yb.at_ 1, yb.at_ 2, yb.at_ 3, yb.at_ 4, yb.at_ 5, yb.at_ 6, yb.at_ 7, yb.at_ 8, yb.at_ 9⟩
          have HBWM : Hid (Below w.heap.size w wm) := below_next HBW.out (Nat.le_refl _) HEC.out.bel
          have HEND : Hid (∀ W W2 : World, Below wm.heap.size wm W → (Below w.heap.size w W2 ∧ ∀ k, k ≠ w.heap.size + 1 → W2.heap[k]? = W.heap[k]?) → W.heap.size ≤ W2.heap.size → ∀ b, b = (!rb || bh) → PEl (elV v.tag.ch v.key.data.toList (v.atts.map AT.ch) v.hooks (leftV (chV v.kids))) w (.returned (.tuple #[.agg #[.int .i64 1, .string n.s, .slice n.A n.n n.c, .string v.key, .slice A us.length d, .slice H hs.length hd, .slice KA kn kc, .string ⟨#[]⟩, .slice none 0 0, .int .i64 0], .bool b])) W2) := fun W W2 hb hp hz b hbb => by
            have hst : Stays (fun b => w1.heap.size ≤ b) W W2 := ⟨hz, fun b hb _ => hp.2 b (fun e => by have := HYR.out.lt; omega)⟩
            have hzw : w.heap.size ≤ w1.heap.size := HBW.out.size
            refine ⟨VT.mk 1 n v.key A us.length d us H hs.length hd hs KA kn kc us2 noT 0, b, rfl, ⟨?_, fun _ => ⟨?_, ?_⟩⟩, hp.1⟩
            · rw [HELV.out, if_neg HW0.out, HFV.out, ← hbb]
              have hch : (VT.mk 1 n v.key A us.length d us H hs.length hd hs KA kn kc us2 noT 0).ch = ⟨1, lt, v.key.data.toList, cleanAs (v.atts.map AT.ch), v.hooks.filter hookOk, kidsV lt (leftV (chV v.kids)), [], 0⟩ := by
                rw [VT.ch_eq]
                show PV.mk 1 n.ch v.key.data.toList (us.map AT.ch) hs (chV us2) noT.ch 0 = _
                rw [HN.out.1, HUS.out, HHS.out, HKH.out, noT_ch]
              rw [hch]
            · exact ((HIN.out.keep (Stays.of hb)).keep hst).mono fun b hb _ => by omega
            · exact ((HKI.out.keep (Stays.of hb)).keep hst).mono fun b hb _ => by omega
          go_upto_region 7 with (fail)
          have hS := HS7.out _ (Below.drew (Below.refl wm.heap.size wm))
          cases rb with
          | false =>
            refine wp_region_lastE (S := (fun W => (W.cell? ⟨w2.heap.size, 0, none⟩ = some (.string n.s) ∧ W.cell? ⟨g, 0, none⟩ = some (.int .i64 1) ∧ W.cell? ⟨g, 1, none⟩ = some (.string n.s) ∧ W.cell? ⟨g, 2, none⟩ = some (.slice n.A n.n n.c) ∧ W.cell? ⟨g, 3, none⟩ = some (.string v.key) ∧ W.cell? ⟨g, 4, none⟩ = some (.slice A us.length d) ∧ W.cell? ⟨g, 5, none⟩ = some (.slice H hs.length hd) ∧ W.cell? ⟨g, 6, none⟩ = some (.slice KA kn kc) ∧ W.cell? ⟨g, 7, none⟩ = some (.string ⟨#[]⟩) ∧ W.cell? ⟨g, 8, none⟩ = some (.slice none 0 0) ∧ W.cell? ⟨g, 9, none⟩ = some (.int .i64 0)))) (Z := (fun _ => false)) (by kernel_rfl) ?_
            obtain ⟨x0, hx0⟩ : ∃ X : World, wm.drew = X := ⟨_, rfl⟩
            have HX0 : Hid (Below wm.heap.size wm x0) := by show Below _ _ _; rw [← hx0]; exact Below.drew (Below.refl _ _)
            rw [hx0] at hS ⊢
            clear hx0
            refine' wpAnyL_take (i := 0) ?hi29 (by kernel_rfl) (by kernel_rfl) (by kernel_rfl) (by kernel_rfl) ?hQ29 ?hy29 hS ?rest29
            case hi29 => simp only [List.getElem?_toArray, List.getElem?_cons_zero]; rfl
            case hQ29 => exact fun _ _ _ h => h
            case hy29 =>
              refine Or.inl ⟨by rfl, ?_⟩
              intro wq hq
              try dsimp only at hq
              try obtain ⟨hq0, hq1, hq2, hq3, hq4, hq5, hq6⟩ := hq
              try obtain ⟨hq0, hq1, hq2, hq3, hq4, hq5⟩ := hq
              try obtain ⟨hq0, hq1, hq2, hq3, hq4⟩ := hq
              try obtain ⟨hq0, hq1, hq2, hq3⟩ := hq
              try obtain ⟨hq0, hq1, hq2⟩ := hq
              try obtain ⟨hq0, hq1⟩ := hq
              go_simp
              try with_reducible rfl
            try simp only [Act.put, List.setIfInBounds_toArray, List.set_cons_zero, List.set_cons_succ]
            refine' wpAnyL_take (i := 1) ?hi30 (by kernel_rfl) (by kernel_rfl) (by kernel_rfl) (by kernel_rfl) ?hQ30 ?hy30 hS ?rest30
            case hi30 => simp only [List.getElem?_toArray, List.getElem?_cons_succ, List.getElem?_cons_zero]; rfl
            case hQ30 => exact fun _ _ _ h => h
            case hy30 =>
              refine Or.inl ⟨by rfl, ?_⟩
              intro wq hq
              try dsimp only at hq
              try obtain ⟨hq0, hq1, hq2, hq3, hq4, hq5, hq6⟩ := hq
              try obtain ⟨hq0, hq1, hq2, hq3, hq4, hq5⟩ := hq
              try obtain ⟨hq0, hq1, hq2, hq3, hq4⟩ := hq
              try obtain ⟨hq0, hq1, hq2, hq3⟩ := hq
              try obtain ⟨hq0, hq1, hq2⟩ := hq
              try obtain ⟨hq0, hq1⟩ := hq
              go_simp
              try with_reducible rfl
            try simp only [Act.put, List.setIfInBounds_toArray, List.set_cons_zero, List.set_cons_succ]
            refine' wpAnyL_take (i := 2) ?hi31 (by kernel_rfl) (by kernel_rfl) (by kernel_rfl) (by kernel_rfl) ?hQ31 ?hy31 hS ?rest31
            case hi31 => simp only [List.getElem?_toArray, List.getElem?_cons_succ, List.getElem?_cons_zero]; rfl
            case hQ31 => exact fun _ _ _ h => h
            case hy31 =>
              refine Or.inl ⟨by rfl, ?_⟩
              intro wq hq
              try dsimp only at hq
              try obtain ⟨hq0, hq1, hq2, hq3, hq4, hq5, hq6⟩ := hq
              try obtain ⟨hq0, hq1, hq2, hq3, hq4, hq5⟩ := hq
              try obtain ⟨hq0, hq1, hq2, hq3, hq4⟩ := hq
              try obtain ⟨hq0, hq1, hq2, hq3⟩ := hq
              try obtain ⟨hq0, hq1, hq2⟩ := hq
              try obtain ⟨hq0, hq1⟩ := hq
              go_simp
              try with_reducible rfl
            try simp only [Act.put, List.setIfInBounds_toArray, List.set_cons_zero, List.set_cons_succ]
            refine wpAnyL_ready (rs := [3]) (by kernel_rfl) (by simp) ?_
            refine' ReadyL.cons ?ho32 (fun K hK => ?step32) ?more32
            case ho32 => simp only [List.getElem?_toArray, List.getElem?_cons_succ, List.getElem?_cons_zero]; rfl
            case step32 =>
              go_simp
              refine (HRW.out x0).mono ?_
              rintro e y1 ⟨rfl, hb⟩
              have HX1 : Hid (Below wm.heap.size wm y1) := below_next HX0.out (Nat.le_refl _) hb
              have hS := HS7.out y1 HX1.out
              refine hK.out _ _ (.inr hS) ?_
              clear hK K hb
              try simp only [Act.put, List.setIfInBounds_toArray, List.set_cons_zero, List.set_cons_succ]
              refine' wpAnyL_take (i := 4) ?hi33 (by kernel_rfl) (by kernel_rfl) (by kernel_rfl) (by kernel_rfl) ?hQ33 ?hy33 hS ?rest33
              case hi33 => simp only [List.getElem?_toArray, List.getElem?_cons_succ, List.getElem?_cons_zero]; rfl
              case hQ33 => exact fun _ _ _ h => h
              case hy33 =>
                refine Or.inl ⟨by rfl, ?_⟩
                intro wq hq
                try dsimp only at hq
                try obtain ⟨hq0, hq1, hq2, hq3, hq4, hq5, hq6⟩ := hq
                try obtain ⟨hq0, hq1, hq2, hq3, hq4, hq5⟩ := hq
                try obtain ⟨hq0, hq1, hq2, hq3, hq4⟩ := hq
                try obtain ⟨hq0, hq1, hq2, hq3⟩ := hq
                try obtain ⟨hq0, hq1, hq2⟩ := hq
                try obtain ⟨hq0, hq1⟩ := hq
                go_simp
                try with_reducible rfl
              try simp only [Act.put, List.setIfInBounds_toArray, List.set_cons_zero, List.set_cons_succ]
              refine' wpAnyL_take (i := 5) ?hi34 (by kernel_rfl) (by kernel_rfl) (by kernel_rfl) (by kernel_rfl) ?hQ34 ?hy34 hS ?rest34
              case hi34 => simp only [List.getElem?_toArray, List.getElem?_cons_succ, List.getElem?_cons_zero]; rfl
              case hQ34 => exact fun _ _ _ h => h
              case hy34 =>
                refine Or.inl ⟨by rfl, ?_⟩
                intro wq hq
                try dsimp only at hq
                try obtain ⟨hq0, hq1, hq2, hq3, hq4, hq5, hq6⟩ := hq
                try obtain ⟨hq0, hq1, hq2, hq3, hq4, hq5⟩ := hq
                try obtain ⟨hq0, hq1, hq2, hq3, hq4⟩ := hq
                try obtain ⟨hq0, hq1, hq2, hq3⟩ := hq
                try obtain ⟨hq0, hq1, hq2⟩ := hq
                try obtain ⟨hq0, hq1⟩ := hq
                go_simp
                try with_reducible rfl
              try simp only [Act.put, List.setIfInBounds_toArray, List.set_cons_zero, List.set_cons_succ]
              refine' wpAnyL_take (i := 6) ?hi35 (by kernel_rfl) (by kernel_rfl) (by kernel_rfl) (by kernel_rfl) ?hQ35 ?hy35 hS ?rest35
              case hi35 => simp only [List.getElem?_toArray, List.getElem?_cons_succ, List.getElem?_cons_zero]; rfl
              case hQ35 => exact fun _ _ _ h => h
              case hy35 => exact Or.inr ⟨by rfl, rfl⟩
              try simp only [Act.put, List.setIfInBounds_toArray, List.set_cons_zero, List.set_cons_succ]
              refine' wpAnyL_take (i := 7) ?hi36 (by kernel_rfl) (by kernel_rfl) (by kernel_rfl) (by kernel_rfl) ?hQ36 ?hy36 hS ?rest36
              case hi36 => simp only [List.getElem?_toArray, List.getElem?_cons_succ, List.getElem?_cons_zero]; rfl
              case hQ36 => exact fun _ _ _ h => h
              case hy36 => exact Or.inr ⟨by rfl, rfl⟩
              try simp only [Act.put, List.setIfInBounds_toArray, List.set_cons_zero, List.set_cons_succ]
              refine' wpAnyL_take (i := 8) ?hi37 (by kernel_rfl) (by kernel_rfl) (by kernel_rfl) (by kernel_rfl) ?hQ37 ?hy37 hS ?rest37
              case hi37 => simp only [List.getElem?_toArray, List.getElem?_cons_succ, List.getElem?_cons_zero]; rfl
              case hQ37 => exact fun _ _ _ h => h
              case hy37 =>
                refine Or.inl ⟨by rfl, ?_⟩
                intro wq hq
                try dsimp only at hq
                try obtain ⟨hq0, hq1, hq2, hq3, hq4, hq5, hq6⟩ := hq
                try obtain ⟨hq0, hq1, hq2, hq3, hq4, hq5⟩ := hq
                try obtain ⟨hq0, hq1, hq2, hq3, hq4⟩ := hq
                try obtain ⟨hq0, hq1, hq2, hq3⟩ := hq
                try obtain ⟨hq0, hq1, hq2⟩ := hq
                try obtain ⟨hq0, hq1⟩ := hq
                go_simp
                try with_reducible rfl
              try simp only [Act.put, List.setIfInBounds_toArray, List.set_cons_zero, List.set_cons_succ]
              refine wpAnyL_ready (rs := [9]) (by kernel_rfl) (by simp) ?_
              refine' ReadyL.cons ?ho38 (fun K hK => ?step38) ?more38
              case ho38 => simp only [List.getElem?_toArray, List.getElem?_cons_succ, List.getElem?_cons_zero]; rfl
              case step38 =>
                have yRq : Whole y1 (w.heap.size + 1) 43 #[.int .i64 0, .string ⟨#[]⟩, .slice none 0 0, .string ⟨#[]⟩, .slice none 0 0, .slice none 0 0, .slice none 0 0, .string ⟨#[]⟩, .slice none 0 0, .int .i64 0] := HYR.out.below (below_next HEC.out.bel (Nat.le_refl _) HX1.out) HYR.out.lt
                have hvp := view_put (below_next HBWM.out (Nat.le_refl _) HX1.out) (Nat.le_succ _) yRq (.int .i64 1) (.string n.s) (.slice n.A n.n n.c) (.string v.key) (.slice A us.length d) (.slice H hs.length hd) (.slice KA kn kc) (.string ⟨#[]⟩) (.slice none 0 0) (.int .i64 0)
                have r0 : y1.cell? ⟨w.heap.size + 1, 0, none⟩ = some (.int .i64 0) := yRq.at_ 0
                have r1 : y1.cell? ⟨w.heap.size + 1, 1, none⟩ = some (.string ⟨#[]⟩) := yRq.at_ 1
                have r2 : y1.cell? ⟨w.heap.size + 1, 2, none⟩ = some (.slice none 0 0) := yRq.at_ 2
                have r3 : y1.cell? ⟨w.heap.size + 1, 3, none⟩ = some (.string ⟨#[]⟩) := yRq.at_ 3
                have r4 : y1.cell? ⟨w.heap.size + 1, 4, none⟩ = some (.slice none 0 0) := yRq.at_ 4
                have r5 : y1.cell? ⟨w.heap.size + 1, 5, none⟩ = some (.slice none 0 0) := yRq.at_ 5
                have r6 : y1.cell? ⟨w.heap.size + 1, 6, none⟩ = some (.slice none 0 0) := yRq.at_ 6
                have r7 : y1.cell? ⟨w.heap.size + 1, 7, none⟩ = some (.string ⟨#[]⟩) := yRq.at_ 7
                have r8 : y1.cell? ⟨w.heap.size + 1, 8, none⟩ = some (.slice none 0 0) := yRq.at_ 8
                have r9 : y1.cell? ⟨w.heap.size + 1, 9, none⟩ = some (.int .i64 0) := yRq.at_ 9
                have f0 := yRq.free 0
                have f1 := yRq.free 1
                have f2 := yRq.free 2
                have f3 := yRq.free 3
                have f4 := yRq.free 4
                have f5 := yRq.free 5
                have f6 := yRq.free 6
                have f7 := yRq.free 7
                have f8 := yRq.free 8
                have f9 := yRq.free 9
                go_simp
                have hz9 : y1.heap.size ≤ ((((((((((y1.setCell ⟨w.heap.size + 1, 0, none⟩ (.int .i64 1)).setCell ⟨w.heap.size + 1, 1, none⟩ (.string n.s)).setCell ⟨w.heap.size + 1, 2, none⟩ (.slice n.A n.n n.c)).setCell ⟨w.heap.size + 1, 3, none⟩ (.string v.key)).setCell ⟨w.heap.size + 1, 4, none⟩ (.slice A us.length d)).setCell ⟨w.heap.size + 1, 5, none⟩ (.slice H hs.length hd)).setCell ⟨w.heap.size + 1, 6, none⟩ (.slice KA kn kc)).setCell ⟨w.heap.size + 1, 7, none⟩ (.string ⟨#[]⟩)).setCell ⟨w.heap.size + 1, 8, none⟩ (.slice none 0 0)).setCell ⟨w.heap.size + 1, 9, none⟩ (.int .i64 0)).heap.size := by simp only [World.size_setCell]; exact Nat.le_refl _
                generalize hw9 : (((((((((y1.setCell ⟨w.heap.size + 1, 0, none⟩ (.int .i64 1)).setCell ⟨w.heap.size + 1, 1, none⟩ (.string n.s)).setCell ⟨w.heap.size + 1, 2, none⟩ (.slice n.A n.n n.c)).setCell ⟨w.heap.size + 1, 3, none⟩ (.string v.key)).setCell ⟨w.heap.size + 1, 4, none⟩ (.slice A us.length d)).setCell ⟨w.heap.size + 1, 5, none⟩ (.slice H hs.length hd)).setCell ⟨w.heap.size + 1, 6, none⟩ (.slice KA kn kc)).setCell ⟨w.heap.size + 1, 7, none⟩ (.string ⟨#[]⟩)).setCell ⟨w.heap.size + 1, 8, none⟩ (.slice none 0 0)).setCell ⟨w.heap.size + 1, 9, none⟩ (.int .i64 0) = w9 at *
                have HE9 := Lib.hid (HEND.out y1 w9 HX1.out ⟨hvp.1, hvp.2.2⟩ hz9 true (by rfl))
                have hS9 : (w9.cell? ⟨w2.heap.size, 0, none⟩ = some (.string n.s) ∧ w9.cell? ⟨g, 0, none⟩ = some (.int .i64 1) ∧ w9.cell? ⟨g, 1, none⟩ = some (.string n.s) ∧ w9.cell? ⟨g, 2, none⟩ = some (.slice n.A n.n n.c) ∧ w9.cell? ⟨g, 3, none⟩ = some (.string v.key) ∧ w9.cell? ⟨g, 4, none⟩ = some (.slice A us.length d) ∧ w9.cell? ⟨g, 5, none⟩ = some (.slice H hs.length hd) ∧ w9.cell? ⟨g, 6, none⟩ = some (.slice KA kn kc) ∧ w9.cell? ⟨g, 7, none⟩ = some (.string ⟨#[]⟩) ∧ w9.cell? ⟨g, 8, none⟩ = some (.slice none 0 0) ∧ w9.cell? ⟨g, 9, none⟩ = some (.int .i64 0)) := by
                  have ya : Whole w9 w2.heap.size 28 #[.string n.s, .slice n.A n.n n.c] := (hvp.2.2 _ (by have h1 := HYR.out.lt; have h2 := HB2.out.size; omega)).trans (HYC.out.below HX1.out HYC.out.lt)
                  have yb : Whole w9 g 43 (elX n v.key A us.length d H hs.length hd KA kn kc) := (hvp.2.2 _ (by have h1 := HYR.out.lt; have h2 := HEC.out.ge; omega)).trans (HEC.out.blk.below HX1.out HEC.out.blk.lt)
                  unfold elX at yb
                  exact ⟨ya.at_ 0, yb.at_ 0, yb.at_ 1, yb.at_ 2, yb.at_ 3, yb.at_ 4, yb.at_ 5, yb.at_ 6, yb.at_ 7, yb.at_ 8, yb.at_ 9⟩
                have yq := hvp.2.1
                have q0 : w9.cell? ⟨w.heap.size + 1, 0, none⟩ = some (.int .i64 1) := yq.at_ 0
                have q1 : w9.cell? ⟨w.heap.size + 1, 1, none⟩ = some (.string n.s) := yq.at_ 1
                have q2 : w9.cell? ⟨w.heap.size + 1, 2, none⟩ = some (.slice n.A n.n n.c) := yq.at_ 2
                have q3 : w9.cell? ⟨w.heap.size + 1, 3, none⟩ = some (.string v.key) := yq.at_ 3
                have q4 : w9.cell? ⟨w.heap.size + 1, 4, none⟩ = some (.slice A us.length d) := yq.at_ 4
                have q5 : w9.cell? ⟨w.heap.size + 1, 5, none⟩ = some (.slice H hs.length hd) := yq.at_ 5
                have q6 : w9.cell? ⟨w.heap.size + 1, 6, none⟩ = some (.slice KA kn kc) := yq.at_ 6
                have q7 : w9.cell? ⟨w.heap.size + 1, 7, none⟩ = some (.string ⟨#[]⟩) := yq.at_ 7
                have q8 : w9.cell? ⟨w.heap.size + 1, 8, none⟩ = some (.slice none 0 0) := yq.at_ 8
                have q9 : w9.cell? ⟨w.heap.size + 1, 9, none⟩ = some (.int .i64 0) := yq.at_ 9
                refine hK.out _ w9 (.inr hS9) ?_
                have hS := hS9
                clear hK K hw9 hvp yq yRq hz9 r0 f0 r1 f1 r2 f2 r3 f3 r4 f4 r5 f5 r6 f6 r7 f7 r8 f8 r9 f9
                try simp only [Act.put, List.setIfInBounds_toArray, List.set_cons_zero, List.set_cons_succ]
                refine wpAnyL_ready (rs := [10]) (by kernel_rfl) (by simp) ?_
                refine' ReadyL.cons ?ho39 (fun K hK => ?step39) ?more39
                case ho39 => simp only [List.getElem?_toArray, List.getElem?_cons_succ, List.getElem?_cons_zero]; rfl
                case step39 =>
                  go_simp
                  refine hK.out _ _ (.inr hS) ?_
                  clear hK K
                  try simp only [Act.put, List.setIfInBounds_toArray, List.set_cons_zero, List.set_cons_succ]
                  refine wpAnyL_done (by kernel_rfl) ?_ _
                  clear hS9 hS
                  go_wp2_with fail
                  refine bodyPost_ret (v := .tuple #[.agg #[.int .i64 1, .string n.s, .slice n.A n.n n.c, .string v.key, .slice A us.length d, .slice H hs.length hd, .slice KA kn kc, .string ⟨#[]⟩, .slice none 0 0, .int .i64 0], .bool true]) ?_ rfl ?_
                  · simp [results, Tryz.results58, go_sem, q0, q1, q2, q3, q4, q5, q6, q7, q8, q9]
                  · exact HE9.out
                exact ReadyL.nil
              exact ReadyL.nil
            exact ReadyL.nil
          | true =>
            refine wp_region_lastE (S := (fun W => (W.cell? ⟨w2.heap.size, 0, none⟩ = some (.string n.s) ∧ W.cell? ⟨g, 0, none⟩ = some (.int .i64 1) ∧ W.cell? ⟨g, 1, none⟩ = some (.string n.s) ∧ W.cell? ⟨g, 2, none⟩ = some (.slice n.A n.n n.c) ∧ W.cell? ⟨g, 3, none⟩ = some (.string v.key) ∧ W.cell? ⟨g, 4, none⟩ = some (.slice A us.length d) ∧ W.cell? ⟨g, 5, none⟩ = some (.slice H hs.length hd) ∧ W.cell? ⟨g, 6, none⟩ = some (.slice KA kn kc) ∧ W.cell? ⟨g, 7, none⟩ = some (.string ⟨#[]⟩) ∧ W.cell? ⟨g, 8, none⟩ = some (.slice none 0 0) ∧ W.cell? ⟨g, 9, none⟩ = some (.int .i64 0)))) (Z := (fun _ => false)) (by kernel_rfl) ?_
            obtain ⟨x0, hx0⟩ : ∃ X : World, wm.drew = X := ⟨_, rfl⟩
            have HX0 : Hid (Below wm.heap.size wm x0) := by show Below _ _ _; rw [← hx0]; exact Below.drew (Below.refl _ _)
            rw [hx0] at hS ⊢
            clear hx0
            refine' wpAnyL_take (i := 0) ?hi40 (by kernel_rfl) (by kernel_rfl) (by kernel_rfl) (by kernel_rfl) ?hQ40 ?hy40 hS ?rest40
            case hi40 => simp only [List.getElem?_toArray, List.getElem?_cons_zero]; rfl
            case hQ40 => exact fun _ _ _ h => h
            case hy40 =>
              refine Or.inl ⟨by rfl, ?_⟩
              intro wq hq
              try dsimp only at hq
              try obtain ⟨hq0, hq1, hq2, hq3, hq4, hq5, hq6⟩ := hq
              try obtain ⟨hq0, hq1, hq2, hq3, hq4, hq5⟩ := hq
              try obtain ⟨hq0, hq1, hq2, hq3, hq4⟩ := hq
              try obtain ⟨hq0, hq1, hq2, hq3⟩ := hq
              try obtain ⟨hq0, hq1, hq2⟩ := hq
              try obtain ⟨hq0, hq1⟩ := hq
              go_simp
              try with_reducible rfl
            try simp only [Act.put, List.setIfInBounds_toArray, List.set_cons_zero, List.set_cons_succ]
            refine' wpAnyL_take (i := 1) ?hi41 (by kernel_rfl) (by kernel_rfl) (by kernel_rfl) (by kernel_rfl) ?hQ41 ?hy41 hS ?rest41
            case hi41 => simp only [List.getElem?_toArray, List.getElem?_cons_succ, List.getElem?_cons_zero]; rfl
            case hQ41 => exact fun _ _ _ h => h
            case hy41 =>
              refine Or.inl ⟨by rfl, ?_⟩
              intro wq hq
              try dsimp only at hq
              try obtain ⟨hq0, hq1, hq2, hq3, hq4, hq5, hq6⟩ := hq
              try obtain ⟨hq0, hq1, hq2, hq3, hq4, hq5⟩ := hq
              try obtain ⟨hq0, hq1, hq2, hq3, hq4⟩ := hq
              try obtain ⟨hq0, hq1, hq2, hq3⟩ := hq
              try obtain ⟨hq0, hq1, hq2⟩ := hq
              try obtain ⟨hq0, hq1⟩ := hq
              go_simp
              try with_reducible rfl
            try simp only [Act.put, List.setIfInBounds_toArray, List.set_cons_zero, List.set_cons_succ]
            refine' wpAnyL_take (i := 2) ?hi42 (by kernel_rfl) (by kernel_rfl) (by kernel_rfl) (by kernel_rfl) ?hQ42 ?hy42 hS ?rest42
            case hi42 => simp only [List.getElem?_toArray, List.getElem?_cons_succ, List.getElem?_cons_zero]; rfl
            case hQ42 => exact fun _ _ _ h => h
            case hy42 =>
              refine Or.inl ⟨by rfl, ?_⟩
              intro wq hq
              try dsimp only at hq
              try obtain ⟨hq0, hq1, hq2, hq3, hq4, hq5, hq6⟩ := hq
              try obtain ⟨hq0, hq1, hq2, hq3, hq4, hq5⟩ := hq
              try obtain ⟨hq0, hq1, hq2, hq3, hq4⟩ := hq
              try obtain ⟨hq0, hq1, hq2, hq3⟩ := hq
              try obtain ⟨hq0, hq1, hq2⟩ := hq
              try obtain ⟨hq0, hq1⟩ := hq
              go_simp
              try with_reducible rfl
            try simp only [Act.put, List.setIfInBounds_toArray, List.set_cons_zero, List.set_cons_succ]
            refine wpAnyL_ready (rs := [3]) (by kernel_rfl) (by simp) ?_
            refine' ReadyL.cons ?ho43 (fun K hK => ?step43) ?more43
            case ho43 => simp only [List.getElem?_toArray, List.getElem?_cons_succ, List.getElem?_cons_zero]; rfl
            case step43 =>
              go_simp
              refine (HRW.out x0).mono ?_
              rintro e y1 ⟨rfl, hb⟩
              have HX1 : Hid (Below wm.heap.size wm y1) := below_next HX0.out (Nat.le_refl _) hb
              have hS := HS7.out y1 HX1.out
              refine hK.out _ _ (.inr hS) ?_
              clear hK K hb
              try simp only [Act.put, List.setIfInBounds_toArray, List.set_cons_zero, List.set_cons_succ]
              refine' wpAnyL_take (i := 4) ?hi44 (by kernel_rfl) (by kernel_rfl) (by kernel_rfl) (by kernel_rfl) ?hQ44 ?hy44 hS ?rest44
              case hi44 => simp only [List.getElem?_toArray, List.getElem?_cons_succ, List.getElem?_cons_zero]; rfl
              case hQ44 => exact fun _ _ _ h => h
              case hy44 =>
                refine Or.inl ⟨by rfl, ?_⟩
                intro wq hq
                try dsimp only at hq
                try obtain ⟨hq0, hq1, hq2, hq3, hq4, hq5, hq6⟩ := hq
                try obtain ⟨hq0, hq1, hq2, hq3, hq4, hq5⟩ := hq
                try obtain ⟨hq0, hq1, hq2, hq3, hq4⟩ := hq
                try obtain ⟨hq0, hq1, hq2, hq3⟩ := hq
                try obtain ⟨hq0, hq1, hq2⟩ := hq
                try obtain ⟨hq0, hq1⟩ := hq
                go_simp
                try with_reducible rfl
              try simp only [Act.put, List.setIfInBounds_toArray, List.set_cons_zero, List.set_cons_succ]
              refine' wpAnyL_take (i := 5) ?hi45 (by kernel_rfl) (by kernel_rfl) (by kernel_rfl) (by kernel_rfl) ?hQ45 ?hy45 hS ?rest45
              case hi45 => simp only [List.getElem?_toArray, List.getElem?_cons_succ, List.getElem?_cons_zero]; rfl
              case hQ45 => exact fun _ _ _ h => h
              case hy45 =>
                refine Or.inl ⟨by rfl, ?_⟩
                intro wq hq
                try dsimp only at hq
                try obtain ⟨hq0, hq1, hq2, hq3, hq4, hq5, hq6⟩ := hq
                try obtain ⟨hq0, hq1, hq2, hq3, hq4, hq5⟩ := hq
                try obtain ⟨hq0, hq1, hq2, hq3, hq4⟩ := hq
                try obtain ⟨hq0, hq1, hq2, hq3⟩ := hq
                try obtain ⟨hq0, hq1, hq2⟩ := hq
                try obtain ⟨hq0, hq1⟩ := hq
                go_simp
                try with_reducible rfl
              try simp only [Act.put, List.setIfInBounds_toArray, List.set_cons_zero, List.set_cons_succ]
              refine' wpAnyL_take (i := 6) ?hi46 (by kernel_rfl) (by kernel_rfl) (by kernel_rfl) (by kernel_rfl) ?hQ46 ?hy46 hS ?rest46
              case hi46 => simp only [List.getElem?_toArray, List.getElem?_cons_succ, List.getElem?_cons_zero]; rfl
              case hQ46 => exact fun _ _ _ h => h
              case hy46 =>
                refine Or.inl ⟨by rfl, ?_⟩
                intro wq hq
                try dsimp only at hq
                try obtain ⟨hq0, hq1, hq2, hq3, hq4, hq5, hq6⟩ := hq
                try obtain ⟨hq0, hq1, hq2, hq3, hq4, hq5⟩ := hq
                try obtain ⟨hq0, hq1, hq2, hq3, hq4⟩ := hq
                try obtain ⟨hq0, hq1, hq2, hq3⟩ := hq
                try obtain ⟨hq0, hq1, hq2⟩ := hq
                try obtain ⟨hq0, hq1⟩ := hq
                go_simp
                try with_reducible rfl
              try simp only [Act.put, List.setIfInBounds_toArray, List.set_cons_zero, List.set_cons_succ]
              refine wpAnyL_ready (rs := [7]) (by kernel_rfl) (by simp) ?_
              refine' ReadyL.cons ?ho47 (fun K hK => ?step47) ?more47
              case ho47 => simp only [List.getElem?_toArray, List.getElem?_cons_succ, List.getElem?_cons_zero]; rfl
              case step47 =>
                go_simp
                refine (HHM.out y1 HX1.out).mono ?_
                rintro e y2 ⟨rfl, hb⟩
                have HX2 : Hid (Below wm.heap.size wm y2) := below_next HX1.out (Nat.le_refl _) hb
                have hS := HS7.out y2 HX2.out
                refine hK.out _ _ (.inr hS) ?_
                clear hK K hb
                try simp only [Act.put, List.setIfInBounds_toArray, List.set_cons_zero, List.set_cons_succ]
                refine' wpAnyL_take (i := 8) ?hi48 (by kernel_rfl) (by kernel_rfl) (by kernel_rfl) (by kernel_rfl) ?hQ48 ?hy48 hS ?rest48
                case hi48 => simp only [List.getElem?_toArray, List.getElem?_cons_succ, List.getElem?_cons_zero]; rfl
                case hQ48 => exact fun _ _ _ h => h
                case hy48 =>
                  refine Or.inl ⟨by rfl, ?_⟩
                  intro wq hq
                  try dsimp only at hq
                  try obtain ⟨hq0, hq1, hq2, hq3, hq4, hq5, hq6⟩ := hq
                  try obtain ⟨hq0, hq1, hq2, hq3, hq4, hq5⟩ := hq
                  try obtain ⟨hq0, hq1, hq2, hq3, hq4⟩ := hq
                  try obtain ⟨hq0, hq1, hq2, hq3⟩ := hq
                  try obtain ⟨hq0, hq1, hq2⟩ := hq
                  try obtain ⟨hq0, hq1⟩ := hq
                  go_simp
                  try with_reducible rfl
                try simp only [Act.put, List.setIfInBounds_toArray, List.set_cons_zero, List.set_cons_succ]
                refine wpAnyL_ready (rs := [9]) (by kernel_rfl) (by simp) ?_
                refine' ReadyL.cons ?ho49 (fun K hK => ?step49) ?more49
                case ho49 => simp only [List.getElem?_toArray, List.getElem?_cons_succ, List.getElem?_cons_zero]; rfl
                case step49 =>
                  have yRq : Whole y2 (w.heap.size + 1) 43 #[.int .i64 0, .string ⟨#[]⟩, .slice none 0 0, .string ⟨#[]⟩, .slice none 0 0, .slice none 0 0, .slice none 0 0, .string ⟨#[]⟩, .slice none 0 0, .int .i64 0] := HYR.out.below (below_next HEC.out.bel (Nat.le_refl _) HX2.out) HYR.out.lt
                  have hvp := view_put (below_next HBWM.out (Nat.le_refl _) HX2.out) (Nat.le_succ _) yRq (.int .i64 1) (.string n.s) (.slice n.A n.n n.c) (.string v.key) (.slice A us.length d) (.slice H hs.length hd) (.slice KA kn kc) (.string ⟨#[]⟩) (.slice none 0 0) (.int .i64 0)
                  have r0 : y2.cell? ⟨w.heap.size + 1, 0, none⟩ = some (.int .i64 0) := yRq.at_ 0
                  have r1 : y2.cell? ⟨w.heap.size + 1, 1, none⟩ = some (.string ⟨#[]⟩) := yRq.at_ 1
                  have r2 : y2.cell? ⟨w.heap.size + 1, 2, none⟩ = some (.slice none 0 0) := yRq.at_ 2
                  have r3 : y2.cell? ⟨w.heap.size + 1, 3, none⟩ = some (.string ⟨#[]⟩) := yRq.at_ 3
                  have r4 : y2.cell? ⟨w.heap.size + 1, 4, none⟩ = some (.slice none 0 0) := yRq.at_ 4
                  have r5 : y2.cell? ⟨w.heap.size + 1, 5, none⟩ = some (.slice none 0 0) := yRq.at_ 5
                  have r6 : y2.cell? ⟨w.heap.size + 1, 6, none⟩ = some (.slice none 0 0) := yRq.at_ 6
                  have r7 : y2.cell? ⟨w.heap.size + 1, 7, none⟩ = some (.string ⟨#[]⟩) := yRq.at_ 7
                  have r8 : y2.cell? ⟨w.heap.size + 1, 8, none⟩ = some (.slice none 0 0) := yRq.at_ 8
                  have r9 : y2.cell? ⟨w.heap.size + 1, 9, none⟩ = some (.int .i64 0) := yRq.at_ 9
                  have f0 := yRq.free 0
                  have f1 := yRq.free 1
                  have f2 := yRq.free 2
                  have f3 := yRq.free 3
                  have f4 := yRq.free 4
                  have f5 := yRq.free 5
                  have f6 := yRq.free 6
                  have f7 := yRq.free 7
                  have f8 := yRq.free 8
                  have f9 := yRq.free 9
                  go_simp
                  have hz9 : y2.heap.size ≤ ((((((((((y2.setCell ⟨w.heap.size + 1, 0, none⟩ (.int .i64 1)).setCell ⟨w.heap.size + 1, 1, none⟩ (.string n.s)).setCell ⟨w.heap.size + 1, 2, none⟩ (.slice n.A n.n n.c)).setCell ⟨w.heap.size + 1, 3, none⟩ (.string v.key)).setCell ⟨w.heap.size + 1, 4, none⟩ (.slice A us.length d)).setCell ⟨w.heap.size + 1, 5, none⟩ (.slice H hs.length hd)).setCell ⟨w.heap.size + 1, 6, none⟩ (.slice KA kn kc)).setCell ⟨w.heap.size + 1, 7, none⟩ (.string ⟨#[]⟩)).setCell ⟨w.heap.size + 1, 8, none⟩ (.slice none 0 0)).setCell ⟨w.heap.size + 1, 9, none⟩ (.int .i64 0)).heap.size := by simp only [World.size_setCell]; exact Nat.le_refl _
                  generalize hw9 : (((((((((y2.setCell ⟨w.heap.size + 1, 0, none⟩ (.int .i64 1)).setCell ⟨w.heap.size + 1, 1, none⟩ (.string n.s)).setCell ⟨w.heap.size + 1, 2, none⟩ (.slice n.A n.n n.c)).setCell ⟨w.heap.size + 1, 3, none⟩ (.string v.key)).setCell ⟨w.heap.size + 1, 4, none⟩ (.slice A us.length d)).setCell ⟨w.heap.size + 1, 5, none⟩ (.slice H hs.length hd)).setCell ⟨w.heap.size + 1, 6, none⟩ (.slice KA kn kc)).setCell ⟨w.heap.size + 1, 7, none⟩ (.string ⟨#[]⟩)).setCell ⟨w.heap.size + 1, 8, none⟩ (.slice none 0 0)).setCell ⟨w.heap.size + 1, 9, none⟩ (.int .i64 0) = w9 at *
                  have HE9 := Lib.hid (HEND.out y2 w9 HX2.out ⟨hvp.1, hvp.2.2⟩ hz9 bh (by simp))
                  have hS9 : (w9.cell? ⟨w2.heap.size, 0, none⟩ = some (.string n.s) ∧ w9.cell? ⟨g, 0, none⟩ = some (.int .i64 1) ∧ w9.cell? ⟨g, 1, none⟩ = some (.string n.s) ∧ w9.cell? ⟨g, 2, none⟩ = some (.slice n.A n.n n.c) ∧ w9.cell? ⟨g, 3, none⟩ = some (.string v.key) ∧ w9.cell? ⟨g, 4, none⟩ = some (.slice A us.length d) ∧ w9.cell? ⟨g, 5, none⟩ = some (.slice H hs.length hd) ∧ w9.cell? ⟨g, 6, none⟩ = some (.slice KA kn kc) ∧ w9.cell? ⟨g, 7, none⟩ = some (.string ⟨#[]⟩) ∧ w9.cell? ⟨g, 8, none⟩ = some (.slice none 0 0) ∧ w9.cell? ⟨g, 9, none⟩ = some (.int .i64 0)) := by
                    have ya : Whole w9 w2.heap.size 28 #[.string n.s, .slice n.A n.n n.c] := (hvp.2.2 _ (by have h1 := HYR.out.lt; have h2 := HB2.out.size; omega)).trans (HYC.out.below HX2.out HYC.out.lt)
                    have yb : Whole w9 g 43 (elX n v.key A us.length d H hs.length hd KA kn kc) := (hvp.2.2 _ (by have h1 := HYR.out.lt; have h2 := HEC.out.ge; omega)).trans (HEC.out.blk.below HX2.out HEC.out.blk.lt)
                    unfold elX at yb
                    exact ⟨ya.at_ 0, yb.at_ 0, yb.at_ 1, yb.at_ 2, yb.at_ 3, yb.at_ 4, yb.at_ 5, yb.at_ 6, yb.at_ 7, yb.at_ 8, yb.at_ 9⟩
                  have yq := hvp.2.1
                  have q0 : w9.cell? ⟨w.heap.size + 1, 0, none⟩ = some (.int .i64 1) := yq.at_ 0
                  have q1 : w9.cell? ⟨w.heap.size + 1, 1, none⟩ = some (.string n.s) := yq.at_ 1
                  have q2 : w9.cell? ⟨w.heap.size + 1, 2, none⟩ = some (.slice n.A n.n n.c) := yq.at_ 2
                  have q3 : w9.cell? ⟨w.heap.size + 1, 3, none⟩ = some (.string v.key) := yq.at_ 3
                  have q4 : w9.cell? ⟨w.heap.size + 1, 4, none⟩ = some (.slice A us.length d) := yq.at_ 4
                  have q5 : w9.cell? ⟨w.heap.size + 1, 5, none⟩ = some (.slice H hs.length hd) := yq.at_ 5
                  have q6 : w9.cell? ⟨w.heap.size + 1, 6, none⟩ = some (.slice KA kn kc) := yq.at_ 6
                  have q7 : w9.cell? ⟨w.heap.size + 1, 7, none⟩ = some (.string ⟨#[]⟩) := yq.at_ 7
                  have q8 : w9.cell? ⟨w.heap.size + 1, 8, none⟩ = some (.slice none 0 0) := yq.at_ 8
                  have q9 : w9.cell? ⟨w.heap.size + 1, 9, none⟩ = some (.int .i64 0) := yq.at_ 9
                  refine hK.out _ w9 (.inr hS9) ?_
                  have hS := hS9
                  clear hK K hw9 hvp yq yRq hz9 r0 f0 r1 f1 r2 f2 r3 f3 r4 f4 r5 f5 r6 f6 r7 f7 r8 f8 r9 f9
                  try simp only [Act.put, List.setIfInBounds_toArray, List.set_cons_zero, List.set_cons_succ]
                  refine wpAnyL_ready (rs := [10]) (by kernel_rfl) (by simp) ?_
                  refine' ReadyL.cons ?ho50 (fun K hK => ?step50) ?more50
                  case ho50 => simp only [List.getElem?_toArray, List.getElem?_cons_succ, List.getElem?_cons_zero]; rfl
                  case step50 =>
                    go_simp
                    refine hK.out _ _ (.inr hS) ?_
                    clear hK K
                    try simp only [Act.put, List.setIfInBounds_toArray, List.set_cons_zero, List.set_cons_succ]
                    refine wpAnyL_done (by kernel_rfl) ?_ _
                    clear hS9 hS
                    go_wp2_with fail
                    refine bodyPost_ret (v := .tuple #[.agg #[.int .i64 1, .string n.s, .slice n.A n.n n.c, .string v.key, .slice A us.length d, .slice H hs.length hd, .slice KA kn kc, .string ⟨#[]⟩, .slice none 0 0, .int .i64 0], .bool bh]) ?_ rfl ?_
                    · simp [results, Tryz.results58, go_sem, q0, q1, q2, q3, q4, q5, q6, q7, q8, q9]
                    · exact HE9.out
                  exact ReadyL.nil
                exact ReadyL.nil
              exact ReadyL.nil
            exact ReadyL.nil

end Go.Proofs.YtnbdldapmllegaaGreat.mk
