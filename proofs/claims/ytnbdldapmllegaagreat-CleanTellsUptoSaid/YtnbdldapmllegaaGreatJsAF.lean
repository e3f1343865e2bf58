/-
  Contracts of attrs' same, and of what tells what has to be put.
-/
import Derived.Test.YtnbdldapmllegaaGreatJsAB
import Derived.Maps.OwnOps
import Derived.Maps.Views
import Derived.Test.YtnbdldapmllegaaGreatJsW
namespace Go.Proofs.YtnbdldapmllegaaGreat.mk
open Go.RowKit Go.Maps

theorem strLaw : Keyed Tryz.prog 9 := string_keyed Tryz.underlying9
theorem zeroI (w : World) : (zeroValue 3).run Tryz.prog w = .ok (.int .i64 0) w := by kernel_rfl
/-- block b is a map of at most n texts that tells f -/
def MapF (w : World) (b n : Nat) (f : List UInt8 → Int) : Prop :=
  ∃ D : DataW Unit, w.ownsMap Tryz.prog 9 (plainElem Tryz.prog 3) b n D ∧ ∀ s : List UInt8, D.atKey (.string s) (.lit (.int .i64 0)) = .lit (.int .i64 (f s))
def upd (f : List UInt8 → Int) (s : List UInt8) (x : Int) : List UInt8 → Int := fun t => if t = s then x else f t
theorem MapF.same {w w' : World} {b n : Nat} {f : List UInt8 → Int} (h : MapF w b n f) (e : w'.heap[b]? = w.heap[b]?) : MapF w' b n f := by
  obtain ⟨D, ⟨es, clock, hb, r⟩, h2⟩ := h
  exact ⟨D, ⟨es, clock, e.trans hb, r⟩, h2⟩
theorem MapF.lt {w : World} {b n : Nat} {f : List UInt8 → Int} (h : MapF w b n f) : b < w.heap.size := by obtain ⟨D, h1, _⟩ := h; exact h1.lt
theorem MapF.below {w w' : World} {b n : Nat} {f : List UInt8 → Int} (h : MapF w b n f) (hb : Below w.heap.size w w') : MapF w' b n f := h.same (hb.block b h.lt)
theorem MapF.made (w : World) : MapF (w.alloc (.map #[] 0)) w.heap.size 0 (fun _ => 0) := ⟨_, World.ownsMap_made w _ _ _, fun _ => rfl⟩
theorem MapF.put {w w' : World} {b n m : Nat} {f : List UInt8 → Int} {D : DataW Unit} {s : List UInt8} {x : Int} (h : w.ownsMap Tryz.prog 9 (plainElem Tryz.prog 3) b n D) (h2 : ∀ s : List UInt8, D.atKey (.string s) (.lit (.int .i64 0)) = .lit (.int .i64 (f s)))
    (h3 : w'.ownsMap Tryz.prog 9 (plainElem Tryz.prog 3) b m (D.put (.string s) (.lit (.int .i64 x)))) : MapF w' b m (upd f s x) := by
  refine ⟨_, h3, fun t => ?_⟩
  have hD : IsMap D := by obtain ⟨es, clock, _, _, _, e⟩ := h; exact ⟨_, e⟩
  unfold upd
  by_cases ht : t = s
  · subst ht
    rw [if_pos rfl]
    exact atKey_put_same hD (by trivial) _ _
  · rw [if_neg ht, atKey_put_other (by intro e; injection e with e; exact ht e)]
    exact h2 t

/-- how many of the first so many have a name -/
def cntN (L : List PA) (k : Nat) (nm : List UInt8) : Int := (((L.take k).filter fun p => nmB p == nm).length : Nat)
theorem cntN_next {L : List PA} {k : Nat} {x : PA} (h : L[k]? = some x) : cntN L (k + 1) = upd (cntN L k) (nmB x) (cntN L k (nmB x) + 1) := by
  funext nm
  unfold upd cntN
  rw [take_next h, List.filter_append, List.length_append]
  by_cases hn : nm = nmB x
  · subst hn
    rw [if_pos rfl]
    simp
  · rw [if_neg hn]
    have : (nmB x == nm) = false := beq_eq_false_iff_ne.2 (Ne.symm hn)
    simp [this]
theorem cntN_le (L : List PA) (k : Nat) (nm : List UInt8) : 0 ≤ cntN L k nm ∧ cntN L k nm ≤ k := by
  unfold cntN
  have h1 := List.length_filter_le (fun p => nmB p == nm) (L.take k)
  have h2 := List.length_take_le k L
  omega
theorem cntN_once {L : List PA} {k : Nat} {x : PA} (h : L[k]? = some x) : (cntN L k (nmB x) == 0) = onceP L k := by
  have e : onceP L k = (placeN L (nmB x) == k) := isI_at (f := fun p => placeN L (nmB p) == k) h
  rw [e, Bool.eq_iff_iff, beq_iff_eq, beq_iff_eq]
  unfold cntN
  constructor
  · intro h0
    have h0 : ((L.take k).filter fun p => nmB p == nmB x).length = 0 := by omega
    have h1 := List.eq_nil_of_length_eq_zero h0
    rw [List.filter_eq_nil_iff] at h1
    refine placeN_of h rfl fun j q hj hq hn => ?_
    have hm : q ∈ L.take k := List.mem_of_getElem? (i := j) (by rw [List.getElem?_take, if_pos hj]; exact hq)
    exact h1 q hm (beq_iff_eq.2 hn)
  · intro h0
    have : (L.take k).filter (fun p => nmB p == nmB x) = [] := by
      rw [List.filter_eq_nil_iff]
      intro q hq hn
      obtain ⟨j, hj⟩ := List.mem_iff_getElem?.1 hq
      rw [List.getElem?_take] at hj
      split at hj
      · exact placeN_lt (by omega) hj (beq_iff_eq.1 hn)
      · cases hj
    rw [this]
    rfl

set_option maxHeartbeats 1000000 in
set_option maxRecDepth 100000 in
theorem fresh_any (w : World) :
    Calls Tryz.prog 34 #[] w fun e w' => e = .returned (.func (.func 62) #[] #[.pointer (some ⟨w.heap.size + 1, 0, none⟩)]) ∧ Whole w' (w.heap.size + 1) 96 #[.map (some w.heap.size)] ∧ MapF w' w.heap.size 0 (fun _ => 0) ∧ Below w.heap.size w w' := by
  have hmm := @run_makeMap Tryz.prog
  go_enter Tryz.func34, Tryz.ntmps34
  go_wp2
  go_ret
  refine ⟨rfl, ?_, (MapF.made w).below ((Below.refl _ _).alloc (Nat.le_refl _) _), ((Below.refl _ _).alloc (Nat.le_refl _) _).alloc (by simp) _⟩
  have h := Whole.made (w.alloc (.map #[] 0)) 96 #[.map (some w.heap.size)]
  simp only [World.size_alloc] at h
  exact h

set_option maxHeartbeats 1000000 in
set_option maxRecDepth 100000 in
theorem freshF_any (a : AT) (g b n : Nat) (f : List UInt8 → Int) (w : World) (hc : w.cell? ⟨g, 0, none⟩ = some (.map (some b))) (hgb : g ≠ b) (hM : MapF w b n f) (hf : 0 ≤ f a.nm.bs ∧ f a.nm.bs ≤ 4294967296) (hn : n ≤ 4294967296) (ha : a.nm.s.size ≤ 4294967296) :
    Calls Tryz.prog 62 #[.agg #[.string a.nm.s, .slice a.nm.A a.nm.n a.nm.c, .string a.vl.s, .slice a.vl.A a.vl.n a.vl.c], .pointer (some ⟨g, 0, none⟩)] w fun e w' => e = .returned (.bool (f a.nm.bs == 0)) ∧ MapF w' b (n + 1) (upd f a.nm.bs (f a.nm.bs + 1)) ∧ Moved (· = b) w w' := by
  have hg := World.block_lt_of_cell? w _ hc
  have hkey : keyOf Tryz.prog 9 (.string a.nm.s) = some (.string a.nm.bs) := WideMaps.keyOf_string_mk Tryz.underlying9 (by simp only [maxLen]; omega)
  have hb0 : Below w.heap.size w (w.alloc (.cells #[.string a.nm.s, .slice a.nm.A a.nm.n a.nm.c, .string a.vl.s, .slice a.vl.A a.vl.n a.vl.c] 30)) := (Below.refl _ _).alloc (Nat.le_refl _) _
  have y0 := Whole.made w 30 #[.string a.nm.s, .slice a.nm.A a.nm.n a.nm.c, .string a.vl.s, .slice a.vl.A a.vl.n a.vl.c]
  have c1 := (hb0.cell hg).trans hc
  have hM0 := hM.below hb0
  have hbl := hM.lt
  obtain ⟨D, hown, hD⟩ := hM0
  generalize hs : a.nm.bs = s at *
  obtain ⟨x, hx⟩ : ∃ x, f s = x := ⟨_, rfl⟩
  have HX := Lib.hid hx
  rw [hx] at hf ⊢
  clear hx hc
  have K2 : ∀ w1, (w.alloc (.cells #[.string a.nm.s, .slice a.nm.A a.nm.n a.nm.c, .string a.vl.s, .slice a.vl.A a.vl.n a.vl.c] 30)).grownBy w1 (some b) → w1.cell? ⟨g, 0, none⟩ = (w.alloc (.cells #[.string a.nm.s, .slice a.nm.A a.nm.n a.nm.c, .string a.vl.s, .slice a.vl.A a.vl.n a.vl.c] 30)).cell? ⟨g, 0, none⟩ := by
    intro w1 h
    unfold World.cell?
    rw [h.block g (Nat.lt_of_lt_of_le hg hb0.size) (by intro e; injection e with e; exact hgb e)]
  go_enter Tryz.func62, Tryz.ntmps62
  go_wp2_with (first
    | (at_lookup; refine wpList_lookup_own_int _ rfl _ _ 96 rfl 9 3 .i64 strLaw Tryz.underlying96 Tryz.underlying3 (zeroI _) b _ _ rfl hown _ _ rfl hkey ?_; intro c hat hwc; have hce := (hD s).symm.trans hat; injection hce with hce; injection hce with _ hce; rw [HX.out] at hce; subst hce; clear hat)
    | (at_mapUpdate; refine wpList_mapUpdate_own _ rfl _ _ _ 96 rfl 9 3 strLaw Tryz.underlying96 _ b n _ rfl hown (by simp only [maxLen]; omega) _ _ _ rfl rfl hkey _ [] (plainElem_int Tryz.underlying3 (WalkArith.wf_i64 (by omega))) ?_; intro w1 hown1 hgrow1; have hz1 := hgrow1.size; have y1 := y0.grown hgrow1 (by intro e; injection e with e; omega); have d0 := y1.at_ 0; have d1 := (K2 w1 hgrow1).trans c1; have hM1 := MapF.put hown hD hown1; clear hown; obtain ⟨D1, hown2, hD1⟩ := hM1)
    | (at_lookup; refine wpList_lookup_own_int _ rfl _ _ 96 rfl 9 3 .i64 strLaw Tryz.underlying96 Tryz.underlying3 (zeroI _) b _ _ rfl hown2 _ _ rfl hkey ?_; intro c hat hwc; have hce := (hD1 s).symm.trans hat; injection hce with hce; injection hce with _ hce; unfold upd at hce; rw [if_pos rfl] at hce; subst hce; clear hat)
    | fail)
  go_ret
  refine ⟨ret_bool ?_, ⟨D1, hown2, by rw [HX.out] at *; exact hD1⟩, ?_⟩
  · rw [Bool.eq_iff_iff]; simp; omega
  · exact ⟨hgrow1.os, hgrow1.tape, hgrow1.output, Nat.le_trans hb0.size hz1, fun k hk hs => (hgrow1.block k (by have := hb0.size; omega) (by intro e; injection e with e; exact hs e)).trans (hb0.block k hk)⟩

theorem map_ne_cells {w : World} {b n g : Nat} {f : List UInt8 → Int} {t : TypeId} {cs : Array Value} (hM : MapF w b n f) (hW : Whole w g t cs) : g ≠ b := by
  rintro rfl
  obtain ⟨D, ⟨es, clock, hb, _⟩, _⟩ := hM
  unfold Whole at hW
  rw [hb] at hW
  cases hW

end Go.Proofs.YtnbdldapmllegaaGreat.mk

namespace Go.Proofs.YtnbdldapmllegaaGreat.mk
open Go.RowKit Go.Maps

end Go.Proofs.YtnbdldapmllegaaGreat.mk
