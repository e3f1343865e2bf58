/-
  The statements' own plain looks: lists of texts, and trees, that are one.
-/
import Derived.Test.YtddgabjhligeeaaGreatJtAC
import Derived.Laws.EntriesVeiled
import Derived.Test.YtddgabjhligeeaaGreatJtX
import Derived.Test.YtddgabjhligeeaaGreatJtY
namespace Go.Proofs.YtddgabjhligeeaaGreat.mk
open Go.RowKit Go.Maps

theorem KeptPost.tells {S : Nat → Prop} {I : World → Prop} {qs : List PA} {w w0 w' : World} {e : Ending} (h : KeptPost S I qs w0 e w') (hb : Below w.heap.size w w0) (hS : ∀ g, S g → w.heap.size ≤ g) : TellsA qs w e w' := by
  obtain ⟨A, c, ts, h1, h2, h3, h4, h5, _⟩ := h
  exact ⟨A, c, ts, h1, own_mono h2 hb.size, h3.mono hb.size, h4, hb.trans (h5.below hb.size (fun k hk hs => by have := hS k hs; omega))⟩

set_option maxHeartbeats 1000000 in
set_option maxRecDepth 100000 in
theorem once_any (A : Option Addr) (n c : Nat) (ts : List AT) (w : World) (hl : Lies w w.heap.size A (atCells ts)) (hok : AllOk w w.heap.size ts) (hn : ts.length = n) (hn2 : n ≤ 4294967295) :
    Calls Tryz.prog 131 #[.slice A n c] w (TellsA (onceA (ts.map AT.ch)) w) := by
  have HN := Lib.hid hn
  have HL := Lib.hid hl
  have HOK := Lib.hid hok
  clear hn hl hok
  go_enter Tryz.func131, Tryz.ntmps131
  go_wp2_with fail
  refine (fresh_any w).mono ?_
  rintro e w1 ⟨rfl, y1, hM1, hb1⟩
  have hz1 := y1.lt
  have hne := map_ne_cells hM1 y1
  go_wp2_with fail
  refine (kept_any 178 #[.pointer (some ⟨w.heap.size + 1, 0, none⟩)] (· = w.heap.size) (fun k w' => (w'.cell? ⟨w.heap.size + 1, 0, none⟩ = some (.map (some w.heap.size)) ∧ w1.heap.size ≤ w'.heap.size) ∧ MapF w' w.heap.size k (cntN (ts.map AT.ch) k)) (onceP (ts.map AT.ch)) w.heap.size A n c ts w1 (HL.out.below hb1) (HOK.out.keep (fun _ hp => hb1.cell hp)) HN.out (by omega) (fun _ _ => rfl) (by omega) (fun g h => by omega) (fun _ w' w'' h hb => ⟨⟨(hb.cell hz1).trans h.1.1, Nat.le_trans h.1.2 hb.size⟩, h.2.same (hb.block _ (by omega))⟩) ⟨⟨y1.at_ 0, Nat.le_refl _⟩, hM1⟩ ?_).mono ?_
  · intro k t w' ht hI hto hz
    have hkn : k < n := by rw [← HN.out]; exact (List.getElem?_eq_some_iff.1 ht).1
    have hcl := cntN_le (ts.map AT.ch) k t.nm.bs
    refine (freshF_any t (w.heap.size + 1) w.heap.size k (cntN (ts.map AT.ch) k) w' hI.1.1 (by omega) hI.2 ⟨hcl.1, by omega⟩ (by omega) hto.1.2.2.2).mono ?_
    rintro e w'' ⟨rfl, hM, hmv⟩
    have hct := cntN_once (chs_at ht)
    have hcx := cntN_next (chs_at ht)
    rw [AT.nmB] at hct hcx
    refine ⟨by rw [hct], ⟨⟨(hmv.cell (World.block_lt_of_cell? w' _ hI.1.1) (by show ¬ (w.heap.size + 1 = w.heap.size); omega)).trans hI.1.1, Nat.le_trans hz hmv.size⟩, by rw [hcx]; exact hM⟩, hmv⟩
  · intro e w3 h
    obtain ⟨A3, c3, us, rfl, h2, h3, h4, h5⟩ := h.tells hb1 (fun g h => by omega)
    have H2 := Lib.hid h2
    have H3 := Lib.hid h3
    clear h2 h3 h
    go_wp2
    go_ret
    exact ⟨A3, c3, us, rfl, H2.out, H3.out, h4, h5⟩

end Go.Proofs.YtddgabjhligeeaaGreat.mk

namespace Go.Proofs.YtddgabjhligeeaaGreat.mk
open Go.RowKit Go.Maps

theorem atCells_set (ts : List AT) (k : Nat) (t : AT) (hk : k < ts.length) :
    ((((atCells ts).set (k * 4) (.string t.nm.s)).set (k * 4 + 1) (.slice t.nm.A t.nm.n t.nm.c)).set (k * 4 + 2) (.string t.vl.s)).set (k * 4 + 3) (.slice t.vl.A t.vl.n t.vl.c) = atCells (ts.set k t) := by
  have e : ts = ts.take k ++ ts[k] :: ts.drop (k + 1) := by rw [List.getElem_cons_drop, List.take_append_drop]
  have hl : (atCells (ts.take k)).length = k * 4 := by rw [atCells_length, List.length_take]; congr 1; omega
  generalize ts[k] = x at e
  have e2 : ts.set k t = ts.take k ++ t :: ts.drop (k + 1) := by
    conv => lhs; rw [e]
    rw [List.set_append_right _ _ (by rw [List.length_take]; omega), List.length_take]
    have : k - min k ts.length = 0 := by omega
    rw [this]
    rfl
  rw [e2]
  conv => lhs; rw [e]
  generalize ts.take k = p at *
  generalize ts.drop (k + 1) = q at *
  have h1 : ∀ y : AT, atCells (p ++ y :: q) = atCells p ++ (atRow y ++ atCells q) := fun y => by simp [atCells]
  rw [h1, h1]
  rw [List.set_append_right _ _ (by omega), hl, Nat.sub_self]
  rw [List.set_append_right _ _ (by omega), hl, show k * 4 + 1 - k * 4 = 1 by omega]
  rw [List.set_append_right _ _ (by omega), hl, show k * 4 + 2 - k * 4 = 2 by omega]
  rw [List.set_append_right _ _ (by omega), hl, show k * 4 + 3 - k * 4 = 3 by omega]
  rfl
theorem AllOwn.stored {w : World} {base base' n cap g j : Nat} {xs : List Value} {ts : List AT} (h : AllOwn w base ts) (ho : w.ownsRow base' 93 4 (.slice (some ⟨g, 0, none⟩) n cap) n xs) (u : Value) : AllOwn (w.setCell ⟨g, j, none⟩ u) base ts :=
  fun t ht => (h t ht).grown ho (by decide) (ho.stored j u).2
/-- an attribute in place of another in a row of the call's own -/
theorem put_stored {w : World} {base n cap g k : Nat} {ts : List AT} {t : AT} (ho : w.ownsRow base 93 4 (.slice (some ⟨g, 0, none⟩) n cap) n (atCells ts)) (hA : AllOwn w base ts) (ht : OwnA w base t) (hk : k < ts.length) (hn : ts.length = n) :
    let w' := (((w.setCell ⟨g, k * 4, none⟩ (.string t.nm.s)).setCell ⟨g, k * 4 + 1, none⟩ (.slice t.nm.A t.nm.n t.nm.c)).setCell ⟨g, k * 4 + 2, none⟩ (.string t.vl.s)).setCell ⟨g, k * 4 + 3, none⟩ (.slice t.vl.A t.vl.n t.vl.c)
    w'.ownsRow base 93 4 (.slice (some ⟨g, 0, none⟩) (ts.set k t).length cap) (ts.set k t).length (atCells (ts.set k t)) ∧ AllOwn w' base (ts.set k t) ∧ Below base w w' := by
  intro w'
  have o1 := (ho.stored (k * 4) (.string t.nm.s)).1
  have o2 := (o1.stored (k * 4 + 1) (.slice t.nm.A t.nm.n t.nm.c)).1
  have o3 := (o2.stored (k * 4 + 2) (.string t.vl.s)).1
  have o4 := (o3.stored (k * 4 + 3) (.slice t.vl.A t.vl.n t.vl.c)).1
  have hS : AllOwn w base (ts ++ [t]) := hA.snoc ht
  have hS4 := (((hS.stored (j := k * 4) ho (.string t.nm.s)).stored (j := k * 4 + 1) o1 (.slice t.nm.A t.nm.n t.nm.c)).stored (j := k * 4 + 2) o2 (.string t.vl.s)).stored (j := k * 4 + 3) o3 (.slice t.vl.A t.vl.n t.vl.c)
  have hg : base ≤ g := (ho.lt g rfl).1
  refine ⟨?_, fun x hx => hS4 x ?_, ?_⟩
  · rw [List.length_set, hn, ← atCells_set ts k t hk]
    exact o4
  · rcases List.mem_or_eq_of_mem_set hx with h | h
    · exact List.mem_append_left _ h
    · rw [h]; exact List.mem_append_right _ (by simp)
  · exact ((((Below.refl base w).setCell (p := ⟨g, k * 4, none⟩) hg _).setCell (p := ⟨g, k * 4 + 1, none⟩) hg _).setCell (p := ⟨g, k * 4 + 2, none⟩) hg _).setCell (p := ⟨g, k * 4 + 3, none⟩) hg _

end Go.Proofs.YtddgabjhligeeaaGreat.mk

namespace Go.Proofs.YtddgabjhligeeaaGreat.mk
open Go.RowKit Go.Maps

end Go.Proofs.YtddgabjhligeeaaGreat.mk

namespace Go.Proofs.YtddgabjhligeeaaGreat.mk
open Go.RowKit Go.Maps

end Go.Proofs.YtddgabjhligeeaaGreat.mk

namespace Go.Proofs.YtddgabjhligeeaaGreat.mk
open Go.RowKit

theorem voidB_of (s : ByteArray) : voidB s.data.toList = (s.toList == [98, 114] || (s.toList == [104, 114] || s.toList == [105, 109, 103])) := by rw [ByteArray.toList_eq]; rfl

set_option maxHeartbeats 400000 in
theorem bldVoid_any (s : ByteArray) (w : World) :
    Calls Tryz.prog 142 #[.string s] w fun e w' => e = .returned (.bool (voidB s.data.toList)) ∧ w = w' := by
  have HR := Lib.hid (voidB_of s)
  cases h1 : s.toList == [98, 114] with
  | true =>
    rw [h1] at HR
    go_enter Tryz.func142, Tryz.ntmps142
    go_wp2
    go_ret
    exact ⟨ret_bool (by rw [HR.out]; rfl), rfl⟩
  | false =>
    cases h2 : s.toList == [104, 114] with
    | true =>
      rw [h1, h2] at HR
      go_enter Tryz.func142, Tryz.ntmps142
      go_wp2
      go_ret
      exact ⟨ret_bool (by rw [HR.out]; rfl), rfl⟩
    | false =>
      rw [h1, h2] at HR
      go_enter Tryz.func142, Tryz.ntmps142
      go_wp2
      go_ret
      exact ⟨ret_bool (by rw [HR.out]; rfl), rfl⟩

end Go.Proofs.YtddgabjhligeeaaGreat.mk

namespace Go.Proofs.YtddgabjhligeeaaGreat.mk
open Go.RowKit

theorem ofT_told (s : ByteArray) (o : Int) (A : Option Addr) (c : Nat) : LT.told ⟨s, A, (comp (List.replicate s.size (nearO o))).length, c, comp (List.replicate s.size (nearO o))⟩ := by
  have hl : (s.data.toList.map fun b => (b, nearO o)).map (·.2) = List.replicate s.size (nearO o) := by
    rw [List.map_map, List.eq_replicate_iff]
    refine ⟨by rw [List.length_map, Array.length_toList]; rfl, fun x hx => ?_⟩
    obtain ⟨b, _, rfl⟩ := List.mem_map.1 hx
    rfl
  have hi : InR (s.data.toList.map fun b => (b, nearO o)) := by
    intro x hx
    rw [hl] at hx
    rw [(List.mem_replicate.1 hx).2]
    exact ⟨nearO_lo _, nearO_hi _⟩
  have hf : (txtOf (s.data.toList.map fun b => (b, nearO o))).data.toList = s.data.toList := by
    show (((s.data.toList.map fun b => (b, nearO o)).map (·.1)).toArray).toList = _
    rw [List.map_map]
    show ((s.data.toList.map fun b => b).toArray).toList = _
    rw [List.map_id']
  have h := txtOf_chars hi
  rw [hf, hl] at h
  show comp (List.replicate s.size (nearO o)) = comp ((chars s.data.toList (comp (List.replicate s.size (nearO o)))).map (·.2))
  rw [h, hl]
theorem lies_wholeA {W : World} {g : Nat} {t : TypeId} {cs : Array Value} {l : List Value} (h : Whole W g t cs) (hl : cs.toList = l) : Lies W W.heap.size (some ⟨g, 0, none⟩) l := by
  intro j u hu
  refine ⟨_, rfl, h.lt, ?_⟩
  subst hl
  have h1 := h.at_ j
  rw [← Array.getElem?_toList, hu] at h1
  have e : (⟨g, 0, none⟩ : Addr).add j = ⟨g, j, none⟩ := by
    cases j with
    | zero => rfl
    | succ j => simp [Addr.add]
  rw [e]; exact h1

end Go.Proofs.YtddgabjhligeeaaGreat.mk

namespace Go.Proofs.YtddgabjhligeeaaGreat.mk
open Go.RowKit

def UpTo (n : Nat) (w0 : World) (i : Value) (wr : World) : Prop := ∃ k : Nat, k ≤ n ∧ i = .int .i64 (k : Int) ∧ Below w0.heap.size w0 wr

/-- what trees of the same bytes and origins are in each part -/
theorem chL_both {ts us : List TT} (h : chL ts = chL us) {k : Nat} {x y : TT} (hx : ts[k]? = some x) (hy : us[k]? = some y) : x.tag.ch = y.tag.ch ∧ x.atts.map AT.ch = y.atts.map AT.ch ∧ chL x.kids = chL y.kids ∧ x.text.ch = y.text.ch := by
  have h1 := chL_at hx
  rw [h, chL_at hy] at h1
  injection h1 with h1
  rw [TT.ch_eq, TT.ch_eq] at h1
  injection h1 with h1 h2 h3 h4
  exact ⟨h1.symm, h2.symm, h3.symm, h4.symm⟩

set_option maxHeartbeats 4000000 in
set_option maxRecDepth 100000 in
theorem trees_true : ∀ (Q : List PT) (A : Option Addr) (n c : Nat) (ts : List TT) (B : Option Addr) (d : Nat) (us : List TT) (w : World), chL ts = Q → chL us = Q → Lies w w.heap.size A (treeCells ts) → AllS (fun _ => True) w ts → ts.length = n → n ≤ 1048576 →
    Lies w w.heap.size B (treeCells us) → AllS (fun _ => True) w us →
    Calls Tryz.prog 14 #[.slice A n c, .slice B n d] w fun e w' => e = .returned (.bool true) ∧ Below w.heap.size w w' := by
  apply PT.ind
  intro Q IH A n c ts B d us w hq1 hq2 hl hok hn hn2 hl' hok'
  have HN := Lib.hid hn
  have HM : Hid (us.length = n) := by show _ = _; rw [← chL_length, hq2, ← hq1, chL_length]; exact hn
  have HL := Lib.hid hl
  have HL' := Lib.hid hl'
  have HOK := Lib.hid hok
  have HOK' := Lib.hid hok'
  have HQ := Lib.hid (hq1.trans hq2.symm)
  have HIH : Hid (∀ t ∈ ts, ∀ (A : Option Addr) (n c : Nat) (B : Option Addr) (d : Nat) (us : List TT) (w : World), chL us = chL t.kids → Lies w w.heap.size A (treeCells t.kids) → AllS (fun _ => True) w t.kids → t.kids.length = n → n ≤ 1048576 →
      Lies w w.heap.size B (treeCells us) → AllS (fun _ => True) w us →
      Calls Tryz.prog 14 #[.slice A n c, .slice B n d] w fun e w' => e = .returned (.bool true) ∧ Below w.heap.size w w') := by
    intro t ht A n c B d us w h1 h2 h3 h4 h5 h6 h7
    refine IH t.ch (by rw [← hq1, chL_map]; exact List.mem_map.2 ⟨t, ht, rfl⟩) A n c t.kids B d us w (TT.ch_kids t).symm (by rw [h1, TT.ch_kids]) h2 h3 h4 h5 h6 h7
  clear hn hl hl' hok hok' hq1 hq2 IH
  go_enter Tryz.func14, Tryz.ntmps14
  go_wp2_with fail
  go_loopw [5] (UpTo n w) (fun i _ => n - (intOf i).toNat)
  case atStart => exact ⟨0, Nat.zero_le _, rfl, Below.refl _ _⟩
  case round =>
    obtain ⟨k, hk, rfl, hb⟩ := hrel
    by_cases hlt : k < n
    · obtain ⟨ad, x, rfl, hbA, d0, d1, d2, d3, d4, d5, HR⟩ := (HL.out.below hb).tree (k := k) (by rw [HN.out]; exact hlt)
      obtain ⟨ad', y, rfl, hbB, e0, e1, e2, e3, e4, e5, HR'⟩ := (HL'.out.below hb).tree (k := k) (by rw [HM.out]; exact hlt)
      have hk0 : (0 : Int) ≤ (k : Int) := Int.natCast_nonneg _
      have hk1 : (k : Int) < (n : Int) := by omega
      obtain ⟨q0, q1, q2, q3⟩ := chL_both HQ.out HR.out HR'.out
      have hzw := hb.size
      have hba : ∀ j, ((⟨(ad.add (k * 6)).block, (ad.add (k * 6)).off + j, none⟩ : Addr)).block < wr.heap.size := fun j => by show (ad.add (k * 6)).block < _; rw [addr_block]; omega
      have hbb : ∀ j, ((⟨(ad'.add (k * 6)).block, (ad'.add (k * 6)).off + j, none⟩ : Addr)).block < wr.heap.size := fun j => by show (ad'.add (k * 6)).block < _; rw [addr_block]; omega
      have HKS : Hid (∀ w', Below wr.heap.size wr w' → w'.cell? (ad.add (k * 6)) = some (.string x.tag.s) ∧ w'.cell? ⟨(ad.add (k * 6)).block, (ad.add (k * 6)).off + 1, none⟩ = some (.slice x.tag.A x.tag.n x.tag.c) ∧ w'.cell? ⟨(ad.add (k * 6)).block, (ad.add (k * 6)).off + 2, none⟩ = some (.slice x.A x.n x.c) ∧ w'.cell? ⟨(ad.add (k * 6)).block, (ad.add (k * 6)).off + 3, none⟩ = some (.slice x.K x.kn x.kc) ∧ w'.cell? ⟨(ad.add (k * 6)).block, (ad.add (k * 6)).off + 4, none⟩ = some (.string x.text.s) ∧ w'.cell? ⟨(ad.add (k * 6)).block, (ad.add (k * 6)).off + 5, none⟩ = some (.slice x.text.A x.text.n x.text.c) ∧
          w'.cell? (ad'.add (k * 6)) = some (.string y.tag.s) ∧ w'.cell? ⟨(ad'.add (k * 6)).block, (ad'.add (k * 6)).off + 1, none⟩ = some (.slice y.tag.A y.tag.n y.tag.c) ∧ w'.cell? ⟨(ad'.add (k * 6)).block, (ad'.add (k * 6)).off + 2, none⟩ = some (.slice y.A y.n y.c) ∧ w'.cell? ⟨(ad'.add (k * 6)).block, (ad'.add (k * 6)).off + 3, none⟩ = some (.slice y.K y.kn y.kc) ∧ w'.cell? ⟨(ad'.add (k * 6)).block, (ad'.add (k * 6)).off + 4, none⟩ = some (.string y.text.s) ∧ w'.cell? ⟨(ad'.add (k * 6)).block, (ad'.add (k * 6)).off + 5, none⟩ = some (.slice y.text.A y.text.n y.text.c) ∧ Below wr.heap.size wr w') := fun w' h =>
        ⟨(h.cell (by rw [addr_block]; omega)).trans d0, (h.cell (hba 1)).trans d1, (h.cell (hba 2)).trans d2, (h.cell (hba 3)).trans d3, (h.cell (hba 4)).trans d4, (h.cell (hba 5)).trans d5, (h.cell (by rw [addr_block]; omega)).trans e0, (h.cell (hbb 1)).trans e1, (h.cell (hbb 2)).trans e2, (h.cell (hbb 3)).trans e3, (h.cell (hbb 4)).trans e4, (h.cell (hbb 5)).trans e5, h⟩
      have hmx := List.mem_of_getElem? HR.out
      have hmy := List.mem_of_getElem? HR'.out
      have hx := HOK.out.get hmx
      have hy := HOK'.out.get hmy
      have hxk := HOK.out.kids hmx
      have hyk := HOK'.out.kids hmy
      have hbw : ∀ {W : World}, Below wr.heap.size wr W → Stays (fun _ => True) w W := fun h => Stays.of (below_next hb (Nat.le_refl _) h)
      have HTS : Hid (∀ W, Below wr.heap.size wr W → Calls Tryz.prog 46 #[.agg #[.string x.tag.s, .slice x.tag.A x.tag.n x.tag.c], .agg #[.string y.tag.s, .slice y.tag.A y.tag.n y.tag.c]] W fun e w' => e = .returned (.bool true) ∧ Below W.heap.size W w') := fun W h => by
        have h1 := plainStr_any x.tag y.tag W (hx.tag.keep (hbw h)).ok (hy.tag.keep (hbw h)).ok
        rw [decide_eq_true q0] at h1
        exact h1
      have HXS : Hid (∀ W, Below wr.heap.size wr W → Calls Tryz.prog 46 #[.agg #[.string x.text.s, .slice x.text.A x.text.n x.text.c], .agg #[.string y.text.s, .slice y.text.A y.text.n y.text.c]] W fun e w' => e = .returned (.bool true) ∧ Below W.heap.size W w') := fun W h => by
        have h1 := plainStr_any x.text y.text W (hx.text.keep (hbw h)).ok (hy.text.keep (hbw h)).ok
        rw [decide_eq_true q3] at h1
        exact h1
      have hyn : y.n = x.n := by
        have := congrArg List.length q1
        rw [List.length_map, List.length_map, hx.an, hy.an] at this
        exact this.symm
      have hykn : y.kn = x.kn := by
        have := congrArg List.length q2
        rw [chL_length, chL_length, hx.kn, hy.kn] at this
        exact this.symm
      have HAS : Hid (∀ W, Below wr.heap.size wr W → Calls Tryz.prog 47 #[.slice x.A x.n x.c, .slice y.A y.n y.c] W fun e w' => e = .returned (.bool true) ∧ Below W.heap.size W w') := fun W h => by
        have hsz := hx.am
        have h1 := plainAttrs_any x.A x.n x.c x.atts y.A y.n y.c y.atts W (hx.att.keep (hbw h)).lies (fun a ha => ((hx.atts a ha).keep (hbw h)).ok) hx.an (by omega) (hy.att.keep (hbw h)).lies (fun a ha => ((hy.atts a ha).keep (hbw h)).ok) hy.an
        rw [decide_eq_true q1] at h1
        exact h1
      have HKD : Hid (∀ W, Below wr.heap.size wr W → Calls Tryz.prog 14 #[.slice x.K x.kn x.kc, .slice y.K y.kn y.kc] W fun e w' => e = .returned (.bool true) ∧ Below W.heap.size W w') := fun W h => by
        rw [hykn]
        exact HIH.out x hmx x.K x.kn x.kc y.K y.kc y.kids W q2.symm (hx.kid.keep (hbw h)).lies (hxk.keep (hbw h)) hx.kn hx.km (hy.kid.keep (hbw h)).lies (hyk.keep (hbw h))
      clear hba hbb hbw hmx hmy hx hy hxk hyk q0 q1 q2 q3 hyn hykn
      go_wp2_with fail
      go_region_held3 (fun w' => w'.cell? (ad.add (k * 6)) = some (.string x.tag.s) ∧ w'.cell? ⟨(ad.add (k * 6)).block, (ad.add (k * 6)).off + 1, none⟩ = some (.slice x.tag.A x.tag.n x.tag.c) ∧ w'.cell? ⟨(ad.add (k * 6)).block, (ad.add (k * 6)).off + 2, none⟩ = some (.slice x.A x.n x.c) ∧ w'.cell? ⟨(ad.add (k * 6)).block, (ad.add (k * 6)).off + 3, none⟩ = some (.slice x.K x.kn x.kc) ∧ w'.cell? ⟨(ad.add (k * 6)).block, (ad.add (k * 6)).off + 4, none⟩ = some (.string x.text.s) ∧ w'.cell? ⟨(ad.add (k * 6)).block, (ad.add (k * 6)).off + 5, none⟩ = some (.slice x.text.A x.text.n x.text.c) ∧
          w'.cell? (ad'.add (k * 6)) = some (.string y.tag.s) ∧ w'.cell? ⟨(ad'.add (k * 6)).block, (ad'.add (k * 6)).off + 1, none⟩ = some (.slice y.tag.A y.tag.n y.tag.c) ∧ w'.cell? ⟨(ad'.add (k * 6)).block, (ad'.add (k * 6)).off + 2, none⟩ = some (.slice y.A y.n y.c) ∧ w'.cell? ⟨(ad'.add (k * 6)).block, (ad'.add (k * 6)).off + 3, none⟩ = some (.slice y.K y.kn y.kc) ∧ w'.cell? ⟨(ad'.add (k * 6)).block, (ad'.add (k * 6)).off + 4, none⟩ = some (.string y.text.s) ∧ w'.cell? ⟨(ad'.add (k * 6)).block, (ad'.add (k * 6)).off + 5, none⟩ = some (.slice y.text.A y.text.n y.text.c) ∧ Below wr.heap.size wr w')
        (first
          | exact HKS.out _ (Below.drew (Below.refl _ _))
          | (go_split_ands; exact HKS.out _ (by assumption))
          | (go_split_ands; exact HKS.out _ (below_next (by assumption) (Nat.le_refl _) hb1))
          | (go_split_ands; exact HKS.out _ (below_next (by assumption) (Nat.le_refl _) hb2))
          | (go_split_ands; exact HKS.out _ (below_next (by assumption) (Nat.le_refl _) hb3))
          | (go_split_ands; exact HKS.out _ (below_next (by assumption) (Nat.le_refl _) hb4)))
        (first
          | (go_at_call_of 46 (x.tag.A); refine (HTS.out _ ?_).mono ?_; (go_split_ands; assumption); rintro e w1 ⟨rfl, hb1⟩)
          | (go_at_call_of 46 (x.text.A); refine (HXS.out _ ?_).mono ?_; (go_split_ands; assumption); rintro e w2 ⟨rfl, hb2⟩)
          | (go_at_call 47; refine (HAS.out _ ?_).mono ?_; (go_split_ands; assumption); rintro e w3 ⟨rfl, hb3⟩)
          | (go_at_call 14; refine (HKD.out _ ?_).mono ?_; (go_split_ands; assumption); rintro e w4 ⟨rfl, hb4⟩))
      all_goals
        go_wp2_with fail
        go_roundw
        case rel => exact ⟨k + 1, by omega, by go_num, below_next (below_next (below_next (below_next hb.drew (Nat.le_refl _) hb1) (Nat.le_refl _) hb2) (Nat.le_refl _) hb3) (Nat.le_refl _) hb4⟩
        case measure => simp [intOf]; omega
    · go_wp2_with fail
      go_ret
      exact ⟨rfl, hb⟩

end Go.Proofs.YtddgabjhligeeaaGreat.mk
