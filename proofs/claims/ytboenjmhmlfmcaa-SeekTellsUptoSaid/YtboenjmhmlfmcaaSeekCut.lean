/-
  The contract of the function that seek's cutter tells: a part is cut, and the runs ahead of it are gone.
-/
import Derived.Test.YtboenjmhmlfmcaaSeekFind
import Derived.Test.YtboenjmhmlfmcaaUtfTake
import Derived.Deep.DeepCutAuto
import Derived.Deep.CutBlock
import Derived.Deep.RegionHeld3
import Derived.Deep.QuietTactic
import Derived.BigQuiet
namespace Go.Proofs.Ytboenjmhmlfmcaa.mk
open Go.RowKit

/-- how many bytes the first k runs are -/
def lenTo (rr : List (Int × Int)) (k : Nat) : Nat := (expand (rr.take k)).length
theorem lenTo_zero (rr : List (Int × Int)) : lenTo rr 0 = 0 := by simp [lenTo, expand]
theorem lenTo_next {rr : List (Int × Int)} {k : Nat} {l o : Int} (h : rr[k]? = some (l, o)) : lenTo rr (k + 1) = lenTo rr k + l.toNat := by
  unfold lenTo
  rw [expand_next h, List.length_append, List.length_replicate]
theorem lenTo_all {rr : List (Int × Int)} {k : Nat} (h : rr.length ≤ k) : lenTo rr k = (expand rr).length := by
  unfold lenTo; rw [List.take_of_length_le h]
theorem expand_split (rr : List (Int × Int)) (k n : Nat) : expand rr = expand (rr.take k) ++ expand ((rr.drop k).take n) ++ expand (rr.drop (k + n)) := by
  rw [← expand_append, ← expand_append]
  congr 1
  rw [List.append_assoc, ← List.drop_drop, List.take_append_drop, List.take_append_drop]
theorem lenTo_add (rr : List (Int × Int)) (k n : Nat) : lenTo rr (k + n) = lenTo rr k + (expand ((rr.drop k).take n)).length := by
  unfold lenTo
  rw [List.take_add, expand_append, List.length_append]
theorem lenTo_le (rr : List (Int × Int)) (k : Nat) : lenTo rr k ≤ (expand rr).length := by
  have h := expand_split rr k 0
  have := congrArg List.length h
  rw [List.length_append, List.length_append] at this
  unfold lenTo
  omega
theorem cut_mid {α : Type} (x y z : List α) (f t : Nat) (h1 : x.length ≤ f) (h2 : x.length ≤ t) (h3 : t ≤ x.length + y.length) : (y.take (t - x.length)).drop (f - x.length) = ((x ++ y ++ z).take t).drop f := by
  have e1 : (x ++ y ++ z).take t = x ++ y.take (t - x.length) := by
    rw [List.append_assoc, List.take_append, List.take_of_length_le h2, List.take_append, show t - x.length - y.length = 0 by omega, List.take_zero, List.append_nil]
  have e2 : x.drop f = [] := List.drop_of_length_le h1
  rw [e1, List.drop_append, e2, List.nil_append]
theorem pre_good {n : Nat} {rs : List (Int × Int)} (hg : Good rs) (h : (expand rs).length ≤ n) : pre n rs = expand rs := by
  induction rs using snocInd with
  | nil => rfl
  | append_singleton rs r ih =>
    have hr := hg r (by simp)
    rw [expand_append, List.length_append] at h
    have h1 : (expand [r]).length = r.1.toNat := by simp [expand]
    rw [pre_snoc, ih (fun x hx => hg x (by simp [hx])) (by omega), expand_append, show min r.1.toNat (n - (expand rs).length) = r.1.toNat by omega, nearO_in hr.2.1 hr.2.2]
    simp [expand]
theorem origins_good {n : Nat} {rs : List (Int × Int)} (hg : Good rs) (h : (expand rs).length = n) : origins n rs = expand rs := by
  unfold origins
  rw [pre_good hg (by omega), h]
  simp
theorem lies_front {w : World} {B : Nat} {A : Option Addr} {a b : List (Int × Int)} (h : Lies w B A (runCells (a ++ b))) : Lies w B A (runCells a) := by
  intro j u hu
  refine h j u ?_
  rw [runCells_append, List.getElem?_append_left (List.getElem?_eq_some_iff.1 hu).1]
  exact hu
theorem lies_tail {w : World} {B : Nat} {ad : Addr} {x : Int × Int} {l : List (Int × Int)} (h : Lies w B (some ad) (runCells (x :: l))) : Lies w B (some (ad.add 2)) (runCells l) := by
  intro j u hu
  obtain ⟨ad', e, hb, hc⟩ := h (2 + j) u (by rw [show 2 + j = j + 1 + 1 by omega]; exact hu)
  injection e with e
  subst e
  exact ⟨_, rfl, by rw [addr_block]; exact hb, by rw [addr_add]; exact hc⟩

theorem Moved.drewN {S : Nat → Prop} {a w : World} (h : Moved S a w) (n : Nat) : Moved S a (w.drewN n) := ⟨h.os, h.tape, h.output, h.size, h.block⟩
theorem addr_two (ad : Addr) : ad.add 2 = ⟨ad.block, ad.off + 2, none⟩ := by unfold Addr.add; rw [if_neg (by omega)]
theorem addr_zero (ad : Addr) : ad.add (0 * 2) = ad := by unfold Addr.add; rfl
/-- what the function holds: the runs from the k-th on, and where that one begins -/
def CutSt (w : World) (bv ba bs : Nat) (s : ByteArray) (v0 : Value) (rr : List (Int × Int)) (k : Nat) : Prop :=
  k ≤ rr.length ∧ Whole w ba 3 #[.int .i64 (lenTo rr k : Int)] ∧ Whole w bs 24 #[.string s, v0] ∧
    ∃ A n c, Whole w bv 22 #[.slice A n c] ∧ (rr.drop k).length = n ∧ n ≤ c ∧ Lies w bv A (runCells (rr.drop k))
theorem CutSt.moved {w w' : World} {bv ba bs : Nat} {s : ByteArray} {v0 : Value} {rr : List (Int × Int)} {k : Nat} (h : CutSt w bv ba bs s v0 rr k) (hb : Below w.heap.size w w') : CutSt w' bv ba bs s v0 rr k := by
  obtain ⟨h1, h2, h3, A, n, c, h4, h5, h6, h7⟩ := h
  have := h4.lt
  exact ⟨h1, h2.below hb h2.lt, h3.below hb h3.lt, A, n, c, h4.below hb h4.lt, h5, h6, h7.keep fun p hp => hb.cell (by omega)⟩
theorem CutSt.far {w : World} {bv ba bs : Nat} {s : ByteArray} {v0 : Value} {rr : List (Int × Int)} {k : Nat} (h : CutSt w bv ba bs s v0 rr k) (p : Addr) (hp : bv < p.block ∧ ba < p.block ∧ bs < p.block) (u : Value) : CutSt (w.setCell p u) bv ba bs s v0 rr k := by
  obtain ⟨h1, h2, h3, A, n, c, h4, h5, h6, h7⟩ := h
  refine ⟨h1, h2.far _ (by omega) _, h3.far _ (by omega) _, A, n, c, h4.far _ (by omega) _, h5, h6, h7.keep fun q hq => ?_⟩
  exact World.cell?_setCell_other _ _ _ _ (by intro e; subst e; omega)
theorem Moved.setNew {S : Nat → Prop} {a w : World} (h : Moved S a w) {p : Addr} (hp : a.heap.size ≤ p.block) (u : Value) : Moved S a (w.setCell p u) :=
  ⟨h.os, h.tape, h.output, by have := h.size; simpa [World.setCell] using this, fun k hk hs => (Below.heap_setCell w p u k (by omega)).trans (h.block k hk hs)⟩
def CutRel1 (bv ba bs : Nat) (s : ByteArray) (v0 : Value) (rr : List (Int × Int)) (f : Nat) (w1 : World) (_ : Value) (wr : World) : Prop :=
  ∃ k, CutSt wr bv ba bs s v0 rr k ∧ lenTo rr k ≤ f ∧ Moved (Two bv ba) w1 wr
def boxN (w : World) (b : Nat) : Nat := sliceN ((w.cell? ⟨b, 0, none⟩).getD .nilFunc)
theorem boxN_lt {w w' : World} {b n n' c c' : Nat} {t : TypeId} {A A' : Option Addr} (h : Whole w b t #[.slice A n c]) (h' : Whole w' b t #[.slice A' n' c']) (hlt : n' < n) : boxN w' b < boxN w b := by
  have e1 : w.cell? ⟨b, 0, none⟩ = some (.slice A n c) := h.at_ 0
  have e2 : w'.cell? ⟨b, 0, none⟩ = some (.slice A' n' c') := h'.at_ 0
  unfold boxN
  rw [e1, e2]
  exact hlt
def CutRel2 (rr : List (Int × Int)) (k : Nat) (n e : Value) : Prop :=
  ∃ j : Nat, k + j ≤ rr.length ∧ n = .int .i64 (j : Int) ∧ e = .int .i64 (lenTo rr (k + j) : Int)
def CutAt (bv ba bs : Nat) (s : ByteArray) (v0 : Value) (rr : List (Int × Int)) (f : Nat) (w1 wr : World) : Prop :=
  ∃ k, CutSt wr bv ba bs s v0 rr k ∧ lenTo rr k ≤ f ∧ Moved (Two bv ba) w1 wr
def CutPost (bv ba bs : Nat) (s : ByteArray) (v0 : Value) (rr : List (Int × Int)) (f t : Nat) (w : World) (e : Ending) (w' : World) : Prop :=
  ∃ v k, e = .returned (.agg #[.string ⟨((s.data.toList.take t).drop f).toArray⟩, v]) ∧ w'.ownsRow w.heap.size 50 2 v (comp (((expand rr).take t).drop f)).length (runCells (comp (((expand rr).take t).drop f))) ∧
    CutSt w' bv ba bs s v0 rr k ∧ lenTo rr k ≤ f ∧ Moved (Two bv ba) w w'

/-- a run is gone past -/
theorem CutSt.next {w : World} {bv ba bs k n c n' c' : Nat} {s : ByteArray} {v0 : Value} {rr : List (Int × Int)} {A A' : Option Addr} {ad : Addr} {l o : Int} (hne : bv ≠ ba ∧ bs ≠ ba ∧ bs ≠ bv ∧ bv < ba) (hk : rr[k]? = some (l, o)) (hWa : Whole w ba 3 #[.int .i64 (lenTo rr k : Int)]) (hWs : Whole w bs 24 #[.string s, v0])
    (hWv : Whole w bv 22 #[.slice A n c]) (hn : (rr.drop k).length = n) (hnc : n ≤ c) (hA : A = some ad) (hL : Lies w bv A (runCells (rr.drop k))) (hl : 1 ≤ l) (hA' : 1 < c → A' = some (ad.add 2)) (hn' : n' = n - 1) (hc' : c' = c - 1) :
    CutSt ((w.setCell ⟨ba, 0, none⟩ (.int .i64 ((lenTo rr k : Int) + l))).setCell ⟨bv, 0, none⟩ (.slice A' n' c')) bv ba bs s v0 rr (k + 1) := by
  subst hn' hc'
  obtain ⟨h1, h2, h3, h4⟩ := hne
  have hkl : k < rr.length := (List.getElem?_eq_some_iff.1 hk).1
  have hd : rr.drop k = (l, o) :: rr.drop (k + 1) := by
    rw [List.drop_eq_getElem_cons hkl]
    rw [List.getElem?_eq_getElem hkl] at hk
    injection hk with hk
    rw [hk]
  have hval : (lenTo rr k : Int) + l = (lenTo rr (k + 1) : Int) := by rw [lenTo_next hk]; omega
  refine ⟨hkl, ?_, ?_, A', n - 1, c - 1, ?_, ?_, by omega, ?_⟩
  · rw [← hval]; exact (hWa.put 0 _).far _ (Ne.symm h1) _
  · exact (hWs.far _ h2 _).far _ h3 _
  · exact (hWv.far _ h1 _).put 0 _
  · rw [hd] at hn; simp at hn; simp; omega
  · subst hA
    rw [hd] at hL hn
    by_cases hc : 1 < c
    · rw [hA' hc]
      refine (lies_tail hL).keep fun p hp => ?_
      rw [World.cell?_setCell_other _ _ _ _ (by intro e; subst e; simp at hp), World.cell?_setCell_other _ _ _ _ (by intro e; subst e; simp at hp; omega)]
    · have h0 : rr.drop (k + 1) = [] := List.eq_nil_of_length_eq_zero (by simp at hn ⊢; omega)
      rw [h0]
      exact Lies.empty _ _ _

set_option maxHeartbeats 1000000 in
set_option maxRecDepth 100000 in
theorem cutF_any (bv ba bs : Nat) (s : ByteArray) (v0 : Value) (rr : List (Int × Int)) (k0 f t : Nat) (w : World) (hst : CutSt w bv ba bs s v0 rr k0) (hlt : bs < bv ∧ bv < ba) (hg : Good rr) (hex : (expand rr).length = s.size) (hs : s.size ≤ 4294967296)
    (hft : f ≤ t) (ht : t ≤ s.size) (hk0 : lenTo rr k0 ≤ f) :
    Calls Try.prog 42 #[.int .i64 f, .int .i64 t, .pointer (some ⟨bv, 0, none⟩), .pointer (some ⟨ba, 0, none⟩), .pointer (some ⟨bs, 0, none⟩)] w (CutPost bv ba bs s v0 rr f t w) := by
  have hba := hst.2.1.lt
  have hrl : rr.length ≤ s.size := by have := good_length hg; omega
  go_enter Try.func42, Try.ntmps42
  go_upto_block 0 with fail
  generalize hw1 : w.alloc (.cells #[.string ⟨#[]⟩, .slice none 0 0] 24) = w1
  have y0 : Whole w1 w.heap.size 24 #[.string ⟨#[]⟩, .slice none 0 0] := by rw [← hw1]; exact Whole.made w _ _
  have hb1 : Below w.heap.size w w1 := by rw [← hw1]; exact (Below.refl _ _).alloc (Nat.le_refl _) _
  have hz1 : w1.heap.size = w.heap.size + 1 := by rw [← hw1]; simp
  have hst1 := hst.moved hb1
  clear hst hw1
  have HZ1 := Lib.hid hz1
  have HG := Lib.hid hg
  have HEX := Lib.hid hex
  clear hg hex hz1
  go_cut [] (fun wx => CutAt bv ba bs s v0 rr f w1 wx)
  case first =>
    go_wp2_with fail
    go_loopw [10] (CutRel1 bv ba bs s v0 rr f w1) (fun _ w => boxN w bv)
    case atStart => exact ⟨k0, hst1, hk0, Moved.refl _ _⟩
    case round =>
      obtain ⟨k, hcs, hkf, hmv⟩ := hrel
      have HCS := Lib.hid hcs
      obtain ⟨hk, hWa, hWs, A, n, c, hWv, hn, hnc, hLi⟩ := hcs
      have HN := Lib.hid hn
      clear hn
      have ca : wr.cell? ⟨ba, 0, none⟩ = some (.int .i64 (lenTo rr k : Int)) := hWa.at_ 0
      have cv : wr.cell? ⟨bv, 0, none⟩ = some (.slice A n c) := hWv.at_ 0
      have fa := hWa.free 0
      have fv := hWv.free 0
      have hne1 : bv ≠ ba := by omega
      have hne2 : ba ≠ bv := by omega
      by_cases hn0 : 0 < n
      · obtain ⟨ad, l, o, rfl, hbA, hd1, hd2, HR⟩ := hLi.run (k := 0) (by rw [HN.out]; exact hn0)
        have HR2 : Hid (rr[k]? = some (l, o)) := by have h := HR.out; rw [List.getElem?_drop] at h; exact h
        obtain ⟨hl1, ho1, ho2⟩ := HG.out (l, o) (List.mem_of_getElem? HR2.out)
        simp only at hl1 ho1 ho2
        have HLN := Lib.hid (lenTo_next HR2.out)
        have hle2 := lenTo_le rr (k + 1)
        rw [HLN.out, HEX.out] at hle2
        have hd0 : wr.cell? ad = some (.int .i64 l) := addr_zero ad ▸ hd1
        clear hd1 hd2
        have hni : (0 : Int) < (n : Int) := by omega
        by_cases hle : (lenTo rr k : Int) + l ≤ (f : Int)
        · by_cases hc1 : c = 1
          · subst hc1
            go_wp2_with fail
            go_quiet (fail)
            go_wp2_with fail
            go_region
            all_goals
              go_wp2_with fail
              go_roundw
              case rel => exact ⟨k + 1, CutSt.next (w := wr.drewN _) (A := some ad) (c := 1) ⟨by omega, by omega, by omega, by omega⟩ HR2.out hWa hWs hWv HN.out hnc rfl hLi hl1 (fun h => absurd h (by omega)) (by omega) rfl, by rw [HLN.out]; omega, ((hmv.drewN _).setCell (.inr rfl) _).setCell (.inl rfl) _⟩
              case measure => exact boxN_lt hWv ((Whole.far (w := wr.drewN _) hWv _ hne1 _).put 0 _) (by omega)
          · have hc2 : 1 < c := by omega
            go_wp2_with fail
            go_quiet (fail)
            go_wp2_with fail
            go_region
            all_goals
              go_wp2_with fail
              go_roundw
              case rel => exact ⟨k + 1, CutSt.next (w := wr.drewN _) (A := some ad) ⟨by omega, by omega, by omega, by omega⟩ HR2.out hWa hWs hWv HN.out hnc rfl hLi hl1 (fun _ => (addr_two ad).symm ▸ rfl) rfl rfl, by rw [HLN.out]; omega, ((hmv.drewN _).setCell (.inr rfl) _).setCell (.inl rfl) _⟩
              case measure => exact boxN_lt hWv ((Whole.far (w := wr.drewN _) hWv _ hne1 _).put 0 _) (by omega)
        · go_wp2_with fail
          go_quiet (fail)
          go_wp2_with fail
          go_meet
          exact ⟨k, HCS.out, hkf, hmv.drewN _⟩
      · go_wp2_with fail
        go_quiet (fail)
        go_wp2_with fail
        go_meet
        exact ⟨k, HCS.out, hkf, hmv.drewN _⟩
  case rest =>
    clear hst1 hk0
    obtain ⟨k, hcs, hkf, hmv⟩ := hcut
    have HCS := Lib.hid hcs
    obtain ⟨hk, hWa, hWs, A, n, c, hWv, hn, hnc, hLi⟩ := hcs
    have HN := Lib.hid hn
    clear hn
    have ca : wc.cell? ⟨ba, 0, none⟩ = some (.int .i64 (lenTo rr k : Int)) := hWa.at_ 0
    have cv : wc.cell? ⟨bv, 0, none⟩ = some (.slice A n c) := hWv.at_ 0
    have cs : wc.cell? ⟨bs, 0, none⟩ = some (.string s) := hWs.at_ 0
    have hrn : k + n = rr.length := by rw [← HN.out, List.length_drop]; omega
    have HRN := Lib.hid hrn
    clear hrn
    have hyW := hmv.whole y0 (by rintro (h | h) <;> omega)
    have hzc := hmv.size
    rw [HZ1.out] at hzc
    go_wp2_with fail
    go_quiet (fail)
    go_wp2_with fail
    go_loop [8, 9] (CutRel2 rr k) (fun j _ => rr.length - (intOf j).toNat)
    case atStart => exact ⟨0, by omega, rfl, rfl⟩
    case round =>
      obtain ⟨j, hj, rfl, rfl⟩ := hrel
      have hE := lenTo_le rr (k + j)
      rw [HEX.out] at hE
      by_cases he : lenTo rr (k + j) < t
      · have hjl : k + j < rr.length := by
          rcases Nat.lt_or_ge (k + j) rr.length with h | h
          · exact h
          · have := lenTo_all h; rw [HEX.out] at this; omega
        have hjn : j < n := by have := HRN.out; omega
        obtain ⟨ad, l, o, rfl, hbA, hd1, hd2, HR⟩ := hLi.run (k := j) (by rw [HN.out]; exact hjn)
        have HR2 : Hid (rr[k + j]? = some (l, o)) := by have h := HR.out; rw [List.getElem?_drop] at h; exact h
        obtain ⟨hl1, ho1, ho2⟩ := HG.out (l, o) (List.mem_of_getElem? HR2.out)
        simp only at hl1 ho1 ho2
        have HLN := Lib.hid (lenTo_next HR2.out)
        have hle2 := lenTo_le rr (k + j + 1)
        rw [HLN.out, HEX.out] at hle2
        have hj0 : (0 : Int) ≤ (j : Int) := Int.natCast_nonneg _
        have hj1 : (j : Int) < (n : Int) := by omega
        clear hd2
        go_wp2_with fail
        go_round
        case rel => exact ⟨j + 1, by omega, by go_num, by rw [← Nat.add_assoc, HLN.out]; exact congrArg (Value.int .i64) (by omega)⟩
        case measure => simp [intOf]; omega
      · have hjn : j ≤ n := by have := HRN.out; omega
        have hjc : j ≤ c := by omega
        have haE : lenTo rr k ≤ lenTo rr (k + j) := by rw [lenTo_add]; omega
        have HSP := Lib.hid (expand_split rr k j)
        have HTK : Hid ((expand ((rr.drop k).take j)).length = lenTo rr (k + j) - lenTo rr k) := by show _ = _; rw [lenTo_add]; omega
        have HRL : Hid (((rr.drop k).take j).length = j) := by show _ = _; rw [List.length_take, HN.out]; omega
        have HSZ : Hid ((s.extract (lenTo rr k) (lenTo rr (k + j))).size = lenTo rr (k + j) - lenTo rr k) := by show _ = _; rw [ByteArray.size_extract]; omega
        have HA : Hid (min (max ((f : Int) - (lenTo rr k : Int)) 0) (((s.extract (lenTo rr k) (lenTo rr (k + j))).size : Nat) : Int) = ((f - lenTo rr k : Nat) : Int)) := by show _ = _; rw [HSZ.out]; omega
        have HB : Hid (min (max ((t : Int) - (lenTo rr k : Int)) 0) (((s.extract (lenTo rr k) (lenTo rr (k + j))).size : Nat) : Int) = ((t - lenTo rr k : Nat) : Int)) := by show _ = _; rw [HSZ.out]; omega
        have hsl : s.data.toList.length = s.size := by rw [Array.length_toList]; rfl
        have HT1 : Hid (((s.extract (lenTo rr k) (lenTo rr (k + j))).data.toList.take (t - lenTo rr k)).drop (f - lenTo rr k) = (s.data.toList.take t).drop f) := by
          show _ = _
          rw [extract_list]
          have h := cut_mid (s.data.toList.take (lenTo rr k)) ((s.data.toList.take (lenTo rr (k + j))).drop (lenTo rr k)) (s.data.toList.drop (lenTo rr (k + j))) f t (by rw [List.length_take]; omega) (by rw [List.length_take]; omega) (by rw [List.length_take, List.length_drop, List.length_take]; omega)
          rw [List.length_take, Nat.min_eq_left (by omega)] at h
          rw [h]
          congr 2
          have e1 : s.data.toList.take (lenTo rr k) = (s.data.toList.take (lenTo rr (k + j))).take (lenTo rr k) := by rw [List.take_take, Nat.min_eq_left haE]
          rw [e1, List.take_append_drop, List.take_append_drop]
        have HT2 : Hid (((origins (s.extract (lenTo rr k) (lenTo rr (k + j))).size ((rr.drop k).take j)).take (t - lenTo rr k)).drop (f - lenTo rr k) = ((expand rr).take t).drop f) := by
          show _ = _
          rw [origins_good (fun r hr => HG.out r (List.mem_of_mem_drop (List.mem_of_mem_take hr))) (HTK.out.trans HSZ.out.symm)]
          have h := cut_mid (expand (rr.take k)) (expand ((rr.drop k).take j)) (expand (rr.drop (k + j))) f t hkf (by show lenTo rr k ≤ t; omega) (by rw [HTK.out]; show t ≤ lenTo rr k + _; omega)
          rw [← HSP.out] at h
          exact h
        have hLj : Lies wc bv A (runCells ((rr.drop k).take j)) := by
          have h := hLi
          rw [← List.take_append_drop j (rr.drop k)] at h
          exact lies_front h
        have hE2 : (lenTo rr (k + j) : Int) ≤ (s.size : Int) := by omega
        have ht2 : (t : Int) ≤ (s.size : Int) := by omega
        have haE2 : (lenTo rr k : Int) ≤ (lenTo rr (k + j) : Int) := by omega
        have hjc2 : (j : Int) ≤ (c : Int) := by omega
        have hzc1 : w.heap.size ≤ wc.heap.size := by omega
        have hzc2 : w.heap.size < wc.heap.size := by omega
        have HCUT : Hid (∀ W, Below w.heap.size wc W → Calls Try.prog 43 #[.agg #[.string (s.extract (lenTo rr k) (lenTo rr (k + j))), .slice A j c], .int .i64 ((f : Int) - (lenTo rr k : Int)), .int .i64 ((t : Int) - (lenTo rr k : Int))] W (Tells ⟨((s.data.toList.take t).drop f).toArray⟩ (comp (((expand rr).take t).drop f)) W)) := by
          intro W hW
          have h := cut_any (s.extract (lenTo rr k) (lenTo rr (k + j))) A j c ((rr.drop k).take j) _ _ (f - lenTo rr k) (t - lenTo rr k) W ((hLj.mono (by omega)).next hW hzc1) HRL.out (by rw [HSZ.out]; omega) (by omega) HA.out HB.out
          rw [HT1.out, HT2.out] at h
          exact h
        clear hsl hLj HSP HTK HRL HSZ HA HB HT1 HT2
        have KS : ∀ w', Below w.heap.size wc w' → w'.cell? ⟨bs, 0, none⟩ = some (.string s) ∧ w'.cell? ⟨ba, 0, none⟩ = some (.int .i64 (lenTo rr k : Int)) ∧ w'.cell? ⟨bv, 0, none⟩ = some (.slice A n c) ∧ Below w.heap.size wc w' := fun w' h =>
          ⟨(h.cell (by show bs < _; omega)).trans cs, (h.cell (by show ba < _; omega)).trans ca, (h.cell (by show bv < _; omega)).trans cv, h⟩
        have HKS := Lib.hid KS
        have HWA := Lib.hid hWa
        have HWS := Lib.hid hWs
        have HWV := Lib.hid hWv
        have HLI := Lib.hid hLi
        have HHE := Lib.hid hE
        clear KS hWa hWs hWv hLi hE
        generalize hEE : lenTo rr (k + j) = E at *
        generalize haa : lenTo rr k = a0 at *
        have HEE := Lib.hid hEE
        have HAA := Lib.hid haa
        clear hEE haa
        have b1 : (0 : Int) ≤ (a0 : Int) := Int.natCast_nonneg _
        have b2 : (0 : Int) ≤ (E : Int) := Int.natCast_nonneg _
        have b3 : (0 : Int) ≤ (j : Int) := Int.natCast_nonneg _
        have b4 : IntKind.i64.wrap ((f : Int) - (a0 : Int)) = (f : Int) - (a0 : Int) := IntWalk.i64_in _ (by omega)
        have b5 : IntKind.i64.wrap ((t : Int) - (a0 : Int)) = (t : Int) - (a0 : Int) := IntWalk.i64_in _ (by omega)
        go_wp2_with fail
        go_region_held3 (fun w' => w'.cell? ⟨bs, 0, none⟩ = some (.string s) ∧ w'.cell? ⟨ba, 0, none⟩ = some (.int .i64 (a0 : Int)) ∧ w'.cell? ⟨bv, 0, none⟩ = some (.slice A n c) ∧ Below w.heap.size wc w')
          (first
            | exact HKS.out _ (Below.drew (Below.drewN (Below.refl _ _) _))
            | exact HKS.out _ (Below.drewN (Below.refl _ _) _)
            | (go_split_ands; exact HKS.out _ (by assumption))
            | (go_split_ands; exact HKS.out _ (below_next (by assumption) hzc1 hbC))
            | (go_split_ands; refine HKS.out _ ?_; refine Below.setCell (p := ⟨w.heap.size, 1, none⟩) ?_ (Nat.le_refl _) _; refine Below.setCell (p := ⟨w.heap.size, 0, none⟩) ?_ (Nat.le_refl _) _; assumption))
          (first
            | (go_at_call 43; refine (HCUT.out _ ?_).mono ?_; (go_split_ands; assumption); rintro e w2 ⟨v, rfl, hown, hbC⟩; obtain ⟨A', c', rfl, _, _, _⟩ := own_form hown; have hwC := hyW.same (hbC.block _ hzc2); have c10 := hwC.at_ 0; have c11 := hwC.at_ 1; have f10 := hwC.free 0; have f11 := hwC.free 1))
        all_goals
          have HC2 : CutSt w2 bv ba bs s v0 rr k := CutSt.moved (w := (wc.drewN _).drew) HCS.out hbC
          have hM2 : Moved (Two bv ba) w w2 := (((Moved.of_below hb1).trans hmv).drewN _).drew.trans (Moved.of_below hbC)
          have hO2 := own_mono hown (show w.heap.size + 1 ≤ _ from hzc2)
          have HD := Lib.hid HC2
          have HM := Lib.hid hM2
          have HO := Lib.hid hO2
          clear HC2 hM2 hO2 hown
          generalize hres : comp (((expand rr).take t).drop f) = res at *
          have HRS := Lib.hid hres
          clear hres
          go_wp2
          refine bodyPost_ret (v := .agg #[.string ⟨((s.data.toList.take t).drop f).toArray⟩, .slice A' res.length c']) ?_ rfl ?_
          · simp [results, Try.results42, go_sem, c10, c11]
          · exact ⟨.slice A' res.length c', k, rfl, by rw [HRS.out]; exact own_mono (own_far (own_far HO.out _ (fun e => by have := (HO.out.lt _ e).1; simp at this; omega) _) _ (fun e => by have := (HO.out.lt _ e).1; simp at this; omega) _) (Nat.le_succ _), (HD.out.far _ (by show _ < w.heap.size ∧ _ < w.heap.size ∧ _ < w.heap.size; omega) _).far _ (by show _ < w.heap.size ∧ _ < w.heap.size ∧ _ < w.heap.size; omega) _, by rw [HAA.out]; exact hkf, (HM.out.setNew (p := ⟨w.heap.size, 0, none⟩) (Nat.le_refl _) _).setNew (p := ⟨w.heap.size, 1, none⟩) (Nat.le_refl _) _⟩

end Go.Proofs.Ytboenjmhmlfmcaa.mk
