/-
  TreeSames, where what comes in is of bulk at most 1048576: whether trees are the same, or alike, is as the page says; merged they are the same as they were.
  Conditions: none beside the bound that the statement itself names.
-/
import Derived.Test.YtfebcnndehpklaaJoinAA
import Derived.Test.YtfebcnndehpklaaJoinW
import Derived.Test.YtfebcnndehpklaaJoinU
import Derived.Test.YtfebcnndehpklaaJoinR
import Derived.Test.YtfebcnndehpklaaJoinD
import Derived.Test.YtfebcnndehpklaaJoinG
import Derived.Test.YtfebcnndehpklaaJoinY
import Derived.Test.YtfebcnndehpklaaJoinP
import Derived.Deep.DeepCutAuto
import Derived.Test.YtfebcnndehpklaaJoinZ
import Derived.Test.YtfebcnndehpklaaJoinK
import Derived.Test.YtfebcnndehpklaaJoinX
import Derived.Test.YtfebcnndehpklaaJoinO
namespace Go.Proofs.Ytfebcnndehpklaa.mk
open Go.RowKit

/-- how many were counted: no more than there are -/
def CntRel (ts : List TT) (n : Nat) (w : World) (s t : Value) (wr : World) : Prop :=
  ∃ k r : Nat, k ≤ n ∧ t = .int .i64 (k : Int) ∧ s = .int .i64 (r : Int) ∧ r + k ≤ n + wtL ((chL ts).take k) ∧ Below w.heap.size w wr

theorem TreesIn0.kid {w : World} {A : Option Addr} {n : Nat} {ts : List TT} (h : TreesIn0 w A n ts) {x : TT} (hx : x ∈ ts) : TreesIn0 w x.K x.kn x.kids := by
  have h1 := h.all.get hx
  refine ⟨h1.kid, h.all.kids hx, h1.kn, ?_⟩
  have h2 : x.ch ∈ chL ts := by rw [chL_map]; exact List.mem_map.2 ⟨x, hx, rfl⟩
  have h3 := bkL_kids h2
  rw [TT.ch_kids] at h3
  have := h.bulk
  omega

set_option maxHeartbeats 1000000 in
set_option maxRecDepth 100000 in
theorem count_any : ∀ (Q : List PT) (A : Option Addr) (n c : Nat) (ts : List TT) (w : World), chL ts = Q → TreesIn0 w A n ts →
    Calls Try.prog 24 #[.slice A n c] w fun e w' => ∃ r : Nat, e = .returned (.int .i64 (r : Int)) ∧ r ≤ wtL (chL ts) ∧ Below w.heap.size w w' := by
  apply PT.ind
  intro Q IH A n c ts w hq h
  have H := Lib.hid h
  have hn2 := h.small
  have HQ := Lib.hid hq
  have HI := Lib.hid IH
  have HW : Hid (wtL (chL ts) ≤ 1048576) := Nat.le_trans (bk_wt _) h.bulk
  have HN : Hid ((chL ts).length = n) := by show _ = _; rw [chL_length, h.len]
  clear h hq IH
  go_enter Try.func24, Try.ntmps24
  go_wp2_with fail
  go_loopw [3, 4] (CntRel ts n w) (fun _ i _ => n - (intOf i).toNat)
  case atStart => exact ⟨0, n, Nat.zero_le _, rfl, rfl, by simp, Below.refl _ _⟩
  case round =>
    obtain ⟨k, r, hk, rfl, rfl, hr, hb⟩ := hrel
    have HB := Lib.hid hb
    have HR := Lib.hid hr
    have HS : Hid (wtL ((chL ts).take k) + (n - k) ≤ wtL (chL ts)) := by
      show _ ≤ _
      have h1 := wtL_append ((chL ts).take k) ((chL ts).drop k)
      rw [List.take_append_drop] at h1
      have h2 := wtL_len ((chL ts).drop k)
      rw [List.length_drop, HN.out] at h2
      omega
    have hr2 : r ≤ 1048576 := by have := HS.out; have := HW.out; omega
    have HF : Hid (r ≤ wtL (chL ts)) := by show _ ≤ _; have := HS.out; omega
    clear hb hr
    by_cases hlt : k < n
    · by_cases hrr : r ≤ 300
      · obtain ⟨ad, x, rfl, hbA, d0, d1, d2, d3, d4, d5, HX⟩ := (H.out.next HB.out).lies.lies.tree (k := k) (by rw [H.out.len]; exact hlt)
        have hk0 : (0 : Int) ≤ (k : Int) := Int.natCast_nonneg _
        have hk1 : (k : Int) < (n : Int) := by omega
        have hr0 : (r : Int) ≤ 300 := by omega
        have hmem : x ∈ ts := List.mem_of_getElem? HX.out
        have HCALL := Lib.hid (HI.out x.ch (by rw [← HQ.out, chL_map]; exact List.mem_map.2 ⟨x, hmem, rfl⟩) x.K x.kn x.kc x.kids wr (TT.ch_kids x).symm ((H.out.next HB.out).kid hmem))
        have HT : Hid (wtL ((chL ts).take (k + 1)) = wtL ((chL ts).take k) + (1 + wtL (chL x.kids))) := by
          show _ = _
          rw [take_next (chL_at HX.out), wtL_append, wtL_one, PT.wt_eq, TT.ch_kids]
        clear hmem
        go_wp2_with fail
        refine HCALL.out.mono ?_
        rintro e w1 ⟨q, rfl, hq, hb1⟩
        have HB1 : Hid (Below w.heap.size w w1) := below_next HB.out (Nat.le_refl _) hb1
        have HQ1 := Lib.hid hq
        have hq2 : q ≤ 1048576 := by
          have h1 := wtL_kids (L := chL ts) (t := x.ch) (List.mem_of_getElem? (chL_at HX.out))
          rw [TT.ch_kids] at h1
          have := HW.out
          omega
        clear hb1 hq HCALL d0 d1 d2 d3 d4 d5
        go_wp2_with fail
        go_roundw
        case rel => exact ⟨k + 1, r + q, by omega, by go_num, by go_num, by have := HT.out; have := HR.out; have := HQ1.out; omega, HB1.out⟩
        case measure => simp [intOf]; omega
      · have hk1 : (k : Int) < (n : Int) := by omega
        have hr0 : ¬ (r : Int) ≤ 300 := by omega
        go_wp2_with fail
        go_ret
        exact ⟨r, rfl, HF.out, HB.out⟩
    · have hk1 : ¬ (k : Int) < (n : Int) := by omega
      go_wp2_with fail
      go_ret
      exact ⟨r, rfl, HF.out, HB.out⟩

set_option maxHeartbeats 1000000 in
set_option maxRecDepth 100000 in
theorem small_any (A : Option Addr) (n c : Nat) (ts : List TT) (w : World) (h : TreesIn0 w A n ts) :
    Calls Try.prog 7 #[.slice A n c] w fun e w' => ∃ b : Bool, e = .returned (.bool b) ∧ Below w.heap.size w w' := by
  have HC := Lib.hid (count_any _ A n c ts w rfl h)
  clear h
  go_enter Try.func7, Try.ntmps7
  go_wp2_with fail
  refine HC.out.mono ?_
  rintro e w1 ⟨r, rfl, _, hb1⟩
  go_wp2_with fail
  go_ret
  exact ⟨_, rfl, hb1⟩

/-- a text as a tree -/
def noT : LT := ⟨⟨#[]⟩, none, 0, 0, []⟩
def txT1 (t : LT) : TT := ⟨noT, none, 0, 0, [], none, 0, 0, [], t⟩
theorem noT_ch : noT.ch = [] := by rfl
theorem txT1_ch (t : LT) : (txT1 t).ch = txT t.ch := by rw [TT.ch_eq]; show (⟨noT.ch, [], chL [], t.ch⟩ : PT) = _; rw [noT_ch, chL]; rfl
theorem noT_in (S : Nat → Prop) (w : World) : noT.inS S w := ⟨LiesS.nil _ _ _, rfl, Nat.zero_le _, Nat.zero_le _⟩
theorem txT1_in {S : Nat → Prop} {w : World} {t : LT} (h : t.inS S w) : (txT1 t).inS S w :=
  ⟨noT_in S w, h, LiesS.nil _ _ _, rfl, fun _ => rfl, Nat.zero_le _, (fun a ha => by cases ha), LiesS.nil _ _ _, rfl, fun _ => rfl, Nat.zero_le _⟩
theorem merge_two {a b : Ch} (ha : a ≠ []) (hb : b ≠ []) : mergeP [txT a, txT [], txT b] = [txT (a ++ b)] := by
  show mgO [] [txT a, txT [], txT b] = _
  rw [mgO, mgO, mgO, mgO, addT_nil (t := txT a) rfl ha, addT_no (t := txT []) rfl rfl]
  exact addT_tx (t := txT b) rfl hb [] (txT a) rfl _
theorem merge_tx {a : Ch} (ha : a ≠ []) : mergeP [txT a] = [txT a] := by
  show mgO [] [txT a] = _
  rw [mgO, mgO]
  exact addT_nil (t := txT a) rfl ha _
theorem ch_bytes {t : LT} {l : List UInt8} (h : t.s.data.toList = l) : t.ch.map (·.1) = l := by rw [LT.ch_fst]; exact h

set_option maxHeartbeats 2000000 in
set_option maxRecDepth 100000 in
theorem alive11_any (w : World) : Calls Try.prog 6 #[] w fun e w' => e = .returned (.bool true) ∧ Below w.heap.size w w' := by
  go_enter Try.func6, Try.ntmps6
  go_wp2_with fail
  refine (ofT_any ⟨#[97]⟩ 0 w (by show (1 : Nat) ≤ _; omega)).mono ?_
  rintro e w1 ⟨t1, rfl, h1, hb1⟩
  go_wp2_with fail
  refine (ofT_any ⟨#[98]⟩ 0 w1 (by show (1 : Nat) ≤ _; omega)).mono ?_
  rintro e w2 ⟨t2, rfl, h2, hb2⟩
  go_wp2_with fail
  generalize hw3 : w2.alloc (.cells #[.string ⟨#[]⟩, .slice none 0 0, .slice none 0 0, .slice none 0 0, .string ⟨#[97]⟩, .slice t1.A t1.n t1.c, .string ⟨#[]⟩, .slice none 0 0, .slice none 0 0, .slice none 0 0, .string ⟨#[]⟩, .slice none 0 0, .string ⟨#[]⟩, .slice none 0 0, .slice none 0 0, .slice none 0 0, .string ⟨#[98]⟩, .slice t2.A t2.n t2.c] 45) = w3
  have y3 : Whole w3 w2.heap.size 45 #[.string ⟨#[]⟩, .slice none 0 0, .slice none 0 0, .slice none 0 0, .string ⟨#[97]⟩, .slice t1.A t1.n t1.c, .string ⟨#[]⟩, .slice none 0 0, .slice none 0 0, .slice none 0 0, .string ⟨#[]⟩, .slice none 0 0, .string ⟨#[]⟩, .slice none 0 0, .slice none 0 0, .slice none 0 0, .string ⟨#[98]⟩, .slice t2.A t2.n t2.c] := by rw [← hw3]; exact Whole.made _ _ _
  have hb3 : Below w2.heap.size w2 w3 := by rw [← hw3]; exact (Below.refl _ _).alloc (Nat.le_refl _) _
  clear hw3
  have hb13 := below_next hb2 (Nat.le_refl _) hb3
  have HB3 : Hid (Below w.heap.size w w3) := below_next hb1 (Nat.le_refl _) hb13
  have HC1 : Hid (t1.ch.map (·.1) = [97]) := ch_bytes (by rw [h1.out.1])
  have HC2 : Hid (t2.ch.map (·.1) = [98]) := ch_bytes (by rw [h2.out.1])
  have HN1 : Hid (t1.ch ≠ []) := fun h => by have := HC1.out; rw [h] at this; cases this
  have HN2 : Hid (t2.ch ≠ []) := fun h => by have := HC2.out; rw [h] at this; cases this
  have HM : Hid (mergeP (chL [txT1 t1, txT1 noT, txT1 t2]) = [txT (t1.ch ++ t2.ch)]) := by
    show _ = _
    rw [chL, chL, chL, chL, txT1_ch, txT1_ch, txT1_ch, noT_ch]
    exact merge_two HN1.out HN2.out
  have HIN : Hid (TreesIn0 w3 (some ⟨w2.heap.size, 0, none⟩) 3 [txT1 t1, txT1 noT, txT1 t2]) := by
    refine ⟨?_, ?_, rfl, ?_⟩
    · refine (Lies.inS (lies_wholeA y3 ?_) (Nat.le_refl _)).mono fun b hb _ => hb
      show _ = treeRow (txT1 t1) ++ (treeRow (txT1 noT) ++ (treeRow (txT1 t2) ++ []))
      unfold treeRow txT1 noT
      rw [h1.out.1, h2.out.1]
      rfl
    · have a1 : t1.inS (fun b => b < w3.heap.size) w3 := (LT.ok.inS (h1.out.2.ok.next hb13 (Nat.le_refl _)) (Nat.le_refl _))
      have a2 : t2.inS (fun b => b < w3.heap.size) w3 := (LT.ok.inS (h2.out.2.ok.next hb3 (Nat.le_refl _)) (Nat.le_refl _))
      have key : ∀ {t : LT}, t.inS (fun b => b < w3.heap.size) w3 → AllS (fun b => b < w3.heap.size) w3 [txT1 t] := fun h => AllS.one (txT1_in h) (AllS.nil _ _)
      exact (key a1).append ((key (noT_in _ _)).append (key a2))
    · have l1 : t1.ch.length = 1 := by have := congrArg List.length HC1.out; simpa using this
      have l2 : t2.ch.length = 1 := by have := congrArg List.length HC2.out; simpa using this
      rw [chL, chL, chL, chL, txT1_ch, txT1_ch, txT1_ch, noT_ch, bkL, bkL, bkL, bkL, PT.bk_eq, PT.bk_eq, PT.bk_eq]
      show 0 + 0 + t1.ch.length + 1 + bkL [] + (0 + 0 + 0 + 1 + bkL [] + (0 + 0 + t2.ch.length + 1 + bkL [] + 0)) ≤ _
      rw [l1, l2, bkL]
      omega
  clear h1 h2 hb1 hb2 hb3 hb13 y3
  refine (merge_any (some ⟨w2.heap.size, 0, none⟩) 3 3 _ w3 HIN.out).mono ?_
  rw [HM.out]
  rintro e w4 ⟨A4, c4, us, rfl, ho, hall, hch, hb4⟩
  obtain ⟨u, rfl⟩ : ∃ u, us = [u] := by
    have h1 := congrArg List.length hch
    rw [chL_length] at h1
    exact List.length_eq_one_iff.1 h1
  have HU : Hid (u.ch = txT (t1.ch ++ t2.ch)) := by
    show _ = _
    rw [chL, chL] at hch
    injection hch
  have hu : u.text.s = ⟨#[97, 98]⟩ := by
    have h1 : u.text.ch = t1.ch ++ t2.ch := by rw [← TT.ch_text, HU.out]; rfl
    have h2 := congrArg (fun q : Ch => q.map (·.1)) h1
    simp only [List.map_append] at h2
    rw [HC1.out, HC2.out, LT.ch_fst] at h2
    have h3 : u.text.s.data = #[97, 98] := Array.toList_inj.1 h2
    exact congrArg ByteArray.mk h3
  have HBF : Hid (Below w.heap.size w w4) := below_next HB3.out (Nat.le_refl _) hb4
  have HMM : Hid (wtL (mergeP (chL [u])) = 1) := by
    show _ = _
    have hne : t1.ch ++ t2.ch ≠ [] := by simp [HN1.out]
    rw [hch, merge_tx hne, wtL_one, PT.wt_eq]
    rfl
  have HSZ : Hid (bkL (chL [u]) ≤ 1048576) := by
    show _ ≤ _
    have l1 : t1.ch.length = 1 := by have := congrArg List.length HC1.out; simpa using this
    have l2 : t2.ch.length = 1 := by have := congrArg List.length HC2.out; simpa using this
    rw [hch, bkL_one, PT.bk_eq]
    show 0 + 0 + (t1.ch ++ t2.ch).length + 1 + bkL [] ≤ _
    rw [List.length_append, l1, l2, bkL]
    omega
  have HLS : Hid (LiesS (fun b => b < w4.heap.size) w4 A4 (treeCells [u])) := (own_inS ho).mono fun b _ hb => hb
  have HAS : Hid (AllS (fun b => b < w4.heap.size) w4 [u]) := hall.mono fun b _ hb => hb
  obtain ⟨ad, t, hA, _, _, _, _, _, k4, _, hR⟩ := HLS.out.lies.tree (k := 0) (by show 0 < 1; omega)
  have ht : u = t := by have := hR.out; simp at this; exact this
  subst ht
  subst hA
  rw [hu] at k4
  have k4' : w4.cell? ⟨ad.block, ad.off + 4, none⟩ = some (.string ⟨#[97, 98]⟩) := k4
  clear ho hall hch hb4 hR hu k4
  go_wp2_with fail
  refine (size_any (S := fun b => b < w4.heap.size) (some ad) 1 c4 [u] w4 HLS.out HAS.out rfl (fun b h => h) HSZ.out).mono ?_
  rw [HMM.out]
  rintro e w5 ⟨rfl, hb5⟩
  have HB5 : Hid (Below w.heap.size w w5) := below_next HBF.out (Nat.le_refl _) hb5
  clear hb5 k4'
  go_wp2_with fail
  go_ret
  exact ⟨rfl, HB5.out⟩

end Go.Proofs.Ytfebcnndehpklaa.mk

namespace Go.Proofs.Ytfebcnndehpklaa.mk
open Go.RowKit

/-- blocks that came in, or are new, but not the row's own -/
def OutS (S : Nat → Prop) (base : Nat) (v : Value) (b : Nat) : Prop := S b ∨ (base ≤ b ∧ v.ownBlock ≠ some b)
/-- a row of trees that the law makes: all that they reach lies outside of the row's own block -/
def MRow (S : Nat → Prop) (w : World) (base : Nat) (qs : List PT) (v : Value) : Prop :=
  ∃ A c us, v = .slice A us.length c ∧ w.ownsRow base 45 6 (.slice A us.length c) us.length (treeCells us) ∧ AllS (OutS S base v) w us ∧ chL us = qs
theorem MRow.keep {S : Nat → Prop} {w w' : World} {base : Nat} {qs : List PT} {v : Value} (h : MRow S w base qs v) (hb : Below w.heap.size w w') : MRow S w' base qs v := by
  obtain ⟨A, c, us, h1, h2, h3, h4⟩ := h
  exact ⟨A, c, us, h1, own_keep h2 hb, h3.keep (Stays.of hb), h4⟩
theorem MRow.zero (S : Nat → Prop) (w : World) (base : Nat) : MRow S w base [] (.slice none 0 0) := ⟨none, 0, [], rfl, World.ownsRow_nil _ _ _ _, AllS.nil _ _, rfl⟩
theorem MRow.in0 {S : Nat → Prop} {w : World} {base : Nat} {qs : List PT} {A : Option Addr} {n c : Nat} (h : MRow S w base qs (.slice A n c)) (hq : bkL qs ≤ 1048576) : ∃ us, TreesIn0 w A n us ∧ chL us = qs := by
  obtain ⟨A', c', us, h1, h2, h3, h4⟩ := h
  injection h1 with e1 e2 e3
  subst e1 e2 e3
  exact ⟨us, ⟨(own_inS h2).mono fun b _ hb => hb, h3.mono fun b _ hb => hb, rfl, by rw [h4]; exact hq⟩, h4⟩
/-- one more -/
theorem MRow.more {S : Nat → Prop} {w w2 : World} {base n : Nat} {A A' : Option Addr} {c c' : Nat} {us : List TT} {t : TT} {qs : List PT} (hS : ∀ b, S b → b < base) (hown : ∀ g, (Value.slice A n c).ownBlock = some g → base ≤ g) (hn : us.length = n) (hall : AllS (OutS S base (.slice A n c)) w us) (hq : chL us = qs)
    (ht : t.inS (OutS S base (.slice A n c)) w) (hk : AllS (OutS S base (.slice A n c)) w t.kids) (hg : w.grownBy w2 (Value.slice A n c).ownBlock)
    (hv : (Value.slice A' (n + 1) c').ownBlock = (Value.slice A n c).ownBlock ∨ (Value.slice A' (n + 1) c').ownBlock = some w.heap.size)
    (ho : w2.ownsRow base 45 6 (.slice A' (n + 1) c') (n + 1) (treeCells us ++ treeRow t)) : MRow S w2 base (qs ++ [t.ch]) (.slice A' (n + 1) c') := by
  have h1 : AllS (fun b => OutS S base (.slice A n c) b ∧ b < w.heap.size) w (us ++ [t]) := (hall.append (AllS.one ht hk)).mono fun b hb hl => ⟨hb, hl⟩
  refine ⟨A', c', us ++ [t], by rw [List.length_append, hn]; rfl, ?_, ?_, by rw [chL_append, hq]; rfl⟩
  · rw [List.length_append, hn, treeCells_snoc]; exact ho
  · refine (h1.keep ⟨hg.size, fun b hb hl => hg.block b hl (fun e => ?_)⟩).mono fun b hb _ => ?_
    · rcases hb.1 with h | h
      · have := hS b h; have := hown b e.symm; omega
      · exact h.2 e.symm
    · rcases hb.1 with h | h
      · exact .inl h
      · refine .inr ⟨h.1, ?_⟩
        rcases hv with hv | hv
        · rw [hv]; exact h.2
        · rw [hv]; intro e; injection e with e; have := hb.2; omega
/-- one in place of another -/
theorem MRow.put {S : Nat → Prop} {w : World} {base n g k cap : Nat} {us : List TT} {T : TT} {qs : List PT} (hS : ∀ b, S b → b < base) (ho : w.ownsRow base 45 6 (.slice (some ⟨g, 0, none⟩) n cap) n (treeCells us)) (hn : us.length = n) (hk : k < us.length)
    (hall : AllS (OutS S base (.slice (some ⟨g, 0, none⟩) n cap)) w us) (ht : T.inS (OutS S base (.slice (some ⟨g, 0, none⟩) n cap)) w) (hkk : AllS (OutS S base (.slice (some ⟨g, 0, none⟩) n cap)) w T.kids) (hq : (chL us).set k T.ch = qs) :
    let w' := (((((w.setCell ⟨g, k * 6, none⟩ (.string T.tag.s)).setCell ⟨g, k * 6 + 1, none⟩ (.slice T.tag.A T.tag.n T.tag.c)).setCell ⟨g, k * 6 + 2, none⟩ (.slice T.A T.n T.c)).setCell ⟨g, k * 6 + 3, none⟩ (.slice T.K T.kn T.kc)).setCell ⟨g, k * 6 + 4, none⟩ (.string T.text.s)).setCell ⟨g, k * 6 + 5, none⟩ (.slice T.text.A T.text.n T.text.c)
    MRow S w' base qs (.slice (some ⟨g, 0, none⟩) n cap) ∧ Moved (fun b => b = g) w w' := by
  intro w'
  obtain ⟨o, hm⟩ := tree_stored T ho hk
  have hgb := (ho.lt g rfl).1
  refine ⟨⟨some ⟨g, 0, none⟩, cap, us.set k T, by rw [List.length_set, hn], by rw [List.length_set, hn]; exact o, ?_, ?_⟩, hm⟩
  · have h1 : AllS (OutS S base (.slice (some ⟨g, 0, none⟩) n cap)) w (us.set k T) := by
      intro y hy
      obtain ⟨t, ht', hy⟩ := nodes_mem hy
      rcases List.mem_or_eq_of_mem_set ht' with h | h
      · exact hall y (mem_nodes h hy)
      · rw [h, TT.nodes_eq] at hy
        rcases List.mem_cons.1 hy with e | hy
        · rw [e]; exact ht
        · exact hkk y hy
    refine h1.keep (hm.stays fun b _ hb e => ?_)
    rcases hb with h | h
    · have := hS _ h; omega
    · exact h.2 (by rw [e]; rfl)
  · rw [chL_map, List.map_set, ← chL_map]; exact hq

def MrgRel (S : Nat → Prop) (ts : List TT) (n : Nat) (w : World) (s t : Value) (wr : World) : Prop :=
  ∃ k : Nat, k ≤ n ∧ t = .int .i64 (k : Int) ∧ MRow S wr w.heap.size (mergeP ((chL ts).take k)) s ∧ Below w.heap.size w wr

theorem merge_bound {L : List PT} (h : bkL L ≤ 1048576) (k : Nat) : (mergeP (L.take k)).length ≤ 1048576 := by
  have h1 := bkL_len (mergeP (L.take k))
  have h2 := bk_merge (L.take k)
  have h3 := bk_take L k
  omega

/-- what comes in, in blocks of S -/
structure TreesInS (S : Nat → Prop) (w : World) (A : Option Addr) (n : Nat) (ts : List TT) : Prop where
  lt : ∀ b, S b → b < w.heap.size
  lies : LiesS S w A (treeCells ts)
  all : AllS S w ts
  len : ts.length = n
  bulk : bkL (chL ts) ≤ 1048576
theorem TreesInS.next {S : Nat → Prop} {w w' : World} {A : Option Addr} {n : Nat} {ts : List TT} (h : TreesInS S w A n ts) (hb : Below w.heap.size w w') : TreesInS S w' A n ts :=
  ⟨fun b hb2 => Nat.lt_of_lt_of_le (h.lt b hb2) hb.size, h.lies.keep (Stays.of hb), h.all.keep (Stays.of hb), h.len, h.bulk⟩
theorem TreesInS.small {S : Nat → Prop} {w : World} {A : Option Addr} {n : Nat} {ts : List TT} (h : TreesInS S w A n ts) : n ≤ 1048576 := by
  have h1 := bkL_len (chL ts)
  rw [chL_length, h.len] at h1
  exact Nat.le_trans h1 h.bulk
theorem TreesInS.kid {S : Nat → Prop} {w : World} {A : Option Addr} {n : Nat} {ts : List TT} (h : TreesInS S w A n ts) {x : TT} (hx : x ∈ ts) : TreesInS S w x.K x.kn x.kids := by
  have h1 := h.all.get hx
  refine ⟨h.lt, h1.kid, h.all.kids hx, h1.kn, ?_⟩
  have h2 : x.ch ∈ chL ts := by rw [chL_map]; exact List.mem_map.2 ⟨x, hx, rfl⟩
  have h3 := bkL_kids h2
  rw [TT.ch_kids] at h3
  have := h.bulk
  omega
theorem TreesIn0.inS {w : World} {A : Option Addr} {n : Nat} {ts : List TT} (h : TreesIn0 w A n ts) : TreesInS (fun b => b < w.heap.size) w A n ts := ⟨fun _ h => h, h.lies, h.all, h.len, h.bulk⟩

/-- the element that is put behind the others -/
def elT (x : TT) (A5 : Option Addr) (c5 : Nat) (as5 : List AT) (A6 : Option Addr) (n6 c6 : Nat) (ks : List TT) : TT := ⟨x.tag, A5, as5.length, c5, as5, A6, n6, c6, ks, noT⟩
theorem elT_ch (x : TT) (A5 : Option Addr) (c5 : Nat) (as5 : List AT) (A6 : Option Addr) (n6 c6 : Nat) (ks : List TT) : (elT x A5 c5 as5 A6 n6 c6 ks).ch = ⟨x.tag.ch, as5.map AT.ch, chL ks, []⟩ := by
  rw [TT.ch_eq]; show PT.mk _ _ _ noT.ch = _; rw [noT_ch]; rfl

/-- a region that draws its order, under a condition that the last operations need not keep -/
theorem wp_region_last {P : Program} {ops : Array Oper} {Q : Exit → Act → World → Prop} {S : World → Prop} {Z : Nat → Bool} {id : Nat} {a : Act} {w : World} (hm : P.follows .mixedOrders = true)
    (h : wpAnyL P .any ops Q S Z ops.size (Array.replicate ops.size false) a w.drew) : (Code.region id ops true).wp P Q a w := wp_region_any hm (wpAny_of_last _ _ _ _ h)

set_option maxHeartbeats 8000000 in
set_option maxRecDepth 100000 in
theorem merge11_any : ∀ (Q : List PT) (S : Nat → Prop) (A : Option Addr) (n c : Nat) (ts : List TT) (w : World), chL ts = Q → TreesInS S w A n ts →
    Calls Try.prog 8 #[.slice A n c] w fun e w' => ∃ A' n' c', e = .returned (.slice A' n' c') ∧ MRow S w' w.heap.size (mergeP (chL ts)) (.slice A' n' c') ∧ Below w.heap.size w w' := by
  apply PT.ind
  intro Q IH S A n c ts w hq h
  obtain ⟨i0, hi, hiz0, hiz1, hiz2⟩ := info_parts tree_info
  have H := Lib.hid h
  have hn2 := h.small
  have HS : Hid (∀ b, S b → b < w.heap.size) := h.lt
  have HI : Hid (∀ x ∈ ts, ∀ W, Below w.heap.size w W → Calls Try.prog 8 #[.slice x.K x.kn x.kc] W fun e w' => ∃ A' n' c', e = .returned (.slice A' n' c') ∧ MRow S w' W.heap.size (mergeP (chL x.kids)) (.slice A' n' c') ∧ Below W.heap.size W w') := fun x hx W hb =>
    IH x.ch (by rw [← hq, chL_map]; exact List.mem_map.2 ⟨x, hx, rfl⟩) S x.K x.kn x.kc x.kids W (TT.ch_kids x).symm ((h.next hb).kid hx)
  have HN : Hid ((chL ts).length = n) := by show _ = _; rw [chL_length, h.len]
  have HMB : Hid (∀ k, (mergeP ((chL ts).take k)).length ≤ 1048576) := merge_bound h.bulk
  have HBT : Hid (bkL (chL ts) ≤ 1048576) := h.bulk
  clear h hq IH
  go_enter Try.func8, Try.ntmps8
  go_wp2_with fail
  go_loopw [3, 4] (MrgRel S ts n w) (fun _ i _ => n - (intOf i).toNat)
  case atStart => exact ⟨0, Nat.zero_le _, rfl, MRow.zero _ _ _, Below.refl _ _⟩
  case round =>
    obtain ⟨k, hk, rfl, hrow, hb⟩ := hrel
    have HB := Lib.hid hb
    have hzw := hb.size
    by_cases hlt : k < n
    · obtain ⟨ad, x, rfl, hbA, d0, d1, d2, d3, d4, d5, HX⟩ := (H.out.next HB.out).lies.lies.tree (k := k) (by rw [H.out.len]; exact hlt)
      have hk0 : (0 : Int) ≤ (k : Int) := Int.natCast_nonneg _
      have hk1 : (k : Int) < (n : Int) := by omega
      have HMEM : Hid (x ∈ ts) := List.mem_of_getElem? HX.out
      have HNX : Hid (mergeP ((chL ts).take (k + 1)) = addT (mergeP ((chL ts).take k)) x.ch (mergeP (chL x.kids))) := by
        show _ = _
        rw [merge_next (chL_at HX.out), TT.ch_kids]
      have hml := HMB.out k
      have HBM : Hid (bkL (mergeP ((chL ts).take k)) ≤ 1048576) := Nat.le_trans (Nat.le_trans (bk_merge _) (bk_take _ _)) HBT.out
      have HBX : Hid (x.text.ch.length ≤ 1048576) := by
        have h1 := bk_text (L := chL ts) (t := x.ch) (List.mem_of_getElem? (chL_at HX.out))
        rw [TT.ch_text] at h1
        show _ ≤ _
        have := HBT.out
        omega
      have HBK : Hid (bkL (chL x.kids) ≤ 1048576) := by
        have h1 := bkL_kids (L := chL ts) (t := x.ch) (List.mem_of_getElem? (chL_at HX.out))
        rw [TT.ch_kids] at h1
        show _ ≤ _
        have := HBT.out
        omega
      generalize hM : mergeP ((chL ts).take k) = M at *
      obtain ⟨A3, c3, us, rfl, hown, hall, hch⟩ := hrow
      have HUL : Hid (us.length = M.length) := by show _ = _; rw [← hch, chL_length]
      generalize hz3 : us.length = z at *
      have hzz : z ≤ 1048576 := by rw [HUL.out]; exact hml
      have HZ3 := Lib.hid hz3
      have HOW := Lib.hid hown
      have HAL := Lib.hid hall
      have HCH := Lib.hid hch
      have HGB : Hid (∀ g, (Value.slice A3 z c3).ownBlock = some g → w.heap.size ≤ g ∧ g < wr.heap.size) := hown.lt
      generalize hw4 : wr.alloc (.cells #[.string x.tag.s, .slice x.tag.A x.tag.n x.tag.c, .slice x.A x.n x.c, .slice x.K x.kn x.kc, .string x.text.s, .slice x.text.A x.text.n x.text.c] 45) = w4
      have y4 : Whole w4 wr.heap.size 45 #[.string x.tag.s, .slice x.tag.A x.tag.n x.tag.c, .slice x.A x.n x.c, .slice x.K x.kn x.kc, .string x.text.s, .slice x.text.A x.text.n x.text.c] := by rw [← hw4]; exact Whole.made _ _ _
      have hb4 : Below wr.heap.size wr w4 := by rw [← hw4]; exact (Below.refl _ _).alloc (Nat.le_refl _) _
      have hz4 : w4.heap.size = wr.heap.size + 1 := by rw [← hw4]; simp
      have HB4 := Lib.hid hb4
      have HBW4 : Hid (Below w.heap.size w w4) := below_next HB.out (Nat.le_refl _) HB4.out
      have HY4 := Lib.hid y4
      have HZ4 := Lib.hid hz4
      have p0 : w4.cell? ⟨wr.heap.size, 0, none⟩ = some (.string x.tag.s) := y4.at_ 0
      have HOW4 : Hid (∀ W, Below w4.heap.size w4 W → W.ownsRow w.heap.size 45 6 (.slice A3 z c3) z (treeCells us)) := fun W h => own_keep (own_keep HOW.out HB4.out) h
      have HAL4 : Hid (∀ W, Below w4.heap.size w4 W → AllS (OutS S w.heap.size (.slice A3 z c3)) W us) := fun W h => (HAL.out.keep (Stays.of HB4.out)).keep (Stays.of h)
      have HXI : Hid (∀ W, Below w4.heap.size w4 W → x.inS S W) := fun W h => (H.out.next (below_next HBW4.out (Nat.le_refl _) h)).all.get HMEM.out
      have HKS : Hid (∀ w', Moved (fun b => (Value.slice A3 z c3).ownBlock = some b) w4 w' → w'.cell? ⟨wr.heap.size, 0, none⟩ = some (.string x.tag.s) ∧ w'.cell? ⟨wr.heap.size, 1, none⟩ = some (.slice x.tag.A x.tag.n x.tag.c) ∧ w'.cell? ⟨wr.heap.size, 2, none⟩ = some (.slice x.A x.n x.c) ∧ w'.cell? ⟨wr.heap.size, 3, none⟩ = some (.slice x.K x.kn x.kc) ∧ w'.cell? ⟨wr.heap.size, 4, none⟩ = some (.string x.text.s) ∧ w'.cell? ⟨wr.heap.size, 5, none⟩ = some (.slice x.text.A x.text.n x.text.c) ∧ Moved (fun b => (Value.slice A3 z c3).ownBlock = some b) w4 w') := fun w' h => by
        have y := h.whole HY4.out (fun e => by have := (HGB.out _ e).2; omega)
        exact ⟨y.at_ 0, y.at_ 1, y.at_ 2, y.at_ 3, y.at_ 4, y.at_ 5, h⟩
      clear hb hM hown hall hch hz3 hml y4 hb4 hz4
      by_cases ht : x.tag.ch = []
      · have hts : x.tag.s.toList = [] := (LT.s_nil _).2 ht
        have p4 : w4.cell? ⟨wr.heap.size, 4, none⟩ = some (.string x.text.s) := HY4.out.at_ 4
        by_cases he : x.text.ch = []
        · have hes : x.text.s.toList = [] := (LT.s_nil _).2 he
          have HEQ : Hid (addT M x.ch (mergeP (chL x.kids)) = M) := addT_no (by rw [TT.ch_tag]; exact ht) (by rw [TT.ch_text]; exact he) _ _
          clear ht he
          go_wp2_with fail
          clear hw4
          go_roundw
          case rel =>
            refine ⟨k + 1, by omega, by go_num, ?_, HBW4.out⟩
            rw [HNX.out, HEQ.out]
            exact MRow.keep ⟨A3, c3, us, by rw [HZ3.out], by rw [HZ3.out]; exact HOW.out, HAL.out, HCH.out⟩ HB4.out
          case measure => simp [intOf]; omega
        · have hes : ¬ x.text.s.toList = [] := fun h => he ((LT.s_nil _).1 h)
          have hes2 : x.text.s.toList.isEmpty = false := by simpa using hes
          have HXT : Hid (x.ch.tag = []) := by show _ = _; rw [TT.ch_tag]; exact ht
          have HXX : Hid (x.ch.text ≠ []) := by show _ ≠ _; rw [TT.ch_text]; exact he
          clear ht he
          have HTX4 : Hid (x.text.ch = x.ch.text) := (TT.ch_text x).symm
          have p5 : w4.cell? ⟨wr.heap.size, 5, none⟩ = some (.slice x.text.A x.text.n x.text.c) := HY4.out.at_ 5
          have hown4 := HOW4.out w4 (Below.refl _ _)
          have hz4 : w.heap.size ≤ w4.heap.size := HBW4.out.size
          have HADD : Hid (∀ (t : TT) W W2 A' c', Below w4.heap.size w4 W → t.inS (OutS S w.heap.size (.slice A3 z c3)) W → AllS (OutS S w.heap.size (.slice A3 z c3)) W t.kids → W.grownBy W2 (Value.slice A3 z c3).ownBlock →
              ((Value.slice A' (z + 1) c').ownBlock = (Value.slice A3 z c3).ownBlock ∨ (Value.slice A' (z + 1) c').ownBlock = some W.heap.size) → W2.ownsRow w.heap.size 45 6 (.slice A' (z + 1) c') (z + 1) (treeCells us ++ treeRow t) →
              MRow S W2 w.heap.size (M ++ [t.ch]) (.slice A' (z + 1) c') ∧ Below w.heap.size w W2) := fun t W W2 A' c' hb h1 h2 hg hv ho =>
            ⟨MRow.more HS.out (fun g hg => (HGB.out g hg).1) HZ3.out (HAL4.out W hb) HCH.out h1 h2 hg hv ho, (below_next HBW4.out (Nat.le_refl _) hb).grown hg (Nat.le_trans HBW4.out.size hb.size) (fun g hg => (HGB.out g hg).1)⟩
          cases z with
          | zero =>
            have HFAR : Hid (addT M x.ch (mergeP (chL x.kids)) = M ++ [txT x.text.ch]) := by
              show _ = _
              have hM : M = [] := List.eq_nil_of_length_eq_zero HUL.out.symm
              rw [hM, addT_nil HXT.out HXX.out, HTX4.out]
              rfl
            go_wp2_with (at_builtin; refine wpList_append_own_at _ rfl _ _ 22 rfl w.heap.size 45 i0 _ 6 128 Try.underlying22 hi hiz0 hiz1 hiz2 rfl (by decide) (.slice A3 0 c3) 0 _ rfl (hown4.alloc _) ⟨w4.heap.size, 0, none⟩ 1 1 (treeRow (txT1 x.text)) rfl rfl (cells_new w4 _ _) (treeRow_one _) (by simp only [maxLen]; omega) (by omega) (by simp; omega) ?_)
            intro v' w7 hown7 hgrow _ hv7
            obtain ⟨A7, c7, rfl, _, _, _⟩ := own_form hown7
            have HF := Lib.hid (HADD.out (txT1 x.text) _ w7 A7 c7 ((Below.refl w4.heap.size w4).alloc (Nat.le_refl _) _) (txT1_in (((HXI.out _ ((Below.refl w4.heap.size w4).alloc (Nat.le_refl _) _)).text).mono fun b hb _ => .inl hb)) (AllS.nil _ _) hgrow (by rw [World.size_alloc]; exact hv7) hown7)
            clear hgrow hv7 hown7 hown4
            go_wp2_with fail
            clear hw4
            go_roundw
            case rel =>
              refine ⟨k + 1, by omega, by go_num, ?_, HF.out.2⟩
              rw [HNX.out, HFAR.out, ← txT1_ch]
              exact HF.out.1
            case measure => simp [intOf]; omega
          | succ z =>
            obtain ⟨g, rfl⟩ : ∃ g, A3 = some ⟨g, 0, none⟩ := by
              rcases hown4.2 with ⟨hv, _⟩ | ⟨g, cap, cur, hv, _⟩
              · injection hv with _ hv _; omega
              · injection hv with hv _ _; exact ⟨g, hv⟩
            obtain ⟨u, hu⟩ : ∃ u, us[z]? = some u := ⟨_, List.getElem?_eq_getElem (by rw [HZ3.out]; exact Nat.lt_succ_self _)⟩
            have HU := Lib.hid hu
            have hzi : ((z + 1 : Nat) : Int) - 1 = (z : Int) := by omega
            have hzi0 : (0 : Int) ≤ (z : Int) := Int.natCast_nonneg _
            have hzi1 : (z : Int) < ((z + 1 : Nat) : Int) := by omega
            obtain ⟨q0, q1, q2, q3, q4, q5, f0, f1, f2, f3, f4, f5⟩ := tree_at hown4 hu HZ3.out
            have HML : Hid (∃ M', M = M' ++ [u.ch] ∧ M'.length = z) := by
              have h1 : M[z]? = some u.ch := by rw [← HCH.out]; exact chL_at hu
              refine ⟨M.take z, ?_, ?_⟩
              · have h2 := take_next h1
                rw [List.take_of_length_le (by rw [← HUL.out]; exact Nat.le_refl _)] at h2
                exact h2
              · rw [List.length_take, ← HUL.out]; omega
            clear hu
            by_cases hut : u.tag.ch = []
            · have hus : u.tag.s.toList = [] := (LT.s_nil _).2 hut
              have HUT : Hid (u.ch.tag = []) := by show _ = _; rw [TT.ch_tag]; exact hut
              clear hut
              have HUX : Hid (x.text.inS S w4) := (HXI.out w4 (Below.refl _ _)).text
              have HUU : Hid (u.text.inS (OutS S w.heap.size (.slice (some ⟨g, 0, none⟩) (z + 1) c3)) w4) := ((HAL4.out w4 (Below.refl _ _)).get (List.mem_of_getElem? HU.out)).text
              have HLU : Hid (u.text.ch.length + x.text.ch.length ≤ 4294967296) := by
                show _ ≤ _
                have h1 := HBM.out
                obtain ⟨M', hM, _⟩ := HML.out
                have h2 := bk_text (L := M) (t := u.ch) (by rw [hM]; simp)
                rw [TT.ch_text] at h2
                have h3 := HBX.out
                omega
              have HCAT : Hid (∀ W h, Below w4.heap.size w4 W → Lies W W.heap.size (some ⟨h, 0, none⟩) (ltCells [u.text, x.text]) → Calls Try.prog 22 #[.slice (some ⟨h, 0, none⟩) 2 2] W fun e w' => ∃ t : LT, e = .returned (.agg #[.string t.s, .slice t.A t.n t.c]) ∧ Hid (t.ch = u.text.ch ++ x.text.ch ∧ OwnL w' W.heap.size t) ∧ Below W.heap.size W w') := fun W h hb hl => by
                have h1 := catT_any [u.text, x.text] (some ⟨h, 0, none⟩) 2 2 W hl rfl (by omega) (fun t ht => by
                  rcases List.mem_cons.1 ht with rfl | ht
                  · exact (HUU.out.keep (Stays.of hb)).ok
                  · rcases List.mem_cons.1 ht with rfl | ht
                    · exact (HUX.out.keep (Stays.of hb)).ok
                    · cases ht) (by
                  show (u.text.ch ++ (x.text.ch ++ [])).length ≤ _
                  rw [List.append_nil, List.length_append]
                  exact HLU.out)
                have e : catCh [u.text, x.text] = u.text.ch ++ x.text.ch := by show u.text.ch ++ (x.text.ch ++ []) = _; rw [List.append_nil]
                rw [e] at h1
                exact h1
              have HGG : Hid (w.heap.size ≤ g ∧ g < wr.heap.size) := HGB.out g rfl
              have HPUT : Hid (∀ (t6 : LT) b6 w6, w4.heap.size ≤ b6 → Below w4.heap.size w4 w6 → t6.ch = u.text.ch ++ x.text.ch → OwnL w6 b6 t6 →
                  MRow S ((((((w6.setCell ⟨g, z * 6, none⟩ (.string ⟨#[]⟩)).setCell ⟨g, z * 6 + 1, none⟩ (.slice none 0 0)).setCell ⟨g, z * 6 + 2, none⟩ (.slice none 0 0)).setCell ⟨g, z * 6 + 3, none⟩ (.slice none 0 0)).setCell ⟨g, z * 6 + 4, none⟩ (.string t6.s)).setCell ⟨g, z * 6 + 5, none⟩ (.slice t6.A t6.n t6.c)) w.heap.size (addT M x.ch (mergeP (chL x.kids))) (.slice (some ⟨g, 0, none⟩) (z + 1) c3) ∧
                  Below w.heap.size w ((((((w6.setCell ⟨g, z * 6, none⟩ (.string ⟨#[]⟩)).setCell ⟨g, z * 6 + 1, none⟩ (.slice none 0 0)).setCell ⟨g, z * 6 + 2, none⟩ (.slice none 0 0)).setCell ⟨g, z * 6 + 3, none⟩ (.slice none 0 0)).setCell ⟨g, z * 6 + 4, none⟩ (.string t6.s)).setCell ⟨g, z * 6 + 5, none⟩ (.slice t6.A t6.n t6.c))) := by
                intro t6 b6 w6 hz6 hb6 hc ho6
                obtain ⟨M', hM, hMl⟩ := HML.out
                have h1 := MRow.put (S := S) (k := z) (T := txT1 t6) (qs := addT M x.ch (mergeP (chL x.kids))) HS.out (HOW4.out w6 hb6) HZ3.out (by rw [HZ3.out]; exact Nat.lt_succ_self _) (HAL4.out w6 hb6)
                  (txT1_in (ho6.inS.mono fun b hb _ => .inr ⟨by have := HBW4.out.size; omega, by show some g ≠ some b; intro e; injection e with e; have := HGG.out.2; have := HB4.out.size; omega⟩)) (AllS.nil _ _) (by
                    have e : M' ++ [u.ch] = M' ++ u.ch :: [] := rfl
                    rw [HCH.out, hM, addT_tx HXT.out HXX.out _ _ HUT.out, txT1_ch, hc, TT.ch_text, TT.ch_text, e, ← hMl, List.set_append_right _ _ (Nat.le_refl _), Nat.sub_self]
                    rfl)
                refine ⟨h1.1, ?_⟩
                exact (below_next HBW4.out (Nat.le_refl _) hb6).trans (h1.2.below (Nat.le_trans HBW4.out.size hb6.size) fun b hb e => by have := HGG.out.1; omega)
              have HSB : Hid (∀ V, Below w4.heap.size w4 V → V.cell? ⟨g, z * 6 + 4, none⟩ = some (.string u.text.s) ∧ V.cell? ⟨g, z * 6 + 5, none⟩ = some (.slice u.text.A u.text.n u.text.c) ∧ V.cell? ⟨wr.heap.size, 4, none⟩ = some (.string x.text.s) ∧ V.cell? ⟨wr.heap.size, 5, none⟩ = some (.slice x.text.A x.text.n x.text.c)) := fun V h => by
                have y := HY4.out.below h HY4.out.lt
                obtain ⟨_, _, _, _, r4, r5, _⟩ := tree_at (HOW4.out V h) HU.out HZ3.out
                exact ⟨r4, r5, y.at_ 4, y.at_ 5⟩
              go_wp2_with fail
              have hS := HSB.out w4.drew (Below.drew (Below.refl _ _))
              have hzi2 : (z : Int) < (z : Int) + 1 := by omega
              clear q0 q1 q2 q3 q4 q5 f0 f1 f2 f3 f4 f5 hown4 p0 p4 p5
              refine wp_region_last (S := fun V => V.cell? ⟨g, z * 6 + 4, none⟩ = some (.string u.text.s) ∧ V.cell? ⟨g, z * 6 + 5, none⟩ = some (.slice u.text.A u.text.n u.text.c) ∧ V.cell? ⟨wr.heap.size, 4, none⟩ = some (.string x.text.s) ∧ V.cell? ⟨wr.heap.size, 5, none⟩ = some (.slice x.text.A x.text.n x.text.c)) (Z := fun i => decide (13 ≤ i)) (by kernel_rfl) ?_
              refine' wpAnyL_take (i := 0) ?hi1 (by kernel_rfl) (by kernel_rfl) (by kernel_rfl) (by kernel_rfl) ?hQ1 ?hy1 hS ?rest1
              case hi1 => simp only [List.getElem?_toArray, List.getElem?_cons_zero]; rfl
              case hQ1 => exact fun _ _ _ h => h
              case hy1 =>
                refine Or.inl ⟨by rfl, ?_⟩
                intro wq hq
                try dsimp only at hq
                try obtain ⟨hq0, hq1, hq2, hq3⟩ := hq
                go_simp
                try with_reducible rfl
              try simp only [Act.put, List.setIfInBounds_toArray, List.set_cons_zero, List.set_cons_succ]
              refine' wpAnyL_take (i := 1) ?hi2 (by kernel_rfl) (by kernel_rfl) (by kernel_rfl) (by kernel_rfl) ?hQ2 ?hy2 hS ?rest2
              case hi2 => simp only [List.getElem?_toArray, List.getElem?_cons_succ, List.getElem?_cons_zero]; rfl
              case hQ2 => exact fun _ _ _ h => h
              case hy2 =>
                refine Or.inl ⟨by rfl, ?_⟩
                intro wq hq
                try dsimp only at hq
                try obtain ⟨hq0, hq1, hq2, hq3⟩ := hq
                go_simp
                try with_reducible rfl
              try simp only [Act.put, List.setIfInBounds_toArray, List.set_cons_zero, List.set_cons_succ]
              refine' wpAnyL_take (i := 2) ?hi3 (by kernel_rfl) (by kernel_rfl) (by kernel_rfl) (by kernel_rfl) ?hQ3 ?hy3 hS ?rest3
              case hi3 => simp only [List.getElem?_toArray, List.getElem?_cons_succ, List.getElem?_cons_zero]; rfl
              case hQ3 => exact fun _ _ _ h => h
              case hy3 =>
                refine Or.inl ⟨by rfl, ?_⟩
                intro wq hq
                try dsimp only at hq
                try obtain ⟨hq0, hq1, hq2, hq3⟩ := hq
                go_simp
                try with_reducible rfl
              try simp only [Act.put, List.setIfInBounds_toArray, List.set_cons_zero, List.set_cons_succ]
              refine' wpAnyL_take (i := 3) ?hi4 (by kernel_rfl) (by kernel_rfl) (by kernel_rfl) (by kernel_rfl) ?hQ4 ?hy4 hS ?rest4
              case hi4 => simp only [List.getElem?_toArray, List.getElem?_cons_succ, List.getElem?_cons_zero]; rfl
              case hQ4 => exact fun _ _ _ h => h
              case hy4 =>
                refine Or.inl ⟨by rfl, ?_⟩
                intro wq hq
                try dsimp only at hq
                try obtain ⟨hq0, hq1, hq2, hq3⟩ := hq
                go_simp
                try with_reducible rfl
              try simp only [Act.put, List.setIfInBounds_toArray, List.set_cons_zero, List.set_cons_succ]
              refine' wpAnyL_take (i := 4) ?hi5 (by kernel_rfl) (by kernel_rfl) (by kernel_rfl) (by kernel_rfl) ?hQ5 ?hy5 hS ?rest5
              case hi5 => simp only [List.getElem?_toArray, List.getElem?_cons_succ, List.getElem?_cons_zero]; rfl
              case hQ5 => exact fun _ _ _ h => h
              case hy5 =>
                refine Or.inl ⟨by rfl, ?_⟩
                intro wq hq
                try dsimp only at hq
                try obtain ⟨hq0, hq1, hq2, hq3⟩ := hq
                go_simp
                try with_reducible rfl
              try simp only [Act.put, List.setIfInBounds_toArray, List.set_cons_zero, List.set_cons_succ]
              refine' wpAnyL_take (i := 5) ?hi6 (by kernel_rfl) (by kernel_rfl) (by kernel_rfl) (by kernel_rfl) ?hQ6 ?hy6 hS ?rest6
              case hi6 => simp only [List.getElem?_toArray, List.getElem?_cons_succ, List.getElem?_cons_zero]; rfl
              case hQ6 => exact fun _ _ _ h => h
              case hy6 =>
                refine Or.inl ⟨by rfl, ?_⟩
                intro wq hq
                try dsimp only at hq
                try obtain ⟨hq0, hq1, hq2, hq3⟩ := hq
                go_simp
                try with_reducible rfl
              try simp only [Act.put, List.setIfInBounds_toArray, List.set_cons_zero, List.set_cons_succ]
              refine' wpAnyL_take (i := 6) ?hi7 (by kernel_rfl) (by kernel_rfl) (by kernel_rfl) (by kernel_rfl) ?hQ7 ?hy7 hS ?rest7
              case hi7 => simp only [List.getElem?_toArray, List.getElem?_cons_succ, List.getElem?_cons_zero]; rfl
              case hQ7 => exact fun _ _ _ h => h
              case hy7 =>
                refine Or.inl ⟨by rfl, ?_⟩
                intro wq hq
                try dsimp only at hq
                try obtain ⟨hq0, hq1, hq2, hq3⟩ := hq
                go_simp
                try with_reducible rfl
              try simp only [Act.put, List.setIfInBounds_toArray, List.set_cons_zero, List.set_cons_succ]
              refine' wpAnyL_take (i := 7) ?hi8 (by kernel_rfl) (by kernel_rfl) (by kernel_rfl) (by kernel_rfl) ?hQ8 ?hy8 hS ?rest8
              case hi8 => simp only [List.getElem?_toArray, List.getElem?_cons_succ, List.getElem?_cons_zero]; rfl
              case hQ8 => exact fun _ _ _ h => h
              case hy8 =>
                refine Or.inl ⟨by rfl, ?_⟩
                intro wq hq
                try dsimp only at hq
                try obtain ⟨hq0, hq1, hq2, hq3⟩ := hq
                go_simp
                try with_reducible rfl
              try simp only [Act.put, List.setIfInBounds_toArray, List.set_cons_zero, List.set_cons_succ]
              refine' wpAnyL_take (i := 8) ?hi9 (by kernel_rfl) (by kernel_rfl) (by kernel_rfl) (by kernel_rfl) ?hQ9 ?hy9 hS ?rest9
              case hi9 => simp only [List.getElem?_toArray, List.getElem?_cons_succ, List.getElem?_cons_zero]; rfl
              case hQ9 => exact fun _ _ _ h => h
              case hy9 =>
                refine Or.inl ⟨by rfl, ?_⟩
                intro wq hq
                try dsimp only at hq
                try obtain ⟨hq0, hq1, hq2, hq3⟩ := hq
                go_simp
                try with_reducible rfl
              try simp only [Act.put, List.setIfInBounds_toArray, List.set_cons_zero, List.set_cons_succ]
              refine wpAnyL_ready (rs := [9]) (by kernel_rfl) (by simp) ?_
              refine' ReadyL.cons ?ho10 (fun K hK => ?step10) ?more10
              case ho10 => simp only [List.getElem?_toArray, List.getElem?_cons_succ, List.getElem?_cons_zero]; rfl
              case step10 =>
                go_simp
                refine hK.out _ _ (.inr (HSB.out _ ((Below.drew (Below.refl w4.heap.size w4)).alloc (Nat.le_refl _) _))) ?_
                clear hK K hS
                try simp only [Act.put, List.setIfInBounds_toArray, List.set_cons_zero, List.set_cons_succ]
                refine wpAnyL_ready (rs := [10]) (by kernel_rfl) (by simp) ?_
                refine' ReadyL.cons ?ho11 (fun K hK => ?step11) ?more11
                case ho11 => simp only [List.getElem?_toArray, List.getElem?_cons_succ, List.getElem?_cons_zero]; rfl
                case step11 =>
                  go_simp
                  refine (HCAT.out _ _ ((Below.drew (Below.refl w4.heap.size w4)).alloc (Nat.le_refl _) _) (lies_wholeA (Whole.made _ _ _) rfl)).mono ?_
                  rintro e w6 ⟨t6, rfl, h6, hb6⟩
                  have hbB : Below w4.heap.size w4 w6 := below_next ((Below.drew (Below.refl w4.heap.size w4)).alloc (Nat.le_refl _) _) (Nat.le_refl _) hb6
                  refine hK.out _ _ (.inr (HSB.out _ hbB)) ?_
                  clear hK K
                  have hS := HSB.out _ hbB
                  try simp only [Act.put, List.setIfInBounds_toArray, List.set_cons_zero, List.set_cons_succ]
                  refine' wpAnyL_take (i := 11) ?hi12 (by kernel_rfl) (by kernel_rfl) (by kernel_rfl) (by kernel_rfl) ?hQ12 ?hy12 hS ?rest12
                  case hi12 => simp only [List.getElem?_toArray, List.getElem?_cons_succ, List.getElem?_cons_zero]; rfl
                  case hQ12 => exact fun _ _ _ h => h
                  case hy12 =>
                    refine Or.inl ⟨by rfl, ?_⟩
                    intro wq hq
                    try dsimp only at hq
                    try obtain ⟨hq0, hq1, hq2, hq3⟩ := hq
                    go_simp
                    try with_reducible rfl
                  try simp only [Act.put, List.setIfInBounds_toArray, List.set_cons_zero, List.set_cons_succ]
                  refine' wpAnyL_take (i := 12) ?hi13 (by kernel_rfl) (by kernel_rfl) (by kernel_rfl) (by kernel_rfl) ?hQ13 ?hy13 hS ?rest13
                  case hi13 => simp only [List.getElem?_toArray, List.getElem?_cons_succ, List.getElem?_cons_zero]; rfl
                  case hQ13 => exact fun _ _ _ h => h
                  case hy13 =>
                    refine Or.inl ⟨by rfl, ?_⟩
                    intro wq hq
                    try dsimp only at hq
                    try obtain ⟨hq0, hq1, hq2, hq3⟩ := hq
                    go_simp
                    try with_reducible rfl
                  try simp only [Act.put, List.setIfInBounds_toArray, List.set_cons_zero, List.set_cons_succ]
                  clear hS
                  refine wpAnyL_ready (rs := [13]) (by kernel_rfl) (by simp) ?_
                  refine' ReadyL.cons ?ho14 (fun K hK => ?step14) ?more14
                  case ho14 => simp only [List.getElem?_toArray, List.getElem?_cons_succ, List.getElem?_cons_zero]; rfl
                  case step14 =>
                    obtain ⟨k0, k1, k2, k3, k4, k5, f0, f1, f2, f3, f4, f5⟩ := tree_at (HOW4.out w6 hbB) HU.out HZ3.out
                    go_simp
                    refine hK.out _ _ (.inl (by decide)) ?_
                    clear hK K k0 k1 k2 k3 k4 k5 f0 f1 f2 f3 f4 f5
                    try simp only [Act.put, List.setIfInBounds_toArray, List.set_cons_zero, List.set_cons_succ]
                    refine wpAnyL_done (by kernel_rfl) ?_ _
                    have HF := Lib.hid (HPUT.out t6 _ w6 (by simp) hbB h6.out.1 h6.out.2)
                    clear hbB hb6 h6
                    go_wp2_with fail
                    clear hw4
                    go_roundw
                    case rel => exact ⟨k + 1, by omega, by go_num, by rw [HNX.out]; exact HF.out.1, HF.out.2⟩
                    case measure => simp [intOf]; omega
                  exact ReadyL.nil
                exact ReadyL.nil
              exact ReadyL.nil
            · have hus : ¬ u.tag.s.toList = [] := fun h => hut ((LT.s_nil _).1 h)
              have hus2 : u.tag.s.toList.isEmpty = false := by simpa using hus
              have HFAR : Hid (addT M x.ch (mergeP (chL x.kids)) = M ++ [txT x.text.ch]) := by
                obtain ⟨M', hM, _⟩ := HML.out
                show _ = _
                rw [hM, addT_far HXT.out HXX.out _ _ (by rw [TT.ch_tag]; exact hut), HTX4.out]
              clear hut
              go_wp2_with (at_builtin; refine wpList_append_own_at _ rfl _ _ 22 rfl w.heap.size 45 i0 _ 6 128 Try.underlying22 hi hiz0 hiz1 hiz2 rfl (by decide) (.slice (some ⟨g, 0, none⟩) (z + 1) c3) (z + 1) _ rfl (hown4.alloc _) ⟨w4.heap.size, 0, none⟩ 1 1 (treeRow (txT1 x.text)) rfl rfl (cells_new w4 _ _) (treeRow_one _) (by simp only [maxLen]; omega) (by omega) (by simp; omega) ?_)
              intro v' w7 hown7 hgrow _ hv7
              obtain ⟨A7, c7, rfl, _, _, _⟩ := own_form hown7
              have HF := Lib.hid (HADD.out (txT1 x.text) _ w7 A7 c7 ((Below.refl w4.heap.size w4).alloc (Nat.le_refl _) _) (txT1_in (((HXI.out _ ((Below.refl w4.heap.size w4).alloc (Nat.le_refl _) _)).text).mono fun b hb _ => .inl hb)) (AllS.nil _ _) hgrow (by rw [World.size_alloc]; exact hv7) hown7)
              clear hgrow hv7 hown7 hown4
              go_wp2_with fail
              clear hw4
              go_roundw
              case rel =>
                refine ⟨k + 1, by omega, by go_num, ?_, HF.out.2⟩
                rw [HNX.out, HFAR.out, ← txT1_ch]
                exact HF.out.1
              case measure => simp [intOf]; omega
      · have hts : ¬ x.tag.s.toList = [] := fun h => ht ((LT.s_nil _).1 h)
        have hts2 : x.tag.s.toList.isEmpty = false := by simpa using hts
        have HEQ : Hid (addT M x.ch (mergeP (chL x.kids)) = M ++ [⟨x.tag.ch, onceA (x.atts.map AT.ch), mergeP (chL x.kids), []⟩]) := by
          show _ = _
          rw [addT_el (by rw [TT.ch_tag]; exact ht), TT.ch_tag, TT.ch_attrs]
        clear ht
        have HON : Hid (∀ W, Below w4.heap.size w4 W → Calls Try.prog 25 #[.slice x.A x.n x.c] W (TellsA (onceA (x.atts.map AT.ch)) W)) := fun W h => by
          have h1 := HXI.out W h
          have := h1.am
          exact once_any x.A x.n x.c x.atts W h1.att.lies (fun a ha => (h1.atts a ha).ok) h1.an (by omega)
        have HMG : Hid (∀ W, Below w4.heap.size w4 W → Calls Try.prog 8 #[.slice x.K x.kn x.kc] W fun e w' => ∃ A' n' c', e = .returned (.slice A' n' c') ∧ MRow S w' W.heap.size (mergeP (chL x.kids)) (.slice A' n' c') ∧ Below W.heap.size W w') := fun W h =>
          HI.out x HMEM.out W (below_next HBW4.out (Nat.le_refl _) h)
        have HELEM : Hid (∀ A5 c5 as5 A6 n6 c6 b5 b6 w6 W2 A' c' o, w4.heap.size ≤ b5 → w6.ownsRow b5 62 4 (.slice A5 as5.length c5) as5.length (atCells as5) → AllOwn w6 b5 as5 → as5.map AT.ch = onceA (x.atts.map AT.ch) → w4.heap.size ≤ b6 → MRow S w6 b6 (mergeP (chL x.kids)) (.slice A6 n6 c6) → Below w4.heap.size w4 w6 →
            (w6.alloc o).grownBy W2 (Value.slice A3 z c3).ownBlock → ((Value.slice A' (z + 1) c').ownBlock = (Value.slice A3 z c3).ownBlock ∨ (Value.slice A' (z + 1) c').ownBlock = some (w6.alloc o).heap.size) → W2.ownsRow w.heap.size 45 6 (.slice A' (z + 1) c') (z + 1) (treeCells us ++ treeRow (elT x A5 c5 as5 A6 n6 c6 [])) →
            MRow S W2 w.heap.size (addT M x.ch (mergeP (chL x.kids))) (.slice A' (z + 1) c') ∧ Below w.heap.size w W2) := by
          intro A5 c5 as5 A6 n6 c6 b5 b6 w6 W2 A' c' o hb5 o5 ok5 q5 hb6 hr6 hb h1 h2 h3
          obtain ⟨A6', c6', ks, hv6, o6, hall6, hch6⟩ := hr6
          injection hv6 with e1 e2 e3
          subst e1 e2 e3
          have hx := HXI.out w6 hb
          have hbo : Below w6.heap.size w6 (w6.alloc o) := (Below.refl _ _).alloc (Nat.le_refl _) _
          have hbwo := below_next HBW4.out (Nat.le_refl _) (below_next hb (Nat.le_refl _) hbo)
          have hout : ∀ b, w4.heap.size ≤ b → OutS S w.heap.size (.slice A3 z c3) b := fun b hb => .inr ⟨by have := HBW4.out.size; omega, fun e => by have := (HGB.out b e).2; have := HB4.out.size; omega⟩
          have hT : (elT x A5 c5 as5 A6 ks.length c6 ks).inS (OutS S w.heap.size (.slice A3 z c3)) w6 := by
            refine ⟨hx.tag.mono fun b h _ => .inl h, noT_in _ _, (own_inS o5).mono fun b h _ => hout b (by omega), rfl, ?_, ?_, fun a ha => ((ok5 a ha).inS).mono fun b h _ => hout b (by omega), (own_inS o6).mono fun b h _ => hout b (by omega), rfl, ?_, ?_⟩
            · obtain ⟨A', c', hv, h, _, _⟩ := own_form o5
              injection hv with e1 e2 e3
              show A5 = none → c5 = 0
              rw [e1, e3]; exact h
            · show as5.length ≤ _
              have h4 := congrArg List.length q5
              rw [List.length_map] at h4
              have h5 : (onceA (x.atts.map AT.ch)).length ≤ (x.atts.map AT.ch).length := sel_len _ _
              rw [List.length_map, hx.an] at h5
              have := hx.am
              omega
            · obtain ⟨A', c', hv, h, _, _⟩ := own_form o6
              injection hv with e1 e2 e3
              show A6 = none → c6 = 0
              rw [e1, e3]; exact h
            · show ks.length ≤ _
              have h4 := congrArg List.length hch6
              rw [chL_length] at h4
              have h5 := bkL_len (mergeP (chL x.kids))
              have h6 := bk_merge (chL x.kids)
              have h7 := HBK.out
              omega
          have hks : AllS (OutS S w.heap.size (.slice A3 z c3)) w6 ks := hall6.mono fun b h _ => by
            rcases h with h | h
            · exact .inl h
            · exact hout b (by omega)
          have h9 := MRow.more (S := S) (t := elT x A5 c5 as5 A6 ks.length c6 ks) HS.out (fun g hg => (HGB.out g hg).1) HZ3.out ((HAL4.out w6 hb).keep (Stays.of hbo)) HCH.out (hT.keep (Stays.of hbo)) (hks.keep (Stays.of hbo)) h1 h2 h3
          rw [elT_ch, q5, hch6] at h9
          rw [HEQ.out]
          exact ⟨h9, hbwo.grown h1 hbwo.size (fun g hg => (HGB.out g hg).1)⟩
        have hzw4 : w.heap.size ≤ w4.heap.size := HBW4.out.size
        go_wp2_with fail
        go_region_held3 (fun w' => w'.cell? ⟨wr.heap.size, 0, none⟩ = some (.string x.tag.s) ∧ w'.cell? ⟨wr.heap.size, 1, none⟩ = some (.slice x.tag.A x.tag.n x.tag.c) ∧ w'.cell? ⟨wr.heap.size, 2, none⟩ = some (.slice x.A x.n x.c) ∧ w'.cell? ⟨wr.heap.size, 3, none⟩ = some (.slice x.K x.kn x.kc) ∧ w'.cell? ⟨wr.heap.size, 4, none⟩ = some (.string x.text.s) ∧ w'.cell? ⟨wr.heap.size, 5, none⟩ = some (.slice x.text.A x.text.n x.text.c) ∧ Moved (fun b => (Value.slice A3 z c3).ownBlock = some b) w4 w')
          (first
            | exact HKS.out _ (Moved.drew (Moved.refl _ _))
            | (go_split_ands; exact HKS.out _ (by assumption))
            | exact HKS.out _ (Moved.of_below hbA)
            | exact HKS.out _ (Moved.of_below hbB)
            | exact HKS.out _ ((Moved.of_below hbB).alloc _)
            | exact HKS.out _ hmC)
          (first
            | (go_at_call 25; refine (HON.out _ (Below.drew (Below.refl _ _))).mono ?_; rintro e w5 ⟨A5, c5, as5, rfl, o5, ok5, q5, hb5⟩; have hbA : Below w4.heap.size w4 w5 := (Below.drew (Below.refl _ w4)).trans hb5)
            | (go_at_call 8; refine (HMG.out _ hbA).mono ?_; rintro e w6 ⟨A6, n6, c6, rfl, hr6, hb6⟩; have hbB : Below w4.heap.size w4 w6 := below_next hbA (Nat.le_refl _) hb6)
            | (refine step_append_src _ (by rfl) (.tmp 21) (.tmp 31) 22 (by rfl) w.heap.size 45 i0 _ 6 128 Try.underlying22 hi hiz0 hiz1 hiz2 rfl (by omega) (.slice A3 z c3) z _ (by rfl) ((HOW4.out w6 hbB).alloc _) _ (some ⟨w6.heap.size, 0, none⟩) 1 1 (treeRow (elT x A5 c5 as5 A6 n6 c6 [])) (by rfl) (by simp) (by rfl) (lies_wholeA (Whole.made w6 _ _) rfl) (treeRow_one _) (by simp only [maxLen]; omega) (by omega) (by have := hbB.size; simp; omega) ?_
               intro v7 w7 hown7 hg7 hv7
               have hmC : Moved (fun b => (Value.slice A3 z c3).ownBlock = some b) w4 w7 := ((Moved.of_below hbB).alloc _).trans ⟨hg7.os, hg7.tape, hg7.output, hg7.size, fun k hk hs => hg7.block k hk (fun e => hs e.symm)⟩))
        all_goals
          obtain ⟨A7, c7, rfl, _, _, _⟩ := own_form hown7
          have HF := Lib.hid (HELEM.out A5 c5 as5 A6 n6 c6 _ _ w6 w7 A7 c7 _ (Nat.le_refl _) (own_keep o5 hb6) (ok5.below hb6) q5 (hbA.size) hr6 hbB hg7 hv7 hown7)
          clear hown7 hg7 hv7 hbA hbB hmC hr6 o5 ok5 hb6 hb5 q5
          go_wp2_with fail
          clear hw4
          go_roundw
          case rel => exact ⟨k + 1, by omega, by go_num, by rw [HNX.out]; exact HF.out.1, HF.out.2⟩
          case measure => simp [intOf]; omega
    · obtain rfl : k = n := by omega
      have hk1 : ¬ (k : Int) < (k : Int) := by omega
      obtain ⟨A3, c3, us, rfl, hown, hall, hch⟩ := hrow
      have HR : Hid (MRow S wr w.heap.size (mergeP (chL ts)) (.slice A3 us.length c3)) := ⟨A3, c3, us, rfl, hown, hall, by rw [hch, List.take_of_length_le (by rw [HN.out]; exact Nat.le_refl _)]⟩
      clear hown hall hch hb
      generalize us.length = z at *
      go_wp2_with fail
      go_ret
      exact ⟨_, _, _, rfl, HR.out, HB.out⟩

end Go.Proofs.Ytfebcnndehpklaa.mk

namespace Go.Proofs.Ytfebcnndehpklaa.mk
open Go.RowKit

theorem sameL_len {pale : Bool} {a b : List PT} (h : a.length ≠ b.length) : sameL pale a b = false := by
  induction a generalizing b with
  | nil => cases b with
    | nil => exact absurd rfl h
    | cons y ys => rw [sameL]
  | cons x xs ih => cases b with
    | nil => rw [sameL]
    | cons y ys => rw [sameL, ih (fun e => h (by simp [e])), Bool.and_false]
theorem sameL_take {pale : Bool} {a b : List PT} {k : Nat} {x y : PT} (hx : a[k]? = some x) (hy : b[k]? = some y) : sameL pale (a.take (k + 1)) (b.take (k + 1)) = (sameL pale (a.take k) (b.take k) && x.same pale y) := by
  induction a generalizing b k with
  | nil => cases hx
  | cons p a ih => cases b with
    | nil => cases hy
    | cons q b => cases k with
      | zero =>
        simp at hx hy
        subst hx hy
        simp [sameL]
      | succ k =>
        rw [List.take_succ_cons, List.take_succ_cons, sameL, ih (by simpa using hx) (by simpa using hy), List.take_succ_cons, List.take_succ_cons, sameL, Bool.and_assoc]
theorem sameL_false {pale : Bool} {a b : List PT} {k : Nat} (hl : a.length = b.length) (h : sameL pale (a.take k) (b.take k) = false) : sameL pale a b = false := by
  induction a generalizing b k with
  | nil => cases b with
    | nil => rw [List.take_nil] at h; exact h
    | cons y ys => rw [sameL]
  | cons x xs ih => cases b with
    | nil => rw [sameL]
    | cons y ys => cases k with
      | zero => rw [List.take_zero, List.take_zero, sameL] at h; cases h
      | succ k =>
        rw [List.take_succ_cons, List.take_succ_cons, sameL] at h
        rw [sameL]
        cases hx : x.same pale y with
        | false => rfl
        | true =>
          rw [hx, Bool.true_and] at h
          rw [ih (by simpa using hl) h]
          rfl

def SameRel (pale : Bool) (a b : List PT) (n : Nat) (w : World) (i : Value) (wr : World) : Prop :=
  ∃ k : Nat, k ≤ n ∧ i = .int .i64 (k : Int) ∧ sameL pale (a.take k) (b.take k) = true ∧ Below w.heap.size w wr
def AttsRel (pale : Bool) (A B : List PA) (n : Nat) (w : World) (i : Value) (wr : World) : Prop :=
  ∃ k : Nat, k ≤ n ∧ i = .int .i64 (k : Int) ∧ ((A.take k).all fun p => B.any fun q => metA pale p q) = true ∧ Below w.heap.size w wr
def MetRel (pale : Bool) (p : PA) (B : List PA) (n : Nat) (w : World) (met i : Value) (wr : World) : Prop :=
  ∃ k : Nat, k ≤ n ∧ i = .int .i64 (k : Int) ∧ met = .bool ((B.take k).any fun q => metA pale p q) ∧ Below w.heap.size w wr

theorem beq_dec {α : Type} [DecidableEq α] [BEq α] [LawfulBEq α] (a b : α) : (a == b) = decide (a = b) := by rw [Bool.eq_iff_iff, beq_iff_eq, decide_eq_true_eq]
theorem lt_bytes (a b : LT) : (a.ch.map (·.1) == b.ch.map (·.1)) = decide (a.s.toList = b.s.toList) := by
  rw [LT.ch_fst, LT.ch_fst, toList_data, toList_data]
  exact beq_dec _ _
theorem same_parts (pale : Bool) (x y : TT) : x.ch.same pale y.ch = (decide (x.tag.s.toList = y.tag.s.toList) && decide (x.text.s.toList = y.text.s.toList) && decide (x.atts.length = y.atts.length) && sameL pale (chL x.kids) (chL y.kids) &&
    (pale || (decide (x.tag.ch = y.tag.ch) && decide (x.text.ch = y.text.ch))) && (x.atts.map AT.ch).all fun p => (y.atts.map AT.ch).any fun q => metA pale p q) := by
  rw [PT.same_eq, TT.ch_tag, TT.ch_tag, TT.ch_text, TT.ch_text, TT.ch_attrs, TT.ch_attrs, TT.ch_kids, TT.ch_kids, lt_bytes, lt_bytes, List.length_map, List.length_map, beq_dec x.atts.length, beq_dec x.tag.ch, beq_dec x.text.ch]
theorem met_parts (pale : Bool) (p q : AT) : metA pale p.ch q.ch = (decide (p.nm.s.toList = q.nm.s.toList) && decide (p.vl.s.toList = q.vl.s.toList) && (pale || (decide (p.nm.ch = q.nm.ch) && decide (p.vl.ch = q.vl.ch)))) := by
  unfold metA
  have h1 : (nmB p.ch == nmB q.ch) = decide (p.nm.s.toList = q.nm.s.toList) := lt_bytes p.nm q.nm
  have h2 : (p.ch.2.map (·.1) == q.ch.2.map (·.1)) = decide (p.vl.s.toList = q.vl.s.toList) := lt_bytes p.vl q.vl
  have h3 : (p.ch == q.ch) = (decide (p.nm.ch = q.nm.ch) && decide (p.vl.ch = q.vl.ch)) := by
    rw [Bool.eq_iff_iff, beq_iff_eq, Bool.and_eq_true, decide_eq_true_eq, decide_eq_true_eq]
    exact ⟨fun h => ⟨congrArg Prod.fst h, congrArg Prod.snd h⟩, fun h => Prod.ext h.1 h.2⟩
  rw [h1, h2, h3]
theorem all_false {α : Type} {f : α → Bool} {l : List α} {x : α} (hx : x ∈ l) (h : f x = false) : l.all f = false := by
  rw [Bool.eq_false_iff]
  intro hh
  rw [List.all_eq_true] at hh
  rw [hh x hx] at h
  cases h

set_option maxHeartbeats 8000000 in
set_option maxRecDepth 100000 in
theorem same11_true : ∀ (Q : List PT) (A : Option Addr) (n c : Nat) (ts : List TT) (B : Option Addr) (m d : Nat) (us : List TT) (w : World), chL ts = Q → TreesAt w A n ts → TreesAt w B m us →
    Calls Try.prog 19 #[.slice A n c, .slice B m d, .bool true] w fun e w' => e = .returned (.bool (sameL true (chL ts) (chL us))) ∧ Below w.heap.size w w' := by
  apply PT.ind
  intro Q IH A n c ts B m d us w hq h1 h2
  have H1 := Lib.hid h1
  have H2 := Lib.hid h2
  have hn2 : n ≤ 1048576 := h1.2.2.2
  have HI : Hid (∀ x ∈ ts, ∀ (y : TT), y ∈ us → ∀ W, Below w.heap.size w W → Calls Try.prog 19 #[.slice x.K x.kn x.kc, .slice y.K y.kn y.kc, .bool true] W fun e w' => e = .returned (.bool (sameL true (chL x.kids) (chL y.kids))) ∧ Below W.heap.size W w') := fun x hx y hy W hb => by
    have hx2 := (h1.2.1.keep (Stays.of hb)).get hx
    have hy2 := (h2.2.1.keep (Stays.of hb)).get hy
    exact IH x.ch (by rw [← hq, chL_map]; exact List.mem_map.2 ⟨x, hx, rfl⟩) x.K x.kn x.kc x.kids y.K y.kn y.kc y.kids W (TT.ch_kids x).symm ⟨hx2.kid.lies, (h1.2.1.keep (Stays.of hb)).kids hx, hx2.kn, hx2.km⟩ ⟨hy2.kid.lies, (h2.2.1.keep (Stays.of hb)).kids hy, hy2.kn, hy2.km⟩
  clear h1 h2 hq IH
  by_cases hnm : n = m
  · subst hnm
    have HLN : Hid ((chL ts).length = (chL us).length) := by show _ = _; rw [chL_length, chL_length, H1.out.2.2.1, H2.out.2.2.1]
    go_enter Try.func19, Try.ntmps19
    go_wp2_with fail
    go_loopw [7] (SameRel true (chL ts) (chL us) n w) (fun i _ => n - (intOf i).toNat)
    case atStart => exact ⟨0, Nat.zero_le _, rfl, by rw [List.take_zero, List.take_zero, sameL], Below.refl _ _⟩
    case round =>
      obtain ⟨k, hk, rfl, he, hb⟩ := hrel
      have HE := Lib.hid he
      have HB := Lib.hid hb
      have hzr := hb.size
      clear he
      by_cases hlt : k < n
      · obtain ⟨ad, x, rfl, hbA, d0, d1, d2, d3, d4, d5, HR⟩ := (H1.out.next hb).1.tree (k := k) (by rw [H1.out.2.2.1]; exact hlt)
        obtain ⟨ad', y, rfl, hbB, e0, e1, e2, e3, e4, e5, HR'⟩ := (H2.out.next hb).1.tree (k := k) (by rw [H2.out.2.2.1]; exact hlt)
        have hk0 : (0 : Int) ≤ (k : Int) := Int.natCast_nonneg _
        have hk1 : (k : Int) < (n : Int) := by omega
        have HSN : Hid (sameL true ((chL ts).take (k + 1)) ((chL us).take (k + 1)) = x.ch.same true y.ch) := by
          show _ = _
          rw [sameL_take (chL_at HR.out) (chL_at HR'.out), HE.out, Bool.true_and]
        have HMX : Hid (x ∈ ts) := List.mem_of_getElem? HR.out
        have HMY : Hid (y ∈ us) := List.mem_of_getElem? HR'.out
        have HFALSE : Hid (x.ch.same true y.ch = false → sameL true (chL ts) (chL us) = false) := fun h => sameL_false HLN.out (HSN.out.trans h)
        have hba : ∀ j, ((⟨(ad.add (k * 6)).block, (ad.add (k * 6)).off + j, none⟩ : Addr)).block < wr.heap.size := fun j => by show (ad.add (k * 6)).block < _; rw [addr_block]; exact hbA
        have hbb : ∀ j, ((⟨(ad'.add (k * 6)).block, (ad'.add (k * 6)).off + j, none⟩ : Addr)).block < wr.heap.size := fun j => by show (ad'.add (k * 6)).block < _; rw [addr_block]; exact hbB
        have HKS : Hid (∀ w', Below wr.heap.size wr w' → w'.cell? (ad.add (k * 6)) = some (.string x.tag.s) ∧ w'.cell? ⟨(ad.add (k * 6)).block, (ad.add (k * 6)).off + 1, none⟩ = some (.slice x.tag.A x.tag.n x.tag.c) ∧ w'.cell? ⟨(ad.add (k * 6)).block, (ad.add (k * 6)).off + 2, none⟩ = some (.slice x.A x.n x.c) ∧ w'.cell? ⟨(ad.add (k * 6)).block, (ad.add (k * 6)).off + 3, none⟩ = some (.slice x.K x.kn x.kc) ∧ w'.cell? ⟨(ad.add (k * 6)).block, (ad.add (k * 6)).off + 4, none⟩ = some (.string x.text.s) ∧ w'.cell? ⟨(ad.add (k * 6)).block, (ad.add (k * 6)).off + 5, none⟩ = some (.slice x.text.A x.text.n x.text.c) ∧ w'.cell? (ad'.add (k * 6)) = some (.string y.tag.s) ∧ w'.cell? ⟨(ad'.add (k * 6)).block, (ad'.add (k * 6)).off + 1, none⟩ = some (.slice y.tag.A y.tag.n y.tag.c) ∧ w'.cell? ⟨(ad'.add (k * 6)).block, (ad'.add (k * 6)).off + 2, none⟩ = some (.slice y.A y.n y.c) ∧ w'.cell? ⟨(ad'.add (k * 6)).block, (ad'.add (k * 6)).off + 3, none⟩ = some (.slice y.K y.kn y.kc) ∧ w'.cell? ⟨(ad'.add (k * 6)).block, (ad'.add (k * 6)).off + 4, none⟩ = some (.string y.text.s) ∧ w'.cell? ⟨(ad'.add (k * 6)).block, (ad'.add (k * 6)).off + 5, none⟩ = some (.slice y.text.A y.text.n y.text.c) ∧ Below wr.heap.size wr w') := fun w' h =>
          ⟨(h.cell (by rw [addr_block]; exact hbA)).trans d0, (h.cell (hba 1)).trans d1, (h.cell (hba 2)).trans d2, (h.cell (hba 3)).trans d3, (h.cell (hba 4)).trans d4, (h.cell (hba 5)).trans d5, (h.cell (by rw [addr_block]; exact hbB)).trans e0, (h.cell (hbb 1)).trans e1, (h.cell (hbb 2)).trans e2, (h.cell (hbb 3)).trans e3, (h.cell (hbb 4)).trans e4, (h.cell (hbb 5)).trans e5, h⟩
        clear hba hbb hb d0 d1 d2 d3 d4 d5 e0 e1 e2 e3 e4 e5
        go_upto_region 6 with (fail)
        go_cut [8, 9] (fun s8 s9 wx => ∃ g1 g2 : Nat, s8 = .pointer (some ⟨g1, 0, none⟩) ∧ s9 = .pointer (some ⟨g2, 0, none⟩) ∧ Whole wx g1 45 #[.string x.tag.s, .slice x.tag.A x.tag.n x.tag.c, .slice x.A x.n x.c, .slice x.K x.kn x.kc, .string x.text.s, .slice x.text.A x.text.n x.text.c] ∧ Whole wx g2 45 #[.string y.tag.s, .slice y.tag.A y.tag.n y.tag.c, .slice y.A y.n y.c, .slice y.K y.kn y.kc, .string y.text.s, .slice y.text.A y.text.n y.text.c] ∧ Below wr.heap.size wr wx)
        case first =>
          have hA1 : Hid (∀ xs ys : Array Value, Whole ((wr.alloc (.cells xs 45)).alloc (.cells ys 45)).drew wr.heap.size 45 xs ∧ Whole ((wr.alloc (.cells xs 45)).alloc (.cells ys 45)).drew (wr.heap.size + 1) 45 ys ∧ Below wr.heap.size wr ((wr.alloc (.cells xs 45)).alloc (.cells ys 45)).drew) := fun xs ys => by
            refine ⟨Whole.drew ((Whole.made wr _ _).alloc _), Whole.drew ?_, Below.drew (((Below.refl _ _).alloc (Nat.le_refl _) _).alloc (by simp) _)⟩
            have h := Whole.made (wr.alloc (.cells xs 45)) 45 ys
            simp only [World.size_alloc] at h
            exact h
          have HKA : Hid (∀ o1 o2, Below wr.heap.size wr ((wr.alloc o1).alloc o2).drew) := fun o1 o2 => Below.drew (((Below.refl _ _).alloc (Nat.le_refl _) _).alloc (by simp) _)
          go_wp2_with fail
          go_region_held3 (fun w' => w'.cell? (ad.add (k * 6)) = some (.string x.tag.s) ∧ w'.cell? ⟨(ad.add (k * 6)).block, (ad.add (k * 6)).off + 1, none⟩ = some (.slice x.tag.A x.tag.n x.tag.c) ∧ w'.cell? ⟨(ad.add (k * 6)).block, (ad.add (k * 6)).off + 2, none⟩ = some (.slice x.A x.n x.c) ∧ w'.cell? ⟨(ad.add (k * 6)).block, (ad.add (k * 6)).off + 3, none⟩ = some (.slice x.K x.kn x.kc) ∧ w'.cell? ⟨(ad.add (k * 6)).block, (ad.add (k * 6)).off + 4, none⟩ = some (.string x.text.s) ∧ w'.cell? ⟨(ad.add (k * 6)).block, (ad.add (k * 6)).off + 5, none⟩ = some (.slice x.text.A x.text.n x.text.c) ∧ w'.cell? (ad'.add (k * 6)) = some (.string y.tag.s) ∧ w'.cell? ⟨(ad'.add (k * 6)).block, (ad'.add (k * 6)).off + 1, none⟩ = some (.slice y.tag.A y.tag.n y.tag.c) ∧ w'.cell? ⟨(ad'.add (k * 6)).block, (ad'.add (k * 6)).off + 2, none⟩ = some (.slice y.A y.n y.c) ∧ w'.cell? ⟨(ad'.add (k * 6)).block, (ad'.add (k * 6)).off + 3, none⟩ = some (.slice y.K y.kn y.kc) ∧ w'.cell? ⟨(ad'.add (k * 6)).block, (ad'.add (k * 6)).off + 4, none⟩ = some (.string y.text.s) ∧ w'.cell? ⟨(ad'.add (k * 6)).block, (ad'.add (k * 6)).off + 5, none⟩ = some (.slice y.text.A y.text.n y.text.c) ∧ Below wr.heap.size wr w')
            (first
              | exact HKS.out _ (Below.drew (Below.refl _ _))
              | (go_split_ands; exact HKS.out _ (by assumption))
              | exact HKS.out _ (Below.drew ((Below.refl _ _).alloc (Nat.le_refl _) _))
              | exact HKS.out _ (HKA.out _ _))
            (fail)
          all_goals
            go_wp2_with fail
            go_meet
            first
              | exact ⟨_, _, rfl, rfl, (hA1.out _ _).1, (hA1.out _ _).2.1, (hA1.out _ _).2.2⟩
              | exact ⟨_, _, rfl, rfl, (hA1.out _ _).2.1, (hA1.out _ _).1, (hA1.out _ _).2.2⟩
        case rest =>
          obtain ⟨g1, g2, rfl, rfl, y1, y2, hbc⟩ := hcut
          obtain ⟨wd, rfl⟩ : ∃ wd : World, wd = wc := ⟨_, rfl⟩
          have HYX := Lib.hid y1
          have HYY := Lib.hid y2
          have HBC : Hid (Below w.heap.size w wd) := below_next HB.out (Nat.le_refl _) hbc
          obtain ⟨a0, a1, a2, a3, a4, a5⟩ : wd.cell? ⟨g1, 0, none⟩ = some (.string x.tag.s) ∧ wd.cell? ⟨g1, 1, none⟩ = some (.slice x.tag.A x.tag.n x.tag.c) ∧ wd.cell? ⟨g1, 2, none⟩ = some (.slice x.A x.n x.c) ∧ wd.cell? ⟨g1, 3, none⟩ = some (.slice x.K x.kn x.kc) ∧ wd.cell? ⟨g1, 4, none⟩ = some (.string x.text.s) ∧ wd.cell? ⟨g1, 5, none⟩ = some (.slice x.text.A x.text.n x.text.c) := ⟨y1.at_ 0, y1.at_ 1, y1.at_ 2, y1.at_ 3, y1.at_ 4, y1.at_ 5⟩
          obtain ⟨b0, b1, b2, b3, b4, b5⟩ : wd.cell? ⟨g2, 0, none⟩ = some (.string y.tag.s) ∧ wd.cell? ⟨g2, 1, none⟩ = some (.slice y.tag.A y.tag.n y.tag.c) ∧ wd.cell? ⟨g2, 2, none⟩ = some (.slice y.A y.n y.c) ∧ wd.cell? ⟨g2, 3, none⟩ = some (.slice y.K y.kn y.kc) ∧ wd.cell? ⟨g2, 4, none⟩ = some (.string y.text.s) ∧ wd.cell? ⟨g2, 5, none⟩ = some (.slice y.text.A y.text.n y.text.c) := ⟨y2.at_ 0, y2.at_ 1, y2.at_ 2, y2.at_ 3, y2.at_ 4, y2.at_ 5⟩
          have HCALL := Lib.hid (HI.out x HMX.out y HMY.out wd HBC.out)
          have HXI : Hid (∀ W, Below w.heap.size w W → x.inS (fun _ => True) W) := fun W h => (H1.out.2.1.keep (Stays.of h)).get HMX.out
          have HYI : Hid (∀ W, Below w.heap.size w W → y.inS (fun _ => True) W) := fun W h => (H2.out.2.1.keep (Stays.of h)).get HMY.out
          have HSM : Hid (x.ch.same true y.ch = _) := same_parts true x y
          have HXN : Hid (x.atts.length = x.n) := (HXI.out wd HBC.out).an
          have HYN : Hid (y.atts.length = y.n) := (HYI.out wd HBC.out).an
          have hxn : x.n ≤ 1048576 := (HXI.out wd HBC.out).am
          have hyn : y.n ≤ 1048576 := (HYI.out wd HBC.out).am
          have HF1 : Hid (¬ x.tag.s.toList = y.tag.s.toList → sameL true (chL ts) (chL us) = false) := fun h => HFALSE.out (by rw [HSM.out, decide_eq_false h]; simp)
          have HF2 : Hid (¬ x.text.s.toList = y.text.s.toList → sameL true (chL ts) (chL us) = false) := fun h => HFALSE.out (by rw [HSM.out, decide_eq_false h]; simp)
          have HF3 : Hid (¬ (x.n : Int) = (y.n : Int) → sameL true (chL ts) (chL us) = false) := fun h => HFALSE.out (by rw [HSM.out, decide_eq_false (show ¬ x.atts.length = y.atts.length by rw [HXN.out, HYN.out]; omega)]; simp)
          have HF4 : Hid (sameL true (chL x.kids) (chL y.kids) = false → sameL true (chL ts) (chL us) = false) := fun h => HFALSE.out (by rw [HSM.out, h]; simp)
          have HF5 : Hid (true = false → ¬ x.tag.ch = y.tag.ch → sameL true (chL ts) (chL us) = false) := fun hp h => HFALSE.out (by rw [HSM.out, decide_eq_false h, hp]; simp)
          have HF6 : Hid (true = false → ¬ x.text.ch = y.text.ch → sameL true (chL ts) (chL us) = false) := fun hp h => HFALSE.out (by rw [HSM.out, decide_eq_false h, hp]; simp)
          have HF7 : Hid (∀ p ∈ x.atts, ((y.atts.map AT.ch).any fun q => metA true p.ch q) = false → sameL true (chL ts) (chL us) = false) := fun p hp h => HFALSE.out (by
            rw [HSM.out, all_false (x := p.ch) (List.mem_map.2 ⟨p, hp, rfl⟩) h]; simp)
          have hlw : wr.heap.size ≤ wd.heap.size := hbc.size
          clear y1 y2 hbc HKS
          go_wp2_with fail
          rotate_left
          · go_ret
            exact ⟨by rw [HF3.out (by assumption)]; rfl, HBC.out⟩
          · go_ret
            exact ⟨by rw [HF2.out (by assumption)]; rfl, HBC.out⟩
          · go_ret
            exact ⟨by rw [HF1.out (by assumption)]; rfl, HBC.out⟩
          have he1 : x.tag.s.toList = y.tag.s.toList := by assumption
          have he2 : x.text.s.toList = y.text.s.toList := by assumption
          have he3 : (x.n : Int) = (y.n : Int) := by assumption
          have HE1 := Lib.hid he1
          have HE2 := Lib.hid he2
          have HE3 := Lib.hid he3
          refine HCALL.out.mono ?_
          rintro e w5 ⟨rfl, hb5⟩
          have HB5 : Hid (Below w.heap.size w w5) := below_next HBC.out (Nat.le_refl _) hb5
          obtain ⟨a0, a1, a2, a3, a4, a5⟩ : w5.cell? ⟨g1, 0, none⟩ = some (.string x.tag.s) ∧ w5.cell? ⟨g1, 1, none⟩ = some (.slice x.tag.A x.tag.n x.tag.c) ∧ w5.cell? ⟨g1, 2, none⟩ = some (.slice x.A x.n x.c) ∧ w5.cell? ⟨g1, 3, none⟩ = some (.slice x.K x.kn x.kc) ∧ w5.cell? ⟨g1, 4, none⟩ = some (.string x.text.s) ∧ w5.cell? ⟨g1, 5, none⟩ = some (.slice x.text.A x.text.n x.text.c) := by
            have y := HYX.out.below hb5 HYX.out.lt
            exact ⟨y.at_ 0, y.at_ 1, y.at_ 2, y.at_ 3, y.at_ 4, y.at_ 5⟩
          obtain ⟨b0, b1, b2, b3, b4, b5⟩ : w5.cell? ⟨g2, 0, none⟩ = some (.string y.tag.s) ∧ w5.cell? ⟨g2, 1, none⟩ = some (.slice y.tag.A y.tag.n y.tag.c) ∧ w5.cell? ⟨g2, 2, none⟩ = some (.slice y.A y.n y.c) ∧ w5.cell? ⟨g2, 3, none⟩ = some (.slice y.K y.kn y.kc) ∧ w5.cell? ⟨g2, 4, none⟩ = some (.string y.text.s) ∧ w5.cell? ⟨g2, 5, none⟩ = some (.slice y.text.A y.text.n y.text.c) := by
            have y := HYY.out.below hb5 HYY.out.lt
            exact ⟨y.at_ 0, y.at_ 1, y.at_ 2, y.at_ 3, y.at_ 4, y.at_ 5⟩
          have HBD5 := Lib.hid hb5
          clear hb5 HCALL
          cases hkk : sameL true (chL x.kids) (chL y.kids) with
          | false =>
            have HT := Lib.hid (HF4.out hkk)
            clear hkk
            go_wp2_with fail
            go_ret
            exact ⟨by rw [HT.out]; rfl, HB5.out⟩
          | true =>
          have HKK := Lib.hid hkk
          clear hkk
          have HBM := Lib.hid HB5.out
          have HBDM := Lib.hid HBD5.out
          have HPL : Hid (true = true) := rfl
          go_wp2_with fail
          obtain ⟨wo, rfl⟩ : ∃ wo : World, wo = wr := ⟨_, rfl⟩
          go_loopw [10] (AttsRel true (x.atts.map AT.ch) (y.atts.map AT.ch) x.n w5) (fun i _ => x.n - (intOf i).toNat)
          case atStart => exact ⟨0, Nat.zero_le _, rfl, rfl, Below.refl _ _⟩
          case round =>
            obtain ⟨j, hj, rfl, hall, hbj⟩ := hrel
            have HALL := Lib.hid hall
            have HBJ := Lib.hid hbj
            have HBWJ : Hid (Below w.heap.size w wr) := below_next HBM.out (Nat.le_refl _) hbj
            have HBDJ : Hid (Below wd.heap.size wd wr) := below_next HBDM.out (Nat.le_refl _) hbj
            have c2 : wr.cell? ⟨g1, 2, none⟩ = some (.slice x.A x.n x.c) := (HYX.out.below HBDJ.out HYX.out.lt).at_ 2
            have e2 : wr.cell? ⟨g2, 2, none⟩ = some (.slice y.A y.n y.c) := (HYY.out.below HBDJ.out HYY.out.lt).at_ 2
            clear hall hbj
            by_cases hjn : j < x.n
            · have hj0 : (0 : Int) ≤ (j : Int) := Int.natCast_nonneg _
              have hj1 : (j : Int) < (x.n : Int) := by omega
              have hj2 : (j : Int) < (y.n : Int) := by omega
              obtain ⟨ap, pa, hap, hpb, p0, p1, p2, p3, HPR⟩ := ((HXI.out wr HBWJ.out).att.lies).att (k := j) (by rw [HXN.out]; exact hjn)
              have HAP := Lib.hid hap
              have HPM : Hid (pa ∈ x.atts) := List.mem_of_getElem? HPR.out
              have HPS : Hid (∀ V, Below wr.heap.size wr V → V.cell? (ap.add (j * 4)) = some (.string pa.nm.s) ∧ V.cell? ⟨(ap.add (j * 4)).block, (ap.add (j * 4)).off + 1, none⟩ = some (.slice pa.nm.A pa.nm.n pa.nm.c) ∧ V.cell? ⟨(ap.add (j * 4)).block, (ap.add (j * 4)).off + 2, none⟩ = some (.string pa.vl.s) ∧ V.cell? ⟨(ap.add (j * 4)).block, (ap.add (j * 4)).off + 3, none⟩ = some (.slice pa.vl.A pa.vl.n pa.vl.c)) := fun V h =>
                ⟨(h.cell (by rw [addr_block]; exact hpb)).trans p0, (h.cell (by show (ap.add (j * 4)).block < _; rw [addr_block]; exact hpb)).trans p1, (h.cell (by show (ap.add (j * 4)).block < _; rw [addr_block]; exact hpb)).trans p2, (h.cell (by show (ap.add (j * 4)).block < _; rw [addr_block]; exact hpb)).trans p3⟩
              have HPI : Hid (∀ V, Below wr.heap.size wr V → pa.inS (fun _ => True) V) := fun V h => (HXI.out V (below_next HBWJ.out (Nat.le_refl _) h)).atts pa HPM.out
              clear p0 p1 p2 p3 hap hpb
              go_wp2_with fail
              obtain ⟨wp, rfl⟩ : ∃ wp : World, wp = wr := ⟨_, rfl⟩
              go_loopw [11, 12] (MetRel true pa.ch (y.atts.map AT.ch) y.n wp) (fun _ i _ => y.n - (intOf i).toNat)
              case atStart => exact ⟨0, Nat.zero_le _, rfl, rfl, Below.refl _ _⟩
              case round =>
                obtain ⟨l, hl, rfl, rfl, hbl⟩ := hrel
                have HBL := Lib.hid hbl
                have HBWL : Hid (Below w.heap.size w wr) := below_next HBWJ.out (Nat.le_refl _) hbl
                have HBDL : Hid (Below wd.heap.size wd wr) := below_next HBDJ.out (Nat.le_refl _) hbl
                have c2 : wr.cell? ⟨g1, 2, none⟩ = some (.slice x.A x.n x.c) := (HYX.out.below HBDL.out HYX.out.lt).at_ 2
                have e2 : wr.cell? ⟨g2, 2, none⟩ = some (.slice y.A y.n y.c) := (HYY.out.below HBDL.out HYY.out.lt).at_ 2
                clear hbl
                by_cases hln : l < y.n
                · have hl0 : (0 : Int) ≤ (l : Int) := Int.natCast_nonneg _
                  have hl1 : (l : Int) < (y.n : Int) := by omega
                  obtain ⟨aq, qa, haq, hqb, q0, q1, q2, q3, HQR⟩ := ((HYI.out wr HBWL.out).att.lies).att (k := l) (by rw [HYN.out]; exact hln)
                  obtain ⟨p0, p1, p2, p3⟩ := HPS.out wr HBL.out
                  rw [HAP.out] at c2
                  rw [haq] at e2
                  have HQI : Hid (∀ V, Below wr.heap.size wr V → qa.inS (fun _ => True) V) := fun V h => (HYI.out V (below_next HBWL.out (Nat.le_refl _) h)).atts qa (List.mem_of_getElem? HQR.out)
                  have HMT : Hid (((y.atts.map AT.ch).take (l + 1)).any (fun q => metA true pa.ch q) = (((y.atts.map AT.ch).take l).any (fun q => metA true pa.ch q) || metA true pa.ch qa.ch)) := by
                    show _ = _
                    rw [take_next (x := qa.ch) (by rw [List.getElem?_map, HQR.out]; rfl), List.any_append]
                    simp
                  have HMP : Hid (metA true pa.ch qa.ch = _) := met_parts true pa qa
                  have HK2 : Hid (∀ w', Below wr.heap.size wr w' → w'.cell? ⟨g1, 2, none⟩ = some (.slice (some ap) x.n x.c) ∧ w'.cell? ⟨g2, 2, none⟩ = some (.slice (some aq) y.n y.c) ∧ w'.cell? (ap.add (j * 4)) = some (.string pa.nm.s) ∧ w'.cell? ⟨(ap.add (j * 4)).block, (ap.add (j * 4)).off + 1, none⟩ = some (.slice pa.nm.A pa.nm.n pa.nm.c) ∧ w'.cell? ⟨(ap.add (j * 4)).block, (ap.add (j * 4)).off + 2, none⟩ = some (.string pa.vl.s) ∧ w'.cell? ⟨(ap.add (j * 4)).block, (ap.add (j * 4)).off + 3, none⟩ = some (.slice pa.vl.A pa.vl.n pa.vl.c) ∧ w'.cell? (aq.add (l * 4)) = some (.string qa.nm.s) ∧ w'.cell? ⟨(aq.add (l * 4)).block, (aq.add (l * 4)).off + 1, none⟩ = some (.slice qa.nm.A qa.nm.n qa.nm.c) ∧ w'.cell? ⟨(aq.add (l * 4)).block, (aq.add (l * 4)).off + 2, none⟩ = some (.string qa.vl.s) ∧ w'.cell? ⟨(aq.add (l * 4)).block, (aq.add (l * 4)).off + 3, none⟩ = some (.slice qa.vl.A qa.vl.n qa.vl.c) ∧ Below wr.heap.size wr w') := fun w' h =>
                    ⟨(h.cell (World.block_lt_of_cell? wr _ c2)).trans c2, (h.cell (World.block_lt_of_cell? wr _ e2)).trans e2, (h.cell (World.block_lt_of_cell? wr _ p0)).trans p0, (h.cell (World.block_lt_of_cell? wr _ p1)).trans p1, (h.cell (World.block_lt_of_cell? wr _ p2)).trans p2, (h.cell (World.block_lt_of_cell? wr _ p3)).trans p3, (h.cell (World.block_lt_of_cell? wr _ q0)).trans q0, (h.cell (World.block_lt_of_cell? wr _ q1)).trans q1, (h.cell (World.block_lt_of_cell? wr _ q2)).trans q2, (h.cell (World.block_lt_of_cell? wr _ q3)).trans q3, h⟩
                  clear haq hqb
                  generalize hmt : ((y.atts.map AT.ch).take l).any (fun q => metA true pa.ch q) = met at *
                  clear hmt
                  go_upto_region 18 with (fail)
                  clear c2 e2 p0 p1 p2 p3 q0 q1 q2 q3
                  go_cut [13, 14] (fun s13 s14 wx => ∃ h1 h2 : Nat, s13 = .pointer (some ⟨h1, 0, none⟩) ∧ s14 = .pointer (some ⟨h2, 0, none⟩) ∧ Whole wx h1 62 #[.string pa.nm.s, .slice pa.nm.A pa.nm.n pa.nm.c, .string pa.vl.s, .slice pa.vl.A pa.vl.n pa.vl.c] ∧ Whole wx h2 62 #[.string qa.nm.s, .slice qa.nm.A qa.nm.n qa.nm.c, .string qa.vl.s, .slice qa.vl.A qa.vl.n qa.vl.c] ∧ Below wr.heap.size wr wx)
                  case first =>
                    have hA1 : Hid (∀ xs ys : Array Value, Whole ((wr.alloc (.cells xs 62)).alloc (.cells ys 62)).drew wr.heap.size 62 xs ∧ Whole ((wr.alloc (.cells xs 62)).alloc (.cells ys 62)).drew (wr.heap.size + 1) 62 ys ∧ Below wr.heap.size wr ((wr.alloc (.cells xs 62)).alloc (.cells ys 62)).drew) := fun xs ys => by
                      refine ⟨Whole.drew ((Whole.made wr _ _).alloc _), Whole.drew ?_, Below.drew (((Below.refl _ _).alloc (Nat.le_refl _) _).alloc (by simp) _)⟩
                      have h := Whole.made (wr.alloc (.cells xs 62)) 62 ys
                      simp only [World.size_alloc] at h
                      exact h
                    have HKA : Hid (∀ o1 o2, Below wr.heap.size wr ((wr.alloc o1).alloc o2).drew) := fun o1 o2 => Below.drew (((Below.refl _ _).alloc (Nat.le_refl _) _).alloc (by simp) _)
                    go_wp2_with fail
                    go_region_held3 (fun w' => w'.cell? ⟨g1, 2, none⟩ = some (.slice (some ap) x.n x.c) ∧ w'.cell? ⟨g2, 2, none⟩ = some (.slice (some aq) y.n y.c) ∧ w'.cell? (ap.add (j * 4)) = some (.string pa.nm.s) ∧ w'.cell? ⟨(ap.add (j * 4)).block, (ap.add (j * 4)).off + 1, none⟩ = some (.slice pa.nm.A pa.nm.n pa.nm.c) ∧ w'.cell? ⟨(ap.add (j * 4)).block, (ap.add (j * 4)).off + 2, none⟩ = some (.string pa.vl.s) ∧ w'.cell? ⟨(ap.add (j * 4)).block, (ap.add (j * 4)).off + 3, none⟩ = some (.slice pa.vl.A pa.vl.n pa.vl.c) ∧ w'.cell? (aq.add (l * 4)) = some (.string qa.nm.s) ∧ w'.cell? ⟨(aq.add (l * 4)).block, (aq.add (l * 4)).off + 1, none⟩ = some (.slice qa.nm.A qa.nm.n qa.nm.c) ∧ w'.cell? ⟨(aq.add (l * 4)).block, (aq.add (l * 4)).off + 2, none⟩ = some (.string qa.vl.s) ∧ w'.cell? ⟨(aq.add (l * 4)).block, (aq.add (l * 4)).off + 3, none⟩ = some (.slice qa.vl.A qa.vl.n qa.vl.c) ∧ Below wr.heap.size wr w')
                      (first
                        | exact HK2.out _ (Below.drew (Below.refl _ _))
                        | (go_split_ands; exact HK2.out _ (by assumption))
                        | exact HK2.out _ (Below.drew ((Below.refl _ _).alloc (Nat.le_refl _) _))
                        | exact HK2.out _ (HKA.out _ _))
                      (fail)
                    all_goals
                      go_wp2_with fail
                      go_meet
                      first
                        | exact ⟨_, _, rfl, rfl, (hA1.out _ _).1, (hA1.out _ _).2.1, (hA1.out _ _).2.2⟩
                        | exact ⟨_, _, rfl, rfl, (hA1.out _ _).2.1, (hA1.out _ _).1, (hA1.out _ _).2.2⟩
                  case rest =>
                    obtain ⟨h1, h2, rfl, rfl, y1, y2, hbc⟩ := hcut
                    obtain ⟨we, rfl⟩ : ∃ we : World, we = wc := ⟨_, rfl⟩
                    have HY1 := Lib.hid y1
                    have HY2 := Lib.hid y2
                    have HBE : Hid (Below wp.heap.size wp we) := below_next HBL.out (Nat.le_refl _) hbc
                    have HBRE := Lib.hid hbc
                    obtain ⟨m0, m1, m2, m3⟩ : we.cell? ⟨h1, 0, none⟩ = some (.string pa.nm.s) ∧ we.cell? ⟨h1, 1, none⟩ = some (.slice pa.nm.A pa.nm.n pa.nm.c) ∧ we.cell? ⟨h1, 2, none⟩ = some (.string pa.vl.s) ∧ we.cell? ⟨h1, 3, none⟩ = some (.slice pa.vl.A pa.vl.n pa.vl.c) := ⟨y1.at_ 0, y1.at_ 1, y1.at_ 2, y1.at_ 3⟩
                    obtain ⟨n0, n1, n2, n3⟩ : we.cell? ⟨h2, 0, none⟩ = some (.string qa.nm.s) ∧ we.cell? ⟨h2, 1, none⟩ = some (.slice qa.nm.A qa.nm.n qa.nm.c) ∧ we.cell? ⟨h2, 2, none⟩ = some (.string qa.vl.s) ∧ we.cell? ⟨h2, 3, none⟩ = some (.slice qa.vl.A qa.vl.n qa.vl.c) := ⟨y2.at_ 0, y2.at_ 1, y2.at_ 2, y2.at_ 3⟩
                    clear y1 y2 hbc
                    cases met with
                    | true =>
                      go_wp2_with fail
                      go_roundw
                      case rel => exact ⟨l + 1, by omega, by go_num, by rw [HMT.out, Bool.true_or], HBE.out⟩
                      case measure => simp [intOf]; omega
                    | false =>
                      go_wp2_with fail
                      all_goals
                        go_roundw
                        case rel =>
                          refine ⟨l + 1, by omega, by go_num, ?_, HBE.out⟩
                          rw [HMT.out, HMP.out]
                          first
                            | (rw [decide_eq_true (show pa.nm.s.toList = qa.nm.s.toList by assumption), decide_eq_true (show pa.vl.s.toList = qa.vl.s.toList by assumption)]; rfl)
                            | (rw [decide_eq_true (show pa.nm.s.toList = qa.nm.s.toList by assumption), decide_eq_false (show ¬ pa.vl.s.toList = qa.vl.s.toList by assumption)]; rfl)
                            | (rw [decide_eq_false (show ¬ pa.nm.s.toList = qa.nm.s.toList by assumption)]; rfl)
                        case measure => simp [intOf]; omega
                · obtain rfl : l = y.n := by omega
                  have HANY : Hid ((y.atts.map AT.ch).take y.n = y.atts.map AT.ch) := List.take_of_length_le (by rw [List.length_map, HYN.out]; exact Nat.le_refl _)
                  rw [HANY.out]
                  have HTK : Hid ((x.atts.map AT.ch).take (j + 1) = (x.atts.map AT.ch).take j ++ [pa.ch]) := take_next (by rw [List.getElem?_map, HPR.out]; rfl)
                  cases hm : (y.atts.map AT.ch).any (fun q => metA true pa.ch q) with
                  | true =>
                    have HM := Lib.hid hm
                    clear hm
                    go_wp2_with fail
                    go_roundw
                    case rel =>
                      refine ⟨j + 1, by omega, by go_num, ?_, below_next HBJ.out (Nat.le_refl _) HBL.out⟩
                      rw [HTK.out, List.all_append, HALL.out, List.all_cons, List.all_nil, HM.out]
                      rfl
                    case measure => simp [intOf]; omega
                  | false =>
                    have HT := Lib.hid (HF7.out pa HPM.out hm)
                    clear hm
                    go_wp2_with fail
                    go_ret
                    exact ⟨by rw [HT.out]; rfl, HBWL.out⟩
            · obtain rfl : j = x.n := by omega
              have HALL2 : Hid ((x.atts.map AT.ch).all (fun p => (y.atts.map AT.ch).any fun q => metA true p q) = true) := by
                have h := HALL.out
                rw [List.take_of_length_le (by rw [List.length_map, HXN.out]; exact Nat.le_refl _)] at h
                exact h
              have HND : Hid (x.ch.same true y.ch = true) := by
                have h3 : x.atts.length = y.atts.length := by rw [HXN.out, HYN.out]; have := HE3.out; omega
                show _ = _
                rw [HSM.out, decide_eq_true HE1.out, decide_eq_true HE2.out, decide_eq_true h3, HKK.out, HALL2.out]
                rfl
              go_wp2_with fail
              go_roundw
              case rel => exact ⟨k + 1, by omega, by go_num, by rw [HSN.out]; exact HND.out, HBWJ.out⟩
              case measure => simp [intOf]; omega
      · obtain rfl : k = n := by omega
        have HT : Hid (sameL true (chL ts) (chL us) = true) := by
          have h := HE.out
          rw [List.take_of_length_le (by rw [chL_length, H1.out.2.2.1]; exact Nat.le_refl _), List.take_of_length_le (by rw [chL_length, H2.out.2.2.1]; exact Nat.le_refl _)] at h
          exact h
        clear hb
        go_wp2_with fail
        go_ret
        exact ⟨by rw [HT.out]; rfl, HB.out⟩
  · have HT : Hid (sameL true (chL ts) (chL us) = false) := sameL_len (by rw [chL_length, chL_length, H1.out.2.2.1, H2.out.2.2.1]; exact hnm)
    have hne : ¬ (n : Int) = (m : Int) := by omega
    have hne2 : ((n : Int) == (m : Int)) = false := by simpa using hne
    go_enter Try.func19, Try.ntmps19
    go_wp2_with fail
    go_ret
    exact ⟨by rw [HT.out]; rfl, Below.refl _ _⟩

end Go.Proofs.Ytfebcnndehpklaa.mk

namespace Go.Proofs.Ytfebcnndehpklaa.mk
open Go.RowKit

set_option maxHeartbeats 8000000 in
set_option maxRecDepth 100000 in
theorem same11_false : ∀ (Q : List PT) (A : Option Addr) (n c : Nat) (ts : List TT) (B : Option Addr) (m d : Nat) (us : List TT) (w : World), chL ts = Q → TreesAt w A n ts → TreesAt w B m us →
    Calls Try.prog 19 #[.slice A n c, .slice B m d, .bool false] w fun e w' => e = .returned (.bool (sameL false (chL ts) (chL us))) ∧ Below w.heap.size w w' := by
  apply PT.ind
  intro Q IH A n c ts B m d us w hq h1 h2
  have H1 := Lib.hid h1
  have H2 := Lib.hid h2
  have hn2 : n ≤ 1048576 := h1.2.2.2
  have HI : Hid (∀ x ∈ ts, ∀ (y : TT), y ∈ us → ∀ W, Below w.heap.size w W → Calls Try.prog 19 #[.slice x.K x.kn x.kc, .slice y.K y.kn y.kc, .bool false] W fun e w' => e = .returned (.bool (sameL false (chL x.kids) (chL y.kids))) ∧ Below W.heap.size W w') := fun x hx y hy W hb => by
    have hx2 := (h1.2.1.keep (Stays.of hb)).get hx
    have hy2 := (h2.2.1.keep (Stays.of hb)).get hy
    exact IH x.ch (by rw [← hq, chL_map]; exact List.mem_map.2 ⟨x, hx, rfl⟩) x.K x.kn x.kc x.kids y.K y.kn y.kc y.kids W (TT.ch_kids x).symm ⟨hx2.kid.lies, (h1.2.1.keep (Stays.of hb)).kids hx, hx2.kn, hx2.km⟩ ⟨hy2.kid.lies, (h2.2.1.keep (Stays.of hb)).kids hy, hy2.kn, hy2.km⟩
  clear h1 h2 hq IH
  by_cases hnm : n = m
  · subst hnm
    have HLN : Hid ((chL ts).length = (chL us).length) := by show _ = _; rw [chL_length, chL_length, H1.out.2.2.1, H2.out.2.2.1]
    go_enter Try.func19, Try.ntmps19
    go_wp2_with fail
    go_loopw [7] (SameRel false (chL ts) (chL us) n w) (fun i _ => n - (intOf i).toNat)
    case atStart => exact ⟨0, Nat.zero_le _, rfl, by rw [List.take_zero, List.take_zero, sameL], Below.refl _ _⟩
    case round =>
      obtain ⟨k, hk, rfl, he, hb⟩ := hrel
      have HE := Lib.hid he
      have HB := Lib.hid hb
      have hzr := hb.size
      clear he
      by_cases hlt : k < n
      · obtain ⟨ad, x, rfl, hbA, d0, d1, d2, d3, d4, d5, HR⟩ := (H1.out.next hb).1.tree (k := k) (by rw [H1.out.2.2.1]; exact hlt)
        obtain ⟨ad', y, rfl, hbB, e0, e1, e2, e3, e4, e5, HR'⟩ := (H2.out.next hb).1.tree (k := k) (by rw [H2.out.2.2.1]; exact hlt)
        have hk0 : (0 : Int) ≤ (k : Int) := Int.natCast_nonneg _
        have hk1 : (k : Int) < (n : Int) := by omega
        have HSN : Hid (sameL false ((chL ts).take (k + 1)) ((chL us).take (k + 1)) = x.ch.same false y.ch) := by
          show _ = _
          rw [sameL_take (chL_at HR.out) (chL_at HR'.out), HE.out, Bool.true_and]
        have HMX : Hid (x ∈ ts) := List.mem_of_getElem? HR.out
        have HMY : Hid (y ∈ us) := List.mem_of_getElem? HR'.out
        have HFALSE : Hid (x.ch.same false y.ch = false → sameL false (chL ts) (chL us) = false) := fun h => sameL_false HLN.out (HSN.out.trans h)
        have hba : ∀ j, ((⟨(ad.add (k * 6)).block, (ad.add (k * 6)).off + j, none⟩ : Addr)).block < wr.heap.size := fun j => by show (ad.add (k * 6)).block < _; rw [addr_block]; exact hbA
        have hbb : ∀ j, ((⟨(ad'.add (k * 6)).block, (ad'.add (k * 6)).off + j, none⟩ : Addr)).block < wr.heap.size := fun j => by show (ad'.add (k * 6)).block < _; rw [addr_block]; exact hbB
        have HKS : Hid (∀ w', Below wr.heap.size wr w' → w'.cell? (ad.add (k * 6)) = some (.string x.tag.s) ∧ w'.cell? ⟨(ad.add (k * 6)).block, (ad.add (k * 6)).off + 1, none⟩ = some (.slice x.tag.A x.tag.n x.tag.c) ∧ w'.cell? ⟨(ad.add (k * 6)).block, (ad.add (k * 6)).off + 2, none⟩ = some (.slice x.A x.n x.c) ∧ w'.cell? ⟨(ad.add (k * 6)).block, (ad.add (k * 6)).off + 3, none⟩ = some (.slice x.K x.kn x.kc) ∧ w'.cell? ⟨(ad.add (k * 6)).block, (ad.add (k * 6)).off + 4, none⟩ = some (.string x.text.s) ∧ w'.cell? ⟨(ad.add (k * 6)).block, (ad.add (k * 6)).off + 5, none⟩ = some (.slice x.text.A x.text.n x.text.c) ∧ w'.cell? (ad'.add (k * 6)) = some (.string y.tag.s) ∧ w'.cell? ⟨(ad'.add (k * 6)).block, (ad'.add (k * 6)).off + 1, none⟩ = some (.slice y.tag.A y.tag.n y.tag.c) ∧ w'.cell? ⟨(ad'.add (k * 6)).block, (ad'.add (k * 6)).off + 2, none⟩ = some (.slice y.A y.n y.c) ∧ w'.cell? ⟨(ad'.add (k * 6)).block, (ad'.add (k * 6)).off + 3, none⟩ = some (.slice y.K y.kn y.kc) ∧ w'.cell? ⟨(ad'.add (k * 6)).block, (ad'.add (k * 6)).off + 4, none⟩ = some (.string y.text.s) ∧ w'.cell? ⟨(ad'.add (k * 6)).block, (ad'.add (k * 6)).off + 5, none⟩ = some (.slice y.text.A y.text.n y.text.c) ∧ Below wr.heap.size wr w') := fun w' h =>
          ⟨(h.cell (by rw [addr_block]; exact hbA)).trans d0, (h.cell (hba 1)).trans d1, (h.cell (hba 2)).trans d2, (h.cell (hba 3)).trans d3, (h.cell (hba 4)).trans d4, (h.cell (hba 5)).trans d5, (h.cell (by rw [addr_block]; exact hbB)).trans e0, (h.cell (hbb 1)).trans e1, (h.cell (hbb 2)).trans e2, (h.cell (hbb 3)).trans e3, (h.cell (hbb 4)).trans e4, (h.cell (hbb 5)).trans e5, h⟩
        clear hba hbb hb d0 d1 d2 d3 d4 d5 e0 e1 e2 e3 e4 e5
        go_upto_region 6 with (fail)
        go_cut [8, 9] (fun s8 s9 wx => ∃ g1 g2 : Nat, s8 = .pointer (some ⟨g1, 0, none⟩) ∧ s9 = .pointer (some ⟨g2, 0, none⟩) ∧ Whole wx g1 45 #[.string x.tag.s, .slice x.tag.A x.tag.n x.tag.c, .slice x.A x.n x.c, .slice x.K x.kn x.kc, .string x.text.s, .slice x.text.A x.text.n x.text.c] ∧ Whole wx g2 45 #[.string y.tag.s, .slice y.tag.A y.tag.n y.tag.c, .slice y.A y.n y.c, .slice y.K y.kn y.kc, .string y.text.s, .slice y.text.A y.text.n y.text.c] ∧ Below wr.heap.size wr wx)
        case first =>
          have hA1 : Hid (∀ xs ys : Array Value, Whole ((wr.alloc (.cells xs 45)).alloc (.cells ys 45)).drew wr.heap.size 45 xs ∧ Whole ((wr.alloc (.cells xs 45)).alloc (.cells ys 45)).drew (wr.heap.size + 1) 45 ys ∧ Below wr.heap.size wr ((wr.alloc (.cells xs 45)).alloc (.cells ys 45)).drew) := fun xs ys => by
            refine ⟨Whole.drew ((Whole.made wr _ _).alloc _), Whole.drew ?_, Below.drew (((Below.refl _ _).alloc (Nat.le_refl _) _).alloc (by simp) _)⟩
            have h := Whole.made (wr.alloc (.cells xs 45)) 45 ys
            simp only [World.size_alloc] at h
            exact h
          have HKA : Hid (∀ o1 o2, Below wr.heap.size wr ((wr.alloc o1).alloc o2).drew) := fun o1 o2 => Below.drew (((Below.refl _ _).alloc (Nat.le_refl _) _).alloc (by simp) _)
          go_wp2_with fail
          go_region_held3 (fun w' => w'.cell? (ad.add (k * 6)) = some (.string x.tag.s) ∧ w'.cell? ⟨(ad.add (k * 6)).block, (ad.add (k * 6)).off + 1, none⟩ = some (.slice x.tag.A x.tag.n x.tag.c) ∧ w'.cell? ⟨(ad.add (k * 6)).block, (ad.add (k * 6)).off + 2, none⟩ = some (.slice x.A x.n x.c) ∧ w'.cell? ⟨(ad.add (k * 6)).block, (ad.add (k * 6)).off + 3, none⟩ = some (.slice x.K x.kn x.kc) ∧ w'.cell? ⟨(ad.add (k * 6)).block, (ad.add (k * 6)).off + 4, none⟩ = some (.string x.text.s) ∧ w'.cell? ⟨(ad.add (k * 6)).block, (ad.add (k * 6)).off + 5, none⟩ = some (.slice x.text.A x.text.n x.text.c) ∧ w'.cell? (ad'.add (k * 6)) = some (.string y.tag.s) ∧ w'.cell? ⟨(ad'.add (k * 6)).block, (ad'.add (k * 6)).off + 1, none⟩ = some (.slice y.tag.A y.tag.n y.tag.c) ∧ w'.cell? ⟨(ad'.add (k * 6)).block, (ad'.add (k * 6)).off + 2, none⟩ = some (.slice y.A y.n y.c) ∧ w'.cell? ⟨(ad'.add (k * 6)).block, (ad'.add (k * 6)).off + 3, none⟩ = some (.slice y.K y.kn y.kc) ∧ w'.cell? ⟨(ad'.add (k * 6)).block, (ad'.add (k * 6)).off + 4, none⟩ = some (.string y.text.s) ∧ w'.cell? ⟨(ad'.add (k * 6)).block, (ad'.add (k * 6)).off + 5, none⟩ = some (.slice y.text.A y.text.n y.text.c) ∧ Below wr.heap.size wr w')
            (first
              | exact HKS.out _ (Below.drew (Below.refl _ _))
              | (go_split_ands; exact HKS.out _ (by assumption))
              | exact HKS.out _ (Below.drew ((Below.refl _ _).alloc (Nat.le_refl _) _))
              | exact HKS.out _ (HKA.out _ _))
            (fail)
          all_goals
            go_wp2_with fail
            go_meet
            first
              | exact ⟨_, _, rfl, rfl, (hA1.out _ _).1, (hA1.out _ _).2.1, (hA1.out _ _).2.2⟩
              | exact ⟨_, _, rfl, rfl, (hA1.out _ _).2.1, (hA1.out _ _).1, (hA1.out _ _).2.2⟩
        case rest =>
          obtain ⟨g1, g2, rfl, rfl, y1, y2, hbc⟩ := hcut
          obtain ⟨wd, rfl⟩ : ∃ wd : World, wd = wc := ⟨_, rfl⟩
          have HYX := Lib.hid y1
          have HYY := Lib.hid y2
          have HBC : Hid (Below w.heap.size w wd) := below_next HB.out (Nat.le_refl _) hbc
          obtain ⟨a0, a1, a2, a3, a4, a5⟩ : wd.cell? ⟨g1, 0, none⟩ = some (.string x.tag.s) ∧ wd.cell? ⟨g1, 1, none⟩ = some (.slice x.tag.A x.tag.n x.tag.c) ∧ wd.cell? ⟨g1, 2, none⟩ = some (.slice x.A x.n x.c) ∧ wd.cell? ⟨g1, 3, none⟩ = some (.slice x.K x.kn x.kc) ∧ wd.cell? ⟨g1, 4, none⟩ = some (.string x.text.s) ∧ wd.cell? ⟨g1, 5, none⟩ = some (.slice x.text.A x.text.n x.text.c) := ⟨y1.at_ 0, y1.at_ 1, y1.at_ 2, y1.at_ 3, y1.at_ 4, y1.at_ 5⟩
          obtain ⟨b0, b1, b2, b3, b4, b5⟩ : wd.cell? ⟨g2, 0, none⟩ = some (.string y.tag.s) ∧ wd.cell? ⟨g2, 1, none⟩ = some (.slice y.tag.A y.tag.n y.tag.c) ∧ wd.cell? ⟨g2, 2, none⟩ = some (.slice y.A y.n y.c) ∧ wd.cell? ⟨g2, 3, none⟩ = some (.slice y.K y.kn y.kc) ∧ wd.cell? ⟨g2, 4, none⟩ = some (.string y.text.s) ∧ wd.cell? ⟨g2, 5, none⟩ = some (.slice y.text.A y.text.n y.text.c) := ⟨y2.at_ 0, y2.at_ 1, y2.at_ 2, y2.at_ 3, y2.at_ 4, y2.at_ 5⟩
          have HCALL := Lib.hid (HI.out x HMX.out y HMY.out wd HBC.out)
          have HXI : Hid (∀ W, Below w.heap.size w W → x.inS (fun _ => True) W) := fun W h => (H1.out.2.1.keep (Stays.of h)).get HMX.out
          have HYI : Hid (∀ W, Below w.heap.size w W → y.inS (fun _ => True) W) := fun W h => (H2.out.2.1.keep (Stays.of h)).get HMY.out
          have HSM : Hid (x.ch.same false y.ch = _) := same_parts false x y
          have HXN : Hid (x.atts.length = x.n) := (HXI.out wd HBC.out).an
          have HYN : Hid (y.atts.length = y.n) := (HYI.out wd HBC.out).an
          have hxn : x.n ≤ 1048576 := (HXI.out wd HBC.out).am
          have hyn : y.n ≤ 1048576 := (HYI.out wd HBC.out).am
          have HF1 : Hid (¬ x.tag.s.toList = y.tag.s.toList → sameL false (chL ts) (chL us) = false) := fun h => HFALSE.out (by rw [HSM.out, decide_eq_false h]; simp)
          have HF2 : Hid (¬ x.text.s.toList = y.text.s.toList → sameL false (chL ts) (chL us) = false) := fun h => HFALSE.out (by rw [HSM.out, decide_eq_false h]; simp)
          have HF3 : Hid (¬ (x.n : Int) = (y.n : Int) → sameL false (chL ts) (chL us) = false) := fun h => HFALSE.out (by rw [HSM.out, decide_eq_false (show ¬ x.atts.length = y.atts.length by rw [HXN.out, HYN.out]; omega)]; simp)
          have HF4 : Hid (sameL false (chL x.kids) (chL y.kids) = false → sameL false (chL ts) (chL us) = false) := fun h => HFALSE.out (by rw [HSM.out, h]; simp)
          have HF5 : Hid (false = false → ¬ x.tag.ch = y.tag.ch → sameL false (chL ts) (chL us) = false) := fun hp h => HFALSE.out (by rw [HSM.out, decide_eq_false h, hp]; simp)
          have HF6 : Hid (false = false → ¬ x.text.ch = y.text.ch → sameL false (chL ts) (chL us) = false) := fun hp h => HFALSE.out (by rw [HSM.out, decide_eq_false h, hp]; simp)
          have HF7 : Hid (∀ p ∈ x.atts, ((y.atts.map AT.ch).any fun q => metA false p.ch q) = false → sameL false (chL ts) (chL us) = false) := fun p hp h => HFALSE.out (by
            rw [HSM.out, all_false (x := p.ch) (List.mem_map.2 ⟨p, hp, rfl⟩) h]; simp)
          have hlw : wr.heap.size ≤ wd.heap.size := hbc.size
          clear y1 y2 hbc HKS
          go_wp2_with fail
          rotate_left
          · go_ret
            exact ⟨by rw [HF3.out (by assumption)]; rfl, HBC.out⟩
          · go_ret
            exact ⟨by rw [HF2.out (by assumption)]; rfl, HBC.out⟩
          · go_ret
            exact ⟨by rw [HF1.out (by assumption)]; rfl, HBC.out⟩
          have he1 : x.tag.s.toList = y.tag.s.toList := by assumption
          have he2 : x.text.s.toList = y.text.s.toList := by assumption
          have he3 : (x.n : Int) = (y.n : Int) := by assumption
          have HE1 := Lib.hid he1
          have HE2 := Lib.hid he2
          have HE3 := Lib.hid he3
          refine HCALL.out.mono ?_
          rintro e w5 ⟨rfl, hb5⟩
          have HB5 : Hid (Below w.heap.size w w5) := below_next HBC.out (Nat.le_refl _) hb5
          obtain ⟨a0, a1, a2, a3, a4, a5⟩ : w5.cell? ⟨g1, 0, none⟩ = some (.string x.tag.s) ∧ w5.cell? ⟨g1, 1, none⟩ = some (.slice x.tag.A x.tag.n x.tag.c) ∧ w5.cell? ⟨g1, 2, none⟩ = some (.slice x.A x.n x.c) ∧ w5.cell? ⟨g1, 3, none⟩ = some (.slice x.K x.kn x.kc) ∧ w5.cell? ⟨g1, 4, none⟩ = some (.string x.text.s) ∧ w5.cell? ⟨g1, 5, none⟩ = some (.slice x.text.A x.text.n x.text.c) := by
            have y := HYX.out.below hb5 HYX.out.lt
            exact ⟨y.at_ 0, y.at_ 1, y.at_ 2, y.at_ 3, y.at_ 4, y.at_ 5⟩
          obtain ⟨b0, b1, b2, b3, b4, b5⟩ : w5.cell? ⟨g2, 0, none⟩ = some (.string y.tag.s) ∧ w5.cell? ⟨g2, 1, none⟩ = some (.slice y.tag.A y.tag.n y.tag.c) ∧ w5.cell? ⟨g2, 2, none⟩ = some (.slice y.A y.n y.c) ∧ w5.cell? ⟨g2, 3, none⟩ = some (.slice y.K y.kn y.kc) ∧ w5.cell? ⟨g2, 4, none⟩ = some (.string y.text.s) ∧ w5.cell? ⟨g2, 5, none⟩ = some (.slice y.text.A y.text.n y.text.c) := by
            have y := HYY.out.below hb5 HYY.out.lt
            exact ⟨y.at_ 0, y.at_ 1, y.at_ 2, y.at_ 3, y.at_ 4, y.at_ 5⟩
          have HBD5 := Lib.hid hb5
          clear hb5 HCALL
          cases hkk : sameL false (chL x.kids) (chL y.kids) with
          | false =>
            have HT := Lib.hid (HF4.out hkk)
            clear hkk
            go_wp2_with fail
            go_ret
            exact ⟨by rw [HT.out]; rfl, HB5.out⟩
          | true =>
          have HKK := Lib.hid hkk
          clear hkk
          go_wp2_with fail
          refine (plainStr_any x.tag y.tag w5 (HXI.out w5 HB5.out).tag.ok (HYI.out w5 HB5.out).tag.ok).mono ?_
          rintro e w6 ⟨rfl, hb6⟩
          have HB6 : Hid (Below w.heap.size w w6) := below_next HB5.out (Nat.le_refl _) hb6
          have HBD6 : Hid (Below wd.heap.size wd w6) := below_next HBD5.out (Nat.le_refl _) hb6
          have r4 : w6.cell? ⟨g1, 4, none⟩ = some (.string x.text.s) := (HYX.out.below HBD6.out HYX.out.lt).at_ 4
          have r5 : w6.cell? ⟨g1, 5, none⟩ = some (.slice x.text.A x.text.n x.text.c) := (HYX.out.below HBD6.out HYX.out.lt).at_ 5
          have s4 : w6.cell? ⟨g2, 4, none⟩ = some (.string y.text.s) := (HYY.out.below HBD6.out HYY.out.lt).at_ 4
          have s5 : w6.cell? ⟨g2, 5, none⟩ = some (.slice y.text.A y.text.n y.text.c) := (HYY.out.below HBD6.out HYY.out.lt).at_ 5
          clear hb6 a0 a1 a2 a3 a4 a5 b0 b1 b2 b3 b4 b5
          cases hd5 : decide (x.tag.ch = y.tag.ch) with
          | false =>
            have ht : sameL false (chL ts) (chL us) = false := by first | exact HF5.out rfl (of_decide_eq_false hd5) | exact HF5.out trivial (of_decide_eq_false hd5)
            have HT := Lib.hid ht
            clear ht
            clear hd5
            go_wp2_with fail
            go_ret
            exact ⟨by rw [HT.out]; rfl, HB6.out⟩
          | true =>
          have hp5 : x.tag.ch = y.tag.ch := of_decide_eq_true hd5
          have HP5 := Lib.hid hp5
          clear hd5 hp5
          go_wp2_with fail
          refine (plainStr_any x.text y.text w6 (HXI.out w6 HB6.out).text.ok (HYI.out w6 HB6.out).text.ok).mono ?_
          rintro e w7 ⟨rfl, hb7⟩
          have HB7 : Hid (Below w.heap.size w w7) := below_next HB6.out (Nat.le_refl _) hb7
          have HBD7 : Hid (Below wd.heap.size wd w7) := below_next HBD6.out (Nat.le_refl _) hb7
          clear hb7 r4 r5 s4 s5
          cases hd6 : decide (x.text.ch = y.text.ch) with
          | false =>
            have ht : sameL false (chL ts) (chL us) = false := by first | exact HF6.out rfl (of_decide_eq_false hd6) | exact HF6.out trivial (of_decide_eq_false hd6)
            have HT := Lib.hid ht
            clear ht
            clear hd6
            go_wp2_with fail
            go_ret
            exact ⟨by rw [HT.out]; rfl, HB7.out⟩
          | true =>
          have hp6 : x.text.ch = y.text.ch := of_decide_eq_true hd6
          have HP6 := Lib.hid hp6
          clear hd6 hp6
          have HBM := Lib.hid HB7.out
          have HBDM := Lib.hid HBD7.out

          go_wp2_with fail
          obtain ⟨wo, rfl⟩ : ∃ wo : World, wo = wr := ⟨_, rfl⟩
          go_loopw [10] (AttsRel false (x.atts.map AT.ch) (y.atts.map AT.ch) x.n w7) (fun i _ => x.n - (intOf i).toNat)
          case atStart => exact ⟨0, Nat.zero_le _, rfl, rfl, Below.refl _ _⟩
          case round =>
            obtain ⟨j, hj, rfl, hall, hbj⟩ := hrel
            have HALL := Lib.hid hall
            have HBJ := Lib.hid hbj
            have HBWJ : Hid (Below w.heap.size w wr) := below_next HBM.out (Nat.le_refl _) hbj
            have HBDJ : Hid (Below wd.heap.size wd wr) := below_next HBDM.out (Nat.le_refl _) hbj
            have c2 : wr.cell? ⟨g1, 2, none⟩ = some (.slice x.A x.n x.c) := (HYX.out.below HBDJ.out HYX.out.lt).at_ 2
            have e2 : wr.cell? ⟨g2, 2, none⟩ = some (.slice y.A y.n y.c) := (HYY.out.below HBDJ.out HYY.out.lt).at_ 2
            clear hall hbj
            by_cases hjn : j < x.n
            · have hj0 : (0 : Int) ≤ (j : Int) := Int.natCast_nonneg _
              have hj1 : (j : Int) < (x.n : Int) := by omega
              have hj2 : (j : Int) < (y.n : Int) := by omega
              obtain ⟨ap, pa, hap, hpb, p0, p1, p2, p3, HPR⟩ := ((HXI.out wr HBWJ.out).att.lies).att (k := j) (by rw [HXN.out]; exact hjn)
              have HAP := Lib.hid hap
              have HPM : Hid (pa ∈ x.atts) := List.mem_of_getElem? HPR.out
              have HPS : Hid (∀ V, Below wr.heap.size wr V → V.cell? (ap.add (j * 4)) = some (.string pa.nm.s) ∧ V.cell? ⟨(ap.add (j * 4)).block, (ap.add (j * 4)).off + 1, none⟩ = some (.slice pa.nm.A pa.nm.n pa.nm.c) ∧ V.cell? ⟨(ap.add (j * 4)).block, (ap.add (j * 4)).off + 2, none⟩ = some (.string pa.vl.s) ∧ V.cell? ⟨(ap.add (j * 4)).block, (ap.add (j * 4)).off + 3, none⟩ = some (.slice pa.vl.A pa.vl.n pa.vl.c)) := fun V h =>
                ⟨(h.cell (by rw [addr_block]; exact hpb)).trans p0, (h.cell (by show (ap.add (j * 4)).block < _; rw [addr_block]; exact hpb)).trans p1, (h.cell (by show (ap.add (j * 4)).block < _; rw [addr_block]; exact hpb)).trans p2, (h.cell (by show (ap.add (j * 4)).block < _; rw [addr_block]; exact hpb)).trans p3⟩
              have HPI : Hid (∀ V, Below wr.heap.size wr V → pa.inS (fun _ => True) V) := fun V h => (HXI.out V (below_next HBWJ.out (Nat.le_refl _) h)).atts pa HPM.out
              clear p0 p1 p2 p3 hap hpb
              go_wp2_with fail
              obtain ⟨wp, rfl⟩ : ∃ wp : World, wp = wr := ⟨_, rfl⟩
              go_loopw [11, 12] (MetRel false pa.ch (y.atts.map AT.ch) y.n wp) (fun _ i _ => y.n - (intOf i).toNat)
              case atStart => exact ⟨0, Nat.zero_le _, rfl, rfl, Below.refl _ _⟩
              case round =>
                obtain ⟨l, hl, rfl, rfl, hbl⟩ := hrel
                have HBL := Lib.hid hbl
                have HBWL : Hid (Below w.heap.size w wr) := below_next HBWJ.out (Nat.le_refl _) hbl
                have HBDL : Hid (Below wd.heap.size wd wr) := below_next HBDJ.out (Nat.le_refl _) hbl
                have c2 : wr.cell? ⟨g1, 2, none⟩ = some (.slice x.A x.n x.c) := (HYX.out.below HBDL.out HYX.out.lt).at_ 2
                have e2 : wr.cell? ⟨g2, 2, none⟩ = some (.slice y.A y.n y.c) := (HYY.out.below HBDL.out HYY.out.lt).at_ 2
                clear hbl
                by_cases hln : l < y.n
                · have hl0 : (0 : Int) ≤ (l : Int) := Int.natCast_nonneg _
                  have hl1 : (l : Int) < (y.n : Int) := by omega
                  obtain ⟨aq, qa, haq, hqb, q0, q1, q2, q3, HQR⟩ := ((HYI.out wr HBWL.out).att.lies).att (k := l) (by rw [HYN.out]; exact hln)
                  obtain ⟨p0, p1, p2, p3⟩ := HPS.out wr HBL.out
                  rw [HAP.out] at c2
                  rw [haq] at e2
                  have HQI : Hid (∀ V, Below wr.heap.size wr V → qa.inS (fun _ => True) V) := fun V h => (HYI.out V (below_next HBWL.out (Nat.le_refl _) h)).atts qa (List.mem_of_getElem? HQR.out)
                  have HMT : Hid (((y.atts.map AT.ch).take (l + 1)).any (fun q => metA false pa.ch q) = (((y.atts.map AT.ch).take l).any (fun q => metA false pa.ch q) || metA false pa.ch qa.ch)) := by
                    show _ = _
                    rw [take_next (x := qa.ch) (by rw [List.getElem?_map, HQR.out]; rfl), List.any_append]
                    simp
                  have HMP : Hid (metA false pa.ch qa.ch = _) := met_parts false pa qa
                  have HK2 : Hid (∀ w', Below wr.heap.size wr w' → w'.cell? ⟨g1, 2, none⟩ = some (.slice (some ap) x.n x.c) ∧ w'.cell? ⟨g2, 2, none⟩ = some (.slice (some aq) y.n y.c) ∧ w'.cell? (ap.add (j * 4)) = some (.string pa.nm.s) ∧ w'.cell? ⟨(ap.add (j * 4)).block, (ap.add (j * 4)).off + 1, none⟩ = some (.slice pa.nm.A pa.nm.n pa.nm.c) ∧ w'.cell? ⟨(ap.add (j * 4)).block, (ap.add (j * 4)).off + 2, none⟩ = some (.string pa.vl.s) ∧ w'.cell? ⟨(ap.add (j * 4)).block, (ap.add (j * 4)).off + 3, none⟩ = some (.slice pa.vl.A pa.vl.n pa.vl.c) ∧ w'.cell? (aq.add (l * 4)) = some (.string qa.nm.s) ∧ w'.cell? ⟨(aq.add (l * 4)).block, (aq.add (l * 4)).off + 1, none⟩ = some (.slice qa.nm.A qa.nm.n qa.nm.c) ∧ w'.cell? ⟨(aq.add (l * 4)).block, (aq.add (l * 4)).off + 2, none⟩ = some (.string qa.vl.s) ∧ w'.cell? ⟨(aq.add (l * 4)).block, (aq.add (l * 4)).off + 3, none⟩ = some (.slice qa.vl.A qa.vl.n qa.vl.c) ∧ Below wr.heap.size wr w') := fun w' h =>
                    ⟨(h.cell (World.block_lt_of_cell? wr _ c2)).trans c2, (h.cell (World.block_lt_of_cell? wr _ e2)).trans e2, (h.cell (World.block_lt_of_cell? wr _ p0)).trans p0, (h.cell (World.block_lt_of_cell? wr _ p1)).trans p1, (h.cell (World.block_lt_of_cell? wr _ p2)).trans p2, (h.cell (World.block_lt_of_cell? wr _ p3)).trans p3, (h.cell (World.block_lt_of_cell? wr _ q0)).trans q0, (h.cell (World.block_lt_of_cell? wr _ q1)).trans q1, (h.cell (World.block_lt_of_cell? wr _ q2)).trans q2, (h.cell (World.block_lt_of_cell? wr _ q3)).trans q3, h⟩
                  clear haq hqb
                  generalize hmt : ((y.atts.map AT.ch).take l).any (fun q => metA false pa.ch q) = met at *
                  clear hmt
                  go_upto_region 18 with (fail)
                  clear c2 e2 p0 p1 p2 p3 q0 q1 q2 q3
                  go_cut [13, 14] (fun s13 s14 wx => ∃ h1 h2 : Nat, s13 = .pointer (some ⟨h1, 0, none⟩) ∧ s14 = .pointer (some ⟨h2, 0, none⟩) ∧ Whole wx h1 62 #[.string pa.nm.s, .slice pa.nm.A pa.nm.n pa.nm.c, .string pa.vl.s, .slice pa.vl.A pa.vl.n pa.vl.c] ∧ Whole wx h2 62 #[.string qa.nm.s, .slice qa.nm.A qa.nm.n qa.nm.c, .string qa.vl.s, .slice qa.vl.A qa.vl.n qa.vl.c] ∧ Below wr.heap.size wr wx)
                  case first =>
                    have hA1 : Hid (∀ xs ys : Array Value, Whole ((wr.alloc (.cells xs 62)).alloc (.cells ys 62)).drew wr.heap.size 62 xs ∧ Whole ((wr.alloc (.cells xs 62)).alloc (.cells ys 62)).drew (wr.heap.size + 1) 62 ys ∧ Below wr.heap.size wr ((wr.alloc (.cells xs 62)).alloc (.cells ys 62)).drew) := fun xs ys => by
                      refine ⟨Whole.drew ((Whole.made wr _ _).alloc _), Whole.drew ?_, Below.drew (((Below.refl _ _).alloc (Nat.le_refl _) _).alloc (by simp) _)⟩
                      have h := Whole.made (wr.alloc (.cells xs 62)) 62 ys
                      simp only [World.size_alloc] at h
                      exact h
                    have HKA : Hid (∀ o1 o2, Below wr.heap.size wr ((wr.alloc o1).alloc o2).drew) := fun o1 o2 => Below.drew (((Below.refl _ _).alloc (Nat.le_refl _) _).alloc (by simp) _)
                    go_wp2_with fail
                    go_region_held3 (fun w' => w'.cell? ⟨g1, 2, none⟩ = some (.slice (some ap) x.n x.c) ∧ w'.cell? ⟨g2, 2, none⟩ = some (.slice (some aq) y.n y.c) ∧ w'.cell? (ap.add (j * 4)) = some (.string pa.nm.s) ∧ w'.cell? ⟨(ap.add (j * 4)).block, (ap.add (j * 4)).off + 1, none⟩ = some (.slice pa.nm.A pa.nm.n pa.nm.c) ∧ w'.cell? ⟨(ap.add (j * 4)).block, (ap.add (j * 4)).off + 2, none⟩ = some (.string pa.vl.s) ∧ w'.cell? ⟨(ap.add (j * 4)).block, (ap.add (j * 4)).off + 3, none⟩ = some (.slice pa.vl.A pa.vl.n pa.vl.c) ∧ w'.cell? (aq.add (l * 4)) = some (.string qa.nm.s) ∧ w'.cell? ⟨(aq.add (l * 4)).block, (aq.add (l * 4)).off + 1, none⟩ = some (.slice qa.nm.A qa.nm.n qa.nm.c) ∧ w'.cell? ⟨(aq.add (l * 4)).block, (aq.add (l * 4)).off + 2, none⟩ = some (.string qa.vl.s) ∧ w'.cell? ⟨(aq.add (l * 4)).block, (aq.add (l * 4)).off + 3, none⟩ = some (.slice qa.vl.A qa.vl.n qa.vl.c) ∧ Below wr.heap.size wr w')
                      (first
                        | exact HK2.out _ (Below.drew (Below.refl _ _))
                        | (go_split_ands; exact HK2.out _ (by assumption))
                        | exact HK2.out _ (Below.drew ((Below.refl _ _).alloc (Nat.le_refl _) _))
                        | exact HK2.out _ (HKA.out _ _))
                      (fail)
                    all_goals
                      go_wp2_with fail
                      go_meet
                      first
                        | exact ⟨_, _, rfl, rfl, (hA1.out _ _).1, (hA1.out _ _).2.1, (hA1.out _ _).2.2⟩
                        | exact ⟨_, _, rfl, rfl, (hA1.out _ _).2.1, (hA1.out _ _).1, (hA1.out _ _).2.2⟩
                  case rest =>
                    obtain ⟨h1, h2, rfl, rfl, y1, y2, hbc⟩ := hcut
                    obtain ⟨we, rfl⟩ : ∃ we : World, we = wc := ⟨_, rfl⟩
                    have HY1 := Lib.hid y1
                    have HY2 := Lib.hid y2
                    have HBE : Hid (Below wp.heap.size wp we) := below_next HBL.out (Nat.le_refl _) hbc
                    have HBRE := Lib.hid hbc
                    obtain ⟨m0, m1, m2, m3⟩ : we.cell? ⟨h1, 0, none⟩ = some (.string pa.nm.s) ∧ we.cell? ⟨h1, 1, none⟩ = some (.slice pa.nm.A pa.nm.n pa.nm.c) ∧ we.cell? ⟨h1, 2, none⟩ = some (.string pa.vl.s) ∧ we.cell? ⟨h1, 3, none⟩ = some (.slice pa.vl.A pa.vl.n pa.vl.c) := ⟨y1.at_ 0, y1.at_ 1, y1.at_ 2, y1.at_ 3⟩
                    obtain ⟨n0, n1, n2, n3⟩ : we.cell? ⟨h2, 0, none⟩ = some (.string qa.nm.s) ∧ we.cell? ⟨h2, 1, none⟩ = some (.slice qa.nm.A qa.nm.n qa.nm.c) ∧ we.cell? ⟨h2, 2, none⟩ = some (.string qa.vl.s) ∧ we.cell? ⟨h2, 3, none⟩ = some (.slice qa.vl.A qa.vl.n qa.vl.c) := ⟨y2.at_ 0, y2.at_ 1, y2.at_ 2, y2.at_ 3⟩
                    clear y1 y2 hbc
                    cases met with
                    | true =>
                      go_wp2_with fail
                      go_roundw
                      case rel => exact ⟨l + 1, by omega, by go_num, by rw [HMT.out, Bool.true_or], HBE.out⟩
                      case measure => simp [intOf]; omega
                    | false =>
                      go_wp2_with fail
                      rotate_left
                      iterate 2
                        · go_roundw
                          case rel =>
                            refine ⟨l + 1, by omega, by go_num, ?_, HBE.out⟩
                            rw [HMT.out, HMP.out]
                            first
                              | (rw [decide_eq_true (show pa.nm.s.toList = qa.nm.s.toList by assumption), decide_eq_false (show ¬ pa.vl.s.toList = qa.vl.s.toList by assumption)]; rfl)
                              | (rw [decide_eq_false (show ¬ pa.nm.s.toList = qa.nm.s.toList by assumption)]; rfl)
                          case measure => simp [intOf]; omega
                      have hn1 : pa.nm.s.toList = qa.nm.s.toList := by assumption
                      have hv1 : pa.vl.s.toList = qa.vl.s.toList := by assumption
                      have HN1 := Lib.hid hn1
                      have HV1 := Lib.hid hv1
                      refine (plainStr_any pa.nm qa.nm we (HPI.out we HBE.out).1.ok (HQI.out we HBRE.out).1.ok).mono ?_
                      rintro e w8 ⟨rfl, hb8⟩
                      have HBE8 : Hid (Below wp.heap.size wp w8) := below_next HBE.out (Nat.le_refl _) hb8
                      have HBRE8 : Hid (Below wr.heap.size wr w8) := below_next HBRE.out (Nat.le_refl _) hb8
                      obtain ⟨m0, m1, m2, m3⟩ : w8.cell? ⟨h1, 0, none⟩ = some (.string pa.nm.s) ∧ w8.cell? ⟨h1, 1, none⟩ = some (.slice pa.nm.A pa.nm.n pa.nm.c) ∧ w8.cell? ⟨h1, 2, none⟩ = some (.string pa.vl.s) ∧ w8.cell? ⟨h1, 3, none⟩ = some (.slice pa.vl.A pa.vl.n pa.vl.c) := by
                        have y := HY1.out.below hb8 HY1.out.lt
                        exact ⟨y.at_ 0, y.at_ 1, y.at_ 2, y.at_ 3⟩
                      obtain ⟨n0, n1, n2, n3⟩ : w8.cell? ⟨h2, 0, none⟩ = some (.string qa.nm.s) ∧ w8.cell? ⟨h2, 1, none⟩ = some (.slice qa.nm.A qa.nm.n qa.nm.c) ∧ w8.cell? ⟨h2, 2, none⟩ = some (.string qa.vl.s) ∧ w8.cell? ⟨h2, 3, none⟩ = some (.slice qa.vl.A qa.vl.n qa.vl.c) := by
                        have y := HY2.out.below hb8 HY2.out.lt
                        exact ⟨y.at_ 0, y.at_ 1, y.at_ 2, y.at_ 3⟩
                      clear hb8
                      cases hd1 : decide (pa.nm.ch = qa.nm.ch) with
                      | false =>
                        have HD1 := Lib.hid hd1
                        clear hd1
                        go_wp2_with fail
                        go_roundw
                        case rel =>
                          refine ⟨l + 1, by omega, by go_num, ?_, HBE8.out⟩
                          rw [HMT.out, HMP.out, decide_eq_true HN1.out, decide_eq_true HV1.out, HD1.out]
                          rfl
                        case measure => simp [intOf]; omega
                      | true =>
                        have HD1 := Lib.hid hd1
                        clear hd1
                        go_wp2_with fail
                        refine (plainStr_any pa.vl qa.vl w8 (HPI.out w8 HBE8.out).2.ok (HQI.out w8 HBRE8.out).2.ok).mono ?_
                        rintro e w9 ⟨rfl, hb9⟩
                        have HBE9 : Hid (Below wp.heap.size wp w9) := below_next HBE8.out (Nat.le_refl _) hb9
                        clear hb9 m0 m1 m2 m3 n0 n1 n2 n3
                        go_wp2_with fail
                        go_roundw
                        case rel =>
                          refine ⟨l + 1, by omega, by go_num, ?_, HBE9.out⟩
                          rw [HMT.out, HMP.out, decide_eq_true HN1.out, decide_eq_true HV1.out, HD1.out]
                          simp
                        case measure => simp [intOf]; omega
                · obtain rfl : l = y.n := by omega
                  have HANY : Hid ((y.atts.map AT.ch).take y.n = y.atts.map AT.ch) := List.take_of_length_le (by rw [List.length_map, HYN.out]; exact Nat.le_refl _)
                  rw [HANY.out]
                  have HTK : Hid ((x.atts.map AT.ch).take (j + 1) = (x.atts.map AT.ch).take j ++ [pa.ch]) := take_next (by rw [List.getElem?_map, HPR.out]; rfl)
                  cases hm : (y.atts.map AT.ch).any (fun q => metA false pa.ch q) with
                  | true =>
                    have HM := Lib.hid hm
                    clear hm
                    go_wp2_with fail
                    go_roundw
                    case rel =>
                      refine ⟨j + 1, by omega, by go_num, ?_, below_next HBJ.out (Nat.le_refl _) HBL.out⟩
                      rw [HTK.out, List.all_append, HALL.out, List.all_cons, List.all_nil, HM.out]
                      rfl
                    case measure => simp [intOf]; omega
                  | false =>
                    have HT := Lib.hid (HF7.out pa HPM.out hm)
                    clear hm
                    go_wp2_with fail
                    go_ret
                    exact ⟨by rw [HT.out]; rfl, HBWL.out⟩
            · obtain rfl : j = x.n := by omega
              have HALL2 : Hid ((x.atts.map AT.ch).all (fun p => (y.atts.map AT.ch).any fun q => metA false p q) = true) := by
                have h := HALL.out
                rw [List.take_of_length_le (by rw [List.length_map, HXN.out]; exact Nat.le_refl _)] at h
                exact h
              have HND : Hid (x.ch.same false y.ch = true) := by
                have h3 : x.atts.length = y.atts.length := by rw [HXN.out, HYN.out]; have := HE3.out; omega
                show _ = _
                rw [HSM.out, decide_eq_true HE1.out, decide_eq_true HE2.out, decide_eq_true h3, HKK.out, HALL2.out, decide_eq_true HP5.out, decide_eq_true HP6.out]
                rfl
              go_wp2_with fail
              go_roundw
              case rel => exact ⟨k + 1, by omega, by go_num, by rw [HSN.out]; exact HND.out, HBWJ.out⟩
              case measure => simp [intOf]; omega
      · obtain rfl : k = n := by omega
        have HT : Hid (sameL false (chL ts) (chL us) = true) := by
          have h := HE.out
          rw [List.take_of_length_le (by rw [chL_length, H1.out.2.2.1]; exact Nat.le_refl _), List.take_of_length_le (by rw [chL_length, H2.out.2.2.1]; exact Nat.le_refl _)] at h
          exact h
        clear hb
        go_wp2_with fail
        go_ret
        exact ⟨by rw [HT.out]; rfl, HB.out⟩
  · have HT : Hid (sameL false (chL ts) (chL us) = false) := sameL_len (by rw [chL_length, chL_length, H1.out.2.2.1, H2.out.2.2.1]; exact hnm)
    have hne : ¬ (n : Int) = (m : Int) := by omega
    have hne2 : ((n : Int) == (m : Int)) = false := by simpa using hne
    go_enter Try.func19, Try.ntmps19
    go_wp2_with fail
    go_ret
    exact ⟨by rw [HT.out]; rfl, Below.refl _ _⟩

end Go.Proofs.Ytfebcnndehpklaa.mk

namespace Go.Proofs.Ytfebcnndehpklaa.mk
open Go.RowKit

/-- rows in blocks of their own -/
def Apart2 (v v' : Value) : Prop := ∀ g, v.ownBlock = some g → v'.ownBlock ≠ some g
/-- the two rows that are told -/
def ToldRows (w : World) (base : Nat) (ws : Ch) (gs : List (List UInt8)) (v v' : Value) : Prop :=
  ∃ A1 c1 A2 c2 ns, v = .slice A1 ws.length c1 ∧ v' = .slice A2 ns.length c2 ∧ w.ownsRow base 80 2 (.slice A1 ws.length c1) ws.length (chCells ws) ∧ w.ownsRow base 9 1 (.slice A2 ns.length c2) ns.length (txCells ns) ∧
    ns.map (fun s => s.data.toList) = gs ∧ Apart2 v v'
theorem ToldRows.keep {w w' : World} {base : Nat} {ws : Ch} {gs : List (List UInt8)} {v v' : Value} (h : ToldRows w base ws gs v v') (hb : Below w.heap.size w w') : ToldRows w' base ws gs v v' := by
  obtain ⟨A1, c1, A2, c2, ns, e1, e2, o1, o2, h3, h4⟩ := h
  exact ⟨A1, c1, A2, c2, ns, e1, e2, own_keep o1 hb, own_keep o2 hb, h3, h4⟩
theorem ToldRows.zero (w : World) (base : Nat) : ToldRows w base [] [] (.slice none 0 0) (.slice none 0 0) := ⟨none, 0, none, 0, [], rfl, rfl, World.ownsRow_nil _ _ _ _, World.ownsRow_nil _ _ _ _, rfl, fun g h => by cases h⟩
theorem ToldRows.made {w : World} {base z1 z2 : Nat} {ws : Ch} {gs : List (List UInt8)} {A1 A2 : Option Addr} {c1 c2 : Nat} {ns : List ByteArray} (hz : ws.length = z1) (hn : ns.length = z2) (o1 : w.ownsRow base 80 2 (.slice A1 z1 c1) z1 (chCells ws)) (o2 : w.ownsRow base 9 1 (.slice A2 z2 c2) z2 (txCells ns))
    (h3 : ns.map (fun s => s.data.toList) = gs) (h4 : Apart2 (.slice A1 z1 c1) (.slice A2 z2 c2)) : ToldRows w base ws gs (.slice A1 z1 c1) (.slice A2 z2 c2) := by
  subst hz hn
  exact ⟨A1, c1, A2, c2, ns, rfl, rfl, o1, o2, h3, h4⟩
/-- one row grows, the other stays -/
theorem told_app {W W' : World} {base n : Nat} {e : TypeId} {size : Nat} {v vt vt' : Value} {xs : List Value} (o : W.ownsRow base e size v n xs) (ha : Apart2 v vt) (hg : W.grownBy W' vt.ownBlock) (hv : vt'.ownBlock = vt.ownBlock ∨ vt'.ownBlock = some W.heap.size) : W'.ownsRow base e size v n xs ∧ Apart2 v vt' := by
  refine ⟨own_same o fun g h => hg.block g (o.lt g h).2 (fun e => ha g h e.symm), fun g h e => ?_⟩
  rcases hv with hv | hv
  · exact ha g h (hv ▸ e)
  · rw [hv] at e
    injection e with e
    have := (o.lt g h).2
    omega
theorem txCells_app (a b : List ByteArray) : txCells (a ++ b) = txCells a ++ txCells b := by unfold txCells; rw [List.map_append]
theorem txCells_len (a : List ByteArray) : (txCells a).length = a.length := by unfold txCells; rw [List.length_map]
theorem txCells_one1 (ns : List ByteArray) : ∀ u ∈ txCells ns, u.oneCell' = true := by
  intro u hu
  obtain ⟨s, _, rfl⟩ := List.mem_map.1 hu
  rfl
def ToldRel (ts : List TT) (n dp : Nat) (w : World) (v8 v9 v10 v11 i : Value) (wr : World) : Prop :=
  ∃ k : Nat, k ≤ n ∧ i = .int .i64 (k : Int) ∧ v8 = .int .i64 (wtL ((chL ts).take k) : Int) ∧ v9 = .int .i64 (deepL ((chL ts).take k) dp : Int) ∧ ToldRows wr w.heap.size (wordsL ((chL ts).take k)) (tagsL ((chL ts).take k)) v10 v11 ∧ Below w.heap.size w wr

set_option maxHeartbeats 4000000 in
set_option maxRecDepth 100000 in
theorem told_any : ∀ (Q : List PT) (A : Option Addr) (n c : Nat) (ts : List TT) (dp : Nat) (w : World), chL ts = Q → TreesIn0 w A n ts → dp + bkL (chL ts) ≤ 2097152 →
    Calls Try.prog 9 #[.slice A n c, .int .i64 (dp : Int)] w fun e w' => ∃ v v', e = .returned (.tuple #[.int .i64 (wtL (chL ts) : Int), .int .i64 (deepL (chL ts) dp : Int), v, v']) ∧ ToldRows w' w.heap.size (wordsL (chL ts)) (tagsL (chL ts)) v v' ∧ Below w.heap.size w w' := by
  apply PT.ind
  intro Q IH A n c ts dp w hq h hdp
  obtain ⟨i0, hi, hiz0, hiz1, hiz2⟩ := info_parts string_info
  have H := Lib.hid h
  have hn2 := h.small
  have HN : Hid ((chL ts).length = n) := by show _ = _; rw [chL_length, h.len]
  have hdp2 : dp ≤ 2097152 := by omega
  have HI : Hid (∀ x ∈ ts, ∀ W, Below w.heap.size w W → Calls Try.prog 9 #[.slice x.K x.kn x.kc, .int .i64 ((dp : Int) + 1)] W fun e w' => ∃ v v', e = .returned (.tuple #[.int .i64 (wtL (chL x.kids) : Int), .int .i64 (deepL (chL x.kids) (dp + 1) : Int), v, v']) ∧ ToldRows w' W.heap.size (wordsL (chL x.kids)) (tagsL (chL x.kids)) v v' ∧ Below W.heap.size W w') := fun x hx W hb => by
    have hm : x.ch ∈ chL ts := by rw [chL_map]; exact List.mem_map.2 ⟨x, hx, rfl⟩
    have hk := bkL_kids hm
    rw [TT.ch_kids] at hk
    exact IH x.ch (by rw [← hq]; exact hm) x.K x.kn x.kc x.kids (dp + 1) W (TT.ch_kids x).symm ((h.next hb).kid hx) (by omega)
  have HSZ : Hid (∀ k, wtL ((chL ts).take k) ≤ 1048576 ∧ deepL ((chL ts).take k) dp ≤ 4194304 ∧ (wordsL ((chL ts).take k)).length ≤ 1048576 ∧ (tagsL ((chL ts).take k)).length ≤ 1048576) := fun k => by
    have h0 := bk_take (chL ts) k
    have h1 := bk_wt ((chL ts).take k)
    have h2 := bk_deep ((chL ts).take k) dp
    have h3 := bk_words ((chL ts).take k)
    have h4 := bk_tags ((chL ts).take k)
    have := h.bulk
    exact ⟨by omega, by omega, by omega, by omega⟩
  have HKZ : Hid (∀ x ∈ ts, wtL (chL x.kids) ≤ 1048576 ∧ deepL (chL x.kids) (dp + 1) ≤ 4194304 ∧ (wordsL (chL x.kids)).length ≤ 1048576 ∧ (tagsL (chL x.kids)).length ≤ 1048576 ∧ x.text.s.size ≤ 1048576) := fun x hx => by
    have hm : x.ch ∈ chL ts := by rw [chL_map]; exact List.mem_map.2 ⟨x, hx, rfl⟩
    have h0 := bkL_kids hm
    have h5 := bk_text hm
    rw [TT.ch_kids] at h0
    rw [TT.ch_text, LT.ch_length] at h5
    have h1 := bk_wt (chL x.kids)
    have h2 := bk_deep (chL x.kids) (dp + 1)
    have h3 := bk_words (chL x.kids)
    have h4 := bk_tags (chL x.kids)
    have := h.bulk
    exact ⟨by omega, by omega, by omega, by omega, by omega⟩
  clear h hq IH hdp
  go_enter Try.func9, Try.ntmps9
  go_wp2_with fail
  go_loopw [8, 9, 10, 11, 12] (ToldRel ts n dp w) (fun _ _ _ _ i _ => n - (intOf i).toNat)
  case atStart => exact ⟨0, Nat.zero_le _, rfl, by simp [wtL], by simp [deepL], by have h := ToldRows.zero w w.heap.size; simpa [wordsL, tagsL] using h, Below.refl _ _⟩
  case round =>
    obtain ⟨k, hk, rfl, rfl, rfl, hrow, hb⟩ := hrel
    have HB := Lib.hid hb
    have hzw := hb.size
    obtain ⟨z1, z2, z3, z4⟩ := HSZ.out k
    by_cases hlt : k < n
    · obtain ⟨ad, x, rfl, hbA, d0, d1, d2, d3, d4, d5, HX⟩ := (H.out.next HB.out).lies.lies.tree (k := k) (by rw [H.out.len]; exact hlt)
      have hk0 : (0 : Int) ≤ (k : Int) := Int.natCast_nonneg _
      have hk1 : (k : Int) < (n : Int) := by omega
      have HMEM : Hid (x ∈ ts) := List.mem_of_getElem? HX.out
      obtain ⟨y1, y2, y3, y4, y5⟩ := HKZ.out x HMEM.out
      have HTK : Hid ((chL ts).take (k + 1) = (chL ts).take k ++ [x.ch]) := take_next (chL_at HX.out)
      have HWT : Hid (wtL ((chL ts).take (k + 1)) = wtL ((chL ts).take k) + (1 + wtL (chL x.kids))) := by show _ = _; rw [HTK.out, wtL_append, wtL_one, PT.wt_eq, TT.ch_kids]
      have HWO : Hid (wordsL ((chL ts).take (k + 1)) = wordsL ((chL ts).take k) ++ x.text.ch ++ wordsL (chL x.kids)) := by show _ = _; rw [HTK.out, wordsL_append, wordsL_one, PT.words_eq, TT.ch_kids, TT.ch_text, List.append_assoc]
      have HDE : Hid (deepL ((chL ts).take (k + 1)) dp = max (deepL ((chL ts).take k) dp) (max (deepL (chL x.kids) (dp + 1)) (if x.tag.ch ≠ [] then dp else 0))) := by show _ = _; rw [HTK.out, deepL_append, deepL_one, PT.deep_eq, TT.ch_kids, TT.ch_tag]
      have HTG : Hid (tagsL ((chL ts).take (k + 1)) = tagsL ((chL ts).take k) ++ ((if x.tag.ch ≠ [] then [x.tag.ch.map (·.1)] else []) ++ tagsL (chL x.kids))) := by show _ = _; rw [HTK.out, tagsL_append, tagsL_one, PT.tags_eq, TT.ch_kids, TT.ch_tag]
      have HCE : Hid (∀ V, Below wr.heap.size wr V → V.cell? (ad.add (k * 6)) = some (.string x.tag.s) ∧ V.cell? ⟨(ad.add (k * 6)).block, (ad.add (k * 6)).off + 4, none⟩ = some (.string x.text.s) ∧ V.cell? ⟨(ad.add (k * 6)).block, (ad.add (k * 6)).off + 5, none⟩ = some (.slice x.text.A x.text.n x.text.c)) := fun V h =>
        ⟨(h.cell (by rw [addr_block]; exact hbA)).trans d0, (h.cell (by show (ad.add (k * 6)).block < _; rw [addr_block]; exact hbA)).trans d4, (h.cell (by show (ad.add (k * 6)).block < _; rw [addr_block]; exact hbA)).trans d5⟩
      have HXT : Hid (∀ V, Below wr.heap.size wr V → x.text.ok V V.heap.size) := fun V h => ((H.out.next (below_next HB.out (Nat.le_refl _) h)).all.get HMEM.out).text.ok
      generalize wtL ((chL ts).take k) = N at *
      generalize deepL ((chL ts).take k) dp = D at *
      generalize wordsL ((chL ts).take k) = WS at *
      generalize tagsL ((chL ts).take k) = GS at *
      have HCALL := Lib.hid (HI.out x HMEM.out wr HB.out)
      generalize wtL (chL x.kids) = K at *
      generalize deepL (chL x.kids) (dp + 1) = E at *
      generalize wordsL (chL x.kids) = WK at *
      generalize tagsL (chL x.kids) = GK at *
      obtain ⟨A1, c1, A2, c2, ns, rfl, rfl, o1, o2, h3, h4⟩ := hrow
      have O1 := Lib.hid o1
      have O2 := Lib.hid o2
      have H3 := Lib.hid h3
      have H4 := Lib.hid h4
      have HNS : Hid (ns.length = GS.length) := by show _ = _; rw [← h3, List.length_map]
      have hns : ns.length ≤ 1048576 := by rw [HNS.out]; exact z4
      generalize hzn : ns.length = zn at *
      generalize hzs : WS.length = zs at *
      generalize hzk : WK.length = zk at *
      have HZN := Lib.hid hzn
      have HZS := Lib.hid hzs
      have HZK := Lib.hid hzk
      clear hb o1 o2 h3 h4 hzn hzs hzk d1
      go_wp2_with fail
      refine HCALL.out.mono ?_
      rintro e w1 ⟨v1, v1', rfl, hr1, hb1⟩
      have HB1 := Lib.hid hb1
      obtain ⟨q0, q4, q5⟩ := HCE.out w1 hb1
      obtain ⟨A3, c3, A4, c4, ms, rfl, rfl, o3, o4, m3, m4⟩ := hr1
      rw [HZK.out] at o3 ⊢
      have O3 := Lib.hid o3
      have O4 := Lib.hid o4
      have M3 := Lib.hid m3
      have hmx1 : max (D : Int) (E : Int) = ((max D E : Nat) : Int) := by omega
      have HMS : Hid (ms.length = GK.length) := by show _ = _; rw [← m3, List.length_map]
      have hms : ms.length ≤ 1048576 := by rw [HMS.out]; exact y4
      generalize hzm : ms.length = zm at *
      have HZM := Lib.hid hzm
      clear hb1 o3 o4 m3 m4 d0 d2 d3 d4 d5 HCALL hzm
      go_wp2_with fail
      refine (refOf_any x.text.s x.text.A x.text.n x.text.c x.text.rs w1 (HXT.out w1 HB1.out).1 (HXT.out w1 HB1.out).2.1 (by omega) (HXT.out w1 HB1.out).2.2.1).mono ?_
      rintro e w2 ⟨v2, rfl, o5, hb2⟩
      obtain ⟨A5, c5, rfl, hA5, _, _⟩ := own_form o5
      have HB2 : Hid (Below wr.heap.size wr w2) := below_next HB1.out (Nat.le_refl _) hb2
      obtain ⟨_, _, hv1, hA1, _, _⟩ := own_form O1.out
      injection hv1 with e1 e2 e3
      subst e1 e3
      obtain ⟨_, _, hv3, hA3, _, _⟩ := own_form O3.out
      injection hv3 with e1 e2 e3
      subst e1 e3
      have HXL : Hid (x.text.ch.length = x.text.s.size) := x.text.ch_length
      have HCAT1 := Lib.hid (refCat_any A1 A5 zs x.text.s.size c1 c5 WS x.text.ch w2 (Lies.own (own_keep O1.out HB2.out)) (Lies.own o5) hA1 hA5 HZS.out HXL.out (by omega) (by omega))
      have HO3 : Hid (w2.ownsRow wr.heap.size 80 2 (.slice A3 zk c3) zk (chCells WK)) := own_keep O3.out hb2
      have HB12 := Lib.hid hb2
      clear hb2 o5 hA1 hA5
      go_wp2_with fail
      refine HCAT1.out.mono ?_
      rintro e w3 ⟨v3, rfl, o6, hb3⟩
      obtain ⟨A6, c6, rfl, hA6, _, _⟩ := own_form o6
      have HB3 : Hid (Below wr.heap.size wr w3) := below_next HB2.out (Nat.le_refl _) hb3
      have HCAT2 := Lib.hid (refCat_any A6 A3 (zs + x.text.s.size) zk c6 c3 (WS ++ x.text.ch) WK w3 (Lies.own o6) (Lies.own (own_keep HO3.out hb3)) hA6 hA3 (by rw [List.length_append, HZS.out, HXL.out]) HZK.out (by omega) (by omega))
      have HB13 : Hid (Below w1.heap.size w1 w3) := below_next HB12.out (Nat.le_refl _) hb3
      clear hb3 o6 hA6 hA3 HCAT1
      go_wp2_with fail
      refine HCAT2.out.mono ?_
      rintro e w4 ⟨v4, rfl, o7, hb4⟩
      obtain ⟨A7, c7, rfl, _, _, _⟩ := own_form o7
      have HB4 : Hid (Below wr.heap.size wr w4) := below_next HB3.out (Nat.le_refl _) hb4
      have HB14 : Hid (Below w1.heap.size w1 w4) := below_next HB13.out (Nat.le_refl _) hb4
      have O7 := Lib.hid o7
      have HO2 : Hid (w4.ownsRow w.heap.size 9 1 (.slice A2 zn c2) zn (txCells ns)) := own_keep O2.out HB4.out
      have HO4 : Hid (w4.ownsRow wr.heap.size 9 1 (.slice A4 zm c4) zm (txCells ms)) := own_keep O4.out HB14.out
      have HAP : Hid (Apart2 (.slice A7 (zs + x.text.s.size + zk) c7) (.slice A2 zn c2)) := fun g h e => by
        have h1 := (O7.out.lt g h).1
        have h2 := (O2.out.lt g e).2
        have h3 := HB3.out.size
        omega
      obtain ⟨r0, _, _⟩ := HCE.out w4 HB4.out
      clear hb4 o7 HCAT2 q0 q4 q5
      have HBW4 : Hid (Below w.heap.size w w4) := below_next HB.out (Nat.le_refl _) HB4.out
      obtain ⟨_, _, hv4, hA4, _, _⟩ := own_form O4.out
      injection hv4 with e1 e2 e3
      subst e1 e3
      have HA4 := Lib.hid hA4
      have hzw4 : w.heap.size ≤ w4.heap.size := HBW4.out.size
      clear hA4
      have r2 : Hid ((txCells ms).length = zm * 1) := by show _ = _; rw [txCells_len, HZM.out, Nat.mul_one]
      by_cases ht : x.tag.ch = []
      · have hts : x.tag.s.toList = [] := (LT.s_nil _).2 ht
        have HDE2 : Hid (deepL ((chL ts).take (k + 1)) dp = max D E) := by show _ = _; rw [HDE.out, if_neg (by simp [ht])]; omega
        have HTG2 : Hid (tagsL ((chL ts).take (k + 1)) = GS ++ GK) := by show _ = _; rw [HTG.out, if_neg (by simp [ht])]; rfl
        clear ht
        have hown2 := HO2.out
        have hlm := Lib.hid (Lies.own HO4.out)
        go_wp2_with (at_builtin; refine wpList_append_src _ rfl _ _ 27 rfl w.heap.size 9 i0 _ 1 16 Try.underlying27 hi hiz0 hiz1 hiz2 rfl (by decide) (.slice A2 zn c2) zn _ rfl hown2 w4.heap.size A4 zm c4 (txCells ms) rfl HA4.out r2.out hlm.out (txCells_one1 _) (by simp only [maxLen]; omega) (by omega) hzw4 ?_)
        intro v6 w6 hown6 hg6 hv6
        obtain ⟨A8, c8, rfl, _, _, _⟩ := own_form hown6
        have h7 := told_app O7.out HAP.out hg6 hv6
        have HREL : Hid (ToldRows w6 w.heap.size (wordsL ((chL ts).take (k + 1))) (tagsL ((chL ts).take (k + 1))) (.slice A7 (zs + x.text.s.size + zk) c7) (.slice A8 (zn + zm) c8) ∧ Below w.heap.size w w6) := by
          refine ⟨?_, HBW4.out.grown hg6 hzw4 (fun g h => (O2.out.lt g h).1)⟩
          rw [HWO.out, HTG2.out]
          exact ToldRows.made (ns := ns ++ ms) (by rw [List.length_append, List.length_append, HZS.out, HXL.out, HZK.out]) (by rw [List.length_append, HZN.out, HZM.out]) (own_mono h7.1 (by have := HB3.out.size; omega)) (by rw [txCells_app]; exact hown6) (by rw [List.map_append, H3.out, M3.out]) h7.2
        clear hown2 hown6 hg6 hv6 h7
        go_wp2_with fail
        go_roundw
        case rel => exact ⟨k + 1, by omega, by go_num, by rw [HWT.out]; go_num, by rw [HDE2.out], HREL.out.1, HREL.out.2⟩
        case measure => simp [intOf]; omega
      · have hts : ¬ x.tag.s.toList = [] := fun h => ht ((LT.s_nil _).1 h)
        have hts2 : x.tag.s.toList.isEmpty = false := by simpa using hts
        have hmx2 : max ((max D E : Nat) : Int) (dp : Int) = ((max (max D E) dp : Nat) : Int) := by omega
        have HDE2 : Hid (deepL ((chL ts).take (k + 1)) dp = max (max D E) dp) := by show _ = _; rw [HDE.out, if_pos ht]; omega
        have HTG2 : Hid (tagsL ((chL ts).take (k + 1)) = GS ++ ([x.tag.ch.map (·.1)] ++ GK)) := by show _ = _; rw [HTG.out, if_pos ht]
        clear ht
        have hown2 := HO2.out
        have hlm := Lib.hid (Lies.own HO4.out)
        go_wp2_with (at_builtin; refine wpList_append_own_at _ rfl _ _ 27 rfl w.heap.size 9 i0 _ 1 16 Try.underlying27 hi hiz0 hiz1 hiz2 rfl (by decide) (.slice A2 zn c2) zn _ rfl (hown2.alloc _) ⟨w4.heap.size, 0, none⟩ 1 1 [.string x.tag.s] rfl rfl (cells_new w4 _ _) (by simp [Value.oneCell']) (by simp only [maxLen]; omega) (by omega) (by simp; omega) ?_)
        intro v5 w5 hown5 hg5 _ hv5
        obtain ⟨A9, c9, rfl, _, _, _⟩ := own_form hown5
        have h5 := told_app (O7.out.alloc _) HAP.out hg5 (by rw [World.size_alloc]; exact hv5)
        have hb5 : Below wr.heap.size wr (w4.alloc (.cells #[.string x.tag.s] 9)) := below_next HB4.out (Nat.le_refl _) ((Below.refl _ _).alloc (Nat.le_refl _) _)
        have HB5 : Hid (Below w.heap.size w w5) := (below_next HBW4.out (Nat.le_refl _) ((Below.refl _ _).alloc (Nat.le_refl _) (.cells #[.string x.tag.s] 9))).grown hg5 (by simp; omega) (fun g h => (O2.out.lt g h).1)
        have HLM5 : Hid (Lies w5 w5.heap.size A4 (txCells ms)) := by
          refine (Lies.own (own_same (HO4.out.alloc _) fun g h => hg5.block g ((HO4.out.alloc _).lt g h).2 fun e => ?_))
          have h8 := (HO4.out.lt g h).1
          have h9 := (O2.out.lt g e.symm).2
          omega
        have hz5 : w.heap.size ≤ w5.heap.size := HB5.out.size
        have H5 := Lib.hid h5
        have HO5 := Lib.hid hown5
        clear hown2 hg5 hv5 h5 hb5
        go_wp2_with (at_builtin; refine wpList_append_src _ rfl _ _ 27 rfl w.heap.size 9 i0 _ 1 16 Try.underlying27 hi hiz0 hiz1 hiz2 rfl (by decide) (.slice A9 (zn + 1) c9) (zn + 1) _ rfl hown5 w5.heap.size A4 zm c4 (txCells ms) rfl HA4.out r2.out HLM5.out (txCells_one1 _) (by simp only [maxLen]; omega) (by omega) hz5 ?_)
        intro v6 w6 hown6 hg6 hv6
        obtain ⟨A8, c8, rfl, _, _, _⟩ := own_form hown6
        have h7 := told_app H5.out.1 H5.out.2 hg6 hv6
        have HREL : Hid (ToldRows w6 w.heap.size (wordsL ((chL ts).take (k + 1))) (tagsL ((chL ts).take (k + 1))) (.slice A7 (zs + x.text.s.size + zk) c7) (.slice A8 (zn + 1 + zm) c8) ∧ Below w.heap.size w w6) := by
          refine ⟨?_, HB5.out.grown hg6 hz5 (fun g h => (HO5.out.lt g h).1)⟩
          rw [HWO.out, HTG2.out]
          refine ToldRows.made (ns := ns ++ [x.tag.s] ++ ms) (by rw [List.length_append, List.length_append, HZS.out, HXL.out, HZK.out]) (by rw [List.length_append, List.length_append, HZN.out, HZM.out]; rfl) (own_mono h7.1 (by have := HB3.out.size; omega)) (by rw [txCells_app, txCells_app, List.append_assoc]; exact hown6) ?_ h7.2
          rw [List.map_append, List.map_append, H3.out, M3.out, List.append_assoc]
          have e : x.tag.ch.map (·.1) = x.tag.s.data.toList := x.tag.ch_fst
          rw [e]
          rfl
        clear hown6 hg6 hv6 h7 hown5
        go_wp2_with fail
        go_roundw
        case rel => exact ⟨k + 1, by omega, by go_num, by rw [HWT.out]; go_num, by rw [HDE2.out, Nat.max_assoc], HREL.out.1, HREL.out.2⟩
        case measure => simp [intOf]; omega
    · obtain rfl : k = n := by omega
      have HAL : Hid ((chL ts).take k = chL ts) := List.take_of_length_le (by rw [HN.out]; exact Nat.le_refl _)
      rw [HAL.out] at hrow ⊢
      obtain ⟨A1, c1, A2, c2, ns, rfl, rfl, o1, o2, h3, h4⟩ := hrow
      have HR : Hid (ToldRows wr w.heap.size (wordsL (chL ts)) (tagsL (chL ts)) (.slice A1 (wordsL (chL ts)).length c1) (.slice A2 ns.length c2)) := ⟨A1, c1, A2, c2, ns, rfl, rfl, o1, o2, h3, h4⟩
      clear o1 o2 h3 h4 hb
      go_wp2_with fail
      refine bodyPost_ret (v := .tuple #[.int .i64 (wtL (chL ts) : Int), .int .i64 (deepL (chL ts) dp : Int), .slice A1 (wordsL (chL ts)).length c1, .slice A2 ns.length c2]) ?_ rfl ?_
      · simp [results, Try.results9, go_sem, *]
      · exact ⟨_, _, rfl, HR.out, HB.out⟩

end Go.Proofs.Ytfebcnndehpklaa.mk

namespace Go.Proofs.Ytfebcnndehpklaa.mk
open Go.RowKit

/-- append of a slice onto a row of the law's own, where the operation has a guard that is met -/
theorem wpList_append_src_when {P : Program} (w : World) {ops : Array Oper} {rest : List Oper} {o : Oper} {a : Act} {Q : Exit → Act → World → Prop} (hwant : Region.wanted o (yielded ops a.tmps) = true) (s x : Operand) (t : TypeId)
    (ho : o.op = .call { callee := .builtin .append, args := #[s, x], argTypes := #[t, t] })
    (base : Nat) (e : TypeId) (i : TypeInfo) (z : Value) (size bytes : Nat) (ht : P.underlying t = some (.slice e)) (hi : P.info? e = some i) (hz : i.zero = some z)
    (hsize : i.size = size) (hby : i.bytes = bytes) (hzs : z.cells.size = size) (hsz : 0 < size)
    (v : Value) (n : Nat) (xs : List Value) (hs : a.eval s = v) (hown : w.ownsRow base e size v n xs)
    (B : Nat) (A : Option Addr) (m c : Nat) (news : List Value) (hx : a.eval x = .slice A m c) (hA : A = none → c = 0) (hl : news.length = m * size) (hr : Lies w B A news) (h1 : ∀ u ∈ news, u.oneCell' = true)
    (h63 : n + m ≤ maxLen) (hbytes : (n + m) * bytes ≤ 140737488355328) (hbase : base ≤ w.heap.size)
    (h : ∀ v' w', w'.ownsRow base e size v' (n + m) (xs ++ news) → w.grownBy w' v.ownBlock → (v'.ownBlock = v.ownBlock ∨ v'.ownBlock = some w.heap.size) → wpList P ops Q rest (a.put o.dst v') w') :
    wpList P ops Q (o :: rest) a w := by
  refine wpList_step fun K hK => ?_
  rw [if_pos hwant]
  obtain ⟨v', w', hr, h2, h3, h5⟩ := run_append_src (P := P) w o.type t base e i z size bytes ht hi hz hsize hby hzs hsz v n xs hown B A m c news hA hl hr h1 h63 hbytes hbase
  unfold Oper.wp execOp
  simp only [ho, resolve, invoke, builtin, Sem.run_bind, Sem.run_pure, Result.andThen_ok, List.map_toArray, List.map_cons, List.map_nil, hs, hx, hr]
  exact hK _ _ (h v' w' h2 h3 h5)

theorem words_sub : ∀ (L : List PT), ∀ x ∈ wordsL (mergeP L), x ∈ wordsL L := by
  apply PT.ind
  intro L hk
  induction L using snocInd with
  | nil => intro x hx; exact hx
  | append_singleton l t ih =>
    intro x hx
    have ih' := ih fun y hy => hk y (List.mem_append_left _ hy)
    have hkt := hk t (by simp)
    rw [wordsL_append, wordsL_one, PT.words_eq, List.mem_append, List.mem_append]
    rw [merge_snoc] at hx
    by_cases ht : t.tag = []
    · by_cases he : t.text = []
      · rw [addT_no ht he] at hx
        exact .inl (ih' x hx)
      · rcases last_cases (mergeP l) with h | ⟨xs, y, h⟩
        · rw [h, addT_nil ht he, wordsL_one, PT.words_eq] at hx
          simp only [txT, wordsL, List.append_nil] at hx
          exact .inr (.inl hx)
        · rw [h] at hx ih'
          by_cases hy : y.tag = []
          · rw [addT_tx ht he _ _ hy, wordsL_append, wordsL_one, PT.words_eq] at hx
            simp only [txT, wordsL, List.append_nil, List.mem_append] at hx
            rcases hx with hx | hx | hx
            · exact .inl (ih' x (by rw [wordsL_append]; exact List.mem_append_left _ hx))
            · exact .inl (ih' x (by rw [wordsL_append, wordsL_one, PT.words_eq]; exact List.mem_append_right _ (List.mem_append_left _ hx)))
            · exact .inr (.inl hx)
          · rw [addT_far ht he _ _ hy, wordsL_append, wordsL_one, PT.words_eq] at hx
            simp only [txT, wordsL, List.append_nil, List.mem_append] at hx
            rcases hx with hx | hx
            · exact .inl (ih' x hx)
            · exact .inr (.inl hx)
    · rw [addT_el ht, wordsL_append, wordsL_one, PT.words_eq, List.mem_append] at hx
      simp only [List.nil_append] at hx
      rcases hx with hx | hx
      · exact .inl (ih' x hx)
      · exact .inr (.inr (hkt x hx))

theorem words_in : ∀ (Q : List PT) (ts : List TT), chL ts = Q → InR (wordsL Q) := by
  apply PT.ind
  intro Q IH ts hq
  subst hq
  have key : ∀ us : List TT, (∀ t ∈ us, t ∈ ts) → InR (wordsL (chL us)) := by
    intro us
    induction us with
    | nil => intro _ o ho; rw [chL, wordsL] at ho; cases ho
    | cons t us ih =>
      intro h
      rw [chL, wordsL, PT.words_eq, TT.ch_text]
      refine (InR.append t.text.ch_in ?_).append (ih fun y hy => h y (List.mem_cons_of_mem _ hy))
      exact IH t.ch (by rw [chL_map]; exact List.mem_map.2 ⟨t, h t (by simp), rfl⟩) t.kids (TT.ch_kids t).symm
  exact key ts fun _ h => h

/-- the texts of trees, told -/
theorem wordsT_in (A : Option Addr) (n c : Nat) (ts : List TT) (w : World) (h : TreesIn0 w A n ts) :
    Calls Try.prog 15 #[.slice A n c] w fun e w' => ∃ t : LT, e = .returned (.agg #[.string t.s, .slice t.A t.n t.c]) ∧ Hid (t.ch = wordsL (mergeP (chL ts)) ∧ OwnL w' w.heap.size t) ∧ Below w.heap.size w w' := by
  refine (words_any A n c ts w h.lies h.all h.len (fun _ h => h) h.bulk).mono ?_
  rintro e W1 ⟨v, rfl, hown, hb1⟩
  obtain ⟨D, d, rfl, _, _, _⟩ := own_form hown
  have hI : InR (wordsL (mergeP (chL ts))) := (words_in _ ts rfl).sub (words_sub _)
  have hz : (wordsL (mergeP (chL ts))).length ≤ 4294967296 := by
    have h1 := bk_words (mergeP (chL ts))
    have h2 := bk_merge (chL ts)
    have := h.bulk
    omega
  exact ⟨toldT (wordsL (mergeP (chL ts))) D d, rfl, ⟨toldT_ch hI D d, rfl, Nat.le_trans (runN_le _) hz, (by show (txtOf _).size ≤ _; rw [txtOf_size]; exact hz), hown⟩, hb1⟩

theorem txCells_one (ns : List ByteArray) : ∀ u ∈ txCells ns, u.oneCell' = true := by
  intro u hu
  obtain ⟨s, _, rfl⟩ := List.mem_map.1 hu
  rfl
theorem bytes_map {a b : List ByteArray} (h : a.map (fun s => s.data.toList) = b.map (fun s => s.data.toList)) : a = b :=
  (List.map_inj_right (fun x y h => by cases x; cases y; exact congrArg ByteArray.mk (Array.toList_inj.1 h))).1 h

theorem size_in (A : Option Addr) (n c : Nat) (ts : List TT) (w : World) (h : TreesIn0 w A n ts) :
    Calls Try.prog 12 #[.slice A n c] w fun e w' => e = .returned (.int .i64 (wtL (mergeP (chL ts)) : Int)) ∧ Below w.heap.size w w' := size_any A n c ts w h.lies h.all h.len (fun _ h => h) h.bulk
theorem depth_in (A : Option Addr) (n c : Nat) (ts : List TT) (w : World) (h : TreesIn0 w A n ts) :
    Calls Try.prog 13 #[.slice A n c] w fun e w' => e = .returned (.int .i64 (deepL (mergeP (chL ts)) 1 : Int)) ∧ Below w.heap.size w w' := depth_any A n c ts w h.lies h.all h.len (fun _ h => h) h.bulk
theorem tags_in (A : Option Addr) (n c : Nat) (ts : List TT) (w : World) (h : TreesIn0 w A n ts) :
    Calls Try.prog 17 #[.slice A n c] w fun e w' => ∃ A' c' ns, e = .returned (.slice A' ns.length c') ∧ w'.ownsRow w.heap.size 9 1 (.slice A' ns.length c') ns.length (txCells ns) ∧ ns.map (fun s => s.data.toList) = tagsL (mergeP (chL ts)) ∧ Below w.heap.size w w' := tags_any A n c ts w h.lies h.all h.len (fun _ h => h) h.bulk

set_option maxHeartbeats 8000000 in
set_option maxRecDepth 100000 in
theorem treeParts_any (L : Option Addr) (n c : Nat) (ts : List TT) (M : Option Addr) (m d : Nat) (us : List TT) (w : World) (h : TreesIn0 w L n ts) (h' : TreesIn0 w M m us) (hL : L = none → c = 0) (hM : M = none → d = 0)
    (hsz : bkL (chL ts) + bkL (chL us) ≤ 1048576) :
    Calls Try.prog 5 #[.slice L n c, .slice M m d] w fun e w' => e = .returned (.bool true) ∧ Below w.heap.size w w' := by
  obtain ⟨i0, hi, hz0, hz1, hz2⟩ := info_parts tree_info
  obtain ⟨i1, hj, hj0, hj1, hj2⟩ := info_parts string_info
  have HA := Lib.hid h
  have HB := Lib.hid h'
  have HLC := Lib.hid hL
  have HMD := Lib.hid hM
  have hn2 := h.small
  have hm2 := h'.small
  have HNL : Hid (ts.length = n) := h.len
  have HML : Hid (us.length = m) := h'.len
  have HCH : Hid (chL (ts ++ us) = chL ts ++ chL us) := chL_append ts us
  have HMA : Hid (mergeP (chL (ts ++ us)) = glueT (mergeP (chL ts)) (mergeP (chL us))) := by show _ = _; rw [HCH.out, merge_append]
  have HKA : Hid (∀ x ∈ mergeP (chL ts), okT x) := merge_ok _
  have HKB : Hid (∀ x ∈ mergeP (chL us), okT x) := merge_ok _
  have HWW : Hid (wordsL (mergeP (chL (ts ++ us))) = wordsL (mergeP (chL ts)) ++ wordsL (mergeP (chL us))) := by show _ = _; rw [HMA.out]; exact glue_words HKA.out HKB.out
  have HTT : Hid (tagsL (mergeP (chL (ts ++ us))) = tagsL (mergeP (chL ts)) ++ tagsL (mergeP (chL us))) := by show _ = _; rw [HMA.out]; exact glue_tags HKA.out HKB.out
  have HDD : Hid (deepL (mergeP (chL (ts ++ us))) 1 = max (deepL (mergeP (chL ts)) 1) (deepL (mergeP (chL us)) 1)) := by show _ = _; rw [HMA.out]; exact glue_deep HKA.out HKB.out 1
  have HZZ : Hid (wtL (mergeP (chL (ts ++ us))) = wtL (mergeP (chL ts)) + wtL (mergeP (chL us)) ∨ wtL (mergeP (chL (ts ++ us))) + 1 = wtL (mergeP (chL ts)) + wtL (mergeP (chL us))) := by show _ ∨ _; rw [HMA.out]; exact glue_wt HKA.out HKB.out
  have HSZ : Hid (∀ K, bkL (chL K) ≤ 1048576 → wtL (mergeP (chL K)) ≤ 1048576 ∧ deepL (mergeP (chL K)) 1 ≤ 1048577 ∧ (tagsL (mergeP (chL K))).length ≤ 1048576 ∧ (wordsL (mergeP (chL K))).length ≤ 1048576) := fun K hK => by
    have h0 := bk_merge (chL K)
    have h1 := bk_wt (mergeP (chL K))
    have h2 := bk_deep (mergeP (chL K)) 1
    have h3 := bk_tags (mergeP (chL K))
    have h4 := bk_words (mergeP (chL K))
    exact ⟨by omega, by omega, by omega, by omega⟩
  have HBK : Hid (bkL (chL (ts ++ us)) ≤ 1048576) := by show _ ≤ _; rw [HCH.out, bkL_append]; exact hsz
  have s1 : Hid ((treeCells ts).length = n * 6) := by show _ = _; rw [treeCells_length, HNL.out]
  have s2 : Hid ((treeCells us).length = m * 6) := by show _ = _; rw [treeCells_length, HML.out]
  have s3 : Hid (0 + n ≤ maxLen) := by show _ ≤ _; simp only [maxLen]; omega
  have s4 : Hid ((0 + n) * 128 ≤ 140737488355328) := by show _ ≤ _; omega
  have s5 : Hid (n + m ≤ maxLen) := by show _ ≤ _; simp only [maxLen]; omega
  have s6 : Hid ((n + m) * 128 ≤ 140737488355328) := by show _ ≤ _; omega
  clear h h' hL hM hsz
  go_enter Try.func5, Try.ntmps5
  go_wp2_with fail
  refine (alive11_any w).mono ?_
  rintro e w1 ⟨rfl, hb1⟩
  have HB1 := Lib.hid hb1
  clear hb1
  go_wp2_with fail
  refine (small_any L n c ts w1 (HA.out.next HB1.out)).mono ?_
  rintro e w2 ⟨b2, rfl, hb2⟩
  have HB2 : Hid (Below w.heap.size w w2) := below_next HB1.out (Nat.le_refl _) hb2
  clear hb2
  cases b2 with
  | false =>
    go_wp2_with fail
    go_ret
    exact ⟨rfl, HB2.out⟩
  | true =>
  go_wp2_with fail
  refine (small_any M m d us w2 (HB.out.next HB2.out)).mono ?_
  rintro e w3 ⟨b3, rfl, hb3⟩
  have HB3 : Hid (Below w.heap.size w w3) := below_next HB2.out (Nat.le_refl _) hb3
  clear hb3
  cases b3 with
  | false =>
    go_wp2_with fail
    go_ret
    exact ⟨rfl, HB3.out⟩
  | true =>
  have h00 := Lib.hid (World.ownsRow_lit (base := w3.heap.size) (e := 45) (size := 6) w3 #[] 0 (Nat.le_refl _) (by simp) rfl)
  have hla := Lib.hid ((HA.out.next HB3.out).lies.lies.alloc (Nat.le_refl _) (.cells #[] 45))
  go_wp2_with (at_builtin; refine wpList_append_src _ rfl _ _ 22 rfl w3.heap.size 45 i0 _ 6 128 Try.underlying22 hi hz0 hz1 hz2 rfl (by decide) (.slice (some ⟨w3.heap.size, 0, none⟩) 0 0) 0 [] rfl h00.out w3.heap.size L n c (treeCells ts) rfl HLC.out s1.out hla.out (treeCells_one _) s3.out s4.out (by simp) ?_)
  intro v4 w4 hown4 hg4 hat4
  have hb34 : Below w3.heap.size w3 w4 := ((Below.refl _ _).alloc (Nat.le_refl _) _).grown hg4 (by simp) (by simp [Value.ownBlock])
  have HB4 : Hid (Below w.heap.size w w4) := below_next HB3.out (Nat.le_refl _) hb34
  have hlb := Lib.hid ((HB.out.next HB4.out).lies.lies)
  have HO4 := Lib.hid hown4
  have HB34 := Lib.hid hb34
  have hz34 := hb34.size
  clear hg4 hat4 hown4 hb34
  go_wp2_with (at_builtin; refine wpList_append_src _ rfl _ _ 22 rfl w3.heap.size 45 i0 _ 6 128 Try.underlying22 hi hz0 hz1 hz2 rfl (by decide) v4 n _ rfl HO4.out w4.heap.size M m d (treeCells us) rfl HMD.out s2.out hlb.out (treeCells_one _) s5.out s6.out hz34 ?_)
  intro v5 w5 hown5 hg5 hat5
  have hb35 : Below w3.heap.size w3 w5 := HB34.out.grown hg5 hz34 (fun x hx => (HO4.out.lt x hx).1)
  have HB5 : Hid (Below w.heap.size w w5) := below_next HB3.out (Nat.le_refl _) hb35
  obtain ⟨A5, c5, rfl, _, _, _⟩ := own_form hown5
  have HALL : Hid (TreesIn0 w5 A5 (n + m) (ts ++ us)) := by
    refine ⟨?_, ?_, by rw [List.length_append, HNL.out, HML.out], HBK.out⟩
    · rw [treeCells_append]
      exact (own_inS hown5).mono fun b hb hl => hl
    · exact (HA.out.next HB5.out).all.append (HB.out.next HB5.out).all
  clear hg5 hat5 hown5 hb35 hz34 HB34 HO4 hlb hla h00 s1 s2 s3 s4 s5 s6
  have HZA := Lib.hid (HSZ.out ts HA.out.bulk)
  have HZB := Lib.hid (HSZ.out us HB.out.bulk)
  have HZC := Lib.hid (HSZ.out (ts ++ us) HALL.out.bulk)
  have CSC : Hid (∀ W, Below w5.heap.size w5 W → Calls Try.prog 12 #[.slice A5 (n + m) c5] W fun e w' => e = .returned (.int .i64 (wtL (mergeP (chL (ts ++ us))) : Int)) ∧ Below W.heap.size W w') := fun W hb => size_in A5 (n + m) c5 (ts ++ us) W (HALL.out.next hb)
  have CSA : Hid (∀ W, Below w5.heap.size w5 W → Calls Try.prog 12 #[.slice L n c] W fun e w' => e = .returned (.int .i64 (wtL (mergeP (chL ts)) : Int)) ∧ Below W.heap.size W w') := fun W hb => size_in L n c ts W (HA.out.next (below_next HB5.out (Nat.le_refl _) hb))
  have CSB : Hid (∀ W, Below w5.heap.size w5 W → Calls Try.prog 12 #[.slice M m d] W fun e w' => e = .returned (.int .i64 (wtL (mergeP (chL us)) : Int)) ∧ Below W.heap.size W w') := fun W hb => size_in M m d us W (HB.out.next (below_next HB5.out (Nat.le_refl _) hb))
  have CDC : Hid (∀ W, Below w5.heap.size w5 W → Calls Try.prog 13 #[.slice A5 (n + m) c5] W fun e w' => e = .returned (.int .i64 (deepL (mergeP (chL (ts ++ us))) 1 : Int)) ∧ Below W.heap.size W w') := fun W hb => depth_in A5 (n + m) c5 (ts ++ us) W (HALL.out.next hb)
  have CDA : Hid (∀ W, Below w5.heap.size w5 W → Calls Try.prog 13 #[.slice L n c] W fun e w' => e = .returned (.int .i64 (deepL (mergeP (chL ts)) 1 : Int)) ∧ Below W.heap.size W w') := fun W hb => depth_in L n c ts W (HA.out.next (below_next HB5.out (Nat.le_refl _) hb))
  have CDB : Hid (∀ W, Below w5.heap.size w5 W → Calls Try.prog 13 #[.slice M m d] W fun e w' => e = .returned (.int .i64 (deepL (mergeP (chL us)) 1 : Int)) ∧ Below W.heap.size W w') := fun W hb => depth_in M m d us W (HB.out.next (below_next HB5.out (Nat.le_refl _) hb))
  have CWC : Hid (∀ W, Below w5.heap.size w5 W → Calls Try.prog 15 #[.slice A5 (n + m) c5] W fun e w' => ∃ t : LT, e = .returned (.agg #[.string t.s, .slice t.A t.n t.c]) ∧ Hid (t.ch = wordsL (mergeP (chL (ts ++ us))) ∧ OwnL w' W.heap.size t) ∧ Below W.heap.size W w') := fun W hb => wordsT_in A5 (n + m) c5 (ts ++ us) W (HALL.out.next hb)
  have CWA : Hid (∀ W, Below w5.heap.size w5 W → Calls Try.prog 15 #[.slice L n c] W fun e w' => ∃ t : LT, e = .returned (.agg #[.string t.s, .slice t.A t.n t.c]) ∧ Hid (t.ch = wordsL (mergeP (chL ts)) ∧ OwnL w' W.heap.size t) ∧ Below W.heap.size W w') := fun W hb => wordsT_in L n c ts W (HA.out.next (below_next HB5.out (Nat.le_refl _) hb))
  have CWB : Hid (∀ W, Below w5.heap.size w5 W → Calls Try.prog 15 #[.slice M m d] W fun e w' => ∃ t : LT, e = .returned (.agg #[.string t.s, .slice t.A t.n t.c]) ∧ Hid (t.ch = wordsL (mergeP (chL us)) ∧ OwnL w' W.heap.size t) ∧ Below W.heap.size W w') := fun W hb => wordsT_in M m d us W (HB.out.next (below_next HB5.out (Nat.le_refl _) hb))
  have CTC : Hid (∀ W, Below w5.heap.size w5 W → Calls Try.prog 17 #[.slice A5 (n + m) c5] W fun e w' => ∃ A' c' ns, e = .returned (.slice A' ns.length c') ∧ w'.ownsRow W.heap.size 9 1 (.slice A' ns.length c') ns.length (txCells ns) ∧ ns.map (fun s => s.data.toList) = tagsL (mergeP (chL (ts ++ us))) ∧ Below W.heap.size W w') := fun W hb => tags_in A5 (n + m) c5 (ts ++ us) W (HALL.out.next hb)
  have CTA : Hid (∀ W, Below w5.heap.size w5 W → Calls Try.prog 17 #[.slice L n c] W fun e w' => ∃ A' c' ns, e = .returned (.slice A' ns.length c') ∧ w'.ownsRow W.heap.size 9 1 (.slice A' ns.length c') ns.length (txCells ns) ∧ ns.map (fun s => s.data.toList) = tagsL (mergeP (chL ts)) ∧ Below W.heap.size W w') := fun W hb => tags_in L n c ts W (HA.out.next (below_next HB5.out (Nat.le_refl _) hb))
  have CTB : Hid (∀ W, Below w5.heap.size w5 W → Calls Try.prog 17 #[.slice M m d] W fun e w' => ∃ A' c' ns, e = .returned (.slice A' ns.length c') ∧ w'.ownsRow W.heap.size 9 1 (.slice A' ns.length c') ns.length (txCells ns) ∧ ns.map (fun s => s.data.toList) = tagsL (mergeP (chL us)) ∧ Below W.heap.size W w') := fun W hb => tags_in M m d us W (HB.out.next (below_next HB5.out (Nat.le_refl _) hb))
  clear HA HB HALL HSZ HMA HCH HKA HKB HBK
  generalize wtL (mergeP (chL (ts ++ us))) = zc at *
  generalize wtL (mergeP (chL ts)) = za at *
  generalize wtL (mergeP (chL us)) = zb at *
  generalize deepL (mergeP (chL (ts ++ us))) 1 = dc at *
  generalize deepL (mergeP (chL ts)) 1 = da at *
  generalize deepL (mergeP (chL us)) 1 = db at *
  generalize wordsL (mergeP (chL (ts ++ us))) = qc at *
  generalize wordsL (mergeP (chL ts)) = qa at *
  generalize wordsL (mergeP (chL us)) = qb at *
  generalize tagsL (mergeP (chL (ts ++ us))) = gc at *
  generalize tagsL (mergeP (chL ts)) = ga at *
  generalize tagsL (mergeP (chL us)) = gb at *
  obtain ⟨hza, hda, hga, hqa⟩ := HZA.out
  obtain ⟨hzb, hdb, hgb, hqb⟩ := HZB.out
  obtain ⟨hzc, hdc, hgc, hqc⟩ := HZC.out
  clear HZA HZB HZC
  generalize hnm : n + m = nm at *
  clear hnm
  go_wp2_with fail
  refine (CSC.out w5 (Below.refl _ _)).mono ?_
  rintro e w6 ⟨rfl, hb6⟩
  have HB6 := Lib.hid hb6
  clear hb6
  go_wp2_with fail
  refine (CSA.out w6 HB6.out).mono ?_
  rintro e w7 ⟨rfl, hb7⟩
  have HB7 : Hid (Below w5.heap.size w5 w7) := below_next HB6.out (Nat.le_refl _) hb7
  clear hb7
  go_wp2_with fail
  refine (CSB.out w7 HB7.out).mono ?_
  rintro e w8 ⟨rfl, hb8⟩
  have HB8 : Hid (Below w5.heap.size w5 w8) := below_next HB7.out (Nat.le_refl _) hb8
  clear hb8
  go_wp2_with fail
  refine (CWC.out w8 HB8.out).mono ?_
  rintro e w9 ⟨tc, rfl, htc, hb9⟩
  have HB9 : Hid (Below w5.heap.size w5 w9) := below_next HB8.out (Nat.le_refl _) hb9
  clear hb9
  go_wp2_with fail
  refine (CWA.out w9 HB9.out).mono ?_
  rintro e w10 ⟨ta, rfl, hta, hb10⟩
  have HB10 : Hid (Below w5.heap.size w5 w10) := below_next HB9.out (Nat.le_refl _) hb10
  go_wp2_with fail
  refine (CWB.out w10 HB10.out).mono ?_
  rintro e w11 ⟨tb, rfl, htb, hb11⟩
  have HB11 : Hid (Below w5.heap.size w5 w11) := below_next HB10.out (Nat.le_refl _) hb11
  generalize hw12 : w11.alloc (.cells #[.string ta.s, .slice ta.A ta.n ta.c, .string tb.s, .slice tb.A tb.n tb.c] 35) = w12
  have y12 : Whole w12 w11.heap.size 35 #[.string ta.s, .slice ta.A ta.n ta.c, .string tb.s, .slice tb.A tb.n tb.c] := by rw [← hw12]; exact Whole.made _ _ _
  have hb12 : Below w11.heap.size w11 w12 := by rw [← hw12]; exact (Below.refl _ _).alloc (Nat.le_refl _) _
  have HB12 : Hid (Below w5.heap.size w5 w12) := below_next HB11.out (Nat.le_refl _) hb12
  have hb1112 := below_next hb11 (Nat.le_refl _) hb12
  have hb912 := below_next hb10 (Nat.le_refl _) hb1112
  have HOC : Hid (tc.ok w12 w12.heap.size) := htc.out.2.ok.next hb912 (Nat.le_refl _)
  have HCAT := Lib.hid (catT_any [ta, tb] (some ⟨w11.heap.size, 0, none⟩) 2 2 w12 (lies_wholeA y12 rfl) rfl (by omega) (fun t ht => by
    rcases List.mem_cons.1 ht with rfl | ht
    · exact hta.out.2.ok.next hb1112 (Nat.le_refl _)
    · rcases List.mem_cons.1 ht with rfl | ht
      · exact htb.out.2.ok.next hb12 (Nat.le_refl _)
      · cases ht) (by
    have h1 : catCh [ta, tb] = ta.ch ++ (tb.ch ++ []) := rfl
    rw [h1, hta.out.1, htb.out.1, List.append_nil, List.length_append]
    omega))
  have HCC : Hid (catCh [ta, tb] = qc) := by
    show _ = _
    have h1 : catCh [ta, tb] = ta.ch ++ (tb.ch ++ []) := rfl
    rw [h1, hta.out.1, htb.out.1, List.append_nil, HWW.out]
  have HQC : Hid (tc.ch = qc) := htc.out.1
  clear hb10 hb11 hb12 hb1112 hb912 y12 hta htb htc
  go_wp2_with fail
  clear hw12
  refine HCAT.out.mono ?_
  rintro e w13 ⟨td, rfl, htd, hb13⟩
  have HB13 : Hid (Below w5.heap.size w5 w13) := below_next HB12.out (Nat.le_refl _) hb13
  have HSAME := Lib.hid (same_any tc td w13 (HOC.out.next hb13 (Nat.le_refl _)) (htd.out.2.ok.next (Below.refl _ _) (Nat.le_refl _)))
  have HST : Hid (sameB tc td = true) := by
    show _ = _
    rw [sameB_ch, HQC.out, htd.out.1, HCC.out]
    exact decide_eq_true rfl
  clear hb13 htd HCAT
  go_wp2_with fail
  refine HSAME.out.mono ?_
  rw [HST.out]
  rintro e w14 ⟨rfl, hb14⟩
  have HB14 : Hid (Below w5.heap.size w5 w14) := below_next HB13.out (Nat.le_refl _) hb14
  clear hb14 HSAME
  go_wp2_with fail
  refine (CTC.out w14 HB14.out).mono ?_
  rintro e w15 ⟨Ac, cc, nc, rfl, hoc, hnc, hb15⟩
  have HB15 : Hid (Below w5.heap.size w5 w15) := below_next HB14.out (Nat.le_refl _) hb15
  clear hb15
  go_wp2_with fail
  refine (CTA.out w15 HB15.out).mono ?_
  rintro e w16 ⟨Aa, ca, na, rfl, hoa, hna, hb16⟩
  have HB16 : Hid (Below w5.heap.size w5 w16) := below_next HB15.out (Nat.le_refl _) hb16
  go_wp2_with fail
  refine (CTB.out w16 HB16.out).mono ?_
  rintro e w17 ⟨Ab, cb, nb, rfl, hob, hnb, hb17⟩
  have HB17 : Hid (Below w5.heap.size w5 w17) := below_next HB16.out (Nat.le_refl _) hb17
  have HNS : Hid (nc = na ++ nb) := bytes_map (by rw [List.map_append, hnc, hna, hnb, HTT.out])
  have hla : na.length ≤ 1048576 := by have h1 := congrArg List.length hna; rw [List.length_map] at h1; omega
  have hlb : nb.length ≤ 1048576 := by have h1 := congrArg List.length hnb; rw [List.length_map] at h1; omega
  have hb1517 := below_next hb16 (Nat.le_refl _) hb17
  have HOA := Lib.hid (own_keep hoa hb17)
  have HLB := Lib.hid (Lies.own hob)
  have HLC15 := Lib.hid (Lies.own hoc)
  have HAB : Hid (Ab = none → cb = 0) := by
    obtain ⟨A', c', hv, h1, _, _⟩ := own_form hob
    injection hv with hv1 hv2 hv3
    rw [hv1, hv3]; exact h1
  have r3 : Hid (na.length + nb.length ≤ maxLen) := by show _ ≤ _; simp only [maxLen]; omega
  have r4 : Hid ((na.length + nb.length) * 16 ≤ 140737488355328) := by show _ ≤ _; omega
  have hz1517 := hb1517.size
  have HLN : Hid (nc.length = na.length + nb.length) := by show _ = _; rw [HNS.out, List.length_append]
  have r2 : Hid ((txCells nb).length = nb.length * 1) := by show _ = _; unfold txCells; rw [List.length_map, Nat.mul_one]
  have HB1517 := Lib.hid hb1517
  clear hb16 hb17 hoc hoa hob hna hnb hnc hb1517
  generalize hzz : na.length = z at *
  generalize hyy : nb.length = y at *
  clear hzz hyy
  generalize hxl : nc.length = xx at *
  have HXL := Lib.hid hxl
  clear hxl
  obtain rfl : xx = z + y := HLN.out
  go_wp2_with (at_builtin; refine wpList_append_src_when _ (by rfl) _ _ 27 rfl w15.heap.size 9 i1 _ 1 16 Try.underlying27 hj hj0 hj1 hj2 rfl (by decide) (.slice Aa z ca) z _ rfl HOA.out w17.heap.size Ab y cb (txCells nb) rfl HAB.out r2.out HLB.out (txCells_one _) r3.out r4.out hz1517 ?_)
  intro v18 w18 hown18 hg18 _
  have hb1518 : Below w15.heap.size w15 w18 := HB1517.out.grown hg18 hz1517 (fun x hx => (HOA.out.lt x hx).1)
  have HB18 : Hid (Below w5.heap.size w5 w18) := below_next HB15.out (Nat.le_refl _) hb1518
  obtain ⟨A18, c18, rfl, _, _, _⟩ := own_form hown18
  have HTX := Lib.hid (texts_true Ac (z + y) cc nc A18 c18 w18 (HLC15.out.next hb1518 (Nat.le_refl _)) (by
    have h1 := Lies.own hown18
    have h2 : txCells nc = txCells na ++ txCells nb := by rw [HNS.out]; unfold txCells; rw [List.map_append]
    rw [h2]
    exact h1) HXL.out (by omega))
  clear hb1518 hg18 hown18 hz1517 r2 r3 r4 HAB HLB HOA HLC15
  go_wp2_with fail
  refine HTX.out.mono ?_
  rintro e w19 ⟨rfl, hb19⟩
  have HB19 : Hid (Below w5.heap.size w5 w19) := below_next HB18.out (Nat.le_refl _) hb19
  clear hb19 HTX
  have hmx : max (da : Int) (db : Int) = (dc : Int) := by have := HDD.out; omega
  by_cases hzz : zc = za + zb
  · subst hzz
    go_wp2_with fail
    refine (CDC.out w19 HB19.out).mono ?_
    rintro e w20 ⟨rfl, hb20⟩
    have HB20 : Hid (Below w5.heap.size w5 w20) := below_next HB19.out (Nat.le_refl _) hb20
    clear hb20
    go_wp2_with fail
    refine (CDA.out w20 HB20.out).mono ?_
    rintro e w21 ⟨rfl, hb21⟩
    have HB21 : Hid (Below w5.heap.size w5 w21) := below_next HB20.out (Nat.le_refl _) hb21
    clear hb21
    go_wp2_with fail
    refine (CDB.out w21 HB21.out).mono ?_
    rintro e w22 ⟨rfl, hb22⟩
    have HBF : Hid (Below w.heap.size w w22) := below_next HB5.out (Nat.le_refl _) (below_next HB21.out (Nat.le_refl _) hb22)
    clear hb22
    go_wp2_with fail
    go_ret
    exact ⟨rfl, HBF.out⟩
  · have hne : ¬ (zc : Int) = (za : Int) + (zb : Int) := by omega
    have heq : (za : Int) + (zb : Int) - 1 = (zc : Int) := by have := HZZ.out; omega
    go_wp2_with fail
    refine (CDC.out w19 HB19.out).mono ?_
    rintro e w20 ⟨rfl, hb20⟩
    have HB20 : Hid (Below w5.heap.size w5 w20) := below_next HB19.out (Nat.le_refl _) hb20
    clear hb20
    go_wp2_with fail
    refine (CDA.out w20 HB20.out).mono ?_
    rintro e w21 ⟨rfl, hb21⟩
    have HB21 : Hid (Below w5.heap.size w5 w21) := below_next HB20.out (Nat.le_refl _) hb21
    clear hb21
    go_wp2_with fail
    refine (CDB.out w21 HB21.out).mono ?_
    rintro e w22 ⟨rfl, hb22⟩
    have HBF : Hid (Below w.heap.size w w22) := below_next HB5.out (Nat.le_refl _) (below_next HB21.out (Nat.le_refl _) hb22)
    clear hb22
    go_wp2_with fail
    go_ret
    exact ⟨rfl, HBF.out⟩

end Go.Proofs.Ytfebcnndehpklaa.mk

namespace Go.Proofs.Ytfebcnndehpklaa.mk
open Go.RowKit

theorem tsame_len {ts us : List TT} (h : chL ts = chL us) : ts.length = us.length := by
  have := congrArg List.length h
  rw [chL_length, chL_length] at this
  exact this

set_option maxHeartbeats 8000000 in
set_option maxRecDepth 100000 in
theorem treeTells_any (L : Option Addr) (n c : Nat) (ts : List TT) (w : World) (h : TreesIn0 w L n ts) :
    Calls Try.prog 3 #[.slice L n c] w fun e w' => e = .returned (.bool true) ∧ Below w.heap.size w w' := by
  have HA := Lib.hid h
  have HBM : Hid (bkL (mergeP (chL ts)) ≤ 1048576) := Nat.le_trans (bk_merge _) h.bulk
  have HWZ : Hid ((wordsL (mergeP (chL ts))).length ≤ 1048576 ∧ (tagsL (mergeP (chL ts))).length ≤ 1048576 ∧ (mergeP (chL ts)).length ≤ 1048576) := by
    have h1 := bk_words (mergeP (chL ts))
    have h2 := bk_tags (mergeP (chL ts))
    have h3 := bkL_len (mergeP (chL ts))
    have := HBM.out
    exact ⟨by omega, by omega, by omega⟩
  clear h
  go_enter Try.func3, Try.ntmps3
  go_wp2_with fail
  refine (alive11_any w).mono ?_
  rintro e w1 ⟨rfl, hb1⟩
  have HB1 := Lib.hid hb1
  clear hb1
  go_wp2_with fail
  refine (small_any L n c ts w1 (HA.out.next HB1.out)).mono ?_
  rintro e w2 ⟨b2, rfl, hb2⟩
  have HB2 : Hid (Below w.heap.size w w2) := below_next HB1.out (Nat.le_refl _) hb2
  clear hb2
  cases b2 with
  | false =>
    go_wp2_with fail
    go_ret
    exact ⟨rfl, HB2.out⟩
  | true =>
  go_wp2_with fail
  refine (merge11_any _ _ L n c ts w2 rfl (HA.out.next HB2.out).inS).mono ?_
  rintro e w3 ⟨A3, n3, c3, rfl, hr3, hb3⟩
  obtain ⟨ms, hm3, hmq⟩ := hr3.in0 HBM.out
  have HM := Lib.hid hm3
  have HMQ := Lib.hid hmq
  have HB3 : Hid (Below w.heap.size w w3) := below_next HB2.out (Nat.le_refl _) hb3
  have HTC := Lib.hid (told_any _ A3 n3 c3 ms 1 w3 rfl HM.out (by rw [HMQ.out]; have := HBM.out; omega))
  rw [HMQ.out] at HTC
  clear hb3 hr3 hm3 hmq
  go_wp2_with fail
  refine HTC.out.mono ?_
  rintro e w4 ⟨v4, v4', rfl, hr4, hb4⟩
  have HR4 := Lib.hid hr4
  have HB4 : Hid (Below w.heap.size w w4) := below_next HB3.out (Nat.le_refl _) hb4
  have HB34 := Lib.hid hb4
  clear hb4 HTC hr4
  go_wp2_with fail
  refine (merge_any L n c ts w4 (HA.out.next HB4.out)).mono ?_
  rintro e w5 ⟨A5, c5, us, rfl, o5, a5, q5, hb5⟩
  have HB5 : Hid (Below w.heap.size w w5) := below_next HB4.out (Nat.le_refl _) hb5
  have HB35 : Hid (Below w3.heap.size w3 w5) := below_next HB34.out (Nat.le_refl _) hb5
  have hlen : us.length = n3 := by rw [← HM.out.len]; exact tsame_len (q5.trans HMQ.out.symm)
  have hn3 : n3 ≤ 1048576 := by rw [← hlen, ← chL_length, q5]; exact HWZ.out.2.2
  rw [hlen]
  have HTR := Lib.hid (trees_true _ A5 n3 c5 us A3 c3 ms w5 rfl (HMQ.out.trans q5.symm) (Lies.own o5) (a5.mono fun _ _ _ => trivial) hlen hn3 ((HM.out.next HB35.out).lies.lies) ((HM.out.next HB35.out).all.mono fun _ _ _ => trivial))
  have HR5 : Hid (ToldRows w5 w3.heap.size (wordsL (mergeP (chL ts))) (tagsL (mergeP (chL ts))) v4 v4') := HR4.out.keep hb5
  clear o5 a5 q5 hb5
  go_wp2_with fail
  refine HTR.out.mono ?_
  rintro e w6 ⟨rfl, hb6⟩
  have HB6 : Hid (Below w.heap.size w w6) := below_next HB5.out (Nat.le_refl _) hb6
  have HR6 := Lib.hid (HR5.out.keep hb6)
  clear hb6 HTR
  go_wp2_with fail
  refine (size_in L n c ts w6 (HA.out.next HB6.out)).mono ?_
  rintro e w7 ⟨rfl, hb7⟩
  have HB7 : Hid (Below w.heap.size w w7) := below_next HB6.out (Nat.le_refl _) hb7
  have HR7 := Lib.hid (HR6.out.keep hb7)
  clear hb7
  go_wp2_with fail
  refine (depth_in L n c ts w7 (HA.out.next HB7.out)).mono ?_
  rintro e w8 ⟨rfl, hb8⟩
  have HB8 : Hid (Below w.heap.size w w8) := below_next HB7.out (Nat.le_refl _) hb8
  have HR8 := Lib.hid (HR7.out.keep hb8)
  clear hb8
  go_wp2_with fail
  have HAN := Lib.hid (HA.out.next HB8.out)
  refine (words_any L n c ts w8 HAN.out.lies HAN.out.all HAN.out.len (fun _ h => h) HAN.out.bulk).mono ?_
  rintro e w9 ⟨v9, rfl, o9, hb9⟩
  obtain ⟨A9, c9, rfl, _, _, _⟩ := own_form o9
  have HB9 : Hid (Below w.heap.size w w9) := below_next HB8.out (Nat.le_refl _) hb9
  have hr9 := HR8.out.keep hb9
  obtain ⟨A1, c1, A2, c2, ns, rfl, rfl, p1, p2, p3, _⟩ := hr9
  have HP2 := Lib.hid p2
  have HP3 := Lib.hid p3
  have HIS := Lib.hid (isL_true (wordsL (mergeP (chL ts))) (Nat.le_trans (runN_le _) (Nat.le_trans HWZ.out.1 (by omega))) (Nat.le_trans HWZ.out.1 (by omega)) w9 A9 c9 A1 c1 (Lies.own o9) (Lies.own p1))
  clear o9 hb9 p1 p2 p3
  go_wp2_with fail
  refine HIS.out.mono ?_
  rintro e w10 ⟨rfl, hb10⟩
  have HB10 : Hid (Below w.heap.size w w10) := below_next HB9.out (Nat.le_refl _) hb10
  have HP2' := Lib.hid (own_keep HP2.out hb10)
  clear hb10 HIS
  go_wp2_with fail
  refine (tags_in L n c ts w10 (HA.out.next HB10.out)).mono ?_
  rintro e w11 ⟨A11, c11, ks, rfl, o11, q11, hb11⟩
  have HB11 : Hid (Below w.heap.size w w11) := below_next HB10.out (Nat.le_refl _) hb11
  have HEQ : Hid (ks = ns) := bytes_map (by rw [q11, HP3.out])
  obtain rfl := HEQ.out
  have HTX := Lib.hid (texts_true A11 ks.length c11 ks A2 c2 w11 (Lies.own o11) (Lies.own (own_keep HP2'.out hb11)) rfl (by
    have h1 := congrArg List.length q11
    rw [List.length_map] at h1
    have := HWZ.out.2.1
    omega))
  clear o11 q11 hb11
  go_wp2_with fail
  refine HTX.out.mono ?_
  rintro e w12 ⟨rfl, hb12⟩
  have HB12 : Hid (Below w.heap.size w w12) := below_next HB11.out (Nat.le_refl _) hb12
  clear hb12 HTX
  go_wp2_with fail
  go_ret
  exact ⟨rfl, HB12.out⟩

end Go.Proofs.Ytfebcnndehpklaa.mk

namespace Go.Proofs.Ytfebcnndehpklaa.mk
open Go.RowKit

theorem in0_at {w : World} {A : Option Addr} {n : Nat} {ts : List TT} (h : TreesIn0 w A n ts) : TreesAt w A n ts := ⟨h.lies.lies, h.all.mono fun _ _ _ => trivial, h.len, h.small⟩

set_option maxHeartbeats 8000000 in
set_option maxRecDepth 100000 in
theorem treeSames_any (L : Option Addr) (n c : Nat) (ts : List TT) (M : Option Addr) (m d : Nat) (us : List TT) (w : World) (h : TreesIn0 w L n ts) (h' : TreesIn0 w M m us) :
    Calls Try.prog 4 #[.slice L n c, .slice M m d] w fun e w' => e = .returned (.bool true) ∧ Below w.heap.size w w' := by
  have HA := Lib.hid h
  have HB := Lib.hid h'
  have HZA : Hid (bkL (mergeP (chL ts)) ≤ 1048576) := Nat.le_trans (bk_merge _) h.bulk
  have HZB : Hid (bkL (mergeP (chL us)) ≤ 1048576) := Nat.le_trans (bk_merge _) h'.bulk
  have HEF : Hid (eqL (mergeP (chL ts)) (mergeP (chL us)) = sameL false (mergeP (chL ts)) (mergeP (chL us))) := by
    have h1 := eq_same paleG_id (mergeP (chL ts)) (mergeP (chL us)) (dist_merge _) (dist_merge _)
    rw [mapL_id, mapL_id] at h1
    exact h1
  have HET : Hid (eqL (mapL paleC (mergeP (chL ts))) (mapL paleC (mergeP (chL us))) = sameL true (mergeP (chL ts)) (mergeP (chL us))) := eq_same paleG_pale _ _ (dist_merge _) (dist_merge _)
  have HES : Hid (eqL (mergeP (chL ts)) (mergeP (mergeP (chL ts))) = true) := by
    have h1 := eq_same paleG_id (mergeP (chL ts)) (mergeP (chL ts)) (dist_merge _) (dist_merge _)
    rw [mapL_id, same_self] at h1
    show _ = _
    rw [merge_merge]
    exact h1
  clear h h'
  go_enter Try.func4, Try.ntmps4
  go_wp2_with fail
  refine (alive11_any w).mono ?_
  rintro e w1 ⟨rfl, hb1⟩
  have HB1 := Lib.hid hb1
  clear hb1
  go_wp2_with fail
  refine (small_any L n c ts w1 (HA.out.next HB1.out)).mono ?_
  rintro e w2 ⟨b2, rfl, hb2⟩
  have HB2 : Hid (Below w.heap.size w w2) := below_next HB1.out (Nat.le_refl _) hb2
  clear hb2
  cases b2 with
  | false =>
    go_wp2_with fail
    go_ret
    exact ⟨rfl, HB2.out⟩
  | true =>
  go_wp2_with fail
  refine (small_any M m d us w2 (HB.out.next HB2.out)).mono ?_
  rintro e w3 ⟨b3, rfl, hb3⟩
  have HB3 : Hid (Below w.heap.size w w3) := below_next HB2.out (Nat.le_refl _) hb3
  clear hb3
  cases b3 with
  | false =>
    go_wp2_with fail
    go_ret
    exact ⟨rfl, HB3.out⟩
  | true =>
  go_wp2_with fail
  refine (merge11_any _ _ L n c ts w3 rfl (HA.out.next HB3.out).inS).mono ?_
  rintro e w4 ⟨A4, n4, c4, rfl, hr4, hb4⟩
  obtain ⟨xs, hx, hxq⟩ := hr4.in0 HZA.out
  have HX := Lib.hid hx
  have HXQ := Lib.hid hxq
  have HB4 : Hid (Below w.heap.size w w4) := below_next HB3.out (Nat.le_refl _) hb4
  clear hr4 hb4 hx hxq
  go_wp2_with fail
  refine (merge11_any _ _ M m d us w4 rfl (HB.out.next HB4.out).inS).mono ?_
  rintro e w5 ⟨A5, n5, c5, rfl, hr5, hb5⟩
  obtain ⟨ys, hy, hyq⟩ := hr5.in0 HZB.out
  have HY := Lib.hid hy
  have HYQ := Lib.hid hyq
  have HX5 := Lib.hid (HX.out.next hb5)
  have HB5 : Hid (Below w.heap.size w w5) := below_next HB4.out (Nat.le_refl _) hb5
  clear hr5 hb5 hy hyq
  go_wp2_with fail
  refine (merge_any L n c ts w5 (HA.out.next HB5.out)).mono ?_
  rintro e w6 ⟨A6, c6, zs, rfl, o6, a6, q6, hb6⟩
  have HQ6 := Lib.hid q6
  have HZ6 : Hid (TreesIn0 w6 A6 zs.length zs) := ⟨(own_inS o6).mono fun b _ h => h, a6.mono fun b _ h => h, rfl, by rw [q6]; exact HZA.out⟩
  have HX6 := Lib.hid (HX5.out.next hb6)
  have HY6 := Lib.hid (HY.out.next hb6)
  have HB6 : Hid (Below w.heap.size w w6) := below_next HB5.out (Nat.le_refl _) hb6
  clear o6 a6 q6 hb6
  generalize hzz : zs.length = z6 at *
  have HZL := Lib.hid hzz
  clear hzz
  go_wp2_with fail
  refine (tsame_any L n c ts M m d us w6 (HA.out.next HB6.out) (HB.out.next HB6.out)).mono ?_
  rintro e w7 ⟨rfl, hb7⟩
  have HB7 : Hid (Below w.heap.size w w7) := below_next HB6.out (Nat.le_refl _) hb7
  have HB67 := Lib.hid hb7
  rw [HEF.out]
  have HC7 := Lib.hid (same11_false _ A4 n4 c4 xs A5 n5 c5 ys w7 rfl (in0_at (HX6.out.next hb7)) (in0_at (HY6.out.next hb7)))
  rw [HXQ.out, HYQ.out] at HC7
  clear hb7
  go_wp2_with fail
  refine HC7.out.mono ?_
  rintro e w8 ⟨rfl, hb8⟩
  have HB8 : Hid (Below w.heap.size w w8) := below_next HB7.out (Nat.le_refl _) hb8
  have HB68 : Hid (Below w6.heap.size w6 w8) := below_next HB67.out (Nat.le_refl _) hb8
  clear hb8 HC7
  generalize sameL false (mergeP (chL ts)) (mergeP (chL us)) = sf at *
  go_wp2_with fail
  refine (alike_any L n c ts M m d us w8 (HA.out.next HB8.out) (HB.out.next HB8.out)).mono ?_
  rintro e w9 ⟨rfl, hb9⟩
  have HB9 : Hid (Below w.heap.size w w9) := below_next HB8.out (Nat.le_refl _) hb9
  have HB69 : Hid (Below w6.heap.size w6 w9) := below_next HB68.out (Nat.le_refl _) hb9
  rw [HET.out]
  have HC9 := Lib.hid (same11_true _ A4 n4 c4 xs A5 n5 c5 ys w9 rfl (in0_at (HX6.out.next HB69.out)) (in0_at (HY6.out.next HB69.out)))
  rw [HXQ.out, HYQ.out] at HC9
  clear hb9
  go_wp2_with fail
  refine HC9.out.mono ?_
  rintro e w10 ⟨rfl, hb10⟩
  have HB10 : Hid (Below w.heap.size w w10) := below_next HB9.out (Nat.le_refl _) hb10
  have HB610 : Hid (Below w6.heap.size w6 w10) := below_next HB69.out (Nat.le_refl _) hb10
  clear hb10 HC9
  generalize sameL true (mergeP (chL ts)) (mergeP (chL us)) = st at *
  have HCS := Lib.hid (tsame_any L n c ts A6 z6 c6 zs w10 (HA.out.next HB10.out) (HZ6.out.next HB610.out))
  rw [HQ6.out, HES.out] at HCS
  go_wp2_with fail
  refine HCS.out.mono ?_
  rintro e w11 ⟨rfl, hb11⟩
  have HB11 : Hid (Below w.heap.size w w11) := below_next HB10.out (Nat.le_refl _) hb11
  have HB611 : Hid (Below w6.heap.size w6 w11) := below_next HB610.out (Nat.le_refl _) hb11
  clear hb11 HCS
  go_wp2_with fail
  refine (merge_any A6 z6 c6 zs w11 (HZ6.out.next HB611.out)).mono ?_
  rintro e w12 ⟨A12, c12, vs, rfl, o12, a12, q12, hb12⟩
  have HB12 : Hid (Below w.heap.size w w12) := below_next HB11.out (Nat.le_refl _) hb12
  have HB612 : Hid (Below w6.heap.size w6 w12) := below_next HB611.out (Nat.le_refl _) hb12
  have hq12 : chL vs = chL zs := by rw [q12, HQ6.out, merge_merge]
  have hlen : vs.length = z6 := by rw [← HZL.out]; exact tsame_len hq12
  rw [hlen]
  have HTR := Lib.hid (trees_true _ A12 z6 c12 vs A6 c6 zs w12 rfl hq12.symm (Lies.own o12) (a12.mono fun _ _ _ => trivial) hlen (HZ6.out.small) ((HZ6.out.next HB612.out).lies.lies) ((HZ6.out.next HB612.out).all.mono fun _ _ _ => trivial))
  clear o12 a12 q12 hb12 hq12
  go_wp2_with fail
  refine HTR.out.mono ?_
  rintro e w13 ⟨rfl, hb13⟩
  have HB13 : Hid (Below w.heap.size w w13) := below_next HB12.out (Nat.le_refl _) hb13
  clear hb13 HTR
  go_wp2_with fail
  go_ret
  exact ⟨rfl, HB13.out⟩

end Go.Proofs.Ytfebcnndehpklaa.mk

namespace Go.Proofs.Ytfebcnndehpklaa.treeSames
open Go.ChangeShapes Go.WideShapes Go.ChangeAt Go.RowKit Go.Proofs.Ytfebcnndehpklaa.mk

set_option maxRecDepth 100000 in
theorem contract (H : Type) (enc : TypeId × Value → H) (W : World) (args : Array Value) (ds gs : List (DataW H)) (before : List MemPlace) (base : Nat)
    (hval : ∀ (j : Nat) t v, Try.f4.params[j]? = some t → args[j]? = some v → Value.okWide Try.prog W .any base t v)
    (hW : DataW.Whole enc Try.prog Try.f4.params.toList Rows.treeSamesSpec.vars false W args.toList ds gs before) (hk : Rows.uptoSmall H (ds ++ gs) = true) :
    Calls Try.prog 4 args W fun e W' => ∃ v, e = .returned v ∧ Rows.treeSamesSpec.post enc Try.prog Try.f4 false true false false W args v W' := by
  obtain ⟨p, q, hA0, hV, rfl, hfz, hnd⟩ := id hW
  have hA : DataW.TrodAll enc Try.prog W 0 (fun _ => true) true Try.f4.params.toList args.toList ds p := hA0
  rw [Try.params4] at hA hval
  obtain ⟨v0, vs0, d0, ds0, p0, q0, hargs, rfl, rfl, h0, r0⟩ := trodAll_cons hA
  obtain ⟨v1, vs1, d1, ds1, p1, q1, rfl, rfl, rfl, h1, r1⟩ := trodAll_cons r0
  obtain ⟨rfl, rfl, rfl⟩ := trodAll_nil r1
  obtain rfl : args = #[v0, v1] := by cases args; simp_all
  obtain ⟨rfl, rfl⟩ := trodVars_none hV
  have hbk := bulk_bound hk
  simp only [List.append_nil, Rows.uptoBulkAll] at hbk
  have hbk2 : Rows.uptoBulk d0 + Rows.uptoBulk d1 ≤ 1048576 := by omega
  obtain ⟨fuel0, hf0⟩ := h0
  obtain ⟨L0, m0, c0, rfl⟩ := okWide_slice Try.underlying22 (hval 0 22 v0 rfl rfl)
  obtain ⟨L0', m0', c0', ts0, hv0, hl0, hm0, hLc0, hmc0, hok0, hsz0⟩ := open_trees hf0 (by show Rows.uptoBulk d0 ≤ 1048576; omega)
  cases hv0
  simp only at hsz0
  obtain ⟨fuel1, hf1⟩ := h1
  obtain ⟨L1, m1, c1, rfl⟩ := okWide_slice Try.underlying22 (hval 1 22 v1 rfl rfl)
  obtain ⟨L1', m1', c1', ts1, hv1, hl1, hm1, hLc1, hmc1, hok1, hsz1⟩ := open_trees hf1 (by show Rows.uptoBulk d1 ≤ 1048576; omega)
  cases hv1
  simp only at hsz1
  refine (treeSames_any L0 m0 c0 ts0 L1 m1 c1 ts1 W ⟨hl0, hok0, hm0, (by omega)⟩ ⟨hl1, hok1, hm1, (by omega)⟩).mono fun e W' ⟨he, hb⟩ => ?_
  subst he
  exact ⟨_, rfl, law_post (tb := 4) laidOut hW rfl ⟨rfl, rfl, rfl⟩ (by rw [Try.params4]; exact readable_all (by kernel_rfl)) rfl Try.underlying4 hb⟩

set_option maxRecDepth 100000 in
theorem lifted (os : Os) (started : os.Started) (H : Type) (enc : TypeId × Value → H) (F : Stop.Interp) :
    ReturnsInHanded {} Try.checked os 4 .any ((Rows.OpenSpec.upto Rows.treeSamesSpec).pre6 enc Try.prog Try.f4 Rows.treeSamesUptoRow.domain false) (((Rows.OpenSpec.upto Rows.treeSamesSpec).at F).post enc Try.prog Try.f4 false true false false) := by
  refine returnsInHanded_of_cond (C := Try.checked) (s := Rows.OpenSpec.upto Rows.treeSamesSpec) (k := Rows.uptoSmall) rfl own started (by kernel_rfl) Try.func4
    (OpenSpec.witness (enc := enc) (C := Try.checked) (s := Rows.OpenSpec.upto Rows.treeSamesSpec) (k := Rows.uptoSmall) rfl false ⟨#[], #[.slice none 0 0, .slice none 0 0], []⟩ 8 (by kernel_rfl) (by kernel_rfl) (by kernel_rfl)
      (x := ([.nil, .nil], [], [])) (by kernel_rfl) rfl (by kernel_rfl)) ?_
  intro W base args ds gs before hval hW _ hk _
  exact contract H enc W args ds gs before base hval hW hk

theorem proved : Rows.TreeSamesUptoSaid :=
  OpenClaim.holds_of_cond 4 Try.f4 rfl rfl rfl rfl rfl rfl rfl ⟨rfl, rfl, rfl, rfl, rfl⟩ rfl rfl rfl rfl rfl (by kernel_rfl) Try.func4 (by kernel_rfl)
    (of_decide_eq_true (by kernel_rfl)) (by unfold Func.isWrapper; first | (rw [if_pos (by decide +kernel)]; kernel_rfl) | (rw [if_neg (by decide +kernel)]; exact ⟨rfl, rfl⟩))
    (fun os started H enc _ F => lifted os started H enc F)

end Go.Proofs.Ytfebcnndehpklaa.treeSames
