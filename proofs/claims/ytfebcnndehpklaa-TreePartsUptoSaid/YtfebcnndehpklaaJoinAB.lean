/-
  TreeParts, where what comes in is of bulk at most 1048576: texts and tags of trees, one behind the other, are those of both; so is how many there are, but for two texts that meet, and how deep they are.
  Conditions: none beside the bound that the statement itself names.
-/
import Derived.Test.YtfebcnndehpklaaJoinAA
import Derived.Test.YtfebcnndehpklaaJoinW
import Derived.Test.YtfebcnndehpklaaJoinU
import Derived.Test.YtfebcnndehpklaaJoinR
import Derived.Test.YtfebcnndehpklaaJoinX
import Derived.Test.YtfebcnndehpklaaJoinZ
namespace Go.Proofs.Ytfebcnndehpklaa.mk
open Go.RowKit

/-- how many were counted: no more than there are -/
def CntRel (ts : List TT) (n : Nat) (w : World) (s t : Value) (wr : World) : Prop :=
  ∃ k r : Nat, k ≤ n ∧ t = .int .i64 (k : Int) ∧ s = .int .i64 (r : Int) ∧ r + k ≤ n + wtL ((chL ts).take k) ∧ Below w.heap.size w wr

theorem TreesIn0.kid {w : World} {A : Option Addr} {n : Nat} {ts : List TT} (h : TreesIn0 w A n ts) {x : TT} (hx : x ∈ ts) : TreesIn0 w x.K x.kn x.kids := by
  have h1 := h.all.get hx
  refine ⟨h1.kid, h.all.kids hx, h1.kn, ?_⟩
  have h2 : x.ch ∈ chL ts := by rw [chL_map]; exact List.mem_map.2 ⟨x, hx, rfl⟩
  have h3 := bkL_kids h2
  rw [TT.ch_kids] at h3
  have := h.bulk
  omega

set_option maxHeartbeats 1000000 in
set_option maxRecDepth 100000 in
theorem count_any : ∀ (Q : List PT) (A : Option Addr) (n c : Nat) (ts : List TT) (w : World), chL ts = Q → TreesIn0 w A n ts →
    Calls Try.prog 24 #[.slice A n c] w fun e w' => ∃ r : Nat, e = .returned (.int .i64 (r : Int)) ∧ r ≤ wtL (chL ts) ∧ Below w.heap.size w w' := by
  apply PT.ind
  intro Q IH A n c ts w hq h
  have H := Lib.hid h
  have hn2 := h.small
  have HQ := Lib.hid hq
  have HI := Lib.hid IH
  have HW : Hid (wtL (chL ts) ≤ 1048576) := Nat.le_trans (bk_wt _) h.bulk
  have HN : Hid ((chL ts).length = n) := by show _ = _; rw [chL_length, h.len]
  clear h hq IH
  go_enter Try.func24, Try.ntmps24
  go_wp2_with fail
  go_loopw [3, 4] (CntRel ts n w) (fun _ i _ => n - (intOf i).toNat)
  case atStart => exact ⟨0, n, Nat.zero_le _, rfl, rfl, by simp, Below.refl _ _⟩
  case round =>
    obtain ⟨k, r, hk, rfl, rfl, hr, hb⟩ := hrel
    have HB := Lib.hid hb
    have HR := Lib.hid hr
    have HS : Hid (wtL ((chL ts).take k) + (n - k) ≤ wtL (chL ts)) := by
      show _ ≤ _
      have h1 := wtL_append ((chL ts).take k) ((chL ts).drop k)
      rw [List.take_append_drop] at h1
      have h2 := wtL_len ((chL ts).drop k)
      rw [List.length_drop, HN.out] at h2
      omega
    have hr2 : r ≤ 1048576 := by have := HS.out; have := HW.out; omega
    have HF : Hid (r ≤ wtL (chL ts)) := by show _ ≤ _; have := HS.out; omega
    clear hb hr
    by_cases hlt : k < n
    · by_cases hrr : r ≤ 300
      · obtain ⟨ad, x, rfl, hbA, d0, d1, d2, d3, d4, d5, HX⟩ := (H.out.next HB.out).lies.lies.tree (k := k) (by rw [H.out.len]; exact hlt)
        have hk0 : (0 : Int) ≤ (k : Int) := Int.natCast_nonneg _
        have hk1 : (k : Int) < (n : Int) := by omega
        have hr0 : (r : Int) ≤ 300 := by omega
        have hmem : x ∈ ts := List.mem_of_getElem? HX.out
        have HCALL := Lib.hid (HI.out x.ch (by rw [← HQ.out, chL_map]; exact List.mem_map.2 ⟨x, hmem, rfl⟩) x.K x.kn x.kc x.kids wr (TT.ch_kids x).symm ((H.out.next HB.out).kid hmem))
        have HT : Hid (wtL ((chL ts).take (k + 1)) = wtL ((chL ts).take k) + (1 + wtL (chL x.kids))) := by
          show _ = _
          rw [take_next (chL_at HX.out), wtL_append, wtL_one, PT.wt_eq, TT.ch_kids]
        clear hmem
        go_wp2_with fail
        refine HCALL.out.mono ?_
        rintro e w1 ⟨q, rfl, hq, hb1⟩
        have HB1 : Hid (Below w.heap.size w w1) := below_next HB.out (Nat.le_refl _) hb1
        have HQ1 := Lib.hid hq
        have hq2 : q ≤ 1048576 := by
          have h1 := wtL_kids (L := chL ts) (t := x.ch) (List.mem_of_getElem? (chL_at HX.out))
          rw [TT.ch_kids] at h1
          have := HW.out
          omega
        clear hb1 hq HCALL d0 d1 d2 d3 d4 d5
        go_wp2_with fail
        go_roundw
        case rel => exact ⟨k + 1, r + q, by omega, by go_num, by go_num, by have := HT.out; have := HR.out; have := HQ1.out; omega, HB1.out⟩
        case measure => simp [intOf]; omega
      · have hk1 : (k : Int) < (n : Int) := by omega
        have hr0 : ¬ (r : Int) ≤ 300 := by omega
        go_wp2_with fail
        go_ret
        exact ⟨r, rfl, HF.out, HB.out⟩
    · have hk1 : ¬ (k : Int) < (n : Int) := by omega
      go_wp2_with fail
      go_ret
      exact ⟨r, rfl, HF.out, HB.out⟩

set_option maxHeartbeats 1000000 in
set_option maxRecDepth 100000 in
theorem small_any (A : Option Addr) (n c : Nat) (ts : List TT) (w : World) (h : TreesIn0 w A n ts) :
    Calls Try.prog 7 #[.slice A n c] w fun e w' => ∃ b : Bool, e = .returned (.bool b) ∧ Below w.heap.size w w' := by
  have HC := Lib.hid (count_any _ A n c ts w rfl h)
  clear h
  go_enter Try.func7, Try.ntmps7
  go_wp2_with fail
  refine HC.out.mono ?_
  rintro e w1 ⟨r, rfl, _, hb1⟩
  go_wp2_with fail
  go_ret
  exact ⟨_, rfl, hb1⟩

/-- a text as a tree -/
def noT : LT := ⟨⟨#[]⟩, none, 0, 0, []⟩
def txT1 (t : LT) : TT := ⟨noT, none, 0, 0, [], none, 0, 0, [], t⟩
theorem noT_ch : noT.ch = [] := by rfl
theorem txT1_ch (t : LT) : (txT1 t).ch = txT t.ch := by rw [TT.ch_eq]; show (⟨noT.ch, [], chL [], t.ch⟩ : PT) = _; rw [noT_ch, chL]; rfl
theorem noT_in (S : Nat → Prop) (w : World) : noT.inS S w := ⟨LiesS.nil _ _ _, rfl, Nat.zero_le _, Nat.zero_le _⟩
theorem txT1_in {S : Nat → Prop} {w : World} {t : LT} (h : t.inS S w) : (txT1 t).inS S w :=
  ⟨noT_in S w, h, LiesS.nil _ _ _, rfl, fun _ => rfl, Nat.zero_le _, (fun a ha => by cases ha), LiesS.nil _ _ _, rfl, fun _ => rfl, Nat.zero_le _⟩
theorem merge_two {a b : Ch} (ha : a ≠ []) (hb : b ≠ []) : mergeP [txT a, txT [], txT b] = [txT (a ++ b)] := by
  show mgO [] [txT a, txT [], txT b] = _
  rw [mgO, mgO, mgO, mgO, addT_nil (t := txT a) rfl ha, addT_no (t := txT []) rfl rfl]
  exact addT_tx (t := txT b) rfl hb [] (txT a) rfl _
theorem merge_tx {a : Ch} (ha : a ≠ []) : mergeP [txT a] = [txT a] := by
  show mgO [] [txT a] = _
  rw [mgO, mgO]
  exact addT_nil (t := txT a) rfl ha _
theorem ch_bytes {t : LT} {l : List UInt8} (h : t.s.data.toList = l) : t.ch.map (·.1) = l := by rw [LT.ch_fst]; exact h

set_option maxHeartbeats 2000000 in
set_option maxRecDepth 100000 in
theorem alive11_any (w : World) : Calls Try.prog 6 #[] w fun e w' => e = .returned (.bool true) ∧ Below w.heap.size w w' := by
  go_enter Try.func6, Try.ntmps6
  go_wp2_with fail
  refine (ofT_any ⟨#[97]⟩ 0 w (by show (1 : Nat) ≤ _; omega)).mono ?_
  rintro e w1 ⟨t1, rfl, h1, hb1⟩
  go_wp2_with fail
  refine (ofT_any ⟨#[98]⟩ 0 w1 (by show (1 : Nat) ≤ _; omega)).mono ?_
  rintro e w2 ⟨t2, rfl, h2, hb2⟩
  go_wp2_with fail
  generalize hw3 : w2.alloc (.cells #[.string ⟨#[]⟩, .slice none 0 0, .slice none 0 0, .slice none 0 0, .string ⟨#[97]⟩, .slice t1.A t1.n t1.c, .string ⟨#[]⟩, .slice none 0 0, .slice none 0 0, .slice none 0 0, .string ⟨#[]⟩, .slice none 0 0, .string ⟨#[]⟩, .slice none 0 0, .slice none 0 0, .slice none 0 0, .string ⟨#[98]⟩, .slice t2.A t2.n t2.c] 45) = w3
  have y3 : Whole w3 w2.heap.size 45 #[.string ⟨#[]⟩, .slice none 0 0, .slice none 0 0, .slice none 0 0, .string ⟨#[97]⟩, .slice t1.A t1.n t1.c, .string ⟨#[]⟩, .slice none 0 0, .slice none 0 0, .slice none 0 0, .string ⟨#[]⟩, .slice none 0 0, .string ⟨#[]⟩, .slice none 0 0, .slice none 0 0, .slice none 0 0, .string ⟨#[98]⟩, .slice t2.A t2.n t2.c] := by rw [← hw3]; exact Whole.made _ _ _
  have hb3 : Below w2.heap.size w2 w3 := by rw [← hw3]; exact (Below.refl _ _).alloc (Nat.le_refl _) _
  clear hw3
  have hb13 := below_next hb2 (Nat.le_refl _) hb3
  have HB3 : Hid (Below w.heap.size w w3) := below_next hb1 (Nat.le_refl _) hb13
  have HC1 : Hid (t1.ch.map (·.1) = [97]) := ch_bytes (by rw [h1.out.1])
  have HC2 : Hid (t2.ch.map (·.1) = [98]) := ch_bytes (by rw [h2.out.1])
  have HN1 : Hid (t1.ch ≠ []) := fun h => by have := HC1.out; rw [h] at this; cases this
  have HN2 : Hid (t2.ch ≠ []) := fun h => by have := HC2.out; rw [h] at this; cases this
  have HM : Hid (mergeP (chL [txT1 t1, txT1 noT, txT1 t2]) = [txT (t1.ch ++ t2.ch)]) := by
    show _ = _
    rw [chL, chL, chL, chL, txT1_ch, txT1_ch, txT1_ch, noT_ch]
    exact merge_two HN1.out HN2.out
  have HIN : Hid (TreesIn0 w3 (some ⟨w2.heap.size, 0, none⟩) 3 [txT1 t1, txT1 noT, txT1 t2]) := by
    refine ⟨?_, ?_, rfl, ?_⟩
    · refine (Lies.inS (lies_wholeA y3 ?_) (Nat.le_refl _)).mono fun b hb _ => hb
      show _ = treeRow (txT1 t1) ++ (treeRow (txT1 noT) ++ (treeRow (txT1 t2) ++ []))
      unfold treeRow txT1 noT
      rw [h1.out.1, h2.out.1]
      rfl
    · have a1 : t1.inS (fun b => b < w3.heap.size) w3 := (LT.ok.inS (h1.out.2.ok.next hb13 (Nat.le_refl _)) (Nat.le_refl _))
      have a2 : t2.inS (fun b => b < w3.heap.size) w3 := (LT.ok.inS (h2.out.2.ok.next hb3 (Nat.le_refl _)) (Nat.le_refl _))
      have key : ∀ {t : LT}, t.inS (fun b => b < w3.heap.size) w3 → AllS (fun b => b < w3.heap.size) w3 [txT1 t] := fun h => AllS.one (txT1_in h) (AllS.nil _ _)
      exact (key a1).append ((key (noT_in _ _)).append (key a2))
    · have l1 : t1.ch.length = 1 := by have := congrArg List.length HC1.out; simpa using this
      have l2 : t2.ch.length = 1 := by have := congrArg List.length HC2.out; simpa using this
      rw [chL, chL, chL, chL, txT1_ch, txT1_ch, txT1_ch, noT_ch, bkL, bkL, bkL, bkL, PT.bk_eq, PT.bk_eq, PT.bk_eq]
      show 0 + 0 + t1.ch.length + 1 + bkL [] + (0 + 0 + 0 + 1 + bkL [] + (0 + 0 + t2.ch.length + 1 + bkL [] + 0)) ≤ _
      rw [l1, l2, bkL]
      omega
  clear h1 h2 hb1 hb2 hb3 hb13 y3
  refine (merge_any (some ⟨w2.heap.size, 0, none⟩) 3 3 _ w3 HIN.out).mono ?_
  rw [HM.out]
  rintro e w4 ⟨A4, c4, us, rfl, ho, hall, hch, hb4⟩
  obtain ⟨u, rfl⟩ : ∃ u, us = [u] := by
    have h1 := congrArg List.length hch
    rw [chL_length] at h1
    exact List.length_eq_one_iff.1 h1
  have HU : Hid (u.ch = txT (t1.ch ++ t2.ch)) := by
    show _ = _
    rw [chL, chL] at hch
    injection hch
  have hu : u.text.s = ⟨#[97, 98]⟩ := by
    have h1 : u.text.ch = t1.ch ++ t2.ch := by rw [← TT.ch_text, HU.out]; rfl
    have h2 := congrArg (fun q : Ch => q.map (·.1)) h1
    simp only [List.map_append] at h2
    rw [HC1.out, HC2.out, LT.ch_fst] at h2
    have h3 : u.text.s.data = #[97, 98] := Array.toList_inj.1 h2
    exact congrArg ByteArray.mk h3
  have HBF : Hid (Below w.heap.size w w4) := below_next HB3.out (Nat.le_refl _) hb4
  have HMM : Hid (wtL (mergeP (chL [u])) = 1) := by
    show _ = _
    have hne : t1.ch ++ t2.ch ≠ [] := by simp [HN1.out]
    rw [hch, merge_tx hne, wtL_one, PT.wt_eq]
    rfl
  have HSZ : Hid (bkL (chL [u]) ≤ 1048576) := by
    show _ ≤ _
    have l1 : t1.ch.length = 1 := by have := congrArg List.length HC1.out; simpa using this
    have l2 : t2.ch.length = 1 := by have := congrArg List.length HC2.out; simpa using this
    rw [hch, bkL_one, PT.bk_eq]
    show 0 + 0 + (t1.ch ++ t2.ch).length + 1 + bkL [] ≤ _
    rw [List.length_append, l1, l2, bkL]
    omega
  have HLS : Hid (LiesS (fun b => b < w4.heap.size) w4 A4 (treeCells [u])) := (own_inS ho).mono fun b _ hb => hb
  have HAS : Hid (AllS (fun b => b < w4.heap.size) w4 [u]) := hall.mono fun b _ hb => hb
  obtain ⟨ad, t, hA, _, _, _, _, _, k4, _, hR⟩ := HLS.out.lies.tree (k := 0) (by show 0 < 1; omega)
  have ht : u = t := by have := hR.out; simp at this; exact this
  subst ht
  subst hA
  rw [hu] at k4
  have k4' : w4.cell? ⟨ad.block, ad.off + 4, none⟩ = some (.string ⟨#[97, 98]⟩) := k4
  clear ho hall hch hb4 hR hu k4
  go_wp2_with fail
  refine (size_any (S := fun b => b < w4.heap.size) (some ad) 1 c4 [u] w4 HLS.out HAS.out rfl (fun b h => h) HSZ.out).mono ?_
  rw [HMM.out]
  rintro e w5 ⟨rfl, hb5⟩
  have HB5 : Hid (Below w.heap.size w w5) := below_next HBF.out (Nat.le_refl _) hb5
  clear hb5 k4'
  go_wp2_with fail
  go_ret
  exact ⟨rfl, HB5.out⟩

end Go.Proofs.Ytfebcnndehpklaa.mk

namespace Go.Proofs.Ytfebcnndehpklaa.mk
open Go.RowKit

/-- append of a slice onto a row of the law's own, where the operation has a guard that is met -/
theorem wpList_append_src_when {P : Program} (w : World) {ops : Array Oper} {rest : List Oper} {o : Oper} {a : Act} {Q : Exit → Act → World → Prop} (hwant : Region.wanted o (yielded ops a.tmps) = true) (s x : Operand) (t : TypeId)
    (ho : o.op = .call { callee := .builtin .append, args := #[s, x], argTypes := #[t, t] })
    (base : Nat) (e : TypeId) (i : TypeInfo) (z : Value) (size bytes : Nat) (ht : P.underlying t = some (.slice e)) (hi : P.info? e = some i) (hz : i.zero = some z)
    (hsize : i.size = size) (hby : i.bytes = bytes) (hzs : z.cells.size = size) (hsz : 0 < size)
    (v : Value) (n : Nat) (xs : List Value) (hs : a.eval s = v) (hown : w.ownsRow base e size v n xs)
    (B : Nat) (A : Option Addr) (m c : Nat) (news : List Value) (hx : a.eval x = .slice A m c) (hA : A = none → c = 0) (hl : news.length = m * size) (hr : Lies w B A news) (h1 : ∀ u ∈ news, u.oneCell' = true)
    (h63 : n + m ≤ maxLen) (hbytes : (n + m) * bytes ≤ 140737488355328) (hbase : base ≤ w.heap.size)
    (h : ∀ v' w', w'.ownsRow base e size v' (n + m) (xs ++ news) → w.grownBy w' v.ownBlock → (v'.ownBlock = v.ownBlock ∨ v'.ownBlock = some w.heap.size) → wpList P ops Q rest (a.put o.dst v') w') :
    wpList P ops Q (o :: rest) a w := by
  refine wpList_step fun K hK => ?_
  rw [if_pos hwant]
  obtain ⟨v', w', hr, h2, h3, h5⟩ := run_append_src (P := P) w o.type t base e i z size bytes ht hi hz hsize hby hzs hsz v n xs hown B A m c news hA hl hr h1 h63 hbytes hbase
  unfold Oper.wp execOp
  simp only [ho, resolve, invoke, builtin, Sem.run_bind, Sem.run_pure, Result.andThen_ok, List.map_toArray, List.map_cons, List.map_nil, hs, hx, hr]
  exact hK _ _ (h v' w' h2 h3 h5)

theorem words_sub : ∀ (L : List PT), ∀ x ∈ wordsL (mergeP L), x ∈ wordsL L := by
  apply PT.ind
  intro L hk
  induction L using snocInd with
  | nil => intro x hx; exact hx
  | append_singleton l t ih =>
    intro x hx
    have ih' := ih fun y hy => hk y (List.mem_append_left _ hy)
    have hkt := hk t (by simp)
    rw [wordsL_append, wordsL_one, PT.words_eq, List.mem_append, List.mem_append]
    rw [merge_snoc] at hx
    by_cases ht : t.tag = []
    · by_cases he : t.text = []
      · rw [addT_no ht he] at hx
        exact .inl (ih' x hx)
      · rcases last_cases (mergeP l) with h | ⟨xs, y, h⟩
        · rw [h, addT_nil ht he, wordsL_one, PT.words_eq] at hx
          simp only [txT, wordsL, List.append_nil] at hx
          exact .inr (.inl hx)
        · rw [h] at hx ih'
          by_cases hy : y.tag = []
          · rw [addT_tx ht he _ _ hy, wordsL_append, wordsL_one, PT.words_eq] at hx
            simp only [txT, wordsL, List.append_nil, List.mem_append] at hx
            rcases hx with hx | hx | hx
            · exact .inl (ih' x (by rw [wordsL_append]; exact List.mem_append_left _ hx))
            · exact .inl (ih' x (by rw [wordsL_append, wordsL_one, PT.words_eq]; exact List.mem_append_right _ (List.mem_append_left _ hx)))
            · exact .inr (.inl hx)
          · rw [addT_far ht he _ _ hy, wordsL_append, wordsL_one, PT.words_eq] at hx
            simp only [txT, wordsL, List.append_nil, List.mem_append] at hx
            rcases hx with hx | hx
            · exact .inl (ih' x hx)
            · exact .inr (.inl hx)
    · rw [addT_el ht, wordsL_append, wordsL_one, PT.words_eq, List.mem_append] at hx
      simp only [List.nil_append] at hx
      rcases hx with hx | hx
      · exact .inl (ih' x hx)
      · exact .inr (.inr (hkt x hx))

theorem words_in : ∀ (Q : List PT) (ts : List TT), chL ts = Q → InR (wordsL Q) := by
  apply PT.ind
  intro Q IH ts hq
  subst hq
  have key : ∀ us : List TT, (∀ t ∈ us, t ∈ ts) → InR (wordsL (chL us)) := by
    intro us
    induction us with
    | nil => intro _ o ho; rw [chL, wordsL] at ho; cases ho
    | cons t us ih =>
      intro h
      rw [chL, wordsL, PT.words_eq, TT.ch_text]
      refine (InR.append t.text.ch_in ?_).append (ih fun y hy => h y (List.mem_cons_of_mem _ hy))
      exact IH t.ch (by rw [chL_map]; exact List.mem_map.2 ⟨t, h t (by simp), rfl⟩) t.kids (TT.ch_kids t).symm
  exact key ts fun _ h => h

/-- the texts of trees, told -/
theorem wordsT_in (A : Option Addr) (n c : Nat) (ts : List TT) (w : World) (h : TreesIn0 w A n ts) :
    Calls Try.prog 15 #[.slice A n c] w fun e w' => ∃ t : LT, e = .returned (.agg #[.string t.s, .slice t.A t.n t.c]) ∧ Hid (t.ch = wordsL (mergeP (chL ts)) ∧ OwnL w' w.heap.size t) ∧ Below w.heap.size w w' := by
  refine (words_any A n c ts w h.lies h.all h.len (fun _ h => h) h.bulk).mono ?_
  rintro e W1 ⟨v, rfl, hown, hb1⟩
  obtain ⟨D, d, rfl, _, _, _⟩ := own_form hown
  have hI : InR (wordsL (mergeP (chL ts))) := (words_in _ ts rfl).sub (words_sub _)
  have hz : (wordsL (mergeP (chL ts))).length ≤ 4294967296 := by
    have h1 := bk_words (mergeP (chL ts))
    have h2 := bk_merge (chL ts)
    have := h.bulk
    omega
  exact ⟨toldT (wordsL (mergeP (chL ts))) D d, rfl, ⟨toldT_ch hI D d, rfl, Nat.le_trans (runN_le _) hz, (by show (txtOf _).size ≤ _; rw [txtOf_size]; exact hz), hown⟩, hb1⟩

theorem txCells_one (ns : List ByteArray) : ∀ u ∈ txCells ns, u.oneCell' = true := by
  intro u hu
  obtain ⟨s, _, rfl⟩ := List.mem_map.1 hu
  rfl
theorem bytes_map {a b : List ByteArray} (h : a.map (fun s => s.data.toList) = b.map (fun s => s.data.toList)) : a = b :=
  (List.map_inj_right (fun x y h => by cases x; cases y; exact congrArg ByteArray.mk (Array.toList_inj.1 h))).1 h

theorem size_in (A : Option Addr) (n c : Nat) (ts : List TT) (w : World) (h : TreesIn0 w A n ts) :
    Calls Try.prog 12 #[.slice A n c] w fun e w' => e = .returned (.int .i64 (wtL (mergeP (chL ts)) : Int)) ∧ Below w.heap.size w w' := size_any A n c ts w h.lies h.all h.len (fun _ h => h) h.bulk
theorem depth_in (A : Option Addr) (n c : Nat) (ts : List TT) (w : World) (h : TreesIn0 w A n ts) :
    Calls Try.prog 13 #[.slice A n c] w fun e w' => e = .returned (.int .i64 (deepL (mergeP (chL ts)) 1 : Int)) ∧ Below w.heap.size w w' := depth_any A n c ts w h.lies h.all h.len (fun _ h => h) h.bulk
theorem tags_in (A : Option Addr) (n c : Nat) (ts : List TT) (w : World) (h : TreesIn0 w A n ts) :
    Calls Try.prog 17 #[.slice A n c] w fun e w' => ∃ A' c' ns, e = .returned (.slice A' ns.length c') ∧ w'.ownsRow w.heap.size 9 1 (.slice A' ns.length c') ns.length (txCells ns) ∧ ns.map (fun s => s.data.toList) = tagsL (mergeP (chL ts)) ∧ Below w.heap.size w w' := tags_any A n c ts w h.lies h.all h.len (fun _ h => h) h.bulk

set_option maxHeartbeats 8000000 in
set_option maxRecDepth 100000 in
theorem treeParts_any (L : Option Addr) (n c : Nat) (ts : List TT) (M : Option Addr) (m d : Nat) (us : List TT) (w : World) (h : TreesIn0 w L n ts) (h' : TreesIn0 w M m us) (hL : L = none → c = 0) (hM : M = none → d = 0)
    (hsz : bkL (chL ts) + bkL (chL us) ≤ 1048576) :
    Calls Try.prog 5 #[.slice L n c, .slice M m d] w fun e w' => e = .returned (.bool true) ∧ Below w.heap.size w w' := by
  obtain ⟨i0, hi, hz0, hz1, hz2⟩ := info_parts tree_info
  obtain ⟨i1, hj, hj0, hj1, hj2⟩ := info_parts string_info
  have HA := Lib.hid h
  have HB := Lib.hid h'
  have HLC := Lib.hid hL
  have HMD := Lib.hid hM
  have hn2 := h.small
  have hm2 := h'.small
  have HNL : Hid (ts.length = n) := h.len
  have HML : Hid (us.length = m) := h'.len
  have HCH : Hid (chL (ts ++ us) = chL ts ++ chL us) := chL_append ts us
  have HMA : Hid (mergeP (chL (ts ++ us)) = glueT (mergeP (chL ts)) (mergeP (chL us))) := by show _ = _; rw [HCH.out, merge_append]
  have HKA : Hid (∀ x ∈ mergeP (chL ts), okT x) := merge_ok _
  have HKB : Hid (∀ x ∈ mergeP (chL us), okT x) := merge_ok _
  have HWW : Hid (wordsL (mergeP (chL (ts ++ us))) = wordsL (mergeP (chL ts)) ++ wordsL (mergeP (chL us))) := by show _ = _; rw [HMA.out]; exact glue_words HKA.out HKB.out
  have HTT : Hid (tagsL (mergeP (chL (ts ++ us))) = tagsL (mergeP (chL ts)) ++ tagsL (mergeP (chL us))) := by show _ = _; rw [HMA.out]; exact glue_tags HKA.out HKB.out
  have HDD : Hid (deepL (mergeP (chL (ts ++ us))) 1 = max (deepL (mergeP (chL ts)) 1) (deepL (mergeP (chL us)) 1)) := by show _ = _; rw [HMA.out]; exact glue_deep HKA.out HKB.out 1
  have HZZ : Hid (wtL (mergeP (chL (ts ++ us))) = wtL (mergeP (chL ts)) + wtL (mergeP (chL us)) ∨ wtL (mergeP (chL (ts ++ us))) + 1 = wtL (mergeP (chL ts)) + wtL (mergeP (chL us))) := by show _ ∨ _; rw [HMA.out]; exact glue_wt HKA.out HKB.out
  have HSZ : Hid (∀ K, bkL (chL K) ≤ 1048576 → wtL (mergeP (chL K)) ≤ 1048576 ∧ deepL (mergeP (chL K)) 1 ≤ 1048577 ∧ (tagsL (mergeP (chL K))).length ≤ 1048576 ∧ (wordsL (mergeP (chL K))).length ≤ 1048576) := fun K hK => by
    have h0 := bk_merge (chL K)
    have h1 := bk_wt (mergeP (chL K))
    have h2 := bk_deep (mergeP (chL K)) 1
    have h3 := bk_tags (mergeP (chL K))
    have h4 := bk_words (mergeP (chL K))
    exact ⟨by omega, by omega, by omega, by omega⟩
  have HBK : Hid (bkL (chL (ts ++ us)) ≤ 1048576) := by show _ ≤ _; rw [HCH.out, bkL_append]; exact hsz
  have s1 : Hid ((treeCells ts).length = n * 6) := by show _ = _; rw [treeCells_length, HNL.out]
  have s2 : Hid ((treeCells us).length = m * 6) := by show _ = _; rw [treeCells_length, HML.out]
  have s3 : Hid (0 + n ≤ maxLen) := by show _ ≤ _; simp only [maxLen]; omega
  have s4 : Hid ((0 + n) * 128 ≤ 140737488355328) := by show _ ≤ _; omega
  have s5 : Hid (n + m ≤ maxLen) := by show _ ≤ _; simp only [maxLen]; omega
  have s6 : Hid ((n + m) * 128 ≤ 140737488355328) := by show _ ≤ _; omega
  clear h h' hL hM hsz
  go_enter Try.func5, Try.ntmps5
  go_wp2_with fail
  refine (alive11_any w).mono ?_
  rintro e w1 ⟨rfl, hb1⟩
  have HB1 := Lib.hid hb1
  clear hb1
  go_wp2_with fail
  refine (small_any L n c ts w1 (HA.out.next HB1.out)).mono ?_
  rintro e w2 ⟨b2, rfl, hb2⟩
  have HB2 : Hid (Below w.heap.size w w2) := below_next HB1.out (Nat.le_refl _) hb2
  clear hb2
  cases b2 with
  | false =>
    go_wp2_with fail
    go_ret
    exact ⟨rfl, HB2.out⟩
  | true =>
  go_wp2_with fail
  refine (small_any M m d us w2 (HB.out.next HB2.out)).mono ?_
  rintro e w3 ⟨b3, rfl, hb3⟩
  have HB3 : Hid (Below w.heap.size w w3) := below_next HB2.out (Nat.le_refl _) hb3
  clear hb3
  cases b3 with
  | false =>
    go_wp2_with fail
    go_ret
    exact ⟨rfl, HB3.out⟩
  | true =>
  have h00 := Lib.hid (World.ownsRow_lit (base := w3.heap.size) (e := 45) (size := 6) w3 #[] 0 (Nat.le_refl _) (by simp) rfl)
  have hla := Lib.hid ((HA.out.next HB3.out).lies.lies.alloc (Nat.le_refl _) (.cells #[] 45))
  go_wp2_with (at_builtin; refine wpList_append_src _ rfl _ _ 22 rfl w3.heap.size 45 i0 _ 6 128 Try.underlying22 hi hz0 hz1 hz2 rfl (by decide) (.slice (some ⟨w3.heap.size, 0, none⟩) 0 0) 0 [] rfl h00.out w3.heap.size L n c (treeCells ts) rfl HLC.out s1.out hla.out (treeCells_one _) s3.out s4.out (by simp) ?_)
  intro v4 w4 hown4 hg4 hat4
  have hb34 : Below w3.heap.size w3 w4 := ((Below.refl _ _).alloc (Nat.le_refl _) _).grown hg4 (by simp) (by simp [Value.ownBlock])
  have HB4 : Hid (Below w.heap.size w w4) := below_next HB3.out (Nat.le_refl _) hb34
  have hlb := Lib.hid ((HB.out.next HB4.out).lies.lies)
  have HO4 := Lib.hid hown4
  have HB34 := Lib.hid hb34
  have hz34 := hb34.size
  clear hg4 hat4 hown4 hb34
  go_wp2_with (at_builtin; refine wpList_append_src _ rfl _ _ 22 rfl w3.heap.size 45 i0 _ 6 128 Try.underlying22 hi hz0 hz1 hz2 rfl (by decide) v4 n _ rfl HO4.out w4.heap.size M m d (treeCells us) rfl HMD.out s2.out hlb.out (treeCells_one _) s5.out s6.out hz34 ?_)
  intro v5 w5 hown5 hg5 hat5
  have hb35 : Below w3.heap.size w3 w5 := HB34.out.grown hg5 hz34 (fun x hx => (HO4.out.lt x hx).1)
  have HB5 : Hid (Below w.heap.size w w5) := below_next HB3.out (Nat.le_refl _) hb35
  obtain ⟨A5, c5, rfl, _, _, _⟩ := own_form hown5
  have HALL : Hid (TreesIn0 w5 A5 (n + m) (ts ++ us)) := by
    refine ⟨?_, ?_, by rw [List.length_append, HNL.out, HML.out], HBK.out⟩
    · rw [treeCells_append]
      exact (own_inS hown5).mono fun b hb hl => hl
    · exact (HA.out.next HB5.out).all.append (HB.out.next HB5.out).all
  clear hg5 hat5 hown5 hb35 hz34 HB34 HO4 hlb hla h00 s1 s2 s3 s4 s5 s6
  have HZA := Lib.hid (HSZ.out ts HA.out.bulk)
  have HZB := Lib.hid (HSZ.out us HB.out.bulk)
  have HZC := Lib.hid (HSZ.out (ts ++ us) HALL.out.bulk)
  have CSC : Hid (∀ W, Below w5.heap.size w5 W → Calls Try.prog 12 #[.slice A5 (n + m) c5] W fun e w' => e = .returned (.int .i64 (wtL (mergeP (chL (ts ++ us))) : Int)) ∧ Below W.heap.size W w') := fun W hb => size_in A5 (n + m) c5 (ts ++ us) W (HALL.out.next hb)
  have CSA : Hid (∀ W, Below w5.heap.size w5 W → Calls Try.prog 12 #[.slice L n c] W fun e w' => e = .returned (.int .i64 (wtL (mergeP (chL ts)) : Int)) ∧ Below W.heap.size W w') := fun W hb => size_in L n c ts W (HA.out.next (below_next HB5.out (Nat.le_refl _) hb))
  have CSB : Hid (∀ W, Below w5.heap.size w5 W → Calls Try.prog 12 #[.slice M m d] W fun e w' => e = .returned (.int .i64 (wtL (mergeP (chL us)) : Int)) ∧ Below W.heap.size W w') := fun W hb => size_in M m d us W (HB.out.next (below_next HB5.out (Nat.le_refl _) hb))
  have CDC : Hid (∀ W, Below w5.heap.size w5 W → Calls Try.prog 13 #[.slice A5 (n + m) c5] W fun e w' => e = .returned (.int .i64 (deepL (mergeP (chL (ts ++ us))) 1 : Int)) ∧ Below W.heap.size W w') := fun W hb => depth_in A5 (n + m) c5 (ts ++ us) W (HALL.out.next hb)
  have CDA : Hid (∀ W, Below w5.heap.size w5 W → Calls Try.prog 13 #[.slice L n c] W fun e w' => e = .returned (.int .i64 (deepL (mergeP (chL ts)) 1 : Int)) ∧ Below W.heap.size W w') := fun W hb => depth_in L n c ts W (HA.out.next (below_next HB5.out (Nat.le_refl _) hb))
  have CDB : Hid (∀ W, Below w5.heap.size w5 W → Calls Try.prog 13 #[.slice M m d] W fun e w' => e = .returned (.int .i64 (deepL (mergeP (chL us)) 1 : Int)) ∧ Below W.heap.size W w') := fun W hb => depth_in M m d us W (HB.out.next (below_next HB5.out (Nat.le_refl _) hb))
  have CWC : Hid (∀ W, Below w5.heap.size w5 W → Calls Try.prog 15 #[.slice A5 (n + m) c5] W fun e w' => ∃ t : LT, e = .returned (.agg #[.string t.s, .slice t.A t.n t.c]) ∧ Hid (t.ch = wordsL (mergeP (chL (ts ++ us))) ∧ OwnL w' W.heap.size t) ∧ Below W.heap.size W w') := fun W hb => wordsT_in A5 (n + m) c5 (ts ++ us) W (HALL.out.next hb)
  have CWA : Hid (∀ W, Below w5.heap.size w5 W → Calls Try.prog 15 #[.slice L n c] W fun e w' => ∃ t : LT, e = .returned (.agg #[.string t.s, .slice t.A t.n t.c]) ∧ Hid (t.ch = wordsL (mergeP (chL ts)) ∧ OwnL w' W.heap.size t) ∧ Below W.heap.size W w') := fun W hb => wordsT_in L n c ts W (HA.out.next (below_next HB5.out (Nat.le_refl _) hb))
  have CWB : Hid (∀ W, Below w5.heap.size w5 W → Calls Try.prog 15 #[.slice M m d] W fun e w' => ∃ t : LT, e = .returned (.agg #[.string t.s, .slice t.A t.n t.c]) ∧ Hid (t.ch = wordsL (mergeP (chL us)) ∧ OwnL w' W.heap.size t) ∧ Below W.heap.size W w') := fun W hb => wordsT_in M m d us W (HB.out.next (below_next HB5.out (Nat.le_refl _) hb))
  have CTC : Hid (∀ W, Below w5.heap.size w5 W → Calls Try.prog 17 #[.slice A5 (n + m) c5] W fun e w' => ∃ A' c' ns, e = .returned (.slice A' ns.length c') ∧ w'.ownsRow W.heap.size 9 1 (.slice A' ns.length c') ns.length (txCells ns) ∧ ns.map (fun s => s.data.toList) = tagsL (mergeP (chL (ts ++ us))) ∧ Below W.heap.size W w') := fun W hb => tags_in A5 (n + m) c5 (ts ++ us) W (HALL.out.next hb)
  have CTA : Hid (∀ W, Below w5.heap.size w5 W → Calls Try.prog 17 #[.slice L n c] W fun e w' => ∃ A' c' ns, e = .returned (.slice A' ns.length c') ∧ w'.ownsRow W.heap.size 9 1 (.slice A' ns.length c') ns.length (txCells ns) ∧ ns.map (fun s => s.data.toList) = tagsL (mergeP (chL ts)) ∧ Below W.heap.size W w') := fun W hb => tags_in L n c ts W (HA.out.next (below_next HB5.out (Nat.le_refl _) hb))
  have CTB : Hid (∀ W, Below w5.heap.size w5 W → Calls Try.prog 17 #[.slice M m d] W fun e w' => ∃ A' c' ns, e = .returned (.slice A' ns.length c') ∧ w'.ownsRow W.heap.size 9 1 (.slice A' ns.length c') ns.length (txCells ns) ∧ ns.map (fun s => s.data.toList) = tagsL (mergeP (chL us)) ∧ Below W.heap.size W w') := fun W hb => tags_in M m d us W (HB.out.next (below_next HB5.out (Nat.le_refl _) hb))
  clear HA HB HALL HSZ HMA HCH HKA HKB HBK
  generalize wtL (mergeP (chL (ts ++ us))) = zc at *
  generalize wtL (mergeP (chL ts)) = za at *
  generalize wtL (mergeP (chL us)) = zb at *
  generalize deepL (mergeP (chL (ts ++ us))) 1 = dc at *
  generalize deepL (mergeP (chL ts)) 1 = da at *
  generalize deepL (mergeP (chL us)) 1 = db at *
  generalize wordsL (mergeP (chL (ts ++ us))) = qc at *
  generalize wordsL (mergeP (chL ts)) = qa at *
  generalize wordsL (mergeP (chL us)) = qb at *
  generalize tagsL (mergeP (chL (ts ++ us))) = gc at *
  generalize tagsL (mergeP (chL ts)) = ga at *
  generalize tagsL (mergeP (chL us)) = gb at *
  obtain ⟨hza, hda, hga, hqa⟩ := HZA.out
  obtain ⟨hzb, hdb, hgb, hqb⟩ := HZB.out
  obtain ⟨hzc, hdc, hgc, hqc⟩ := HZC.out
  clear HZA HZB HZC
  generalize hnm : n + m = nm at *
  clear hnm
  go_wp2_with fail
  refine (CSC.out w5 (Below.refl _ _)).mono ?_
  rintro e w6 ⟨rfl, hb6⟩
  have HB6 := Lib.hid hb6
  clear hb6
  go_wp2_with fail
  refine (CSA.out w6 HB6.out).mono ?_
  rintro e w7 ⟨rfl, hb7⟩
  have HB7 : Hid (Below w5.heap.size w5 w7) := below_next HB6.out (Nat.le_refl _) hb7
  clear hb7
  go_wp2_with fail
  refine (CSB.out w7 HB7.out).mono ?_
  rintro e w8 ⟨rfl, hb8⟩
  have HB8 : Hid (Below w5.heap.size w5 w8) := below_next HB7.out (Nat.le_refl _) hb8
  clear hb8
  go_wp2_with fail
  refine (CWC.out w8 HB8.out).mono ?_
  rintro e w9 ⟨tc, rfl, htc, hb9⟩
  have HB9 : Hid (Below w5.heap.size w5 w9) := below_next HB8.out (Nat.le_refl _) hb9
  clear hb9
  go_wp2_with fail
  refine (CWA.out w9 HB9.out).mono ?_
  rintro e w10 ⟨ta, rfl, hta, hb10⟩
  have HB10 : Hid (Below w5.heap.size w5 w10) := below_next HB9.out (Nat.le_refl _) hb10
  go_wp2_with fail
  refine (CWB.out w10 HB10.out).mono ?_
  rintro e w11 ⟨tb, rfl, htb, hb11⟩
  have HB11 : Hid (Below w5.heap.size w5 w11) := below_next HB10.out (Nat.le_refl _) hb11
  generalize hw12 : w11.alloc (.cells #[.string ta.s, .slice ta.A ta.n ta.c, .string tb.s, .slice tb.A tb.n tb.c] 35) = w12
  have y12 : Whole w12 w11.heap.size 35 #[.string ta.s, .slice ta.A ta.n ta.c, .string tb.s, .slice tb.A tb.n tb.c] := by rw [← hw12]; exact Whole.made _ _ _
  have hb12 : Below w11.heap.size w11 w12 := by rw [← hw12]; exact (Below.refl _ _).alloc (Nat.le_refl _) _
  have HB12 : Hid (Below w5.heap.size w5 w12) := below_next HB11.out (Nat.le_refl _) hb12
  have hb1112 := below_next hb11 (Nat.le_refl _) hb12
  have hb912 := below_next hb10 (Nat.le_refl _) hb1112
  have HOC : Hid (tc.ok w12 w12.heap.size) := htc.out.2.ok.next hb912 (Nat.le_refl _)
  have HCAT := Lib.hid (catT_any [ta, tb] (some ⟨w11.heap.size, 0, none⟩) 2 2 w12 (lies_wholeA y12 rfl) rfl (by omega) (fun t ht => by
    rcases List.mem_cons.1 ht with rfl | ht
    · exact hta.out.2.ok.next hb1112 (Nat.le_refl _)
    · rcases List.mem_cons.1 ht with rfl | ht
      · exact htb.out.2.ok.next hb12 (Nat.le_refl _)
      · cases ht) (by
    have h1 : catCh [ta, tb] = ta.ch ++ (tb.ch ++ []) := rfl
    rw [h1, hta.out.1, htb.out.1, List.append_nil, List.length_append]
    omega))
  have HCC : Hid (catCh [ta, tb] = qc) := by
    show _ = _
    have h1 : catCh [ta, tb] = ta.ch ++ (tb.ch ++ []) := rfl
    rw [h1, hta.out.1, htb.out.1, List.append_nil, HWW.out]
  have HQC : Hid (tc.ch = qc) := htc.out.1
  clear hb10 hb11 hb12 hb1112 hb912 y12 hta htb htc
  go_wp2_with fail
  clear hw12
  refine HCAT.out.mono ?_
  rintro e w13 ⟨td, rfl, htd, hb13⟩
  have HB13 : Hid (Below w5.heap.size w5 w13) := below_next HB12.out (Nat.le_refl _) hb13
  have HSAME := Lib.hid (same_any tc td w13 (HOC.out.next hb13 (Nat.le_refl _)) (htd.out.2.ok.next (Below.refl _ _) (Nat.le_refl _)))
  have HST : Hid (sameB tc td = true) := by
    show _ = _
    rw [sameB_ch, HQC.out, htd.out.1, HCC.out]
    exact decide_eq_true rfl
  clear hb13 htd HCAT
  go_wp2_with fail
  refine HSAME.out.mono ?_
  rw [HST.out]
  rintro e w14 ⟨rfl, hb14⟩
  have HB14 : Hid (Below w5.heap.size w5 w14) := below_next HB13.out (Nat.le_refl _) hb14
  clear hb14 HSAME
  go_wp2_with fail
  refine (CTC.out w14 HB14.out).mono ?_
  rintro e w15 ⟨Ac, cc, nc, rfl, hoc, hnc, hb15⟩
  have HB15 : Hid (Below w5.heap.size w5 w15) := below_next HB14.out (Nat.le_refl _) hb15
  clear hb15
  go_wp2_with fail
  refine (CTA.out w15 HB15.out).mono ?_
  rintro e w16 ⟨Aa, ca, na, rfl, hoa, hna, hb16⟩
  have HB16 : Hid (Below w5.heap.size w5 w16) := below_next HB15.out (Nat.le_refl _) hb16
  go_wp2_with fail
  refine (CTB.out w16 HB16.out).mono ?_
  rintro e w17 ⟨Ab, cb, nb, rfl, hob, hnb, hb17⟩
  have HB17 : Hid (Below w5.heap.size w5 w17) := below_next HB16.out (Nat.le_refl _) hb17
  have HNS : Hid (nc = na ++ nb) := bytes_map (by rw [List.map_append, hnc, hna, hnb, HTT.out])
  have hla : na.length ≤ 1048576 := by have h1 := congrArg List.length hna; rw [List.length_map] at h1; omega
  have hlb : nb.length ≤ 1048576 := by have h1 := congrArg List.length hnb; rw [List.length_map] at h1; omega
  have hb1517 := below_next hb16 (Nat.le_refl _) hb17
  have HOA := Lib.hid (own_keep hoa hb17)
  have HLB := Lib.hid (Lies.own hob)
  have HLC15 := Lib.hid (Lies.own hoc)
  have HAB : Hid (Ab = none → cb = 0) := by
    obtain ⟨A', c', hv, h1, _, _⟩ := own_form hob
    injection hv with hv1 hv2 hv3
    rw [hv1, hv3]; exact h1
  have r3 : Hid (na.length + nb.length ≤ maxLen) := by show _ ≤ _; simp only [maxLen]; omega
  have r4 : Hid ((na.length + nb.length) * 16 ≤ 140737488355328) := by show _ ≤ _; omega
  have hz1517 := hb1517.size
  have HLN : Hid (nc.length = na.length + nb.length) := by show _ = _; rw [HNS.out, List.length_append]
  have r2 : Hid ((txCells nb).length = nb.length * 1) := by show _ = _; unfold txCells; rw [List.length_map, Nat.mul_one]
  have HB1517 := Lib.hid hb1517
  clear hb16 hb17 hoc hoa hob hna hnb hnc hb1517
  generalize hzz : na.length = z at *
  generalize hyy : nb.length = y at *
  clear hzz hyy
  generalize hxl : nc.length = xx at *
  have HXL := Lib.hid hxl
  clear hxl
  obtain rfl : xx = z + y := HLN.out
  go_wp2_with (at_builtin; refine wpList_append_src_when _ (by rfl) _ _ 27 rfl w15.heap.size 9 i1 _ 1 16 Try.underlying27 hj hj0 hj1 hj2 rfl (by decide) (.slice Aa z ca) z _ rfl HOA.out w17.heap.size Ab y cb (txCells nb) rfl HAB.out r2.out HLB.out (txCells_one _) r3.out r4.out hz1517 ?_)
  intro v18 w18 hown18 hg18 _
  have hb1518 : Below w15.heap.size w15 w18 := HB1517.out.grown hg18 hz1517 (fun x hx => (HOA.out.lt x hx).1)
  have HB18 : Hid (Below w5.heap.size w5 w18) := below_next HB15.out (Nat.le_refl _) hb1518
  obtain ⟨A18, c18, rfl, _, _, _⟩ := own_form hown18
  have HTX := Lib.hid (texts_true Ac (z + y) cc nc A18 c18 w18 (HLC15.out.next hb1518 (Nat.le_refl _)) (by
    have h1 := Lies.own hown18
    have h2 : txCells nc = txCells na ++ txCells nb := by rw [HNS.out]; unfold txCells; rw [List.map_append]
    rw [h2]
    exact h1) HXL.out (by omega))
  clear hb1518 hg18 hown18 hz1517 r2 r3 r4 HAB HLB HOA HLC15
  go_wp2_with fail
  refine HTX.out.mono ?_
  rintro e w19 ⟨rfl, hb19⟩
  have HB19 : Hid (Below w5.heap.size w5 w19) := below_next HB18.out (Nat.le_refl _) hb19
  clear hb19 HTX
  have hmx : max (da : Int) (db : Int) = (dc : Int) := by have := HDD.out; omega
  by_cases hzz : zc = za + zb
  · subst hzz
    go_wp2_with fail
    refine (CDC.out w19 HB19.out).mono ?_
    rintro e w20 ⟨rfl, hb20⟩
    have HB20 : Hid (Below w5.heap.size w5 w20) := below_next HB19.out (Nat.le_refl _) hb20
    clear hb20
    go_wp2_with fail
    refine (CDA.out w20 HB20.out).mono ?_
    rintro e w21 ⟨rfl, hb21⟩
    have HB21 : Hid (Below w5.heap.size w5 w21) := below_next HB20.out (Nat.le_refl _) hb21
    clear hb21
    go_wp2_with fail
    refine (CDB.out w21 HB21.out).mono ?_
    rintro e w22 ⟨rfl, hb22⟩
    have HBF : Hid (Below w.heap.size w w22) := below_next HB5.out (Nat.le_refl _) (below_next HB21.out (Nat.le_refl _) hb22)
    clear hb22
    go_wp2_with fail
    go_ret
    exact ⟨rfl, HBF.out⟩
  · have hne : ¬ (zc : Int) = (za : Int) + (zb : Int) := by omega
    have heq : (za : Int) + (zb : Int) - 1 = (zc : Int) := by have := HZZ.out; omega
    go_wp2_with fail
    refine (CDC.out w19 HB19.out).mono ?_
    rintro e w20 ⟨rfl, hb20⟩
    have HB20 : Hid (Below w5.heap.size w5 w20) := below_next HB19.out (Nat.le_refl _) hb20
    clear hb20
    go_wp2_with fail
    refine (CDA.out w20 HB20.out).mono ?_
    rintro e w21 ⟨rfl, hb21⟩
    have HB21 : Hid (Below w5.heap.size w5 w21) := below_next HB20.out (Nat.le_refl _) hb21
    clear hb21
    go_wp2_with fail
    refine (CDB.out w21 HB21.out).mono ?_
    rintro e w22 ⟨rfl, hb22⟩
    have HBF : Hid (Below w.heap.size w w22) := below_next HB5.out (Nat.le_refl _) (below_next HB21.out (Nat.le_refl _) hb22)
    clear hb22
    go_wp2_with fail
    go_ret
    exact ⟨rfl, HBF.out⟩

end Go.Proofs.Ytfebcnndehpklaa.mk

namespace Go.Proofs.Ytfebcnndehpklaa.treeParts
open Go.ChangeShapes Go.WideShapes Go.ChangeAt Go.RowKit Go.Proofs.Ytfebcnndehpklaa.mk

set_option maxRecDepth 100000 in
theorem contract (H : Type) (enc : TypeId × Value → H) (W : World) (args : Array Value) (ds gs : List (DataW H)) (before : List MemPlace) (base : Nat)
    (hval : ∀ (j : Nat) t v, Try.f5.params[j]? = some t → args[j]? = some v → Value.okWide Try.prog W .any base t v)
    (hW : DataW.Whole enc Try.prog Try.f5.params.toList Rows.treePartsSpec.vars false W args.toList ds gs before) (hk : Rows.uptoSmall H (ds ++ gs) = true) :
    Calls Try.prog 5 args W fun e W' => ∃ v, e = .returned v ∧ Rows.treePartsSpec.post enc Try.prog Try.f5 false true false false W args v W' := by
  obtain ⟨p, q, hA0, hV, rfl, hfz, hnd⟩ := id hW
  have hA : DataW.TrodAll enc Try.prog W 0 (fun _ => true) true Try.f5.params.toList args.toList ds p := hA0
  rw [Try.params5] at hA hval
  obtain ⟨v0, vs0, d0, ds0, p0, q0, hargs, rfl, rfl, h0, r0⟩ := trodAll_cons hA
  obtain ⟨v1, vs1, d1, ds1, p1, q1, rfl, rfl, rfl, h1, r1⟩ := trodAll_cons r0
  obtain ⟨rfl, rfl, rfl⟩ := trodAll_nil r1
  obtain rfl : args = #[v0, v1] := by cases args; simp_all
  obtain ⟨rfl, rfl⟩ := trodVars_none hV
  have hbk := bulk_bound hk
  simp only [List.append_nil, Rows.uptoBulkAll] at hbk
  have hbk2 : Rows.uptoBulk d0 + Rows.uptoBulk d1 ≤ 1048576 := by omega
  obtain ⟨fuel0, hf0⟩ := h0
  obtain ⟨L0, m0, c0, rfl⟩ := okWide_slice Try.underlying22 (hval 0 22 v0 rfl rfl)
  obtain ⟨L0', m0', c0', ts0, hv0, hl0, hm0, hLc0, hmc0, hok0, hsz0⟩ := open_trees hf0 (by show Rows.uptoBulk d0 ≤ 1048576; omega)
  cases hv0
  simp only at hsz0
  obtain ⟨fuel1, hf1⟩ := h1
  obtain ⟨L1, m1, c1, rfl⟩ := okWide_slice Try.underlying22 (hval 1 22 v1 rfl rfl)
  obtain ⟨L1', m1', c1', ts1, hv1, hl1, hm1, hLc1, hmc1, hok1, hsz1⟩ := open_trees hf1 (by show Rows.uptoBulk d1 ≤ 1048576; omega)
  cases hv1
  simp only at hsz1
  refine (treeParts_any L0 m0 c0 ts0 L1 m1 c1 ts1 W ⟨hl0, hok0, hm0, (by omega)⟩ ⟨hl1, hok1, hm1, (by omega)⟩ hLc0 hLc1 (by omega)).mono fun e W' ⟨he, hb⟩ => ?_
  subst he
  exact ⟨_, rfl, law_post (tb := 4) laidOut hW rfl ⟨rfl, rfl, rfl⟩ (by rw [Try.params5]; exact readable_all (by kernel_rfl)) rfl Try.underlying4 hb⟩

set_option maxRecDepth 100000 in
theorem lifted (os : Os) (started : os.Started) (H : Type) (enc : TypeId × Value → H) (F : Stop.Interp) :
    ReturnsInHanded {} Try.checked os 5 .any ((Rows.OpenSpec.upto Rows.treePartsSpec).pre6 enc Try.prog Try.f5 Rows.treePartsUptoRow.domain false) (((Rows.OpenSpec.upto Rows.treePartsSpec).at F).post enc Try.prog Try.f5 false true false false) := by
  refine returnsInHanded_of_cond (C := Try.checked) (s := Rows.OpenSpec.upto Rows.treePartsSpec) (k := Rows.uptoSmall) rfl own started (by kernel_rfl) Try.func5
    (OpenSpec.witness (enc := enc) (C := Try.checked) (s := Rows.OpenSpec.upto Rows.treePartsSpec) (k := Rows.uptoSmall) rfl false ⟨#[], #[.slice none 0 0, .slice none 0 0], []⟩ 8 (by kernel_rfl) (by kernel_rfl) (by kernel_rfl)
      (x := ([.nil, .nil], [], [])) (by kernel_rfl) rfl (by kernel_rfl)) ?_
  intro W base args ds gs before hval hW _ hk _
  exact contract H enc W args ds gs before base hval hW hk

theorem proved : Rows.TreePartsUptoSaid :=
  OpenClaim.holds_of_cond 5 Try.f5 rfl rfl rfl rfl rfl rfl rfl ⟨rfl, rfl, rfl, rfl, rfl⟩ rfl rfl rfl rfl rfl (by kernel_rfl) Try.func5 (by kernel_rfl)
    (of_decide_eq_true (by kernel_rfl)) (by unfold Func.isWrapper; first | (rw [if_pos (by decide +kernel)]; kernel_rfl) | (rw [if_neg (by decide +kernel)]; exact ⟨rfl, rfl⟩))
    (fun os started H enc _ F => lifted os started H enc F)

end Go.Proofs.Ytfebcnndehpklaa.treeParts
