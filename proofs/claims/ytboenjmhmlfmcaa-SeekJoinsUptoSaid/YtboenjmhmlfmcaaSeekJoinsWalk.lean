/-
  The walk of the statement SeekJoins.
-/
import Derived.Test.YtboenjmhmlfmcaaSeekAlive
import Derived.Test.YtboenjmhmlfmcaaSeekJoin
import Derived.Test.YtboenjmhmlfmcaaMarkManyWalk
import Derived.Deep.DeepCutAuto
namespace Go.Proofs.Ytboenjmhmlfmcaa.mk
open Go.RowKit

theorem weave_size (b : LT) (l : List LT) : (catOs (weave b l)).length ≤ (catOs l).length + l.length * b.s.size := by
  cases l with
  | nil => simp [weave, catOs]
  | cons x xs =>
    have h : ∀ ys : List LT, (catOs (ys.flatMap fun y => [b, y])).length = (catOs ys).length + ys.length * b.s.size := by
      intro ys
      induction ys with
      | nil => simp [catOs]
      | cons y ys ih =>
        have e1 : catOs ((y :: ys).flatMap fun y => [b, y]) = b.os ++ (y.os ++ catOs (ys.flatMap fun y => [b, y])) := by simp [catOs]
        have e2 : catOs (y :: ys) = y.os ++ catOs ys := by simp [catOs]
        rw [e1, e2, List.length_append, List.length_append, List.length_append, ih, LT.os_length, List.length_cons, Nat.succ_mul]
        omega
    have e1 : catOs (weave b (x :: xs)) = x.os ++ catOs (xs.flatMap fun y => [b, y]) := by simp [catOs, weave]
    have e2 : catOs (x :: xs) = x.os ++ catOs xs := by simp [catOs]
    rw [e1, e2, List.length_append, List.length_append, h, List.length_cons, Nat.succ_mul]
    omega
theorem catCh_append (a b : List LT) : catCh (a ++ b) = catCh a ++ catCh b := by simp [catCh]
theorem catCh_one (t : LT) : catCh [t] = t.ch := by simp [catCh]

def JoinsRel (ts : List LT) (b : LT) (m : Nat) (w0 : World) (all i : Value) (wr : World) : Prop :=
  ∃ k : Nat, k ≤ m ∧ i = .int .i64 k ∧ wr.ownsRow w0.heap.size 30 2 all (catCh (weave b (ts.take k))).length (chCells (catCh (weave b (ts.take k)))) ∧ Below w0.heap.size w0 wr

set_option maxHeartbeats 2000000 in
set_option maxRecDepth 100000 in
theorem joins_any (mx : Int) (L : Option Addr) (m c : Nat) (ts : List LT) (b : LT) (w : World) (hmx : w.cell? ⟨0, 0, none⟩ = some (.int .i64 mx)) (hl : Lies w w.heap.size L (ltCells ts)) (hm : ts.length = m) (hm2 : m ≤ 1048576) (hok : ∀ t ∈ ts, t.ok w w.heap.size) (hb : b.ok w w.heap.size)
    (hsz : (catOs ts).length ≤ 1048576) (hbz : b.s.size ≤ 1048576) (hc : m ≤ c) :
    Calls Try.prog 5 #[.slice L m c, b.v] w fun e w' => e = .returned (.bool true) ∧ Below w.heap.size w w' := by
  have HOK := Lib.hid hok
  have HM := Lib.hid hm
  have HB := Lib.hid hb
  have HMX := Lib.hid hmx
  clear hok hm hb hmx
  unfold LT.v
  go_enter Try.func5, Try.ntmps5
  go_wp2_with fail
  generalize hw0 : w.alloc (.cells #[.string b.s, .slice b.A b.n b.c] 24) = w0
  have y0 : Whole w0 w.heap.size 24 #[.string b.s, .slice b.A b.n b.c] := by rw [← hw0]; exact Whole.made w _ _
  have hb0 : Below w.heap.size w w0 := by rw [← hw0]; exact (Below.refl _ _).alloc (Nat.le_refl _) _
  clear hw0
  refine (alive4_any mx w0 (maxLen_keep HMX.out hb0)).mono ?_
  rintro e w1 ⟨rfl, hb1⟩
  have y1 := y0.below hb1 y0.lt
  have hbw := below_next hb0 (Nat.le_refl _) hb1
  have hz1 := hbw.size
  have hlt1 := y1.lt
  have HL := Lib.hid (hl.next hbw (Nat.le_refl _))
  have HOK1 : Hid (∀ t ∈ ts, t.ok w1 w1.heap.size) := fun t ht => (HOK.out t ht).next hbw (Nat.le_refl _)
  have HB1 := Lib.hid (HB.out.next hbw (Nat.le_refl _))
  clear hl y0
  obtain ⟨tt, q, hq, H1, H2, H3, H4, H5⟩ : ∃ (tt : List LT) (q : Nat), q = (if 30 < m then 30 else m) ∧ Hid (Lies w1 w1.heap.size L (ltCells tt)) ∧ Hid (tt.length = q) ∧ Hid (∀ t ∈ tt, t.ok w1 w1.heap.size) ∧ Hid (∀ k, (catOs (weave b (tt.take k))).length ≤ 67108864) ∧ q ≤ 30 := by
    refine ⟨ts.take (if 30 < m then 30 else m), _, rfl, ?_, ?_, fun t ht => HOK1.out t (List.mem_of_mem_take ht), fun k => ?_, by split <;> omega⟩
    · show Lies _ _ _ _
      rw [ltCells_take]; exact HL.out.take _
    · show _ = _
      rw [List.length_take, HM.out]; split <;> omega
    · have h := weave_size b ((ts.take (if 30 < m then 30 else m)).take k)
      have h1 := cat_take_le (ts.take (if 30 < m then 30 else m)) k
      have h2 := cat_take_le ts (if 30 < m then 30 else m)
      have h3 : ((ts.take (if 30 < m then 30 else m)).take k).length ≤ 30 := by rw [List.length_take, List.length_take]; split <;> omega
      have h4 := Nat.mul_le_mul h3 hbz
      omega
  have HQ := Lib.hid hq
  clear hq
  go_upto_if 11 with (fail)
  go_cut [0] (fun s0 wx => s0 = .slice L q c ∧ wx = w1)
  case first =>
    by_cases hm30 : 30 < m
    · have hq := HQ.out
      rw [if_pos hm30] at hq
      subst hq
      clear HQ
      have h9 : (30 : Int) < (m : Int) := by omega
      have h8 : (30 : Int) ≤ (c : Int) := by omega
      go_wp2_with fail
      go_meet
      exact ⟨rfl, rfl⟩
    · have hq := HQ.out
      rw [if_neg hm30] at hq
      subst hq
      clear HQ
      have h9 : ¬ (30 : Int) < (q : Int) := by omega
      go_wp2_with fail
      go_meet
      exact ⟨rfl, rfl⟩
  case rest =>
    obtain ⟨rfl, rfl⟩ := hcut
    clear HQ
    have hcz := y1.lt
    go_wp2_with fail
    obtain ⟨wo, rfl⟩ : ∃ wo : World, wo = wc := ⟨_, rfl⟩
    go_loopw [5, 6] (JoinsRel tt b q wo) (fun _ i _ => q - (intOf i).toNat)
    case atStart => exact ⟨0, Nat.zero_le _, rfl, World.ownsRow_nil _ _ _ _, Below.refl _ _⟩
    case round =>
      obtain ⟨k, hk, rfl, hown, hbl⟩ := hrel
      have hws := hbl.size
      obtain ⟨A', c', rfl, hA', _, _⟩ := own_form hown
      have HA := Lib.hid hA'
      have hyr := y1.below hbl y1.lt
      have e0 : wr.cell? ⟨w.heap.size, 0, none⟩ = some (.string b.s) := hyr.at_ 0
      have e1 : wr.cell? ⟨w.heap.size, 1, none⟩ = some (.slice b.A b.n b.c) := hyr.at_ 1
      have HCL : Hid ((catCh (weave b (tt.take k))).length ≤ 67108864) := by show _ ≤ _; rw [catCh_length]; exact H4.out k
      by_cases hlt : k < q
      · obtain ⟨ad, t, rfl, hb, hc1, hc2, HR⟩ := (H1.out.below hbl).lt (k := k) (by rw [H2.out]; exact hlt)
        have HTOK := Lib.hid ((H3.out t (List.mem_of_getElem? HR.out)).next hbl (Nat.le_refl _))
        have HBOK := Lib.hid (HB1.out.next hbl (Nat.le_refl _))
        have HWT := Lib.hid (weave_take (b := b) HR.out)
        have HW0 : Hid (k = 0 → weave b (tt.take k) = []) := fun h => by subst h; rfl
        clear hA'
        generalize hwv : weave b (tt.take k) = wv at *
        clear hwv
        by_cases hk0 : k = 0
        · have HWN : Hid (weave b (tt.take (k + 1)) = wv ++ [t]) := by show _ = _; rw [HWT.out, if_pos hk0, HW0.out hk0]; rfl
          have hki : ¬ (0 : Int) < (k : Int) := by omega
          clear hk0
          generalize hx : catCh wv = xs at *
          have HXS := Lib.hid hx
          clear hx
          go_wp2_with fail
          refine (refOf_any t.s t.A t.n t.c t.rs _ HTOK.out.1 HTOK.out.2.1 HTOK.out.2.2.2 HTOK.out.2.2.1).mono ?_
          rintro e w2 ⟨v, rfl, h2, hb2⟩
          obtain ⟨A2, c2, rfl, hA2, _, _⟩ := own_form h2
          have HA2 := Lib.hid hA2
          clear hA2
          go_wp2_with fail
          refine (refCat_any A' A2 xs.length t.s.size c' c2 xs t.ch _ ((Lies.own hown).next hb2 (Nat.le_refl _)) (Lies.own h2) HA.out HA2.out rfl (LT.ch_length t) (by have := HCL.out; omega) HTOK.out.2.2.2).mono ?_
          rintro e w3 ⟨v3, rfl, h3, hb3⟩
          have HO3 : Hid (w3.ownsRow wo.heap.size 30 2 v3 (catCh (weave b (tt.take (k + 1)))).length (chCells (catCh (weave b (tt.take (k + 1)))))) := by
            show World.ownsRow _ _ _ _ _ _ _
            rw [HWN.out, catCh_append, catCh_one, HXS.out, List.length_append, LT.ch_length]
            exact own_mono h3 (by have := hb2.size; omega)
          clear h3
          go_wp2_with fail
          go_roundw
          case rel => exact ⟨k + 1, by omega, by go_num, HO3.out, below_next (below_next hbl (Nat.le_refl _) hb2) (Nat.le_refl _) hb3⟩
          case measure => simp [intOf]; omega
        · have HWN : Hid (weave b (tt.take (k + 1)) = wv ++ [b] ++ [t]) := by show _ = _; rw [HWT.out, if_neg hk0]
          have hki : (0 : Int) < (k : Int) := by omega
          clear hk0
          generalize hx : catCh wv = xs at *
          have HXS := Lib.hid hx
          clear hx
          go_wp2_with fail
          refine (refOf_any b.s b.A b.n b.c b.rs _ HBOK.out.1 HBOK.out.2.1 HBOK.out.2.2.2 HBOK.out.2.2.1).mono ?_
          rintro e w2 ⟨v, rfl, h2, hb2⟩
          obtain ⟨A2, c2, rfl, hA2, _, _⟩ := own_form h2
          have HA2 := Lib.hid hA2
          clear hA2
          go_wp2_with fail
          refine (refCat_any A' A2 xs.length b.s.size c' c2 xs b.ch _ ((Lies.own hown).next hb2 (Nat.le_refl _)) (Lies.own h2) HA.out HA2.out rfl (LT.ch_length b) (by have := HCL.out; omega) HBOK.out.2.2.2).mono ?_
          rintro e w3 ⟨v3, rfl, h3, hb3⟩
          obtain ⟨A3, c3, rfl, hA3, _, _⟩ := own_form h3
          have HA3 := Lib.hid hA3
          have hb23 := below_next hb2 (Nat.le_refl _) hb3
          have hz23 := hb23.size
          have d1 : w3.cell? (ad.add (k * 2)) = some (.string t.s) := (hb23.cell (by rw [addr_block]; omega)).trans hc1
          have d2 : w3.cell? ⟨(ad.add (k * 2)).block, (ad.add (k * 2)).off + 1, none⟩ = some (.slice t.A t.n t.c) := (hb23.cell (by show (ad.add (k * 2)).block < _; rw [addr_block]; omega)).trans hc2
          have HT3 := Lib.hid (HTOK.out.next hb23 (Nat.le_refl _))
          clear hA3
          go_wp2_with fail
          refine (refOf_any t.s t.A t.n t.c t.rs _ HT3.out.1 HT3.out.2.1 HT3.out.2.2.2 HT3.out.2.2.1).mono ?_
          rintro e w4 ⟨v4, rfl, h4, hb4⟩
          obtain ⟨A4, c4, rfl, hA4, _, _⟩ := own_form h4
          have HA4 := Lib.hid hA4
          clear hA4
          have hxl : (xs ++ b.ch).length = xs.length + b.s.size := by rw [List.length_append, LT.ch_length]
          have HXL := Lib.hid hxl
          clear hxl
          go_wp2_with fail
          refine (refCat_any A3 A4 (xs.length + b.s.size) t.s.size c3 c4 (xs ++ b.ch) t.ch _ ((Lies.own h3).next hb4 (Nat.le_refl _)) (Lies.own h4) HA3.out HA4.out HXL.out (LT.ch_length t) (by have := HCL.out; omega) HT3.out.2.2.2).mono ?_
          rintro e w5 ⟨v5, rfl, h5, hb5⟩
          have hbA := below_next (below_next hb23 (Nat.le_refl _) hb4) (Nat.le_refl _) hb5
          have HO5 : Hid (w5.ownsRow wo.heap.size 30 2 v5 (catCh (weave b (tt.take (k + 1)))).length (chCells (catCh (weave b (tt.take (k + 1)))))) := by
            show World.ownsRow _ _ _ _ _ _ _
            rw [HWN.out, catCh_append, catCh_append, catCh_one, catCh_one, HXS.out, List.length_append, HXL.out, LT.ch_length]
            exact own_mono h5 (by have := hb4.size; omega)
          clear h5 h3
          go_wp2_with fail
          go_roundw
          case rel => exact ⟨k + 1, by omega, by go_num, HO5.out, below_next hbl (Nat.le_refl _) hbA⟩
          case measure => simp [intOf]; omega
      · have HT := Lib.hid (show tt.take k = tt from List.take_of_length_le (by have := H2.out; omega))
        have HCO : Hid ((catOs (weave b tt)).length ≤ 67108864) := by show _ ≤ _; have h := H4.out k; rw [HT.out] at h; exact h
        rw [HT.out] at hown HCL ⊢
        clear hA'
        have HOK2 : Hid (∀ t ∈ tt, t.ok wr wr.heap.size) := fun t ht => (H3.out t ht).next hbl (Nat.le_refl _)
        have HBOK := Lib.hid (HB1.out.next hbl (Nat.le_refl _))
        have HJ : Hid (Calls Try.prog 18 #[.slice L q c, .agg #[.string b.s, .slice b.A b.n b.c]] wr (Tells ⟨(catBs (weave b tt)).toArray⟩ (comp (catOs (weave b tt))) wr)) :=
          seekJoin_any L q c tt b wr (H1.out.next hbl (Nat.le_refl _)) H2.out (by omega) HOK2.out HBOK.out (by have := HCO.out; omega)
        go_wp2_with fail
        refine HJ.out.mono ?_
        rintro e w4 ⟨v4, rfl, h4, hb4⟩
        obtain ⟨A4, c4, rfl, _, _, _⟩ := own_form h4
        have hcp := comp_length_le (catOs (weave b tt))
        have hcq : (comp (catOs (weave b tt))).length ≤ 4294967296 := by have := HCO.out; omega
        clear hcp
        go_wp2_with fail
        refine (refIs_any ⟨(catBs (weave b tt)).toArray⟩ A4 (comp (catOs (weave b tt))).length c4 (comp (catOs (weave b tt))) A' (catCh (weave b tt)).length c' (catCh (weave b tt)) _ (Lies.own h4) rfl hcq ((Lies.own hown).next hb4 (Nat.le_refl _)) rfl (by have := HCL.out; omega)).mono ?_
        rintro e w5 ⟨rfl, hb5⟩
        have hE : isB (catBs (weave b tt)) (comp (catOs (weave b tt))) (catCh (weave b tt)) = true := by rw [← catCh_fst, ← catCh_snd]; exact isB_told _
        have HE := Lib.hid hE
        clear hE
        go_wp2
        go_ret
        refine ⟨?_, below_next (below_next (below_next hbw (Nat.le_refl _) hbl) (Nat.le_refl _) hb4) (Nat.le_refl _) hb5⟩
        exact ret_bool HE.out

end Go.Proofs.Ytboenjmhmlfmcaa.mk
