/-
  ReaderValid, where what comes in is of bulk at most 1048576: for every labelled text glazierlaw15.ReaderValid returns true: all texts and all values of the trees that reader.Read tells of (the first 2000 bytes of) it are valid UTF-8.
  Conditions: none beside the bound that the statement itself names.
-/
import Derived.Test.YtddgabjhligeeaaGreatJvAJ
import Derived.Test.YtddgabjhligeeaaGreatJvAA
import Derived.Test.YtddgabjhligeeaaGreatJvBA
import Derived.Test.YtddgabjhligeeaaGreatJvAR
import Derived.Test.YtddgabjhligeeaaGreatJvBB
import Derived.Test.YtddgabjhligeeaaGreatJvAE
import Derived.Test.YtddgabjhligeeaaGreatJvAL
import Derived.Test.YtddgabjhligeeaaGreatJvS
import Derived.Test.YtddgabjhligeeaaGreatJvAT
import Derived.Test.YtddgabjhligeeaaGreatJvX
import Derived.Test.YtddgabjhligeeaaGreatJvY
import Derived.Deep.DeepCutAuto
import Derived.Test.YtddgabjhligeeaaGreatJvAF
import Derived.Test.YtddgabjhligeeaaGreatJvF
import Derived.Test.YtddgabjhligeeaaGreatJvA
namespace Go.Proofs.YtddgabjhligeeaaGreat.mk
open Go.RowKit Go.Maps

def TK.kt (t : TK) : KT := ⟨(t.kind : Int), t.nm, t.A, t.n, t.c, t.ats, t.close, t.tx⟩
theorem kt_cells (ts : List TK) : ktCells (ts.map TK.kt) = tkCells ts := by
  unfold ktCells tkCells
  rw [List.flatMap_map]
  rfl
theorem kt_ch (ts : List TK) : (ts.map TK.kt).map KT.ch = (ts.map TK.pt).map toKP := by
  rw [List.map_map, List.map_map]
  rfl
theorem kb_mem {t : KP} {L : List KP} (h : t ∈ L) : t.bk ≤ kbL L := by
  induction L with
  | nil => cases h
  | cons a L ih =>
    have e : kbL (a :: L) = a.bk + kbL L := by unfold kbL; rw [List.map_cons, List.sum_cons]
    rcases List.mem_cons.1 h with rfl | h
    · omega
    · have := ih h; omega
/-- tokens in memory of a call's own, as they come in -/
theorem toks_in {w : World} {base c : Nat} {A : Option Addr} {ts : List TK} {L : List PTok} (ho : w.ownsRow base 98 7 (.slice A ts.length c) ts.length (tkCells ts)) (hk : ∀ t ∈ ts, OwnT w base t) (hp : ts.map TK.pt = L) (hL : kbL (L.map toKP) ≤ 1048575) :
    ToksIn (fun b => b < w.heap.size) w A ts.length (ts.map TK.kt) := by
  have hlt : ∀ b, base ≤ b → b < w.heap.size → b < w.heap.size := fun b _ h => h
  refine ⟨?_, ?_, by rw [List.length_map], by rw [kt_ch, hp]; exact hL⟩
  · rw [kt_cells]
    exact (own_inS ho).mono hlt
  · intro t ht
    obtain ⟨x, hx, rfl⟩ := List.mem_map.1 ht
    obtain ⟨h1, h2, h3, h4, h5⟩ := hk x hx
    have ham : x.n ≤ 1048576 := by
      have e1 : x.pt ∈ L := by rw [← hp]; exact List.mem_map.2 ⟨x, hx, rfl⟩
      have e2 : (toKP x.pt).bk ≤ kbL (L.map toKP) := kb_mem (List.mem_map.2 ⟨x.pt, e1, rfl⟩)
      have e3 : x.ats.length ≤ (toKP x.pt).bk := by
        show _ ≤ x.nm.ch.length + (x.ats.map AT.ch).length + x.tx.ch.length + 1
        rw [List.length_map]
        omega
      omega
    obtain ⟨_, _, ev, hA, _, _⟩ := own_form h2
    injection ev with e1 _ e3
    refine ⟨h1.inS.mono hlt, h5.inS.mono hlt, (own_inS h2).mono hlt, h3, fun e => ?_, ham, fun a ha => ⟨((h4 a ha).1.inS).mono hlt, ((h4 a ha).2.inS).mono hlt⟩⟩
    have e' : x.A = none := e
    show x.c = 0
    rw [e3]
    exact hA (by rw [← e1]; exact e')
theorem lines15_any (a : LT) (w : World) (ha : a.ok w w.heap.size) : Calls Tryz.prog 13 #[.agg #[.string a.s, .slice a.A a.n a.c]] w (ToldO (linesR a.ch) w) := by
  refine (lines_any a.s a.A a.n a.c a.rs w ha.1 ha.2.1 ha.2.2.2 ha.2.2.1).mono fun e w' h => toldO_of (l := linesR a.ch) (InR.lines a.ch_in) ?_ h
  have h1 := linesR_length a.ch
  have h2 := ha.2.2.2
  rw [LT.ch_length] at h1
  omega
theorem repair15_any (a : LT) (w : World) (ha : a.ok w w.heap.size) (hs : a.s.size ≤ 268435456) : Calls Tryz.prog 12 #[.agg #[.string a.s, .slice a.A a.n a.c]] w (ToldO (rep a.ch) w) := by
  refine (repair_any a.s a.A a.n a.c a.rs w ha.1 ha.2.1 hs ha.2.2.1).mono fun e w' h => toldO_of (l := rep a.ch) (InR.rep a.ch_in) ?_ h
  have h1 := rep_length a.ch
  rw [LT.ch_length] at h1
  omega
/-- what tokens are as trees: that of a told list of tokens -/
def ReadT (l : Ch) (w : World) (e : Ending) (w' : World) : Prop :=
  ∃ (K : Option Addr) (kn kc : Nat) (kids : List TT), e = .returned (.tuple #[.slice K kn kc, .int .i64 0]) ∧ Hid (TreesIn0 w' K kn kids ∧ chL kids = readP l) ∧ Below w.heap.size w w'
/-- the chain of four calls: what each is called with, and what the last tells -/
theorem chain_last (u : LT) (mx : Int) (w : World) (hu : u.ok w w.heap.size) (l : Ch) (hl : u.ch = rep (linesR l)) (hz : l.length ≤ 65536) (hmx : w.cell? ⟨0, 0, none⟩ = some (.int .i64 mx)) :
    Calls Tryz.prog 11 #[.agg #[.string u.s, .slice u.A u.n u.c]] w fun e w' => ∃ (A : Option Addr) (n c : Nat) (ts : List KT), e = .returned (.slice A n c) ∧ Hid (ToksIn (fun b => b < w'.heap.size) w' A n ts ∧ treesB (ts.map KT.ch) = readP l) ∧ Below w.heap.size w w' := by
  have h1 := linesR_length l
  have h2 := rep_length (linesR l)
  have h3 := toksP_size (rep (linesR l))
  have hus : u.s.size = u.ch.length := (LT.ch_length u).symm
  refine (tokens13_any u mx w hu (by rw [hus, hl]; omega) hmx).mono ?_
  rintro e w' ⟨A, c, ts, rfl, hq, hb⟩
  obtain ⟨ho, hk, hp⟩ := hq.out
  refine ⟨A, ts.length, c, ts.map TK.kt, rfl, ⟨toks_in ho hk hp (by rw [hl]; omega), ?_⟩, hb⟩
  rw [kt_ch, hp, hl]
  rfl

set_option maxHeartbeats 4000000 in
set_option maxRecDepth 100000 in
theorem readH_any (a : LT) (mx : Int) (w : World) (ha : a.ok w w.heap.size) (hmx : w.cell? ⟨0, 0, none⟩ = some (.int .i64 mx)) :
    Calls Tryz.prog 9 #[.agg #[.string a.s, .slice a.A a.n a.c]] w fun e w' => (65536 < a.s.size ∧ e = .returned (.tuple #[.slice none 0 0, .int .i64 5]) ∧ Below w.heap.size w w') ∨ (a.s.size ≤ 65536 ∧ ReadT a.ch w e w') := by
  have HM := Lib.hid hmx
  have hlo : 0 < w.heap.size := block_zero _ _ _ hmx
  have HA := Lib.hid ha
  clear hmx ha
  go_enter Tryz.func9, Tryz.ntmps9
  go_upto_region 1 with fail
  generalize hw0 : w.alloc (.cells #[.string a.s, .slice a.A a.n a.c] 24) = w0
  have y0 : Whole w0 w.heap.size 24 #[.string a.s, .slice a.A a.n a.c] := by rw [← hw0]; exact Whole.made w _ _
  have HB0 : Hid (Below w.heap.size w w0) := by rw [← hw0]; exact (Below.refl _ _).alloc (Nat.le_refl _) _
  clear hw0
  have c0 := y0.at_ 0
  have c1 := y0.at_ 1
  clear y0
  by_cases hz : 65536 < a.s.size
  · have hz' : (65536 : Int) < (a.s.size : Int) := by omega
    go_wp2_with fail
    go_ret2
    exact .inl ⟨hz, rfl, HB0.out⟩
  · have hz' : ¬ (65536 : Int) < (a.s.size : Int) := by omega
    have HZ : Hid (a.ch.length ≤ 65536) := by show _ ≤ _; rw [LT.ch_length]; omega
    go_wp2_with fail
    refine (lines15_any a w0 (HA.out.next HB0.out (Nat.le_refl _))).mono ?_
    rintro e w1 ⟨u1, rfl, h1, hb1⟩
    have HB1 : Hid (Below w.heap.size w w1) := below_next HB0.out (Nat.le_refl _) hb1
    have HU1 := Lib.hid h1.out
    clear h1 hb1
    go_wp2_with fail
    refine (repair15_any u1 w1 HU1.out.2.ok (by have h := linesR_length a.ch; rw [← HU1.out.1, LT.ch_length] at h; have := HZ.out; omega)).mono ?_
    rw [HU1.out.1]
    rintro e w2 ⟨u2, rfl, h2, hb2⟩
    have HB2 : Hid (Below w.heap.size w w2) := below_next HB1.out (Nat.le_refl _) hb2
    have HU2 := Lib.hid h2.out
    clear h2 hb2
    go_wp2_with fail
    refine (chain_last u2 mx w2 HU2.out.2.ok a.ch HU2.out.1 HZ.out ((HB2.out.cell hlo).trans HM.out)).mono ?_
    rintro e w3 ⟨A3, n3, c3, ts, rfl, h3, hb3⟩
    have HB3 : Hid (Below w.heap.size w w3) := below_next HB2.out (Nat.le_refl _) hb3
    have HU3 := Lib.hid h3.out
    clear h3 hb3
    go_wp2_with fail
    refine (trees_any A3 n3 c3 ts w3 HU3.out.1 (fun b h => h)).mono ?_
    rintro e w4 ⟨K, kn, kc, kids, rfl, hin, hch, hb4⟩
    have HB4 : Hid (Below w.heap.size w w4) := below_next HB3.out (Nat.le_refl _) hb4
    have HIN := Lib.hid hin
    have HCH := Lib.hid hch
    clear hin hch hb4
    go_wp2_with fail
    go_ret2
    exact .inr ⟨by omega, K, kn, kc, kids, rfl, ⟨HIN.out, HCH.out.trans HU3.out.2⟩, HB4.out⟩

end Go.Proofs.YtddgabjhligeeaaGreat.mk

namespace Go.Proofs.YtddgabjhligeeaaGreat.mk
open Go.RowKit

theorem ofR_ch (s : ByteArray) (o : Int) : (chars s.data.toList (comp (List.replicate s.size (nearO o)))) = s.data.toList.map fun b => (b, nearO o) := by
  have hl : s.data.toList.length = s.size := by rw [Array.length_toList]; rfl
  have h1 := nearO_lo o
  have h2 := nearO_hi o
  generalize nearO o = q at *
  have hi : InR (s.data.toList.map fun b => ((b, q) : UInt8 × Int)) := by
    intro x hx
    simp only [List.map_map, List.mem_map, Function.comp] at hx
    obtain ⟨b, _, rfl⟩ := hx
    exact ⟨h1, h2⟩
  have h := txtOf_chars hi
  unfold txtOf at h
  simp only [List.map_map] at h
  have e1 : (s.data.toList.map ((fun (x : UInt8 × Int) => x.1) ∘ fun b => (b, q))) = s.data.toList := by
    rw [show ((fun (x : UInt8 × Int) => x.1) ∘ fun b => (b, q)) = id from rfl, List.map_id]
  have e2 : (s.data.toList.map ((fun (x : UInt8 × Int) => x.2) ∘ fun b => (b, q))) = List.replicate s.size q := by
    rw [show ((fun (x : UInt8 × Int) => x.2) ∘ fun (b : UInt8) => (b, q)) = fun _ => q from rfl, List.map_const', hl]
  rw [e1, e2] at h
  exact h
theorem ofR_any (s : ByteArray) (o : Int) (l : Ch) (w : World) (hs : s.size ≤ 4294967296) (hl : (s.data.toList.map fun b => ((b, nearO o) : UInt8 × Int)) = l) :
    Calls Tryz.prog 24 #[.string s, .int .i64 o] w fun e w' => ∃ t : LT, e = .returned (.agg #[.string s, .slice t.A t.n t.c]) ∧ Hid (t.s = s ∧ t.ch = l ∧ OwnL w' w.heap.size t) ∧ Below w.heap.size w w' := by
  subst hl
  refine (of_any s o w hs).mono ?_
  rintro e w1 ⟨v1, rfl, ho1, hb1⟩
  obtain ⟨A1, c1, rfl, _, _, _⟩ := own_form ho1
  have hlen : (comp (List.replicate s.size (nearO o))).length ≤ s.size := by
    have := comp_length_le (List.replicate s.size (nearO o))
    rw [List.length_replicate] at this
    exact this
  exact ⟨⟨s, A1, _, c1, comp (List.replicate s.size (nearO o))⟩, rfl, ⟨rfl, ofR_ch s o, rfl, ⟨Nat.le_trans hlen hs, ofT_told s o A1 c1⟩, hs, ho1⟩, hb1⟩

def ex15 : Ch := [(97, 5), (38, 5), (108, 5), (116, 5), (59, 5), (98, 5)]
theorem ex15_dec : decE ex15 = [(97, 5), (60, 5), (98, 5)] := by
  unfold ex15
  rw [decE_one (l := [((97 : UInt8), (5 : Int)), (38, 5), (108, 5), (116, 5), (59, 5), (98, 5)]) (b := 97) (o := 5) rfl (by decide) (refer_not (by decide)), List.drop_succ_cons, List.drop_zero]
  rw [decE_ref (n := 60) (k := 4) (by decide), show ([(38, 5), (108, 5), (116, 5), (59, 5), (98, 5)] : Ch).drop 4 = [(98, 5)] from rfl]
  rw [decE_one (l := [((98 : UInt8), (5 : Int))]) (b := 98) (o := 5) rfl (by decide) (refer_not (by decide)), List.drop_succ_cons, List.drop_zero, decE_nil]
  decide
theorem ex15_toks : toksP ex15 = [⟨3, [], [], false, [(97, 5), (60, 5), (98, 5)]⟩] := by
  show tokQ [] ex15 = _
  rw [tokQ_data, show ltT ex15 = 6 from rfl, show ex15.drop 6 = [] from rfl, show ex15.take 6 = ex15 from rfl, tokQ_nil, ex15_dec]
  rfl
theorem ex15_read : readP ex15 = [⟨[], [], [], [(97, 5), (60, 5), (98, 5)]⟩] := by
  rw [readP_same (valid_lows (by decide)) (by decide), ex15_toks]
  kernel_rfl

set_option maxHeartbeats 4000000 in
set_option maxRecDepth 100000 in
theorem alive15_any (mx : Int) (w : World) (hmx : w.cell? ⟨0, 0, none⟩ = some (.int .i64 mx)) : Calls Tryz.prog 7 #[] w fun e w' => e = .returned (.bool true) ∧ Below w.heap.size w w' := by
  have HM := Lib.hid hmx
  have hlo : 0 < w.heap.size := block_zero _ _ _ hmx
  clear hmx
  go_enter Tryz.func7, Tryz.ntmps7
  go_wp2_with fail
  refine (ofR_any ⟨#[97, 38, 108, 116, 59, 98]⟩ 5 ex15 w (by show (6 : Nat) ≤ _; omega) (by decide)).mono ?_
  rintro e w1 ⟨t1, rfl, h1, hb1⟩
  have HRD : Hid (Calls Tryz.prog 9 #[.agg #[.string ⟨#[97, 38, 108, 116, 59, 98]⟩, .slice t1.A t1.n t1.c]] w1 (ReadT ex15 w1)) := by
    have h := readH_any t1 mx w1 h1.out.2.2.ok ((hb1.cell hlo).trans HM.out)
    rw [h1.out.1, h1.out.2.1] at h
    refine h.mono ?_
    rintro e w' (⟨hz, _⟩ | ⟨_, h⟩)
    · exact absurd hz (by show ¬ 65536 < (6 : Nat); omega)
    · exact h
  have HB1 := Lib.hid hb1
  clear h1 hb1
  go_wp2_with fail
  refine HRD.out.mono ?_
  rintro e w2 ⟨K, kn, kc, kids, rfl, h2, hb2⟩
  have HB2 : Hid (Below w.heap.size w w2) := below_next HB1.out (Nat.le_refl _) hb2
  obtain ⟨x, rfl⟩ : ∃ x, kids = [x] := by
    have h3 := congrArg List.length (h2.out.2.trans ex15_read)
    rw [chL_length] at h3
    exact List.length_eq_one_iff.1 h3
  have hn : kn = 1 := h2.out.1.len.symm
  subst hn
  have hxc : x.text.ch = [(97, 5), (60, 5), (98, 5)] := by
    have h3 := h2.out.2.trans ex15_read
    rw [chL, chL] at h3
    injection h3 with h3
    have h4 := congrArg PT.text h3
    rw [TT.ch_text] at h4
    exact h4
  obtain ⟨ad, x2, rfl, _, _, _, _, _, e4, e5, hx2⟩ := h2.out.1.lies.lies.tree (k := 0) (by show 0 < 1; omega)
  have hxx : x2 = x := by have := hx2.out; simp at this; exact this.symm
  subst hxx
  have hs : x2.text.s = ⟨#[97, 60, 98]⟩ := by
    have h4 : x2.text.bs = [97, 60, 98] := by rw [← LT.ch_fst, hxc]; rfl
    have h5 : x2.text.s.data = #[97, 60, 98] := Array.toList_inj.1 h4
    exact congrArg ByteArray.mk h5
  have k4 : w2.cell? ⟨ad.block, ad.off + 4, none⟩ = some (.string ⟨#[97, 60, 98]⟩) := hs ▸ e4
  have k5 : w2.cell? ⟨ad.block, ad.off + 5, none⟩ = some (.slice x2.text.A x2.text.n x2.text.c) := e5
  have HW : Hid (Calls Tryz.prog 25 #[.agg #[.string ⟨#[97, 60, 98]⟩, .slice x2.text.A x2.text.n x2.text.c]] w2 fun e w' => e = .returned (.int .i64 5) ∧ Below w2.heap.size w2 w') := by
    have hok := ((h2.out.1.all.get (List.mem_singleton.2 rfl)).text).ok
    have h : Calls Tryz.prog 25 #[.agg #[.string x2.text.s, .slice x2.text.A x2.text.n x2.text.c]] w2 fun e w' => e = .returned (.int .i64 (worstO x2.text.os)) ∧ Below w2.heap.size w2 w' := worst_any x2.text.s x2.text.A x2.text.n x2.text.c x2.text.rs w2 hok.1 hok.2.1 hok.2.2.2 hok.2.2.1
    have ho := x2.text.ch_snd
    rw [hxc] at ho
    rw [← ho, hs] at h
    exact h
  clear h2 hb2 hxc e4 e5 hx2 hs HRD
  go_wp2_with fail
  refine HW.out.mono ?_
  rintro e w3 ⟨rfl, hb3⟩
  go_wp2_with fail
  go_ret
  exact ⟨rfl, below_next HB2.out (Nat.le_refl _) hb3⟩

end Go.Proofs.YtddgabjhligeeaaGreat.mk

namespace Go.Proofs.YtddgabjhligeeaaGreat.mk
open Go.RowKit

def VRel (n : Nat) (w0 : World) (i : Value) (wr : World) : Prop := ∃ k : Nat, k ≤ n ∧ i = .int .i64 (k : Int) ∧ Below w0.heap.size w0 wr
def VRel2 (n : Nat) (w0 : World) (i _j : Value) (wr : World) : Prop := VRel n w0 i wr

set_option maxHeartbeats 8000000 in
set_option maxRecDepth 100000 in
theorem valid15_any : ∀ (Q : List PT) (A : Option Addr) (n c : Nat) (ts : List TT) (w : World), chL ts = Q → TreesIn0 w A n ts → vPL Q →
    Calls Tryz.prog 23 #[.slice A n c] w fun e w' => e = .returned (.bool true) ∧ Below w.heap.size w w' := by
  apply PT.ind
  intro Q IH A n c ts w hq h hv
  subst hq
  have H := Lib.hid h
  have hn2 := h.small
  have HV : Hid (∀ x ∈ ts, x.ch.vP) := fun x hx => (vPL_all _).1 hv x.ch (by rw [chL_map]; exact List.mem_map.2 ⟨x, hx, rfl⟩)
  have HI : Hid (∀ x ∈ ts, ∀ W, Below w.heap.size w W → Calls Tryz.prog 23 #[.slice x.K x.kn x.kc] W fun e w' => e = .returned (.bool true) ∧ Below W.heap.size W w') := fun x hx W hb =>
    IH x.ch (by rw [chL_map]; exact List.mem_map.2 ⟨x, hx, rfl⟩) x.K x.kn x.kc x.kids W (TT.ch_kids x).symm ((H.out.next hb).kid hx) ((PT.vP_eq _).1 (HV.out x hx)).2.2
  clear h IH hv
  go_enter Tryz.func23, Tryz.ntmps23
  go_wp2_with fail
  go_loopw [3, 4] (VRel2 n w) (fun i _ _ => n - (intOf i).toNat)
  case atStart => exact ⟨0, Nat.zero_le _, rfl, Below.refl _ _⟩
  case round =>
    obtain ⟨k, hk, rfl, hb⟩ := hrel
    obtain ⟨wq, rfl⟩ : ∃ wq : World, wq = wr := ⟨_, rfl⟩
    have HB := Lib.hid hb
    by_cases hlt : k < n
    · obtain ⟨ad, x, rfl, hbA, d0, d1, d2, d3, d4, d5, HX⟩ := (H.out.next hb).lies.lies.tree (k := k) (by rw [H.out.len]; exact hlt)
      have hk0 : (0 : Int) ≤ (k : Int) := Int.natCast_nonneg _
      have hk1 : (k : Int) < (n : Int) := by omega
      have HMEM : Hid (x ∈ ts) := List.mem_of_getElem? HX.out
      have hba : ∀ j, ((⟨(ad.add (k * 6)).block, (ad.add (k * 6)).off + j, none⟩ : Addr)).block < wq.heap.size := fun j => by show (ad.add (k * 6)).block < _; rw [addr_block]; omega
      have HKS : Hid (∀ W, Below wq.heap.size wq W → W.cell? ⟨(ad.add (k * 6)).block, (ad.add (k * 6)).off + 2, none⟩ = some (.slice x.A x.n x.c) ∧ W.cell? ⟨(ad.add (k * 6)).block, (ad.add (k * 6)).off + 3, none⟩ = some (.slice x.K x.kn x.kc)) := fun W h => ⟨(h.cell (hba 2)).trans d2, (h.cell (hba 3)).trans d3⟩
      have HTX : Hid (Calls Tryz.prog 58 #[.string x.text.s] wq fun e w' => e = .returned (.bool true) ∧ Below wq.heap.size wq w') := by
        have h1 := refValid_any x.text.s wq (by
          have h2 := bk_text (L := chL ts) (t := x.ch) (by rw [chL_map]; exact List.mem_map.2 ⟨x, HMEM.out, rfl⟩)
          rw [TT.ch_text, LT.ch_length] at h2
          have := H.out.bulk
          omega)
        have h2 := ((PT.vP_eq _).1 (HV.out x HMEM.out)).1
        unfold vC at h2
        rw [TT.ch_text, LT.ch_fst] at h2
        rw [show validB x.text.s.data.toList = true from h2] at h1
        exact h1
      have HKD : Hid (∀ W, Below wq.heap.size wq W → Calls Tryz.prog 23 #[.slice x.K x.kn x.kc] W fun e w' => e = .returned (.bool true) ∧ Below W.heap.size W w') := fun W h => HI.out x HMEM.out W (below_next HB.out (Nat.le_refl _) h)
      have HAT : Hid (∀ W, Below wq.heap.size wq W → x.inS (fun b => b < W.heap.size) W) := fun W h => (H.out.next (below_next HB.out (Nat.le_refl _) h)).all.get HMEM.out
      have HAV : Hid (∀ a ∈ x.atts, validB a.vl.s.data.toList = true ∧ a.vl.s.size ≤ 1000000) := fun a ha => by
        have h2 := ((PT.vP_eq _).1 (HV.out x HMEM.out)).2.1 a.ch (by rw [TT.ch_eq]; exact List.mem_map.2 ⟨a, ha, rfl⟩)
        obtain ⟨h3, h4⟩ := h2
        have e3 : a.ch.2 = a.vl.ch := rfl
        rw [e3] at h3 h4
        unfold vC at h3
        rw [LT.ch_fst] at h3
        rw [LT.ch_length] at h4
        exact ⟨h3, h4⟩
      have hxm := (HAT.out wq (Below.refl _ _)).am
      clear hb hba
      go_wp2_with fail
      refine HTX.out.mono ?_
      rintro e w1 ⟨rfl, hb1⟩
      obtain ⟨g2, g3⟩ := HKS.out w1 hb1
      have HB1 := Lib.hid hb1
      clear HTX d0 d1 d2 d3 d4 d5 hb1
      go_wp2_with fail
      refine (HKD.out w1 HB1.out).mono ?_
      rintro e w2 ⟨rfl, hb2⟩
      have HB2 : Hid (Below wq.heap.size wq w2) := below_next HB1.out (Nat.le_refl _) hb2
      clear g2 g3 hb2
      go_wp2_with fail
      obtain ⟨wo, rfl⟩ : ∃ wo : World, wo = w2 := ⟨_, rfl⟩
      go_loopw [4] (VRel x.n wo) (fun i _ => x.n - (intOf i).toNat)
      case atStart => exact ⟨0, Nat.zero_le _, rfl, Below.refl _ _⟩
      case round =>
        obtain ⟨k2, hk2, rfl, hb3⟩ := hrel
        obtain ⟨wv, rfl⟩ : ∃ wv : World, wv = wr := ⟨_, rfl⟩
        have HB3 := Lib.hid hb3
        have HB4 : Hid (Below wq.heap.size wq wv) := below_next HB2.out (Nat.le_refl _) hb3
        obtain ⟨g2, g3⟩ := HKS.out wv HB4.out
        by_cases hlt2 : k2 < x.n
        · have hx := HAT.out wv HB4.out
          obtain ⟨ae, a, hae, _, _, _, e2, _, HR⟩ := hx.att.lies.att (k := k2) (by rw [hx.an]; exact hlt2)
          rw [hae] at g2
          have hk20 : (0 : Int) ≤ (k2 : Int) := Int.natCast_nonneg _
          have hk21 : (k2 : Int) < (x.n : Int) := by omega
          have hav := HAV.out a (List.mem_of_getElem? HR.out)
          have HRV : Hid (Calls Tryz.prog 58 #[.string a.vl.s] wv fun e w' => e = .returned (.bool true) ∧ Below wv.heap.size wv w') := by
            have h1 := refValid_any a.vl.s wv (by omega)
            rw [hav.1] at h1
            exact h1
          clear hx hav hb3
          go_wp2_with fail
          refine HRV.out.mono ?_
          rintro e w5 ⟨rfl, hb5⟩
          have HB5 := Lib.hid (below_next HB3.out (Nat.le_refl _) hb5)
          clear hb5
          go_wp2_with fail
          go_roundw
          case rel => exact ⟨k2 + 1, by omega, by go_num, HB5.out⟩
          case measure => simp [intOf]; omega
        · have hk21 : ¬ (k2 : Int) < (x.n : Int) := by omega
          have HB6 : Hid (Below w.heap.size w wv) := below_next HB.out (Nat.le_refl _) HB4.out
          clear hb3
          go_wp2_with fail
          go_roundw
          case rel => exact ⟨k + 1, by omega, by go_num, HB6.out⟩
          case measure => simp [intOf]; omega
    · have hk1 : ¬ (k : Int) < (n : Int) := by omega
      clear hb
      go_wp2_with fail
      go_ret
      exact ⟨rfl, HB.out⟩

end Go.Proofs.YtddgabjhligeeaaGreat.mk

namespace Go.Proofs.YtddgabjhligeeaaGreat.mk
open Go.RowKit

set_option maxHeartbeats 8000000 in
set_option maxRecDepth 100000 in
theorem readerValid_any (mx : Int) (a : LT) (w : World) (hmx : w.cell? ⟨0, 0, none⟩ = some (.int .i64 mx)) (ha : a.ok w w.heap.size) (hs : a.s.size ≤ 268435456) :
    Calls Tryz.prog 6 #[.agg #[.string a.s, .slice a.A a.n a.c]] w fun e w' => e = .returned (.bool true) ∧ Below w.heap.size w w' := by
  have HM := Lib.hid hmx
  have hlo : 0 < w.heap.size := block_zero _ _ _ hmx
  have HA := Lib.hid ha
  clear hmx ha
  go_enter Tryz.func6, Tryz.ntmps6
  go_wp2_with fail
  generalize hw0 : w.alloc (.cells #[.string a.s, .slice a.A a.n a.c] 24) = w0
  have y0 : Whole w0 w.heap.size 24 #[.string a.s, .slice a.A a.n a.c] := by rw [← hw0]; exact Whole.made w _ _
  have HB0 : Hid (Below w.heap.size w w0) := by rw [← hw0]; exact (Below.refl _ _).alloc (Nat.le_refl _) _
  clear hw0
  refine (alive15_any mx w0 ((HB0.out.cell hlo).trans HM.out)).mono ?_
  rintro e w1 ⟨rfl, hb1⟩
  have y1 := y0.below hb1 y0.lt
  have HB1 : Hid (Below w.heap.size w w1) := HB0.out.trans (hb1.mono HB0.out.size)
  have HA1 : Hid (a.ok w1 w1.heap.size) := HA.out.next HB1.out (Nat.le_refl _)
  have HY1 := Lib.hid y1
  have c0 := y1.at_ 0
  have c1 := y1.at_ 1
  have g0 := y1.free 0
  have g1 := y1.free 1
  have hzw := y1.lt
  clear hb1 y0 y1
  go_upto_if 10 with fail
  go_cut [] (fun wx => ∃ v : LT, v.ok wx wx.heap.size ∧ v.s.size ≤ 2000 ∧ Whole wx w.heap.size 24 #[.string v.s, .slice v.A v.n v.c] ∧ Below w.heap.size w wx)
  case first =>
    by_cases hz : 2000 < a.s.size
    · have hz' : (2000 : Int) < (a.s.size : Int) := by omega
      have HC : Hid (Calls Tryz.prog 8 #[.agg #[.string a.s, .slice a.A a.n a.c], .int .i64 0, .int .i64 2000] w1 (ToldO (a.ch.take 2000) w1)) := by
        refine (cut_t a 0 2000 0 2000 w1 HA1.out (by omega) (by omega)).mono fun e w' h => toldO_of (l := a.ch.take 2000) ?_ ?_ ?_
        · exact a.ch_in.sub (fun x hx => List.mem_of_mem_take hx)
        · rw [List.length_take]; omega
        · rw [List.drop_zero] at h; exact h
      go_wp2_with fail
      refine HC.out.mono ?_
      rintro e w2 ⟨v, rfl, hv, hb2⟩
      have HV := Lib.hid hv.out
      have y2 := HY1.out.below hb2 HY1.out.lt
      have HB2 : Hid (Below w.heap.size w w2) := HB1.out.trans (hb2.mono HB1.out.size)
      have e0 := y2.at_ 0
      have e1 := y2.at_ 1
      have e2 := y2.free 0
      have e3 := y2.free 1
      have HY2 := Lib.hid y2
      clear hv hb2 y2 HC
      go_wp2_with fail
      go_meet
      refine ⟨v, ((HV.out.2.far hzw _).far hzw _).ok, ?_, (HY2.out.put 0 _).put 1 _, (HB2.out.setCell (p := ⟨w.heap.size, 0, none⟩) (Nat.le_refl _) _).setCell (p := ⟨w.heap.size, 1, none⟩) (Nat.le_refl _) _⟩
      rw [← LT.ch_length, HV.out.1, List.length_take]
      omega
    · have hz' : ¬ (2000 : Int) < (a.s.size : Int) := by omega
      go_wp2_with fail
      go_meet
      exact ⟨a, HA1.out, by omega, HY1.out, HB1.out⟩
  case rest =>
    obtain ⟨v, hv, hvs, hy, hb⟩ := hcut
    obtain ⟨wd, hwd⟩ : ∃ wd : World, wd = wc := ⟨_, rfl⟩
    subst hwd
    have HB := Lib.hid hb
    have hvl : v.ch.length = v.s.size := LT.ch_length v
    have HZ : Hid (v.ch.length ≤ 2000) := by show _ ≤ _; omega
    have HKS : Hid (∀ V, Below wd.heap.size wd V → V.cell? ⟨w.heap.size, 0, none⟩ = some (.string v.s) ∧ V.cell? ⟨w.heap.size, 1, none⟩ = some (.slice v.A v.n v.c)) := fun V h =>
      ⟨(h.cell hy.lt).trans (hy.at_ 0), (h.cell hy.lt).trans (hy.at_ 1)⟩
    have HRD : Hid (Calls Tryz.prog 9 #[.agg #[.string v.s, .slice v.A v.n v.c]] wd (ReadT v.ch wd)) := by
      refine (readH_any v mx wd hv ((hb.cell hlo).trans HM.out)).mono ?_
      rintro e w' (⟨hz, _⟩ | ⟨_, h⟩)
      · exact absurd hz (by omega)
      · exact h
    have HV := Lib.hid hv
    obtain ⟨d0, d1⟩ := HKS.out wd (Below.refl _ _)
    clear hv hy hb c0 c1 g0 g1 HA1 HY1 HB1 hvl hvs
    go_wp2_with fail
    refine HRD.out.mono ?_
    rintro e w2 ⟨K, kn, kc, kids, rfl, h2, hb2⟩
    have HVL : Hid (Calls Tryz.prog 23 #[.slice K kn kc] w2 fun e w' => e = .returned (.bool true) ∧ Below w2.heap.size w2 w') :=
      valid15_any _ K kn kc kids w2 rfl h2.out.1 (by rw [h2.out.2]; exact read_valid v.ch_in (by have := HZ.out; omega))
    have HB2 := Lib.hid hb2
    clear d0 d1 h2 hb2 HRD
    go_wp2_with fail
    refine HVL.out.mono ?_
    rintro e w3 ⟨rfl, hb3⟩
    have HBZ : Hid (Below w.heap.size w w3) := below_next (HB.out.trans (HB2.out.mono HB.out.size)) (Nat.le_refl _) hb3
    clear hb3
    go_wp2_with fail
    go_ret
    exact ⟨rfl, HBZ.out⟩

end Go.Proofs.YtddgabjhligeeaaGreat.mk

namespace Go.Proofs.YtddgabjhligeeaaGreat.readerValid
open Go.ChangeShapes Go.WideShapes Go.ChangeAt Go.RowKit Go.Proofs.YtddgabjhligeeaaGreat.mk

set_option maxRecDepth 100000 in
theorem contract (H : Type) (enc : TypeId × Value → H) (W : World) (args : Array Value) (ds gs : List (DataW H)) (before : List MemPlace) (base : Nat) (hsh : W.ShapedOpen Tryz.prog)
    (hval : ∀ (j : Nat) t v, Tryz.f6.params[j]? = some t → args[j]? = some v → Value.okWide Tryz.prog W .any base t v)
    (hW : DataW.Whole enc Tryz.prog Tryz.f6.params.toList Rows.readerValidSpec.vars false W args.toList ds gs before) (hk : Rows.uptoSmall H (ds ++ gs) = true) :
    Calls Tryz.prog 6 args W fun e W' => ∃ v, e = .returned v ∧ Rows.readerValidSpec.post enc Tryz.prog Tryz.f6 false true false false W args v W' := by
  obtain ⟨p, q, hA0, hV, rfl, hfz, hnd⟩ := id hW
  have hA : DataW.TrodAll enc Tryz.prog W 0 (fun _ => true) true Tryz.f6.params.toList args.toList ds p := hA0
  rw [Tryz.params6] at hA hval
  obtain ⟨v0, vs0, d0, ds0, p0, q0, hargs, rfl, rfl, h0, r0⟩ := trodAll_cons hA
  obtain ⟨rfl, rfl, rfl⟩ := trodAll_nil r0
  obtain rfl : args = #[v0] := by cases args; simp_all
  obtain ⟨rfl, rfl⟩ := trodVars_none hV
  have hbk := bulk_bound hk
  simp only [List.append_nil, Rows.uptoBulkAll] at hbk
  have hbk2 : Rows.uptoBulk d0 ≤ 1048576 := by omega
  obtain ⟨a0, rfl, hok0, _, _, hs0⟩ := open_str (hval 0 24 v0 rfl rfl) h0 (by omega)
  obtain ⟨mx, hmx⟩ := Tryz.maxLen_cell hsh
  refine (readerValid_any mx a0 W hmx hok0 (by omega)).mono fun e W' ⟨he, hb⟩ => ?_
  subst he
  exact ⟨_, rfl, law_post (tb := 4) laidOut hW rfl ⟨rfl, rfl, rfl⟩ (by rw [Tryz.params6]; exact readable_all (by kernel_rfl)) rfl Tryz.underlying4 hb⟩

set_option maxRecDepth 100000 in
theorem lifted (os : Os) (started : os.Started) (H : Type) (enc : TypeId × Value → H) (F : Stop.Interp) :
    ReturnsInHanded {} Tryz.checked os 6 .any ((Rows.OpenSpec.upto Rows.readerValidSpec).pre6 enc Tryz.prog Tryz.f6 Rows.readerValidUptoRow.domain false) (((Rows.OpenSpec.upto Rows.readerValidSpec).at F).post enc Tryz.prog Tryz.f6 false true false false) := by
  refine handed_shaped (C := Tryz.checked) (s := Rows.OpenSpec.upto Rows.readerValidSpec) (k := Rows.uptoSmall) rfl own started (by kernel_rfl) Tryz.func6
    (OpenSpec.witness (enc := enc) (C := Tryz.checked) (s := Rows.OpenSpec.upto Rows.readerValidSpec) (k := Rows.uptoSmall) rfl false ⟨#[], #[.agg #[.string .empty, .slice none 0 0]], []⟩ 8 (by kernel_rfl) (by kernel_rfl) (by kernel_rfl)
      (x := ([.agg [.lit (.string []), .nil]], [], [])) (by kernel_rfl) rfl (by kernel_rfl)) ?_
  intro W base args ds gs before hsh hval hW hk
  exact contract H enc W args ds gs before base hsh hval hW hk

theorem proved : Rows.ReaderValidUptoSaid :=
  OpenClaim.holds_of_cond 6 Tryz.f6 rfl rfl rfl rfl rfl rfl rfl ⟨rfl, rfl, rfl, rfl, rfl⟩ rfl rfl rfl rfl rfl (by kernel_rfl) Tryz.func6 (by kernel_rfl)
    (of_decide_eq_true (by kernel_rfl)) (by unfold Func.isWrapper; first | (rw [if_pos (by decide +kernel)]; kernel_rfl) | (rw [if_neg (by decide +kernel)]; exact ⟨rfl, rfl⟩))
    (fun os started H enc _ F => lifted os started H enc F)

end Go.Proofs.YtddgabjhligeeaaGreat.readerValid
