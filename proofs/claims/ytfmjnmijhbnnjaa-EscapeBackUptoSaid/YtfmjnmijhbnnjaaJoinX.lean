/-
  The contract of the statements' own test of escape: the page's example.
-/
import Derived.Test.YtfmjnmijhbnnjaaJoinW
import Derived.Deep.DeepCutAuto
import Derived.Test.YtfmjnmijhbnnjaaJoinT
namespace Go.Proofs.Ytfmjnmijhbnnjaa.mk
open Go.RowKit

def swapL (ws : List (UInt8 × ByteArray)) (l : List (UInt8 × Int)) : List (UInt8 × Int) := ws.foldl (fun l x => replL (fun b => b == x.1) x.2.data.toList l) l
theorem swapL_next {ws : List (UInt8 × ByteArray)} {k : Nat} {x : UInt8 × ByteArray} (h : ws[k]? = some x) (l : List (UInt8 × Int)) : swapL (ws.take (k + 1)) l = replL (fun b => b == x.1) x.2.data.toList (swapL (ws.take k) l) := by
  rw [take_next h]
  unfold swapL
  rw [List.foldl_append]
  rfl
theorem InR.repl {f : UInt8 → Bool} {y : List UInt8} {l : List (UInt8 × Int)} (h : InR l) : InR (replL f y l) := by
  intro o ho
  obtain ⟨x, hx, rfl⟩ := List.mem_map.1 ho
  obtain ⟨z, hz, hx⟩ := List.mem_flatMap.1 hx
  have hz2 : z.2 ∈ l.map (·.2) := List.mem_map.2 ⟨z, hz, rfl⟩
  split at hx
  · obtain ⟨b, _, rfl⟩ := List.mem_map.1 hx
    exact h _ hz2
  · simp only [List.mem_cons, List.not_mem_nil, or_false] at hx
    subst hx
    exact h _ hz2
theorem InR.swap {ws : List (UInt8 × ByteArray)} {l : List (UInt8 × Int)} (h : InR l) : InR (swapL ws l) := by
  induction ws generalizing l with
  | nil => exact h
  | cons x ws ih => exact ih h.repl

def swCells (ws : List (UInt8 × ByteArray)) : List Value := ws.flatMap fun x => [.int .u8 x.1.toNat, .string x.2]
theorem swCells_at (ws : List (UInt8 × ByteArray)) (k : Nat) (x : UInt8 × ByteArray) (h : ws[k]? = some x) : (swCells ws)[k * 2]? = some (.int .u8 x.1.toNat) ∧ (swCells ws)[k * 2 + 1]? = some (.string x.2) := by
  induction ws generalizing k with
  | nil => simp at h
  | cons z ws ih =>
    have e : swCells (z :: ws) = .int .u8 z.1.toNat :: .string z.2 :: swCells ws := rfl
    rw [e]
    cases k with
    | zero => simp at h; subst h; simp
    | succ k =>
      have := ih k (by simpa using h)
      rw [show (k + 1) * 2 = k * 2 + 1 + 1 by omega]
      simpa using this
theorem Lies.sw {w : World} {B : Nat} {A : Option Addr} {ws : List (UInt8 × ByteArray)} (h : Lies w B A (swCells ws)) {k : Nat} (hk : k < ws.length) :
    ∃ ad x y, A = some ad ∧ ad.block < B ∧ w.cell? (ad.add (k * 2)) = some (.int .u8 (x : UInt8).toNat) ∧ w.cell? ⟨(ad.add (k * 2)).block, (ad.add (k * 2)).off + 1, none⟩ = some (.string y) ∧ Hid (ws[k]? = some (x, y)) := by
  obtain ⟨h1, h2⟩ := swCells_at ws k ws[k] (List.getElem?_eq_getElem hk)
  obtain ⟨ad, e, hb, hc⟩ := h _ _ h1
  obtain ⟨ad', e', _, hc'⟩ := h _ _ h2
  rw [e] at e'
  injection e' with e'
  subst e'
  rw [addr_next] at hc'
  exact ⟨ad, ws[k].1, ws[k].2, e, hb, hc, hc', List.getElem?_eq_getElem hk⟩

/-- the swaps that were made of the first k -/
def PutRel (ws : List (UInt8 × ByteArray)) (n : Nat) (L : List (UInt8 × Int)) (B : Nat) (w0 : World) (i : Value) (wr : World) : Prop :=
  ∃ (k : Nat) (t : LT), k ≤ n ∧ i = .int .i64 (k : Int) ∧ t.ok wr wr.heap.size ∧ t.ch = swapL (ws.take k) L ∧ Whole wr B 24 #[.string t.s, .slice t.A t.n t.c] ∧ Whole wr (B + 1) 24 #[.string ⟨#[]⟩, .slice none 0 0] ∧
    Below B w0 wr ∧ (0 < k → t.s = txtOf (swapL (ws.take k) L) ∧ t.n = runN (swapL (ws.take k) L) ∧ wr.ownsRow (B + 2) 45 2 (.slice t.A t.n t.c) (runN (swapL (ws.take k) L)) (runCells (comp ((swapL (ws.take k) L).map (·.2)))))

/-- a swap, in the words of bytes with their origins -/
theorem swap_t (t : LT) (x : UInt8) (y : ByteArray) (w : World) (ht : t.ok w w.heap.size) (hs : t.s.size ≤ 4294967296) (hy : y.size ≤ 64) :
    Calls Try.prog 45 #[.agg #[.string t.s, .slice t.A t.n t.c], .int .u8 x.toNat, .string y] w (Tells (txtOf (replL (fun b => b == x) y.data.toList t.ch)) (comp ((replL (fun b => b == x) y.data.toList t.ch).map (·.2))) w) :=
  swap_any t.s y x t.A t.n t.c t.rs w ht.1 ht.2.1 hs ht.2.2.1 (Nat.le_trans (Nat.mul_le_mul hs (Nat.succ_le_succ hy)) (by decide))

set_option maxHeartbeats 2000000 in
set_option maxRecDepth 100000 in
theorem escPut_any (a : LT) (ws : List (UInt8 × ByteArray)) (D : Option Addr) (n c : Nat) (w : World) (ha : a.ok w w.heap.size) (hl : Lies w w.heap.size D (swCells ws)) (hn : ws.length = n) (hn0 : 0 < n) (hn1 : n ≤ 16) (hy : ∀ x ∈ ws, x.2.size ≤ 64) (hz : ∀ k, k ≤ n → (swapL (ws.take k) a.ch).length ≤ 4294967296) :
    Calls Try.prog 28 #[.agg #[.string a.s, .slice a.A a.n a.c], .slice D n c] w (Tells (txtOf (swapL ws a.ch)) (comp ((swapL ws a.ch).map (·.2))) w) := by
  have HN := Lib.hid hn
  have HY := Lib.hid hy
  have HZ := Lib.hid hz
  have HA := Lib.hid ha
  clear hn hy hz ha
  have HI : Hid (InR a.ch) := a.ch_in
  obtain ⟨L, hL⟩ : ∃ L, L = a.ch := ⟨_, rfl⟩
  rw [← hL] at HZ HI ⊢
  have HL := Lib.hid hL
  clear hL
  go_enter Try.func28, Try.ntmps28
  go_wp2_with fail
  generalize hw0 : (w.alloc (.cells #[.string a.s, .slice a.A a.n a.c] 24)).alloc (.cells #[.string ⟨#[]⟩, .slice none 0 0] 24) = w0
  have y0 : Whole w0 w.heap.size 24 #[.string a.s, .slice a.A a.n a.c] := by rw [← hw0]; exact (Whole.made w _ _).alloc _
  have y1 : Whole w0 (w.heap.size + 1) 24 #[.string ⟨#[]⟩, .slice none 0 0] := by
    rw [← hw0]
    have h := Whole.made (w.alloc (.cells #[.string a.s, .slice a.A a.n a.c] 24)) 24 #[.string ⟨#[]⟩, .slice none 0 0]
    simp only [World.size_alloc] at h
    exact h
  have hz0 : w0.heap.size = w.heap.size + 2 := by rw [← hw0]; simp
  have hb0 : Below w.heap.size w w0 := by rw [← hw0]; exact ((Below.refl _ _).alloc (Nat.le_refl _) _).alloc (by simp) _
  have hl0 : Lies w0 w.heap.size D (swCells ws) := hl.below hb0
  have ha0 := HA.out.next hb0 (Nat.le_refl _)
  clear hw0 hl
  have hzw : w.heap.size ≤ w0.heap.size := by omega
  go_loopw [9] (PutRel ws n L w.heap.size w0) (fun i _ => n - (intOf i).toNat)
  case atStart => exact ⟨0, a, Nat.zero_le _, rfl, ha0, HL.out.symm, y0, y1, Below.refl _ _, fun h => absurd h (Nat.lt_irrefl _)⟩
  case round =>
    obtain ⟨k, t, hk, rfl, hok, hch, hW, hZ, hbl, hown⟩ := hrel
    have hws := hbl.size
    have HOK := Lib.hid hok
    have HCH := Lib.hid hch
    have HOWN := Lib.hid hown
    clear hok hch hown
    by_cases hlt : k < n
    · obtain ⟨ad, x, y, rfl, hb, hc1, hc2, HR⟩ := (hl0.below hbl).sw (k := k) (by rw [HN.out]; exact hlt)
      have hk0 : (0 : Int) ≤ (k : Int) := Int.natCast_nonneg _
      have hk1 : (k : Int) < (n : Int) := by omega
      have d0 : wr.cell? ⟨w.heap.size, 0, none⟩ = some (.string t.s) := hW.at_ 0
      have d1 : wr.cell? ⟨w.heap.size, 1, none⟩ = some (.slice t.A t.n t.c) := hW.at_ 1
      have hwl := hW.lt
      have HE := Lib.hid (swapL_next HR.out L)
      have hyy : y.size ≤ 64 := HY.out (x, y) (List.mem_of_getElem? HR.out)
      have hts : t.s.size ≤ 4294967296 := by
        have h := HZ.out k hk
        rw [← HCH.out, LT.ch_length] at h
        exact h
      go_wp2_with fail
      refine (swap_t t x y _ (HOK.out.next ((Below.refl _ _).alloc (Nat.le_refl _) _) (Nat.le_refl _)) hts hyy).mono ?_
      rw [HCH.out, ← HE.out]
      have hRI : InR (swapL (ws.take (k + 1)) L) := HI.out.swap
      have hRZ := HZ.out (k + 1) (by omega)
      generalize hR : swapL (ws.take (k + 1)) L = R at *
      have GR := Lib.hid hR
      have HRI := Lib.hid hRI
      clear hR hRI
      rintro e w2 ⟨v, rfl, ho2, hb2⟩
      obtain ⟨A2, c2, rfl, _, _, _⟩ := own_form ho2
      simp only [World.size_alloc] at hb2 ho2
      have hz2 := hb2.size
      simp only [World.size_alloc] at hz2
      have hW2 := (hW.alloc (.cells #[.int .u8 x.toNat, .string y] 53)).below hb2 (by omega)
      have hZ2 := (hZ.alloc (.cells #[.int .u8 x.toNat, .string y] 53)).below hb2 (by omega)
      have g0 : w2.cell? ⟨w.heap.size, 0, none⟩ = some (.string t.s) := hW2.at_ 0
      have g1 : w2.cell? ⟨w.heap.size, 1, none⟩ = some (.slice t.A t.n t.c) := hW2.at_ 1
      have f0 := hW2.free 0
      have f1 := hW2.free 1
      have hbF : Below w.heap.size w0 w2 := hbl.trans (((Below.refl _ _).alloc (Nat.le_refl _) _).trans (hb2.mono (by omega)) |>.mono (by omega))
      have HO2 := Lib.hid ho2
      have hrl : (comp (R.map (·.2))).length = runN R := rfl
      rw [hrl] at HO2 ⊢
      clear ho2 hrl
      generalize hq : runN R = q at *
      have HQ := Lib.hid hq
      generalize hT : txtOf R = T at *
      have HT := Lib.hid hT
      clear hq hT
      go_wp2_with fail
      go_roundw
      case rel =>
        have hfar : (w2.setCell ⟨w.heap.size, 0, none⟩ (.string T)).setCell ⟨w.heap.size, 1, none⟩ (.slice A2 q c2) |>.ownsRow (w.heap.size + 2) 45 2 (.slice A2 q c2) q (runCells (comp (R.map (·.2)))) := by
          refine own_mono (base := wr.heap.size + 1) (own_far (own_far HO2.out _ (fun h => ?_) _) _ (fun h => ?_) _) (by omega)
          · have := (HO2.out.lt _ h).1; simp at this; omega
          · have := (HO2.out.lt _ h).1; simp at this; omega
        refine ⟨k + 1, toldT R A2 c2, by omega, by go_num, toldT_ok c2 ?_ hRZ, (toldT_ch HRI.out A2 c2).trans GR.out.symm, ?_, ?_, (hbF.setCell (p := ⟨w.heap.size, 0, none⟩) (Nat.le_refl _) _).setCell (p := ⟨w.heap.size, 1, none⟩) (Nat.le_refl _) _, fun _ => ?_⟩
        · exact Lies.own hfar
        · have h := (hW2.put 0 (.string T)).put 1 (.slice A2 q c2)
          show Whole _ _ _ #[.string (txtOf R), .slice A2 (runN R) c2]
          rw [HT.out, HQ.out]
          exact h
        · exact (hZ2.far _ (by simp) _).far _ (by simp) _
        · rw [GR.out, HQ.out]
          refine ⟨rfl, HQ.out, ?_⟩
          show World.ownsRow _ _ _ _ (.slice A2 (runN R) c2) _ _
          rw [HQ.out]
          exact hfar
      case measure => simp [intOf]; omega
    · have hkn : k = n := by omega
      subst hkn
      have HF : Hid (ws.take k = ws) := List.take_of_length_le (by rw [HN.out]; exact Nat.le_refl _)
      obtain ⟨h1, h2, h3⟩ := HOWN.out hn0
      rw [HF.out] at h1 h2 h3
      obtain ⟨s, A, m, c', rs⟩ := t
      simp only at h1 h2 h3
      have d0 : wr.cell? ⟨w.heap.size, 0, none⟩ = some (.string s) := hW.at_ 0
      have d1 : wr.cell? ⟨w.heap.size, 1, none⟩ = some (.slice A m c') := hW.at_ 1
      have d2 : wr.cell? ⟨w.heap.size + 1, 0, none⟩ = some (.string ⟨#[]⟩) := hZ.at_ 0
      have d3 : wr.cell? ⟨w.heap.size + 1, 1, none⟩ = some (.slice none 0 0) := hZ.at_ 1
      have f2 := hZ.free 0
      have f3 := hZ.free 1
      have H1 := Lib.hid h1
      have H2 := Lib.hid h2
      have H3 := Lib.hid h3
      clear h1 h2 h3
      go_wp2_with fail
      refine bodyPost_ret (v := .agg #[.string s, .slice A m c']) ?_ rfl ?_
      · simp [results, Try.results28, go_sem, d2, d3]
      · rw [H1.out, H2.out]
        have h4 := H3.out
        rw [H2.out] at h4
        exact tells_end (g := w.heap.size + 1) (by omega) h4 (hb0.trans hbl)

end Go.Proofs.Ytfmjnmijhbnnjaa.mk

namespace Go.Proofs.Ytfmjnmijhbnnjaa.mk
open Go.RowKit

theorem replL_append (f : UInt8 → Bool) (y : List UInt8) (a b : List (UInt8 × Int)) : replL f y (a ++ b) = replL f y a ++ replL f y b := by unfold replL; rw [List.flatMap_append]
theorem swapL_append (ws : List (UInt8 × ByteArray)) (a b : List (UInt8 × Int)) : swapL ws (a ++ b) = swapL ws a ++ swapL ws b := by
  induction ws generalizing a b with
  | nil => rfl
  | cons x ws ih =>
    show swapL ws (replL _ _ (a ++ b)) = swapL ws (replL _ _ a) ++ swapL ws (replL _ _ b)
    rw [replL_append, ih]
def ws4 : List (UInt8 × ByteArray) := [(38, ⟨#[38, 97, 109, 112, 59]⟩), (60, ⟨#[38, 108, 116, 59]⟩), (62, ⟨#[38, 103, 116, 59]⟩), (13, ⟨#[38, 35, 49, 51, 59]⟩)]
def ws1 : List (UInt8 × ByteArray) := [(34, ⟨#[38, 113, 117, 111, 116, 59]⟩)]
theorem swap4_one (x : UInt8 × Int) : swapL ws4 [x] = escC false x := by
  obtain ⟨b, o⟩ := x
  unfold escC escB putE
  simp only [ws4, swapL, List.foldl_cons, List.foldl_nil, replL, List.flatMap_cons, List.flatMap_nil, List.append_nil]
  by_cases h1 : b = 38
  · subst h1; rfl
  by_cases h2 : b = 60
  · subst h2; rfl
  by_cases h3 : b = 62
  · subst h3; rfl
  by_cases h4 : b = 13
  · subst h4; rfl
  simp [h1, h2, h3, h4]
theorem swap1_one (x : UInt8 × Int) : swapL ws1 (escC false x) = escC true x := by
  obtain ⟨b, o⟩ := x
  unfold escC escB putE
  by_cases h1 : b = 38
  · subst h1; rfl
  by_cases h2 : b = 60
  · subst h2; rfl
  by_cases h3 : b = 62
  · subst h3; rfl
  by_cases h4 : b = 13
  · subst h4; rfl
  by_cases h5 : b = 34
  · subst h5; rfl
  simp [h1, h2, h3, h4, h5, ws1, swapL, replL]
theorem swap4 (l : List (UInt8 × Int)) : swapL ws4 l = escL false l := by
  induction l with
  | nil => rfl
  | cons x l ih => rw [show x :: l = [x] ++ l from rfl, swapL_append, swap4_one, ih]; rfl
theorem swap1 (l : List (UInt8 × Int)) : swapL ws1 (escL false l) = escL true l := by
  induction l with
  | nil => rfl
  | cons x l ih => rw [escL_cons, swapL_append, swap1_one, ih]; rfl
theorem swapL_len (ws : List (UInt8 × ByteArray)) (m : Nat) (h : ∀ x ∈ ws, x.2.size ≤ m) (l : List (UInt8 × Int)) : (swapL ws l).length ≤ l.length * (m + 1) ^ ws.length := by
  induction ws generalizing l with
  | nil => simp [swapL]
  | cons x ws ih =>
    have h1 := ih (fun y hy => h y (List.mem_cons_of_mem _ hy)) (replL (fun b => b == x.1) x.2.data.toList l)
    have h2 := replL_length (fun b => b == x.1) x.2.data.toList l
    have h3 : x.2.data.toList.length ≤ m := by rw [Array.length_toList]; exact h x List.mem_cons_self
    refine Nat.le_trans h1 ?_
    rw [List.length_cons, Nat.pow_succ]
    refine Nat.le_trans (Nat.mul_le_mul_right _ (Nat.le_trans h2 (Nat.mul_le_mul_left _ (Nat.succ_le_succ h3)))) ?_
    rw [Nat.mul_assoc, Nat.mul_comm ((m + 1) ^ ws.length) (m + 1)]
    exact Nat.le_refl _

theorem lies_whole {W : World} {g : Nat} {t : TypeId} {cs : List Value} (h : Whole W g t cs.toArray) : Lies W W.heap.size (some ⟨g, 0, none⟩) cs := by
  intro j u hu
  refine ⟨_, rfl, h.lt, ?_⟩
  have hadd : (⟨g, 0, none⟩ : Addr).add j = ⟨g, j, none⟩ := by unfold Addr.add; split <;> simp_all
  rw [hadd, h.at_ j]
  simpa using hu

set_option maxHeartbeats 1000000 in
set_option maxRecDepth 100000 in
theorem words_any (a : LT) (w : World) (ha : a.ok w w.heap.size) (hs : a.s.size ≤ 3000000) :
    Calls Try.prog 13 #[.agg #[.string a.s, .slice a.A a.n a.c]] w (Tells (txtOf (escL false a.ch)) (comp ((escL false a.ch).map (·.2))) w) := by
  have HA := Lib.hid ha
  have hlen : a.ch.length = a.s.size := LT.ch_length a
  have HZ : Hid (∀ k, k ≤ 4 → (swapL (ws4.take k) a.ch).length ≤ 4294967296) := fun k hk => by
    have h := swapL_len (ws4.take k) 5 (fun x hx => by
      have hx := List.mem_of_mem_take hx
      simp only [ws4, List.mem_cons, List.not_mem_nil, or_false] at hx
      rcases hx with rfl | rfl | rfl | rfl <;> decide) a.ch
    have h2 : (ws4.take k).length ≤ 4 := by rw [List.length_take]; omega
    have h3 : (5 + 1) ^ (ws4.take k).length ≤ (5 + 1) ^ 4 := Nat.pow_le_pow_right (by omega) h2
    refine Nat.le_trans h (Nat.le_trans (Nat.mul_le_mul (by rw [hlen]; exact hs) h3) (by decide))
  clear ha hlen
  go_enter Try.func13, Try.ntmps13
  go_wp2_with fail
  generalize hw3 : ((w.alloc (.cells #[.string a.s, .slice a.A a.n a.c] 24)).alloc (.cells #[.string ⟨#[]⟩, .slice none 0 0] 24)).alloc (.cells #[.int .u8 38, .string ⟨#[38, 97, 109, 112, 59]⟩, .int .u8 60, .string ⟨#[38, 108, 116, 59]⟩, .int .u8 62, .string ⟨#[38, 103, 116, 59]⟩, .int .u8 13, .string ⟨#[38, 35, 49, 51, 59]⟩] 53) = w3
  have y1 : Whole w3 (w.heap.size + 1) 24 #[.string ⟨#[]⟩, .slice none 0 0] := by
    rw [← hw3]
    have h := (Whole.made (w.alloc (.cells #[.string a.s, .slice a.A a.n a.c] 24)) 24 #[.string ⟨#[]⟩, .slice none 0 0]).alloc (.cells #[.int .u8 38, .string ⟨#[38, 97, 109, 112, 59]⟩, .int .u8 60, .string ⟨#[38, 108, 116, 59]⟩, .int .u8 62, .string ⟨#[38, 103, 116, 59]⟩, .int .u8 13, .string ⟨#[38, 35, 49, 51, 59]⟩] 53)
    simp only [World.size_alloc] at h
    exact h
  have y2 : Whole w3 (w.heap.size + 1 + 1) 53 (swCells ws4).toArray := by
    rw [← hw3]
    have h := Whole.made ((w.alloc (.cells #[.string a.s, .slice a.A a.n a.c] 24)).alloc (.cells #[.string ⟨#[]⟩, .slice none 0 0] 24)) 53 (swCells ws4).toArray
    simp only [World.size_alloc] at h
    exact h
  have hz3 : w3.heap.size = w.heap.size + 3 := by rw [← hw3]; simp
  have hb3 : Below w.heap.size w w3 := by rw [← hw3]; exact (((Below.refl _ _).alloc (Nat.le_refl _) _).alloc (by simp) _).alloc (by simp; omega) _
  clear hw3
  refine (escPut_any a ws4 (some ⟨w.heap.size + 1 + 1, 0, none⟩) 4 4 w3 (HA.out.next hb3 (Nat.le_refl _)) (lies_whole y2) rfl (by decide) (by decide) (fun x hx => by
    simp only [ws4, List.mem_cons, List.not_mem_nil, or_false] at hx
    rcases hx with rfl | rfl | rfl | rfl <;> decide) HZ.out).mono ?_
  rw [swap4]
  generalize hT : escL false a.ch = T at *
  generalize hq : comp (T.map (·.2)) = q at *
  generalize hst : txtOf T = st at *
  have HT := Lib.hid hT
  have HQ := Lib.hid hq
  have HS := Lib.hid hst
  clear hT hq hst
  rintro e w4 ⟨v, rfl, hown, hb4⟩
  obtain ⟨A2, c2, rfl, _, _, _⟩ := own_form hown
  have hW := y1.below hb4 y1.lt
  have f0 := hW.free 0
  have f1 := hW.free 1
  have d0 : w4.cell? ⟨w.heap.size + 1, 0, none⟩ = some (.string ⟨#[]⟩) := hW.at_ 0
  have d1 : w4.cell? ⟨w.heap.size + 1, 1, none⟩ = some (.slice none 0 0) := hW.at_ 1
  have HO := Lib.hid hown
  clear hown
  go_wp2
  refine bodyPost_ret (v := .agg #[.string st, .slice A2 q.length c2]) ?_ rfl ?_
  · simp [results, Try.results13, go_sem, d0, d1]
  · rw [HT.out, HQ.out, HS.out]
    exact tells_end (g := w.heap.size + 1) (by omega) (own_mono HO.out (by omega)) (below_next hb3 (Nat.le_refl _) hb4)

set_option maxHeartbeats 1000000 in
set_option maxRecDepth 100000 in
theorem value_any (a : LT) (w : World) (ha : a.ok w w.heap.size) (hs : a.s.size ≤ 3000000) :
    Calls Try.prog 14 #[.agg #[.string a.s, .slice a.A a.n a.c]] w (Tells (txtOf (escL true a.ch)) (comp ((escL true a.ch).map (·.2))) w) := by
  have HA := Lib.hid ha
  have hlen : a.ch.length = a.s.size := LT.ch_length a
  have hle := (escL_len false a.ch).2
  have hLs : (escL false a.ch).length ≤ 18000000 := by omega
  have HI : Hid (InR (escL false a.ch)) := a.ch_in.esc
  have HSW : Hid (swapL ws1 (escL false a.ch) = escL true a.ch) := swap1 _
  clear ha hle
  go_enter Try.func14, Try.ntmps14
  go_wp2_with fail
  generalize hw3 : (w.alloc (.cells #[.string a.s, .slice a.A a.n a.c] 24)).alloc (.cells #[.string ⟨#[]⟩, .slice none 0 0] 24) = w3
  have y1 : Whole w3 (w.heap.size + 1) 24 #[.string ⟨#[]⟩, .slice none 0 0] := by
    rw [← hw3]
    have h := Whole.made (w.alloc (.cells #[.string a.s, .slice a.A a.n a.c] 24)) 24 #[.string ⟨#[]⟩, .slice none 0 0]
    simp only [World.size_alloc] at h
    exact h
  have hz3 : w3.heap.size = w.heap.size + 2 := by rw [← hw3]; simp
  have hb3 : Below w.heap.size w w3 := by rw [← hw3]; exact ((Below.refl _ _).alloc (Nat.le_refl _) _).alloc (by simp) _
  clear hw3
  refine (words_any a w3 (HA.out.next hb3 (Nat.le_refl _)) hs).mono ?_
  generalize hL : escL false a.ch = L at *
  have hrn := runN_le L
  have hqr : (comp (L.map (·.2))).length = runN L := rfl
  rintro e w4 ⟨v, rfl, hown, hb4⟩
  obtain ⟨A2, c2, rfl, _, _, _⟩ := own_form hown
  rw [hqr] at hown ⊢
  have hlie := Lies.own hown
  have HLI := Lib.hid hlie
  clear hown hqr hlie
  have hy4 := y1.below hb4 y1.lt
  have hz4 := hb4.size
  generalize hq : runN L = q at *
  generalize hst : txtOf L = st at *
  have HQ := Lib.hid hq
  have HS := Lib.hid hst
  clear hq hst
  go_wp2_with fail
  generalize hw5 : w4.alloc (.cells #[.int .u8 34, .string ⟨#[38, 113, 117, 111, 116, 59]⟩] 53) = w5
  have y2 : Whole w5 w4.heap.size 53 (swCells ws1).toArray := by
    rw [← hw5]
    exact Whole.made w4 53 (swCells ws1).toArray
  have hb5 : Below w4.heap.size w4 w5 := by rw [← hw5]; exact (Below.refl _ _).alloc (Nat.le_refl _) _
  have hz5 : w5.heap.size = w4.heap.size + 1 := by rw [← hw5]; simp
  have hy5 := hy4.below hb5 hy4.lt
  clear hw5
  have hP := escPut_any (toldT L A2 c2) ws1 (some ⟨w4.heap.size, 0, none⟩) 1 1 w5 (toldT_ok c2 (HLI.out.next hb5 (Nat.le_refl _)) (by omega)) (lies_whole y2) rfl (by decide) (by decide) (fun x hx => by
    simp only [ws1, List.mem_cons, List.not_mem_nil, or_false] at hx
    subst hx
    decide) (fun k hk => by
      rw [toldT_ch HI.out]
      have h := swapL_len (ws1.take k) 6 (fun x hx => by
        have hx := List.mem_of_mem_take hx
        simp only [ws1, List.mem_cons, List.not_mem_nil, or_false] at hx
        subst hx
        decide) L
      have h2 : (ws1.take k).length ≤ 1 := by rw [List.length_take]; omega
      have h3 : (6 + 1) ^ (ws1.take k).length ≤ (6 + 1) ^ 1 := Nat.pow_le_pow_right (by omega) h2
      refine Nat.le_trans h (Nat.le_trans (Nat.mul_le_mul hLs h3) (by decide)))
  rw [toldT_ch HI.out, HSW.out] at hP
  have HP : Hid (Calls Try.prog 28 #[.agg #[.string st, .slice A2 q c2], .slice (some ⟨w4.heap.size, 0, none⟩) 1 1] w5 (Tells (txtOf (escL true a.ch)) (comp ((escL true a.ch).map (·.2))) w5)) := by
    rw [← HS.out, ← HQ.out]
    exact hP
  clear hP
  refine HP.out.mono ?_
  generalize hT : escL true a.ch = T at *
  generalize hq : comp (T.map (·.2)) = r at *
  generalize hst : txtOf T = sv at *
  have HT := Lib.hid hT
  have HR := Lib.hid hq
  have HV := Lib.hid hst
  clear hT hq hst
  rintro e w6 ⟨v, rfl, hown, hb6⟩
  obtain ⟨A3, c3, rfl, _, _, _⟩ := own_form hown
  have hW := hy5.below hb6 hy5.lt
  have f0 := hW.free 0
  have f1 := hW.free 1
  have d0 : w6.cell? ⟨w.heap.size + 1, 0, none⟩ = some (.string ⟨#[]⟩) := hW.at_ 0
  have d1 : w6.cell? ⟨w.heap.size + 1, 1, none⟩ = some (.slice none 0 0) := hW.at_ 1
  have HO := Lib.hid hown
  clear hown
  go_wp2
  refine bodyPost_ret (v := .agg #[.string sv, .slice A3 r.length c3]) ?_ rfl ?_
  · simp [results, Try.results14, go_sem, d0, d1]
  · rw [HT.out, HR.out, HV.out]
    exact tells_end (g := w.heap.size + 1) (by omega) (own_mono HO.out (by omega)) (below_next (below_next (below_next hb3 (Nat.le_refl _) hb4) (Nat.le_refl _) hb5) (Nat.le_refl _) hb6)

end Go.Proofs.Ytfmjnmijhbnnjaa.mk

namespace Go.Proofs.Ytfmjnmijhbnnjaa.mk
open Go.RowKit

theorem escL_fst (v : Bool) (l : List (UInt8 × Int)) : (escL v l).map (·.1) = (l.map (·.1)).flatMap (escB v) := by
  induction l with
  | nil => rfl
  | cons x l ih =>
    rw [escL_cons, List.map_append, ih, List.map_cons, List.flatMap_cons]
    congr 1
    exact putE_fst _ _

set_option maxHeartbeats 1000000 in
set_option maxRecDepth 100000 in
theorem alive9_any (w : World) : Calls Try.prog 6 #[] w fun e w' => e = .returned (.bool true) ∧ Below w.heap.size w w' := by
  go_enter Try.func6, Try.ntmps6
  go_wp2_with fail
  refine (of_any ⟨#[97, 60, 98]⟩ 0 _ (by show (3 : Nat) ≤ _; omega)).mono ?_
  rintro e w1 ⟨v1, rfl, ho1, hb1⟩
  obtain ⟨A1, c1, rfl, _, _, _⟩ := own_form ho1
  have hlen : (comp (List.replicate (ByteArray.mk #[97, 60, 98]).size (nearO 0))).length ≤ 3 := by
    have := comp_length_le (List.replicate (ByteArray.mk #[97, 60, 98]).size (nearO 0))
    rw [List.length_replicate] at this
    exact this
  generalize hq : comp (List.replicate (ByteArray.mk #[97, 60, 98]).size (nearO 0)) = q at *
  clear hq
  have HLI : Hid (txtOf (escL false (LT.ch ⟨⟨#[97, 60, 98]⟩, A1, q.length, c1, q⟩)) = ⟨#[97, 38, 108, 116, 59, 98]⟩) := by
    show txtOf _ = _
    unfold txtOf
    rw [escL_fst, LT.ch_fst]
    show (⟨(([97, 60, 98] : List UInt8).flatMap (escB false)).toArray⟩ : ByteArray) = _
    decide
  go_wp2_with fail
  refine (words_any ⟨⟨#[97, 60, 98]⟩, A1, q.length, c1, q⟩ _ ⟨Lies.own ho1, rfl, by show q.length ≤ _; omega, by show (3 : Nat) ≤ _; omega⟩ (by show (3 : Nat) ≤ _; omega)).mono ?_
  rw [HLI.out]
  generalize comp ((escL false (LT.ch ⟨⟨#[97, 60, 98]⟩, A1, q.length, c1, q⟩)).map (·.2)) = q2
  rintro e w2 ⟨v2, rfl, ho2, hb2⟩
  obtain ⟨A2, c2, rfl, _, _, _⟩ := own_form ho2
  have ft := fun w' => field_text ⟨#[97, 38, 108, 116, 59, 98]⟩ A2 q2.length c2 w'
  go_wp2_with fail
  go_ret
  exact ⟨rfl, below_next hb1 (Nat.le_refl _) hb2⟩

end Go.Proofs.Ytfmjnmijhbnnjaa.mk
