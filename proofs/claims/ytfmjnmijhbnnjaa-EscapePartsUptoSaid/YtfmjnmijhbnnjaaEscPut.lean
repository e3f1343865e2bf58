/-
  The contract of escape's put: swaps made in a labelled text, one after the other.
-/
import Derived.Test.YtfmjnmijhbnnjaaFoldReplace
import Derived.Test.YtfmjnmijhbnnjaaLtCh
import Derived.Test.YtfmjnmijhbnnjaaTold
import Derived.Deep.DeepCutAuto
namespace Go.Proofs.Ytfmjnmijhbnnjaa.mk
open Go.RowKit

def swapL (ws : List (UInt8 × ByteArray)) (l : List (UInt8 × Int)) : List (UInt8 × Int) := ws.foldl (fun l x => replL (fun b => b == x.1) x.2.data.toList l) l
theorem swapL_next {ws : List (UInt8 × ByteArray)} {k : Nat} {x : UInt8 × ByteArray} (h : ws[k]? = some x) (l : List (UInt8 × Int)) : swapL (ws.take (k + 1)) l = replL (fun b => b == x.1) x.2.data.toList (swapL (ws.take k) l) := by
  rw [take_next h]
  unfold swapL
  rw [List.foldl_append]
  rfl
theorem InR.repl {f : UInt8 → Bool} {y : List UInt8} {l : List (UInt8 × Int)} (h : InR l) : InR (replL f y l) := by
  intro o ho
  obtain ⟨x, hx, rfl⟩ := List.mem_map.1 ho
  obtain ⟨z, hz, hx⟩ := List.mem_flatMap.1 hx
  have hz2 : z.2 ∈ l.map (·.2) := List.mem_map.2 ⟨z, hz, rfl⟩
  split at hx
  · obtain ⟨b, _, rfl⟩ := List.mem_map.1 hx
    exact h _ hz2
  · simp only [List.mem_cons, List.not_mem_nil, or_false] at hx
    subst hx
    exact h _ hz2
theorem InR.swap {ws : List (UInt8 × ByteArray)} {l : List (UInt8 × Int)} (h : InR l) : InR (swapL ws l) := by
  induction ws generalizing l with
  | nil => exact h
  | cons x ws ih => exact ih h.repl

def swCells (ws : List (UInt8 × ByteArray)) : List Value := ws.flatMap fun x => [.int .u8 x.1.toNat, .string x.2]
theorem swCells_at (ws : List (UInt8 × ByteArray)) (k : Nat) (x : UInt8 × ByteArray) (h : ws[k]? = some x) : (swCells ws)[k * 2]? = some (.int .u8 x.1.toNat) ∧ (swCells ws)[k * 2 + 1]? = some (.string x.2) := by
  induction ws generalizing k with
  | nil => simp at h
  | cons z ws ih =>
    have e : swCells (z :: ws) = .int .u8 z.1.toNat :: .string z.2 :: swCells ws := rfl
    rw [e]
    cases k with
    | zero => simp at h; subst h; simp
    | succ k =>
      have := ih k (by simpa using h)
      rw [show (k + 1) * 2 = k * 2 + 1 + 1 by omega]
      simpa using this
theorem Lies.sw {w : World} {B : Nat} {A : Option Addr} {ws : List (UInt8 × ByteArray)} (h : Lies w B A (swCells ws)) {k : Nat} (hk : k < ws.length) :
    ∃ ad x y, A = some ad ∧ ad.block < B ∧ w.cell? (ad.add (k * 2)) = some (.int .u8 (x : UInt8).toNat) ∧ w.cell? ⟨(ad.add (k * 2)).block, (ad.add (k * 2)).off + 1, none⟩ = some (.string y) ∧ Hid (ws[k]? = some (x, y)) := by
  obtain ⟨h1, h2⟩ := swCells_at ws k ws[k] (List.getElem?_eq_getElem hk)
  obtain ⟨ad, e, hb, hc⟩ := h _ _ h1
  obtain ⟨ad', e', _, hc'⟩ := h _ _ h2
  rw [e] at e'
  injection e' with e'
  subst e'
  rw [addr_next] at hc'
  exact ⟨ad, ws[k].1, ws[k].2, e, hb, hc, hc', List.getElem?_eq_getElem hk⟩

/-- the swaps that were made of the first k -/
def PutRel (ws : List (UInt8 × ByteArray)) (n : Nat) (L : List (UInt8 × Int)) (B : Nat) (w0 : World) (i : Value) (wr : World) : Prop :=
  ∃ (k : Nat) (t : LT), k ≤ n ∧ i = .int .i64 (k : Int) ∧ t.ok wr wr.heap.size ∧ t.ch = swapL (ws.take k) L ∧ Whole wr B 24 #[.string t.s, .slice t.A t.n t.c] ∧ Whole wr (B + 1) 24 #[.string ⟨#[]⟩, .slice none 0 0] ∧
    Below B w0 wr ∧ (0 < k → t.s = txtOf (swapL (ws.take k) L) ∧ t.n = runN (swapL (ws.take k) L) ∧ wr.ownsRow (B + 2) 45 2 (.slice t.A t.n t.c) (runN (swapL (ws.take k) L)) (runCells (comp ((swapL (ws.take k) L).map (·.2)))))

/-- a swap, in the words of bytes with their origins -/
theorem swap_t (t : LT) (x : UInt8) (y : ByteArray) (w : World) (ht : t.ok w w.heap.size) (hs : t.s.size ≤ 4294967296) (hy : y.size ≤ 64) :
    Calls Try.prog 45 #[.agg #[.string t.s, .slice t.A t.n t.c], .int .u8 x.toNat, .string y] w (Tells (txtOf (replL (fun b => b == x) y.data.toList t.ch)) (comp ((replL (fun b => b == x) y.data.toList t.ch).map (·.2))) w) :=
  swap_any t.s y x t.A t.n t.c t.rs w ht.1 ht.2.1 hs ht.2.2.1 (Nat.le_trans (Nat.mul_le_mul hs (Nat.succ_le_succ hy)) (by decide))

set_option maxHeartbeats 2000000 in
set_option maxRecDepth 100000 in
theorem escPut_any (a : LT) (ws : List (UInt8 × ByteArray)) (D : Option Addr) (n c : Nat) (w : World) (ha : a.ok w w.heap.size) (hl : Lies w w.heap.size D (swCells ws)) (hn : ws.length = n) (hn0 : 0 < n) (hn1 : n ≤ 16) (hy : ∀ x ∈ ws, x.2.size ≤ 64) (hz : ∀ k, k ≤ n → (swapL (ws.take k) a.ch).length ≤ 4294967296) :
    Calls Try.prog 28 #[.agg #[.string a.s, .slice a.A a.n a.c], .slice D n c] w (Tells (txtOf (swapL ws a.ch)) (comp ((swapL ws a.ch).map (·.2))) w) := by
  have HN := Lib.hid hn
  have HY := Lib.hid hy
  have HZ := Lib.hid hz
  have HA := Lib.hid ha
  clear hn hy hz ha
  have HI : Hid (InR a.ch) := a.ch_in
  obtain ⟨L, hL⟩ : ∃ L, L = a.ch := ⟨_, rfl⟩
  rw [← hL] at HZ HI ⊢
  have HL := Lib.hid hL
  clear hL
  go_enter Try.func28, Try.ntmps28
  go_wp2_with fail
  generalize hw0 : (w.alloc (.cells #[.string a.s, .slice a.A a.n a.c] 24)).alloc (.cells #[.string ⟨#[]⟩, .slice none 0 0] 24) = w0
  have y0 : Whole w0 w.heap.size 24 #[.string a.s, .slice a.A a.n a.c] := by rw [← hw0]; exact (Whole.made w _ _).alloc _
  have y1 : Whole w0 (w.heap.size + 1) 24 #[.string ⟨#[]⟩, .slice none 0 0] := by
    rw [← hw0]
    have h := Whole.made (w.alloc (.cells #[.string a.s, .slice a.A a.n a.c] 24)) 24 #[.string ⟨#[]⟩, .slice none 0 0]
    simp only [World.size_alloc] at h
    exact h
  have hz0 : w0.heap.size = w.heap.size + 2 := by rw [← hw0]; simp
  have hb0 : Below w.heap.size w w0 := by rw [← hw0]; exact ((Below.refl _ _).alloc (Nat.le_refl _) _).alloc (by simp) _
  have hl0 : Lies w0 w.heap.size D (swCells ws) := hl.below hb0
  have ha0 := HA.out.next hb0 (Nat.le_refl _)
  clear hw0 hl
  have hzw : w.heap.size ≤ w0.heap.size := by omega
  go_loopw [9] (PutRel ws n L w.heap.size w0) (fun i _ => n - (intOf i).toNat)
  case atStart => exact ⟨0, a, Nat.zero_le _, rfl, ha0, HL.out.symm, y0, y1, Below.refl _ _, fun h => absurd h (Nat.lt_irrefl _)⟩
  case round =>
    obtain ⟨k, t, hk, rfl, hok, hch, hW, hZ, hbl, hown⟩ := hrel
    have hws := hbl.size
    have HOK := Lib.hid hok
    have HCH := Lib.hid hch
    have HOWN := Lib.hid hown
    clear hok hch hown
    by_cases hlt : k < n
    · obtain ⟨ad, x, y, rfl, hb, hc1, hc2, HR⟩ := (hl0.below hbl).sw (k := k) (by rw [HN.out]; exact hlt)
      have hk0 : (0 : Int) ≤ (k : Int) := Int.natCast_nonneg _
      have hk1 : (k : Int) < (n : Int) := by omega
      have d0 : wr.cell? ⟨w.heap.size, 0, none⟩ = some (.string t.s) := hW.at_ 0
      have d1 : wr.cell? ⟨w.heap.size, 1, none⟩ = some (.slice t.A t.n t.c) := hW.at_ 1
      have hwl := hW.lt
      have HE := Lib.hid (swapL_next HR.out L)
      have hyy : y.size ≤ 64 := HY.out (x, y) (List.mem_of_getElem? HR.out)
      have hts : t.s.size ≤ 4294967296 := by
        have h := HZ.out k hk
        rw [← HCH.out, LT.ch_length] at h
        exact h
      go_wp2_with fail
      refine (swap_t t x y _ (HOK.out.next ((Below.refl _ _).alloc (Nat.le_refl _) _) (Nat.le_refl _)) hts hyy).mono ?_
      rw [HCH.out, ← HE.out]
      have hRI : InR (swapL (ws.take (k + 1)) L) := HI.out.swap
      have hRZ := HZ.out (k + 1) (by omega)
      generalize hR : swapL (ws.take (k + 1)) L = R at *
      have GR := Lib.hid hR
      have HRI := Lib.hid hRI
      clear hR hRI
      rintro e w2 ⟨v, rfl, ho2, hb2⟩
      obtain ⟨A2, c2, rfl, _, _, _⟩ := own_form ho2
      simp only [World.size_alloc] at hb2 ho2
      have hz2 := hb2.size
      simp only [World.size_alloc] at hz2
      have hW2 := (hW.alloc (.cells #[.int .u8 x.toNat, .string y] 53)).below hb2 (by omega)
      have hZ2 := (hZ.alloc (.cells #[.int .u8 x.toNat, .string y] 53)).below hb2 (by omega)
      have g0 : w2.cell? ⟨w.heap.size, 0, none⟩ = some (.string t.s) := hW2.at_ 0
      have g1 : w2.cell? ⟨w.heap.size, 1, none⟩ = some (.slice t.A t.n t.c) := hW2.at_ 1
      have f0 := hW2.free 0
      have f1 := hW2.free 1
      have hbF : Below w.heap.size w0 w2 := hbl.trans (((Below.refl _ _).alloc (Nat.le_refl _) _).trans (hb2.mono (by omega)) |>.mono (by omega))
      have HO2 := Lib.hid ho2
      have hrl : (comp (R.map (·.2))).length = runN R := rfl
      rw [hrl] at HO2 ⊢
      clear ho2 hrl
      generalize hq : runN R = q at *
      have HQ := Lib.hid hq
      generalize hT : txtOf R = T at *
      have HT := Lib.hid hT
      clear hq hT
      go_wp2_with fail
      go_roundw
      case rel =>
        have hfar : (w2.setCell ⟨w.heap.size, 0, none⟩ (.string T)).setCell ⟨w.heap.size, 1, none⟩ (.slice A2 q c2) |>.ownsRow (w.heap.size + 2) 45 2 (.slice A2 q c2) q (runCells (comp (R.map (·.2)))) := by
          refine own_mono (base := wr.heap.size + 1) (own_far (own_far HO2.out _ (fun h => ?_) _) _ (fun h => ?_) _) (by omega)
          · have := (HO2.out.lt _ h).1; simp at this; omega
          · have := (HO2.out.lt _ h).1; simp at this; omega
        refine ⟨k + 1, toldT R A2 c2, by omega, by go_num, toldT_ok c2 ?_ hRZ, (toldT_ch HRI.out A2 c2).trans GR.out.symm, ?_, ?_, (hbF.setCell (p := ⟨w.heap.size, 0, none⟩) (Nat.le_refl _) _).setCell (p := ⟨w.heap.size, 1, none⟩) (Nat.le_refl _) _, fun _ => ?_⟩
        · exact Lies.own hfar
        · have h := (hW2.put 0 (.string T)).put 1 (.slice A2 q c2)
          show Whole _ _ _ #[.string (txtOf R), .slice A2 (runN R) c2]
          rw [HT.out, HQ.out]
          exact h
        · exact (hZ2.far _ (by simp) _).far _ (by simp) _
        · rw [GR.out, HQ.out]
          refine ⟨rfl, HQ.out, ?_⟩
          show World.ownsRow _ _ _ _ (.slice A2 (runN R) c2) _ _
          rw [HQ.out]
          exact hfar
      case measure => simp [intOf]; omega
    · have hkn : k = n := by omega
      subst hkn
      have HF : Hid (ws.take k = ws) := List.take_of_length_le (by rw [HN.out]; exact Nat.le_refl _)
      obtain ⟨h1, h2, h3⟩ := HOWN.out hn0
      rw [HF.out] at h1 h2 h3
      obtain ⟨s, A, m, c', rs⟩ := t
      simp only at h1 h2 h3
      have d0 : wr.cell? ⟨w.heap.size, 0, none⟩ = some (.string s) := hW.at_ 0
      have d1 : wr.cell? ⟨w.heap.size, 1, none⟩ = some (.slice A m c') := hW.at_ 1
      have d2 : wr.cell? ⟨w.heap.size + 1, 0, none⟩ = some (.string ⟨#[]⟩) := hZ.at_ 0
      have d3 : wr.cell? ⟨w.heap.size + 1, 1, none⟩ = some (.slice none 0 0) := hZ.at_ 1
      have f2 := hZ.free 0
      have f3 := hZ.free 1
      have H1 := Lib.hid h1
      have H2 := Lib.hid h2
      have H3 := Lib.hid h3
      clear h1 h2 h3
      go_wp2_with fail
      refine bodyPost_ret (v := .agg #[.string s, .slice A m c']) ?_ rfl ?_
      · simp [results, Try.results28, go_sem, d2, d3]
      · rw [H1.out, H2.out]
        have h4 := H3.out
        rw [H2.out] at h4
        exact tells_end (g := w.heap.size + 1) (by omega) h4 (hb0.trans hbl)

end Go.Proofs.Ytfmjnmijhbnnjaa.mk
