/-
  The contracts of escape's Words and Value.
-/
import Derived.Test.YtfmjnmijhbnnjaaEscPut
import Derived.Test.YtfmjnmijhbnnjaaEscPure
namespace Go.Proofs.Ytfmjnmijhbnnjaa.mk
open Go.RowKit

theorem replL_append (f : UInt8 → Bool) (y : List UInt8) (a b : List (UInt8 × Int)) : replL f y (a ++ b) = replL f y a ++ replL f y b := by unfold replL; rw [List.flatMap_append]
theorem swapL_append (ws : List (UInt8 × ByteArray)) (a b : List (UInt8 × Int)) : swapL ws (a ++ b) = swapL ws a ++ swapL ws b := by
  induction ws generalizing a b with
  | nil => rfl
  | cons x ws ih =>
    show swapL ws (replL _ _ (a ++ b)) = swapL ws (replL _ _ a) ++ swapL ws (replL _ _ b)
    rw [replL_append, ih]
def ws4 : List (UInt8 × ByteArray) := [(38, ⟨#[38, 97, 109, 112, 59]⟩), (60, ⟨#[38, 108, 116, 59]⟩), (62, ⟨#[38, 103, 116, 59]⟩), (13, ⟨#[38, 35, 49, 51, 59]⟩)]
def ws1 : List (UInt8 × ByteArray) := [(34, ⟨#[38, 113, 117, 111, 116, 59]⟩)]
theorem swap4_one (x : UInt8 × Int) : swapL ws4 [x] = escC false x := by
  obtain ⟨b, o⟩ := x
  unfold escC escB putE
  simp only [ws4, swapL, List.foldl_cons, List.foldl_nil, replL, List.flatMap_cons, List.flatMap_nil, List.append_nil]
  by_cases h1 : b = 38
  · subst h1; rfl
  by_cases h2 : b = 60
  · subst h2; rfl
  by_cases h3 : b = 62
  · subst h3; rfl
  by_cases h4 : b = 13
  · subst h4; rfl
  simp [h1, h2, h3, h4]
theorem swap1_one (x : UInt8 × Int) : swapL ws1 (escC false x) = escC true x := by
  obtain ⟨b, o⟩ := x
  unfold escC escB putE
  by_cases h1 : b = 38
  · subst h1; rfl
  by_cases h2 : b = 60
  · subst h2; rfl
  by_cases h3 : b = 62
  · subst h3; rfl
  by_cases h4 : b = 13
  · subst h4; rfl
  by_cases h5 : b = 34
  · subst h5; rfl
  simp [h1, h2, h3, h4, h5, ws1, swapL, replL]
theorem swap4 (l : List (UInt8 × Int)) : swapL ws4 l = escL false l := by
  induction l with
  | nil => rfl
  | cons x l ih => rw [show x :: l = [x] ++ l from rfl, swapL_append, swap4_one, ih]; rfl
theorem swap1 (l : List (UInt8 × Int)) : swapL ws1 (escL false l) = escL true l := by
  induction l with
  | nil => rfl
  | cons x l ih => rw [escL_cons, swapL_append, swap1_one, ih]; rfl
theorem swapL_len (ws : List (UInt8 × ByteArray)) (m : Nat) (h : ∀ x ∈ ws, x.2.size ≤ m) (l : List (UInt8 × Int)) : (swapL ws l).length ≤ l.length * (m + 1) ^ ws.length := by
  induction ws generalizing l with
  | nil => simp [swapL]
  | cons x ws ih =>
    have h1 := ih (fun y hy => h y (List.mem_cons_of_mem _ hy)) (replL (fun b => b == x.1) x.2.data.toList l)
    have h2 := replL_length (fun b => b == x.1) x.2.data.toList l
    have h3 : x.2.data.toList.length ≤ m := by rw [Array.length_toList]; exact h x List.mem_cons_self
    refine Nat.le_trans h1 ?_
    rw [List.length_cons, Nat.pow_succ]
    refine Nat.le_trans (Nat.mul_le_mul_right _ (Nat.le_trans h2 (Nat.mul_le_mul_left _ (Nat.succ_le_succ h3)))) ?_
    rw [Nat.mul_assoc, Nat.mul_comm ((m + 1) ^ ws.length) (m + 1)]
    exact Nat.le_refl _

theorem lies_whole {W : World} {g : Nat} {t : TypeId} {cs : List Value} (h : Whole W g t cs.toArray) : Lies W W.heap.size (some ⟨g, 0, none⟩) cs := by
  intro j u hu
  refine ⟨_, rfl, h.lt, ?_⟩
  have hadd : (⟨g, 0, none⟩ : Addr).add j = ⟨g, j, none⟩ := by unfold Addr.add; split <;> simp_all
  rw [hadd, h.at_ j]
  simpa using hu

set_option maxHeartbeats 1000000 in
set_option maxRecDepth 100000 in
theorem words_any (a : LT) (w : World) (ha : a.ok w w.heap.size) (hs : a.s.size ≤ 3000000) :
    Calls Try.prog 13 #[.agg #[.string a.s, .slice a.A a.n a.c]] w (Tells (txtOf (escL false a.ch)) (comp ((escL false a.ch).map (·.2))) w) := by
  have HA := Lib.hid ha
  have hlen : a.ch.length = a.s.size := LT.ch_length a
  have HZ : Hid (∀ k, k ≤ 4 → (swapL (ws4.take k) a.ch).length ≤ 4294967296) := fun k hk => by
    have h := swapL_len (ws4.take k) 5 (fun x hx => by
      have hx := List.mem_of_mem_take hx
      simp only [ws4, List.mem_cons, List.not_mem_nil, or_false] at hx
      rcases hx with rfl | rfl | rfl | rfl <;> decide) a.ch
    have h2 : (ws4.take k).length ≤ 4 := by rw [List.length_take]; omega
    have h3 : (5 + 1) ^ (ws4.take k).length ≤ (5 + 1) ^ 4 := Nat.pow_le_pow_right (by omega) h2
    refine Nat.le_trans h (Nat.le_trans (Nat.mul_le_mul (by rw [hlen]; exact hs) h3) (by decide))
  clear ha hlen
  go_enter Try.func13, Try.ntmps13
  go_wp2_with fail
  generalize hw3 : ((w.alloc (.cells #[.string a.s, .slice a.A a.n a.c] 24)).alloc (.cells #[.string ⟨#[]⟩, .slice none 0 0] 24)).alloc (.cells #[.int .u8 38, .string ⟨#[38, 97, 109, 112, 59]⟩, .int .u8 60, .string ⟨#[38, 108, 116, 59]⟩, .int .u8 62, .string ⟨#[38, 103, 116, 59]⟩, .int .u8 13, .string ⟨#[38, 35, 49, 51, 59]⟩] 53) = w3
  have y1 : Whole w3 (w.heap.size + 1) 24 #[.string ⟨#[]⟩, .slice none 0 0] := by
    rw [← hw3]
    have h := (Whole.made (w.alloc (.cells #[.string a.s, .slice a.A a.n a.c] 24)) 24 #[.string ⟨#[]⟩, .slice none 0 0]).alloc (.cells #[.int .u8 38, .string ⟨#[38, 97, 109, 112, 59]⟩, .int .u8 60, .string ⟨#[38, 108, 116, 59]⟩, .int .u8 62, .string ⟨#[38, 103, 116, 59]⟩, .int .u8 13, .string ⟨#[38, 35, 49, 51, 59]⟩] 53)
    simp only [World.size_alloc] at h
    exact h
  have y2 : Whole w3 (w.heap.size + 1 + 1) 53 (swCells ws4).toArray := by
    rw [← hw3]
    have h := Whole.made ((w.alloc (.cells #[.string a.s, .slice a.A a.n a.c] 24)).alloc (.cells #[.string ⟨#[]⟩, .slice none 0 0] 24)) 53 (swCells ws4).toArray
    simp only [World.size_alloc] at h
    exact h
  have hz3 : w3.heap.size = w.heap.size + 3 := by rw [← hw3]; simp
  have hb3 : Below w.heap.size w w3 := by rw [← hw3]; exact (((Below.refl _ _).alloc (Nat.le_refl _) _).alloc (by simp) _).alloc (by simp; omega) _
  clear hw3
  refine (escPut_any a ws4 (some ⟨w.heap.size + 1 + 1, 0, none⟩) 4 4 w3 (HA.out.next hb3 (Nat.le_refl _)) (lies_whole y2) rfl (by decide) (by decide) (fun x hx => by
    simp only [ws4, List.mem_cons, List.not_mem_nil, or_false] at hx
    rcases hx with rfl | rfl | rfl | rfl <;> decide) HZ.out).mono ?_
  rw [swap4]
  generalize hT : escL false a.ch = T at *
  generalize hq : comp (T.map (·.2)) = q at *
  generalize hst : txtOf T = st at *
  have HT := Lib.hid hT
  have HQ := Lib.hid hq
  have HS := Lib.hid hst
  clear hT hq hst
  rintro e w4 ⟨v, rfl, hown, hb4⟩
  obtain ⟨A2, c2, rfl, _, _, _⟩ := own_form hown
  have hW := y1.below hb4 y1.lt
  have f0 := hW.free 0
  have f1 := hW.free 1
  have d0 : w4.cell? ⟨w.heap.size + 1, 0, none⟩ = some (.string ⟨#[]⟩) := hW.at_ 0
  have d1 : w4.cell? ⟨w.heap.size + 1, 1, none⟩ = some (.slice none 0 0) := hW.at_ 1
  have HO := Lib.hid hown
  clear hown
  go_wp2
  refine bodyPost_ret (v := .agg #[.string st, .slice A2 q.length c2]) ?_ rfl ?_
  · simp [results, Try.results13, go_sem, d0, d1]
  · rw [HT.out, HQ.out, HS.out]
    exact tells_end (g := w.heap.size + 1) (by omega) (own_mono HO.out (by omega)) (below_next hb3 (Nat.le_refl _) hb4)

set_option maxHeartbeats 1000000 in
set_option maxRecDepth 100000 in
theorem value_any (a : LT) (w : World) (ha : a.ok w w.heap.size) (hs : a.s.size ≤ 3000000) :
    Calls Try.prog 14 #[.agg #[.string a.s, .slice a.A a.n a.c]] w (Tells (txtOf (escL true a.ch)) (comp ((escL true a.ch).map (·.2))) w) := by
  have HA := Lib.hid ha
  have hlen : a.ch.length = a.s.size := LT.ch_length a
  have hle := (escL_len false a.ch).2
  have hLs : (escL false a.ch).length ≤ 18000000 := by omega
  have HI : Hid (InR (escL false a.ch)) := a.ch_in.esc
  have HSW : Hid (swapL ws1 (escL false a.ch) = escL true a.ch) := swap1 _
  clear ha hle
  go_enter Try.func14, Try.ntmps14
  go_wp2_with fail
  generalize hw3 : (w.alloc (.cells #[.string a.s, .slice a.A a.n a.c] 24)).alloc (.cells #[.string ⟨#[]⟩, .slice none 0 0] 24) = w3
  have y1 : Whole w3 (w.heap.size + 1) 24 #[.string ⟨#[]⟩, .slice none 0 0] := by
    rw [← hw3]
    have h := Whole.made (w.alloc (.cells #[.string a.s, .slice a.A a.n a.c] 24)) 24 #[.string ⟨#[]⟩, .slice none 0 0]
    simp only [World.size_alloc] at h
    exact h
  have hz3 : w3.heap.size = w.heap.size + 2 := by rw [← hw3]; simp
  have hb3 : Below w.heap.size w w3 := by rw [← hw3]; exact ((Below.refl _ _).alloc (Nat.le_refl _) _).alloc (by simp) _
  clear hw3
  refine (words_any a w3 (HA.out.next hb3 (Nat.le_refl _)) hs).mono ?_
  generalize hL : escL false a.ch = L at *
  have hrn := runN_le L
  have hqr : (comp (L.map (·.2))).length = runN L := rfl
  rintro e w4 ⟨v, rfl, hown, hb4⟩
  obtain ⟨A2, c2, rfl, _, _, _⟩ := own_form hown
  rw [hqr] at hown ⊢
  have hlie := Lies.own hown
  have HLI := Lib.hid hlie
  clear hown hqr hlie
  have hy4 := y1.below hb4 y1.lt
  have hz4 := hb4.size
  generalize hq : runN L = q at *
  generalize hst : txtOf L = st at *
  have HQ := Lib.hid hq
  have HS := Lib.hid hst
  clear hq hst
  go_wp2_with fail
  generalize hw5 : w4.alloc (.cells #[.int .u8 34, .string ⟨#[38, 113, 117, 111, 116, 59]⟩] 53) = w5
  have y2 : Whole w5 w4.heap.size 53 (swCells ws1).toArray := by
    rw [← hw5]
    exact Whole.made w4 53 (swCells ws1).toArray
  have hb5 : Below w4.heap.size w4 w5 := by rw [← hw5]; exact (Below.refl _ _).alloc (Nat.le_refl _) _
  have hz5 : w5.heap.size = w4.heap.size + 1 := by rw [← hw5]; simp
  have hy5 := hy4.below hb5 hy4.lt
  clear hw5
  have hP := escPut_any (toldT L A2 c2) ws1 (some ⟨w4.heap.size, 0, none⟩) 1 1 w5 (toldT_ok c2 (HLI.out.next hb5 (Nat.le_refl _)) (by omega)) (lies_whole y2) rfl (by decide) (by decide) (fun x hx => by
    simp only [ws1, List.mem_cons, List.not_mem_nil, or_false] at hx
    subst hx
    decide) (fun k hk => by
      rw [toldT_ch HI.out]
      have h := swapL_len (ws1.take k) 6 (fun x hx => by
        have hx := List.mem_of_mem_take hx
        simp only [ws1, List.mem_cons, List.not_mem_nil, or_false] at hx
        subst hx
        decide) L
      have h2 : (ws1.take k).length ≤ 1 := by rw [List.length_take]; omega
      have h3 : (6 + 1) ^ (ws1.take k).length ≤ (6 + 1) ^ 1 := Nat.pow_le_pow_right (by omega) h2
      refine Nat.le_trans h (Nat.le_trans (Nat.mul_le_mul hLs h3) (by decide)))
  rw [toldT_ch HI.out, HSW.out] at hP
  have HP : Hid (Calls Try.prog 28 #[.agg #[.string st, .slice A2 q c2], .slice (some ⟨w4.heap.size, 0, none⟩) 1 1] w5 (Tells (txtOf (escL true a.ch)) (comp ((escL true a.ch).map (·.2))) w5)) := by
    rw [← HS.out, ← HQ.out]
    exact hP
  clear hP
  refine HP.out.mono ?_
  generalize hT : escL true a.ch = T at *
  generalize hq : comp (T.map (·.2)) = r at *
  generalize hst : txtOf T = sv at *
  have HT := Lib.hid hT
  have HR := Lib.hid hq
  have HV := Lib.hid hst
  clear hT hq hst
  rintro e w6 ⟨v, rfl, hown, hb6⟩
  obtain ⟨A3, c3, rfl, _, _, _⟩ := own_form hown
  have hW := hy5.below hb6 hy5.lt
  have f0 := hW.free 0
  have f1 := hW.free 1
  have d0 : w6.cell? ⟨w.heap.size + 1, 0, none⟩ = some (.string ⟨#[]⟩) := hW.at_ 0
  have d1 : w6.cell? ⟨w.heap.size + 1, 1, none⟩ = some (.slice none 0 0) := hW.at_ 1
  have HO := Lib.hid hown
  clear hown
  go_wp2
  refine bodyPost_ret (v := .agg #[.string sv, .slice A3 r.length c3]) ?_ rfl ?_
  · simp [results, Try.results14, go_sem, d0, d1]
  · rw [HT.out, HR.out, HV.out]
    exact tells_end (g := w.heap.size + 1) (by omega) (own_mono HO.out (by omega)) (below_next (below_next (below_next hb3 (Nat.le_refl _) hb4) (Nat.le_refl _) hb5) (Nat.le_refl _) hb6)

end Go.Proofs.Ytfmjnmijhbnnjaa.mk
