/-
  Contracts of the reference's In, Low, Lower, Without and Trim.
-/
import Derived.Test.YtdfpoinnajahiaaFoldStrip
import Derived.Test.YtdfpoinnajahiaaMarkRefOf
import Derived.Test.YtdfpoinnajahiaaRefIn
namespace Go.Proofs.Ytdfpoinnajahiaa.mk
open Go.RowKit

set_option maxHeartbeats 400000 in
theorem refLow_any (b : UInt8) (w : World) :
    Calls Try.prog 23 #[.int .u8 b.toNat] w fun e w' => e = .returned (.int .u8 (lowB b).toNat) ∧ w = w' := by
  have hb := b.toNat_lt
  cases hu : upperB b with
  | true =>
    have h2 := hu
    unfold upperB at h2
    simp at h2
    have h3 : (65 : Int) ≤ (b.toNat : Int) := by omega
    have h4 : (b.toNat : Int) ≤ 90 := by omega
    have HL : Hid ((lowB b).toNat = b.toNat + 32) := by
      show _ = _
      unfold lowB
      rw [if_pos hu, UInt8.toNat_add]
      show (b.toNat + 32) % 256 = _
      omega
    have hwr : IntKind.u8.wrap ((b.toNat : Int) + 32) = (b.toNat : Int) + 32 := IntWalk.u8_in _ (by omega)
    clear hu h2
    go_enter Try.func23, Try.ntmps23
    go_wp2
    all_goals
      go_ret
      exact ⟨ret_int (by rw [HL.out]; omega), rfl⟩
  | false =>
    have HL : Hid (lowB b = b) := by show _ = _; unfold lowB; rw [hu]; rfl
    have h2 : ¬ ((65 : Int) ≤ (b.toNat : Int) ∧ (b.toNat : Int) ≤ 90) := by
      intro h
      unfold upperB at hu
      simp at hu
      have := hu (by omega)
      omega
    clear hu
    by_cases h3 : (65 : Int) ≤ (b.toNat : Int)
    · have h4 : ¬ (b.toNat : Int) ≤ 90 := fun h => h2 ⟨h3, h⟩
      clear h2
      go_enter Try.func23, Try.ntmps23
      go_wp2
      all_goals
        go_ret
        exact ⟨ret_int (by rw [HL.out]), rfl⟩
    · clear h2
      go_enter Try.func23, Try.ntmps23
      go_wp2
      all_goals
        go_ret
        exact ⟨ret_int (by rw [HL.out]), rfl⟩

/-- A to Z as a to z, origins as they are -/
def lowCh (l : List (UInt8 × Int)) : List (UInt8 × Int) := l.map fun x => (lowB x.1, x.2)
def RefRowRel (f : Nat → List (UInt8 × Int)) (n : Nat) (w0 : World) (v i : Value) (wr : World) : Prop :=
  ∃ k : Nat, k ≤ n ∧ i = .int .i64 (k : Int) ∧ wr.ownsRow w0.heap.size 36 2 v (f k).length (chCells (f k)) ∧ Below w0.heap.size w0 wr

set_option maxHeartbeats 1000000 in
set_option maxRecDepth 100000 in
theorem refLower_any (A : Option Addr) (n c : Nat) (l : List (UInt8 × Int)) (w : World) (hl : Lies w w.heap.size A (chCells l)) (hn : l.length = n) (hn2 : n ≤ 4294967296) :
    Calls Try.prog 10 #[.slice A n c] w fun e w' => ∃ v, e = .returned v ∧ w'.ownsRow w.heap.size 36 2 v (lowCh l).length (chCells (lowCh l)) ∧ Below w.heap.size w w' := by
  obtain ⟨i0, hi, hz0, hz1, hz2⟩ := info_parts ch_info
  have HN := Lib.hid hn
  clear hn
  go_enter Try.func10, Try.ntmps10
  go_wp2_with fail
  go_loopw [3, 4] (RefRowRel (fun k => lowCh (l.take k)) n w) (fun _ i _ => n - (intOf i).toNat)
  case atStart => exact ⟨0, Nat.zero_le _, rfl, by simpa [chCells, lowCh] using World.ownsRow_nil _ _ _ _, Below.refl _ _⟩
  case round =>
    obtain ⟨k, hk, rfl, hown, hbl⟩ := hrel
    have hws := hbl.size
    have HLK : Hid ((lowCh (l.take k)).length = k) := by show _ = _; unfold lowCh; rw [List.length_map, List.length_take, HN.out]; omega
    simp only [HLK.out] at hown
    have HOWN := Lib.hid hown
    have HBL := Lib.hid hbl
    obtain ⟨A3, d3, rfl, _, _, _⟩ := own_form hown
    by_cases hlt : k < n
    · obtain ⟨ad, b, o, rfl, hb, hc1, hc2, HR⟩ := (hl.below hbl).ch (k := k) (by rw [HN.out]; exact hlt)
      have hk0 : (0 : Int) ≤ (k : Int) := Int.natCast_nonneg _
      have hk1 : (k : Int) < (n : Int) := by omega
      have HNX : Hid (lowCh (l.take (k + 1)) = lowCh (l.take k) ++ [(lowB b, o)]) := by
        show _ = _
        rw [take_next HR.out]
        simp [lowCh]
      have hbk1 : (ad.add (k * 2)).block < w.heap.size := by rw [addr_block]; exact hb
      have KS : ∀ w', Below w.heap.size w w' → w'.cell? (ad.add (k * 2)) = some (.int .u8 b.toNat) ∧ w'.cell? ⟨(ad.add (k * 2)).block, (ad.add (k * 2)).off + 1, none⟩ = some (.int .i64 o) ∧ Below w.heap.size w w' := fun w' h => by
        have x1 : w'.cell? (ad.add (k * 2)) = wr.cell? (ad.add (k * 2)) := (h.cell hbk1).trans (HBL.out.cell hbk1).symm
        have x2 : w'.cell? ⟨(ad.add (k * 2)).block, (ad.add (k * 2)).off + 1, none⟩ = wr.cell? ⟨(ad.add (k * 2)).block, (ad.add (k * 2)).off + 1, none⟩ := Eq.trans (h.cell (show (⟨(ad.add (k * 2)).block, (ad.add (k * 2)).off + 1, none⟩ : Addr).block < w.heap.size from hbk1)) (Eq.symm (HBL.out.cell (show (⟨(ad.add (k * 2)).block, (ad.add (k * 2)).off + 1, none⟩ : Addr).block < w.heap.size from hbk1)))
        exact ⟨x1.trans hc1, x2.trans hc2, h⟩
      have HKS := Lib.hid KS
      clear KS hbk1 hown hbl
      go_wp2_with fail
      go_region_held3 (fun w' => w'.cell? (ad.add (k * 2)) = some (.int .u8 b.toNat) ∧ w'.cell? ⟨(ad.add (k * 2)).block, (ad.add (k * 2)).off + 1, none⟩ = some (.int .i64 o) ∧ Below w.heap.size w w')
        (first
          | exact HKS.out _ HBL.out.drew
          | exact HKS.out _ ((HBL.out.alloc (by omega) _).drew)
          | (go_split_ands; exact HKS.out _ (by assumption))
          | (exact HKS.out _ (((HBL.out.alloc (by omega) _).drew).grown hgrow (by simp; omega) (fun x hx => (HOWN.out.lt x hx).1))))
        (first
          | (go_at_call 23; refine (refLow_any b _).mono ?_; rintro e w' ⟨rfl, rfl⟩)
          | (refine step_append_lies _ (by rfl) _ _ _ (by rfl) w.heap.size 36 i0 _ 2 16 Try.underlying26 hi hz0 hz1 hz2 rfl (by omega) (.slice A3 k d3) k _ (by rfl) ((HOWN.out.alloc _).drew)
              ⟨wr.heap.size, 0, none⟩ 1 1 [.int .u8 (lowB b).toNat, .int .i64 o] (by rfl) (by rfl) (World.news_of_block (cs := #[.int .u8 (lowB b).toNat, .int .i64 o]) (t := 36) (fr := (0, 0)) (heap_alloc_new wr _)) (by simp [Value.oneCell'])
              (by omega) (by simp only [maxLen]; omega) (by omega) (by simp; omega) (wr.heap.size + 1) (by simp) ?_; intro gg cap w1 hown1 hgrow hat hlt'))
      all_goals
        have hbl1 : Below w.heap.size w w1 := (((HBL.out.alloc (by omega) _).drew).grown hgrow (by simp; omega) (fun x hx => (HOWN.out.lt x hx).1))
        clear hgrow hat hlt'
        go_wp2_with fail
        go_roundw
        case rel => exact ⟨k + 1, by omega, by go_num, by show World.ownsRow _ _ _ _ _ (lowCh (l.take (k + 1))).length (chCells (lowCh (l.take (k + 1)))); rw [HNX.out, chCells_snoc, List.length_append, HLK.out]; exact hown1, hbl1⟩
        case measure => simp [intOf]; omega
    · obtain rfl : k = n := by omega
      have hful : l.take k = l := List.take_of_length_le (by rw [HN.out]; exact Nat.le_refl _)
      have HLL : Hid ((lowCh l).length = k) := by have := HLK.out; rw [hful] at this; exact this
      rw [hful] at hown
      clear hful
      go_wp2_with fail
      go_ret
      exact ⟨_, rfl, by rw [HLL.out]; exact hown, hbl⟩

set_option maxHeartbeats 1000000 in
set_option maxRecDepth 100000 in
theorem refWithout_any (A : Option Addr) (n c : Nat) (l : List (UInt8 × Int)) (s : ByteArray) (w : World) (hl : Lies w w.heap.size A (chCells l)) (hn : l.length = n) (hn2 : n ≤ 4294967296) (hs : s.size ≤ 4294967296) :
    Calls Try.prog 18 #[.slice A n c, .string s] w fun e w' => ∃ v, e = .returned v ∧ w'.ownsRow w.heap.size 36 2 v (l.filter (fun x => !isIn s.data.toList x.1)).length (chCells (l.filter (fun x => !isIn s.data.toList x.1))) ∧ Below w.heap.size w w' := by
  obtain ⟨i0, hi, hz0, hz1, hz2⟩ := info_parts ch_info
  have HN := Lib.hid hn
  clear hn
  go_enter Try.func18, Try.ntmps18
  go_wp2_with fail
  go_loopw [5, 6] (RefRowRel (fun k => (l.take k).filter (fun x => !isIn s.data.toList x.1)) n w) (fun _ i _ => n - (intOf i).toNat)
  case atStart => exact ⟨0, Nat.zero_le _, rfl, by simpa [chCells] using World.ownsRow_nil _ _ _ _, Below.refl _ _⟩
  case round =>
    obtain ⟨k, hk, rfl, hown, hbl⟩ := hrel
    have hws := hbl.size
    have hlk : ((l.take k).filter (fun x => !isIn s.data.toList x.1)).length ≤ k := Nat.le_trans (List.length_filter_le _ _) (by rw [List.length_take]; omega)
    simp only at hown
    generalize hq : (l.take k).filter (fun x => !isIn s.data.toList x.1) = q at *
    have HQ := Lib.hid hq
    clear hq
    generalize hz : q.length = z at *
    have HZ := Lib.hid hz
    clear hz
    have HOWN := Lib.hid hown
    have HBL := Lib.hid hbl
    obtain ⟨A3, d3, rfl, _, _, _⟩ := own_form hown
    by_cases hlt : k < n
    · obtain ⟨ad, b, o, rfl, hb, hc1, hc2, HR⟩ := (hl.below hbl).ch (k := k) (by rw [HN.out]; exact hlt)
      have hk0 : (0 : Int) ≤ (k : Int) := Int.natCast_nonneg _
      have hk1 : (k : Int) < (n : Int) := by omega
      go_wp2_with fail
      refine (refIn_any b s _ hs).mono ?_
      rintro e w' ⟨rfl, rfl⟩
      cases hin : isIn s.data.toList b with
      | true =>
        have HNX : Hid ((l.take (k + 1)).filter (fun x => !isIn s.data.toList x.1) = q) := by
          show _ = _
          rw [take_next HR.out, List.filter_append, HQ.out]
          simp [hin]
        clear hin
        go_wp2_with fail
        go_roundw
        case rel => exact ⟨k + 1, by omega, by go_num, by show World.ownsRow _ _ _ _ _ ((l.take (k + 1)).filter (fun x => !isIn s.data.toList x.1)).length (chCells ((l.take (k + 1)).filter (fun x => !isIn s.data.toList x.1))); rw [HNX.out, HZ.out]; exact HOWN.out, HBL.out⟩
        case measure => simp [intOf]; omega
      | false =>
        have HNX : Hid ((l.take (k + 1)).filter (fun x => !isIn s.data.toList x.1) = q ++ [(b, o)]) := by
          show _ = _
          rw [take_next HR.out, List.filter_append, HQ.out]
          simp [hin]
        clear hin
        go_wp2_with (at_builtin; refine wpList_append_own_at _ rfl _ _ 26 rfl w.heap.size 36 i0 _ 2 16 Try.underlying26 hi hz0 hz1 hz2 rfl (by decide) (.slice A3 z d3) z _ rfl (HOWN.out.alloc _) ⟨wr.heap.size, 0, none⟩ 1 1 [.int .u8 b.toNat, .int .i64 o] rfl rfl (cells_new wr _ _) (by simp [Value.oneCell']) (by simp only [maxLen]; omega) (by omega) (by simp; omega) ?_)
        intro v' w1 hown1 hgrow _ _
        have hbl1 : Below w.heap.size w w1 := (HBL.out.alloc (by omega) _).grown hgrow (by simp; omega) (fun x hx => (HOWN.out.lt x hx).1)
        clear hgrow
        go_wp2_with fail
        go_roundw
        case rel => exact ⟨k + 1, by omega, by go_num, by show World.ownsRow _ _ _ _ _ ((l.take (k + 1)).filter (fun x => !isIn s.data.toList x.1)).length (chCells ((l.take (k + 1)).filter (fun x => !isIn s.data.toList x.1))); rw [HNX.out, chCells_snoc, List.length_append, HZ.out]; exact hown1, hbl1⟩
        case measure => simp [intOf]; omega
    · obtain rfl : k = n := by omega
      have HLL : Hid (l.filter (fun x => !isIn s.data.toList x.1) = q) := by
        have := HQ.out
        rw [List.take_of_length_le (by rw [HN.out]; exact Nat.le_refl _)] at this
        exact this
      go_wp2_with fail
      go_ret
      exact ⟨_, rfl, by rw [HLL.out, HZ.out]; exact hown, hbl⟩

theorem lies_tail2 {w : World} {B : Nat} {ad : Addr} {x : UInt8 × Int} {l : List (UInt8 × Int)} (h : Lies w B (some ad) (chCells (x :: l))) : Lies w B (some (ad.add 2)) (chCells l) := by
  intro j u hu
  obtain ⟨ad', e, hb, hc⟩ := h (2 + j) u (by rw [show 2 + j = j + 1 + 1 by omega]; exact hu)
  injection e with e
  subst e
  exact ⟨_, rfl, by rw [addr_block]; exact hb, by rw [addr_add]; exact hc⟩
theorem lies_front2 {w : World} {B : Nat} {A : Option Addr} {x : UInt8 × Int} {l : List (UInt8 × Int)} (h : Lies w B A (chCells (l ++ [x]))) : Lies w B A (chCells l) := by
  intro j u hu
  refine h j u ?_
  rw [chCells_append, List.getElem?_append_left (List.getElem?_eq_some_iff.1 hu).1]
  exact hu
def sliceN : Value → Nat
  | .slice _ n _ => n
  | _ => 0
def TrimPost (M : List (UInt8 × Int)) (w : World) (e : Ending) (w' : World) : Prop :=
  ∃ A' n' c', e = .returned (.slice A' n' c') ∧ Lies w w.heap.size A' (chCells M) ∧ M.length = n' ∧ w = w'
def Trim1 (p : UInt8 × Int → Bool) (L : List (UInt8 × Int)) (w : World) (v : Value) : Prop :=
  ∃ (M : List (UInt8 × Int)) (A : Option Addr) (n c : Nat), v = .slice A n c ∧ Lies w w.heap.size A (chCells M) ∧ M.length = n ∧ n ≤ c ∧ n ≤ 4294967296 ∧ L.dropWhile p = M.dropWhile p
def Trim2 (p : UInt8 × Int → Bool) (D : List (UInt8 × Int)) (w : World) (v : Value) : Prop :=
  ∃ (M : List (UInt8 × Int)) (A : Option Addr) (n c : Nat), v = .slice A n c ∧ Lies w w.heap.size A (chCells M) ∧ M.length = n ∧ n ≤ c ∧ n ≤ 4294967296 ∧ D.reverse.dropWhile p = M.reverse.dropWhile p

set_option maxHeartbeats 1000000 in
set_option maxRecDepth 100000 in
theorem refTrim_any (A : Option Addr) (n c : Nat) (l : List (UInt8 × Int)) (s : ByteArray) (w : World) (hl : Lies w w.heap.size A (chCells l)) (hn : l.length = n) (hnc : n ≤ c) (hn2 : n ≤ 4294967296) (hs : s.size ≤ 4294967296) :
    Calls Try.prog 19 #[.slice A n c, .string s] w (TrimPost (trimL (onB (isIn s.data.toList)) l) w) := by
  have h1 : Trim1 (onB (isIn s.data.toList)) l w (.slice A n c) := ⟨l, A, n, c, rfl, hl, hn, hnc, hn2, rfl⟩
  have H1 := Lib.hid h1
  clear h1 hl hn hnc hn2
  go_enter Try.func19, Try.ntmps19
  go_wp2_with fail
  go_loop [0] (Trim1 (onB (isIn s.data.toList)) l w) (fun v => sliceN v)
  case atStart => exact H1.out
  case round =>
    clear H1
    obtain ⟨M, A1, n1, c1, rfl, hl1, hn1, hnc1, hcm1, hdw⟩ := hrel
    have HDW := Lib.hid hdw
    have HCM := Lib.hid hcm1
    clear hdw hcm1
    by_cases hgo : ∃ x M', M = x :: M' ∧ onB (isIn s.data.toList) x = true
    · obtain ⟨⟨b, o⟩, M', rfl, hx⟩ := hgo
      have hn1' : n1 = M'.length + 1 := by rw [← hn1]; rfl
      obtain ⟨ad, b', o', rfl, hb, hc1, hc2, HR⟩ := hl1.ch (k := 0) (by simp)
      have HR' := HR.out
      simp at HR'
      obtain ⟨rfl, rfl⟩ := HR'
      have ha0 : ad.add 0 = ad := by unfold Addr.add; simp
      simp only [Nat.zero_mul, ha0] at hc1
      clear ha0 hc2
      have hx' : isIn s.data.toList b = true := hx
      have HNX : Hid (l.dropWhile (onB (isIn s.data.toList)) = M'.dropWhile (onB (isIn s.data.toList))) := by
        show _ = _
        rw [HDW.out, List.dropWhile_cons, if_pos hx]
      have HLT := Lib.hid (lies_tail2 hl1)
      clear HR hl1 hx hn1
      have hm0 : (0 : Int) < ((M'.length + 1 : Nat) : Int) := by omega
      subst hn1'
      by_cases hcc : c1 = 1
      · subst hcc
        have hM0 : M'.length = 0 := by omega
        have hMe : M' = [] := List.eq_nil_of_length_eq_zero hM0
        subst hMe
        go_wp2_with fail
        refine (refIn_any b s _ hs).mono ?_
        rw [hx']
        rintro e w' ⟨rfl, rfl⟩
        go_wp2_with fail
        go_round
        case rel => exact ⟨[], _, 0, 0, by first | rfl | simp, Lies.empty _ _ _, rfl, Nat.le_refl _, by simp, HNX.out⟩
        case measure => simp [sliceN]
      · have hcc2 : (c1 == 1) = false := by rw [beq_eq_false_iff_ne]; exact hcc
        have hcc3 : (1 : Int) ≤ (c1 : Int) := by omega
        go_wp2_with fail
        refine (refIn_any b s _ hs).mono ?_
        rw [hx']
        rintro e w' ⟨rfl, rfl⟩
        go_wp2_with fail
        go_round
        case rel => exact ⟨M', some (ad.add 2), M'.length, c1 - 1, by first | rfl | simp, HLT.out, rfl, by omega, by have := HCM.out; omega, HNX.out⟩
        case measure => simp [sliceN]
    · have hM : M = [] ∨ ∃ x M', M = x :: M' ∧ onB (isIn s.data.toList) x = false := by
        cases M with
        | nil => exact .inl rfl
        | cons x M' =>
          refine .inr ⟨x, M', rfl, ?_⟩
          cases hx : onB (isIn s.data.toList) x with
          | false => rfl
          | true => exact absurd ⟨x, M', rfl, hx⟩ hgo
      have HD : Hid (l.dropWhile (onB (isIn s.data.toList)) = M) := by
        show _ = _
        rw [HDW.out]
        rcases hM with rfl | ⟨x, M', rfl, hx⟩
        · rfl
        · exact dropWhile_stay hx
      have h2 : Trim2 (onB (isIn s.data.toList)) M w (.slice A1 n1 c1) := ⟨M, A1, n1, c1, rfl, hl1, hn1, hnc1, HCM.out, rfl⟩
      have H2 := Lib.hid h2
      clear h2 hgo
      have HW2 : Hid (∀ v, v = Value.slice A1 n1 c1 → Trim2 (onB (isIn s.data.toList)) M w v) := fun v e => by rw [e]; exact H2.out
      rcases hM with hM | ⟨⟨b, o⟩, M', hM, hx⟩
      · obtain rfl : n1 = 0 := by rw [← hn1, hM]; rfl
        clear hl1 hn1 hM
        go_wp2_with fail
        go_loop [0] (Trim2 (onB (isIn s.data.toList)) M w) (fun v => sliceN v)
        case atStart => exact HW2.out _ rfl
        case round =>
          clear HW2 H2
          obtain ⟨M2, A3, n3, c3, rfl, hl3, hn3, hnc3, hcm3, hdw3⟩ := hrel
          have HDW3 := Lib.hid hdw3
          have HCM3 := Lib.hid hcm3
          clear hdw3 hcm3
          rcases snoc_cases M2 with hM2 | ⟨M3, ⟨b3, o3⟩, hM2⟩
          · obtain rfl : n3 = 0 := by rw [← hn3, hM2]; rfl
            have HT : Hid (trimL (onB (isIn s.data.toList)) l = []) := by
              show _ = _
              unfold trimL
              rw [HD.out, HDW3.out, hM2]
              rfl
            clear hM2 hn3 hl3
            go_wp2_with fail
            go_ret
            exact ⟨_, _, _, rfl, by rw [HT.out]; exact Lies.empty _ _ _, by rw [HT.out]; rfl, rfl⟩
          · have hn3' : n3 = M3.length + 1 := by rw [← hn3, hM2]; simp
            rw [hM2] at hl3 hn3
            have hl3' := hl3
            obtain ⟨ad3, b4, o4, rfl, hb3, hd1, hd2, HR3⟩ := hl3.ch (k := M3.length) (by simp)
            have HR3' := HR3.out
            simp at HR3'
            obtain ⟨rfl, rfl⟩ := HR3'
            subst hn3'
            have HL3 := Lib.hid hl3'
            have HM2 := Lib.hid hM2
            have hz0 := HCM3.out
            clear HR3 hl3 hl3' hn3 hM2 hd2
            generalize hk3 : M3.length = k3 at *
            have HK3 := Lib.hid hk3
            clear hk3
            have hz5 : IntKind.i64.wrap (k3 : Int) = (k3 : Int) := IntWalk.i64_in _ (by omega)
            go_wp2_with fail
            refine (refIn_any b3 s _ hs).mono ?_
            rintro e w' ⟨rfl, rfl⟩
            cases hx3 : isIn s.data.toList b3 with
            | true =>
              have HNX : Hid (M.reverse.dropWhile (onB (isIn s.data.toList)) = M3.reverse.dropWhile (onB (isIn s.data.toList))) := by
                show _ = _
                rw [HDW3.out, HM2.out, List.reverse_append, List.reverse_singleton, List.singleton_append, List.dropWhile_cons, if_pos (show onB (isIn s.data.toList) (b3, o3) = true from hx3)]
              clear hx3
              go_wp2_with fail
              go_round
              case rel => exact ⟨M3, _, k3, c3, by first | rfl | simp, lies_front2 HL3.out, HK3.out, by omega, by omega, HNX.out⟩
              case measure => simp [sliceN]
            | false =>
              have HT : Hid (trimL (onB (isIn s.data.toList)) l = M3 ++ [(b3, o3)]) := by
                show _ = _
                unfold trimL
                rw [HD.out, HDW3.out, HM2.out, List.reverse_append, List.reverse_singleton, List.singleton_append, dropWhile_stay (show onB (isIn s.data.toList) (b3, o3) = false from hx3)]
                simp
              clear hx3
              go_wp2_with fail
              go_ret
              exact ⟨_, _, _, rfl, by rw [HT.out]; exact HL3.out, by rw [HT.out, List.length_append, HK3.out]; rfl, rfl⟩
      · have hn1' : n1 = M'.length + 1 := by rw [← hn1, hM]; rfl
        rw [hM] at hl1
        obtain ⟨ad, b', o', rfl, hb, hc1, hc2, HR⟩ := hl1.ch (k := 0) (by simp)
        have HR' := HR.out
        simp at HR'
        obtain ⟨rfl, rfl⟩ := HR'
        have ha0 : ad.add 0 = ad := by unfold Addr.add; simp
        simp only [Nat.zero_mul, ha0] at hc1
        have hx' : isIn s.data.toList b = false := hx
        have hm0 : (0 : Int) < (n1 : Int) := by omega
        clear HR hl1 hx hn1 ha0 hc2 hn1' hM
        go_wp2_with fail
        refine (refIn_any b s _ hs).mono ?_
        rw [hx']
        rintro e w' ⟨rfl, rfl⟩
        go_wp2_with fail
        go_loop [0] (Trim2 (onB (isIn s.data.toList)) M w) (fun v => sliceN v)
        case atStart => exact HW2.out _ rfl
        case round =>
          clear HW2 H2
          obtain ⟨M2, A3, n3, c3, rfl, hl3, hn3, hnc3, hcm3, hdw3⟩ := hrel
          have HDW3 := Lib.hid hdw3
          have HCM3 := Lib.hid hcm3
          clear hdw3 hcm3
          rcases snoc_cases M2 with hM2 | ⟨M3, ⟨b3, o3⟩, hM2⟩
          · obtain rfl : n3 = 0 := by rw [← hn3, hM2]; rfl
            have HT : Hid (trimL (onB (isIn s.data.toList)) l = []) := by
              show _ = _
              unfold trimL
              rw [HD.out, HDW3.out, hM2]
              rfl
            clear hM2 hn3 hl3
            go_wp2_with fail
            go_ret
            exact ⟨_, _, _, rfl, by rw [HT.out]; exact Lies.empty _ _ _, by rw [HT.out]; rfl, rfl⟩
          · have hn3' : n3 = M3.length + 1 := by rw [← hn3, hM2]; simp
            rw [hM2] at hl3 hn3
            have hl3' := hl3
            obtain ⟨ad3, b4, o4, rfl, hb3, hd1, hd2, HR3⟩ := hl3.ch (k := M3.length) (by simp)
            have HR3' := HR3.out
            simp at HR3'
            obtain ⟨rfl, rfl⟩ := HR3'
            subst hn3'
            have HL3 := Lib.hid hl3'
            have HM2 := Lib.hid hM2
            have hz0 := HCM3.out
            clear HR3 hl3 hl3' hn3 hM2 hd2
            generalize hk3 : M3.length = k3 at *
            have HK3 := Lib.hid hk3
            clear hk3
            have hz5 : IntKind.i64.wrap (k3 : Int) = (k3 : Int) := IntWalk.i64_in _ (by omega)
            go_wp2_with fail
            refine (refIn_any b3 s _ hs).mono ?_
            rintro e w' ⟨rfl, rfl⟩
            cases hx3 : isIn s.data.toList b3 with
            | true =>
              have HNX : Hid (M.reverse.dropWhile (onB (isIn s.data.toList)) = M3.reverse.dropWhile (onB (isIn s.data.toList))) := by
                show _ = _
                rw [HDW3.out, HM2.out, List.reverse_append, List.reverse_singleton, List.singleton_append, List.dropWhile_cons, if_pos (show onB (isIn s.data.toList) (b3, o3) = true from hx3)]
              clear hx3
              go_wp2_with fail
              go_round
              case rel => exact ⟨M3, _, k3, c3, by first | rfl | simp, lies_front2 HL3.out, HK3.out, by omega, by omega, HNX.out⟩
              case measure => simp [sliceN]
            | false =>
              have HT : Hid (trimL (onB (isIn s.data.toList)) l = M3 ++ [(b3, o3)]) := by
                show _ = _
                unfold trimL
                rw [HD.out, HDW3.out, HM2.out, List.reverse_append, List.reverse_singleton, List.singleton_append, dropWhile_stay (show onB (isIn s.data.toList) (b3, o3) = false from hx3)]
                simp
              clear hx3
              go_wp2_with fail
              go_ret
              exact ⟨_, _, _, rfl, by rw [HT.out]; exact HL3.out, by rw [HT.out, List.length_append, HK3.out]; rfl, rfl⟩

end Go.Proofs.Ytdfpoinnajahiaa.mk
