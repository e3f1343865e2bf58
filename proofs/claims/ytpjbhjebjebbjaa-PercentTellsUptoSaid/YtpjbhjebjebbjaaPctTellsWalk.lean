/-
  The walk of the statement PercentTells.
-/
import Derived.Test.YtpjbhjebjebbjaaPctAlive
import Derived.Test.YtpjbhjebjebbjaaFoldEnds
import Derived.Test.YtpjbhjebjebbjaaMarkWorst
import Derived.Test.YtpjbhjebjebbjaaMarkArgs
namespace Go.Proofs.Ytpjbhjebjebbjaa.mk
open Go.RowKit

theorem Lies.news {w : World} {B : Nat} {ad : Addr} {xs : List Value} (h : Lies w B (some ad) xs) : ∀ j u, xs[j]? = some u → w.cell? (ad.add j) = some u := by
  intro j u hu
  obtain ⟨ad', e, _, hc⟩ := h j u hu
  injection e with e
  subst e
  exact hc
theorem digit_cut : ∀ p : Nat, p < 16 → ((ByteArray.mk #[48, 49, 50, 51, 52, 53, 54, 55, 56, 57, 65, 66, 67, 68, 69, 70]).extract p (p + 1)).data.toList = [digitB p] := by decide +kernel
theorem digit_text (p r : Nat) (hp : p < 16) (hr : r < 16) : (ByteArray.mk #[37] ++ (ByteArray.mk #[48, 49, 50, 51, 52, 53, 54, 55, 56, 57, 65, 66, 67, 68, 69, 70]).extract p (p + 1) ++ (ByteArray.mk #[48, 49, 50, 51, 52, 53, 54, 55, 56, 57, 65, 66, 67, 68, 69, 70]).extract r (r + 1)).data.toList = [37, digitB p, digitB r] := by
  rw [ByteArray.data_append, ByteArray.data_append, Array.toList_append, Array.toList_append, digit_cut p hp, digit_cut r hr]
  rfl
/-- all of three bytes, of an origin, where they stand -/
theorem all_three (T : ByteArray) (b : UInt8) (o : Int) (w : World) (ho : 0 ≤ o ∧ o ≤ 65536) (hp : plainB b = false) (hT : T.data.toList = [37, digitB (b.toNat / 16), digitB (b.toNat % 16)]) :
    Calls Try.prog 9 #[.string T, .int .i64 o] w fun e w' => ∃ ad c, e = .returned (.slice (some ad) 3 c) ∧ (∀ j u, (chCells (encC (b, o)))[j]? = some u → w'.cell? (ad.add j) = some u) ∧ Below w.heap.size w w' := by
  have hs : T.size = 3 := by
    have := congrArg List.length hT
    rw [Array.length_toList] at this
    exact this
  refine (all_any T o w (by omega)).mono ?_
  rintro e w' ⟨v, rfl, hown, hb⟩
  obtain ⟨A, c, rfl, _, _, _⟩ := own_form hown
  have hc : allCh T.data.toList o = encC (b, o) := by
    rw [hT]
    unfold encC allCh
    rw [encB_not hp, nearO_in ho.1 ho.2]
  rw [hc] at hown
  have hl := Lies.own hown
  obtain ⟨ad, rfl, _, _⟩ := hl 0 (.int .u8 (37 : UInt8).toNat) (by unfold encC; rw [encB_not hp]; rfl)
  rw [hs] at hown ⊢
  exact ⟨ad, c, rfl, hl.news, hb⟩

theorem lies_part {w : World} {B : Nat} {ad : Addr} {l : List (UInt8 × Int)} (h : Lies w B (some ad) (chCells l)) (k n : Nat) : Lies w B (some (ad.add (k * 2))) (chCells ((l.drop k).take n)) := by
  intro j u hu
  have e : chCells l = chCells (l.take k) ++ (chCells ((l.drop k).take n) ++ chCells ((l.drop k).drop n)) := by rw [← chCells_append, ← chCells_append, List.take_append_drop, List.take_append_drop]
  by_cases hk : k ≤ l.length
  · have h1 : (chCells (l.take k)).length = k * 2 := by rw [chCells_length, List.length_take]; omega
    have h2 : (chCells l)[k * 2 + j]? = some u := by
      rw [e, List.getElem?_append_right (by omega), h1, Nat.add_sub_cancel_left, List.getElem?_append_left (List.getElem?_eq_some_iff.1 hu).1]
      exact hu
    obtain ⟨ad', ea, hb, hc⟩ := h _ _ h2
    injection ea with ea
    subst ea
    exact ⟨_, rfl, by rw [addr_block]; exact hb, by rw [addr_add]; exact hc⟩
  · rw [List.drop_of_length_le (by omega)] at hu
    simp [chCells] at hu
def EncRel (L : List (UInt8 × Int)) (n : Nat) (w0 : World) (v i : Value) (wr : World) : Prop :=
  ∃ k : Nat, k ≤ n ∧ i = .int .i64 (k : Int) ∧ wr.ownsRow w0.heap.size 30 2 v (encL (L.take k)).length (chCells (encL (L.take k))) ∧ Below w0.heap.size w0 wr
def DecRel (L : List (UInt8 × Int)) (n : Nat) (w0 : World) (v i : Value) (wr : World) : Prop :=
  ∃ (k : Nat) (out : List (UInt8 × Int)), k ≤ n ∧ i = .int .i64 (k : Int) ∧ dec L = out ++ dec (L.drop k) ∧ wr.ownsRow w0.heap.size 30 2 v out.length (chCells out) ∧ Below w0.heap.size w0 wr

set_option maxHeartbeats 4000000 in
set_option maxRecDepth 100000 in
theorem tells5_any (a : LT) (x : UInt8) (w : World) (ha : a.ok w w.heap.size) (hsz : a.s.size ≤ 1048576) :
    Calls Try.prog 3 #[a.v, .int .u8 x.toNat] w fun e w' => e = .returned (.bool true) ∧ Below w.heap.size w w' := by
  obtain ⟨s, A, m, c, rs⟩ := a
  obtain ⟨hl, hm, hm2, hs2⟩ := ha
  simp only at hl hm hm2 hs2 hsz
  show Calls Try.prog 3 #[.agg #[.string s, .slice A m c], .int .u8 x.toNat] w _
  have HM := Lib.hid hm
  clear hm
  have hlen : (chars s.data.toList rs).length = s.size := by rw [chars_length, Array.length_toList]; rfl
  have hin := InR.chars s.data.toList rs
  generalize hL : chars s.data.toList rs = L at *
  have hdl := dec_len L
  rw [hlen] at hdl
  have hel : ∀ k, (encL (L.take k)).length ≤ 3 * s.size := fun k => by
    have h1 := (encL_len (L.take k)).2
    have h2 : (L.take k).length ≤ s.size := by rw [List.length_take]; omega
    omega
  have HLN := Lib.hid hlen
  have HIN := Lib.hid hin
  have HL := Lib.hid hL
  have HDL := Lib.hid hdl
  have HEL := Lib.hid hel
  clear hlen hin hL hdl hel
  obtain ⟨i0, hi, hq0, hq1, hq2⟩ := info_parts ch_info
  go_enter Try.func3, Try.ntmps3
  go_wp2_with fail
  refine (alive5_any _).mono ?_
  rintro e w1 ⟨rfl, hb1⟩
  simp only [World.size_alloc] at hb1
  have hz1 := hb1.size
  simp only [World.size_alloc] at hz1
  have y0 : Whole w1 w.heap.size 24 #[.string s, .slice A m c] := (Whole.made w _ _).below hb1 (Nat.lt_succ_self _)
  have c0 : w1.cell? ⟨w.heap.size, 0, none⟩ = some (.string s) := y0.at_ 0
  have c1 : w1.cell? ⟨w.heap.size, 1, none⟩ = some (.slice A m c) := y0.at_ 1
  have hl1 : Lies w1 w1.heap.size A (runCells rs) := ((hl.alloc (Nat.le_refl _) _).mono (Nat.le_succ _)).next hb1 (by simp)
  have hbw : Below w.heap.size w w1 := below_made hb1
  go_wp2_with fail
  refine (refOf_any s A m c rs _ hl1 HM.out (by omega) hm2).mono ?_
  rw [HL.out]
  rintro e w2 ⟨v2, rfl, ho2, hb2⟩
  obtain ⟨A2, c2, rfl, hA2, _, hc2⟩ := own_form ho2
  have hl2 : Lies w2 w2.heap.size A (runCells rs) := hl1.next hb2 (Nat.le_refl _)
  have hL2 : Lies w2 w2.heap.size A2 (chCells L) := Lies.own ho2
  have y2 := y0.below hb2 y0.lt
  have hbw2 : Below w.heap.size w w2 := hbw.trans (hb2.mono (by omega))
  clear c0 c1 hl1 hb2 ho2 y0 hbw hb1
  go_wp2_with fail
  go_loopw [7, 9] (EncRel L s.size w2) (fun _ i _ => s.size - (intOf i).toNat)
  case atStart => exact ⟨0, Nat.zero_le _, rfl, by simpa [chCells, encL] using World.ownsRow_nil _ _ _ _, Below.refl _ _⟩
  case round =>
    obtain ⟨k, hk, rfl, hown, hbl⟩ := hrel
    have hws := hbl.size
    have hrl := HEL.out k
    generalize hq : encL (L.take k) = q at *
    have HQ := Lib.hid hq
    generalize hn5 : q.length = n5 at *
    have HN5 := Lib.hid hn5
    have HOWN := Lib.hid hown
    have HBL := Lib.hid hbl
    obtain ⟨A5, c5, rfl, _, _, _⟩ := own_form hown
    clear hq hn5
    by_cases hlt : k < s.size
    · obtain ⟨ad, b, o, rfl, hb, hc1, hc2', HR⟩ := (hL2.below hbl).ch (k := k) (by rw [HLN.out]; exact hlt)
      have hk0 : (0 : Int) ≤ (k : Int) := Int.natCast_nonneg _
      have hk1 : (k : Int) < (s.size : Int) := by omega
      have hoo : 0 ≤ o ∧ o ≤ 65536 := HIN.out o (List.mem_map.2 ⟨(b, o), List.mem_of_getElem? HR.out, rfl⟩)
      have HOO := Lib.hid hoo
      have HNX : Hid (encL (L.take (k + 1)) = q ++ encC (b, o)) := by show _ = _; rw [encL_next HR.out, HQ.out]
      clear hown hbl hoo
      go_wp2_with fail
      refine (lawPlain_any b _).mono ?_
      rintro e w' ⟨rfl, rfl⟩
      obtain ⟨wr2, rfl⟩ : ∃ wr2 : World, wr2 = w' := ⟨_, rfl⟩
      cases hp : plainB b with
      | true =>
        have HE : Hid (encC (b, o) = [(b, o)]) := by show _ = _; unfold encC; rw [encB_plain hp]; rfl
        clear hp
        go_wp2_with (at_builtin; refine wpList_append_own_at _ rfl _ _ 26 rfl w2.heap.size 30 i0 _ 2 16 Try.underlying26 hi hq0 hq1 hq2 rfl (by decide) (.slice A5 n5 c5) n5 _ rfl (HOWN.out.alloc _) ⟨wr2.heap.size, 0, none⟩ 1 1 [.int .u8 b.toNat, .int .i64 o] rfl rfl (cells_new wr2 _ _) (by simp [Value.oneCell']) (by simp only [maxLen]; omega) (by omega) (by simp; omega) ?_)
        intro v' w1' hown1 hgrow _ _
        have hbl1 : Below w2.heap.size w2 w1' := (HBL.out.alloc (by omega) _).grown hgrow (by simp; omega) (fun x hx => (HOWN.out.lt x hx).1)
        clear hgrow
        go_wp2_with fail
        go_roundw
        case rel => exact ⟨k + 1, by omega, by go_num, by rw [HNX.out, HE.out, chCells_snoc, List.length_append, HN5.out]; exact hown1, hbl1⟩
        case measure => simp [intOf]; omega
      | false =>
        have HP := Lib.hid hp
        clear hp
        have hb8 := b.toNat_lt
        obtain ⟨p, hpq⟩ : ∃ p : Nat, p = b.toNat / 16 := ⟨_, rfl⟩
        obtain ⟨r, hrq⟩ : ∃ r : Nat, r = b.toNat % 16 := ⟨_, rfl⟩
        have hp16 : p < 16 := by omega
        have hr16 : r < 16 := by omega
        have ep : (b.toNat : Int).tdiv 16 = (p : Int) := by rw [Int.tdiv_eq_ediv_of_nonneg (by omega)]; omega
        have er : (b.toNat : Int).tmod 16 = (r : Int) := by rw [Int.tmod_eq_emod_of_nonneg (by omega)]; omega
        have ep' : IntKind.u8.wrap (p : Int) = (p : Int) := IntWalk.u8_in _ (by omega)
        have HPQ := Lib.hid hpq
        have HRQ := Lib.hid hrq
        clear hpq hrq
        have g0 : (0 : Int) ≤ (p : Int) := by omega
        have g1 : (p : Int) ≤ 16 := by omega
        have g2 : (p : Int) + 1 ≤ 16 := by omega
        have g2' : (p : Int) + 1 ≤ ((#[48, 49, 50, 51, 52, 53, 54, 55, 56, 57, 65, 66, 67, 68, 69, 70] : Array UInt8).size : Int) := g2
        have g3 : (0 : Int) ≤ (p : Int) + 1 := by omega
        have g4 : (p : Int) ≤ (p : Int) + 1 := by omega
        have g5 : IntKind.u8.wrap ((p : Int) + 1) = (p : Int) + 1 := IntWalk.u8_in _ (by omega)
        have g6 : ((p : Int) + 1).toNat = p + 1 := by omega
        have k0 : (0 : Int) ≤ (r : Int) := by omega
        have k1 : (r : Int) ≤ 16 := by omega
        have k2 : (r : Int) + 1 ≤ 16 := by omega
        have k2' : (r : Int) + 1 ≤ ((#[48, 49, 50, 51, 52, 53, 54, 55, 56, 57, 65, 66, 67, 68, 69, 70] : Array UInt8).size : Int) := k2
        have k3 : (0 : Int) ≤ (r : Int) + 1 := by omega
        have k4 : (r : Int) ≤ (r : Int) + 1 := by omega
        have k5 : IntKind.u8.wrap ((r : Int) + 1) = (r : Int) + 1 := IntWalk.u8_in _ (by omega)
        have k6 : ((r : Int) + 1).toNat = r + 1 := by omega
        have KS : ∀ w', Below w2.heap.size w2 w' → w'.cell? (ad.add (k * 2)) = some (.int .u8 b.toNat) ∧ w'.cell? ⟨(ad.add (k * 2)).block, (ad.add (k * 2)).off + 1, none⟩ = some (.int .i64 o) ∧ Below w2.heap.size w2 w' := fun w' h =>
          ⟨((h.cell (by rw [addr_block]; omega)).trans ((HBL.out.cell (by rw [addr_block]; omega)).symm.trans hc1)), ((h.cell (by show (ad.add (k * 2)).block < _; rw [addr_block]; omega)).trans ((HBL.out.cell (by show (ad.add (k * 2)).block < _; rw [addr_block]; omega)).symm.trans hc2')), h⟩
        have HKS := Lib.hid KS
        clear KS
        go_wp2_with fail
        have HTXT : Hid ((ByteArray.mk #[37] ++ (ByteArray.mk #[48, 49, 50, 51, 52, 53, 54, 55, 56, 57, 65, 66, 67, 68, 69, 70]).extract p (p + 1) ++ (ByteArray.mk #[48, 49, 50, 51, 52, 53, 54, 55, 56, 57, 65, 66, 67, 68, 69, 70]).extract r (r + 1)).data.toList = [37, digitB (b.toNat / 16), digitB (b.toNat % 16)]) := by
          have h := digit_text p r hp16 hr16
          rw [HPQ.out, HRQ.out] at h ⊢
          exact h
        have HLE : Hid ((chCells (encC (b, o))).length = 3 * 2) := by show _ = _; rw [chCells_length, encC_len, encB_not HP.out]; rfl
        have u1 : 1 + (min (p + 1) 16 - p) ≤ 9223372036854775807 := by omega
        have u2 : 1 + (min (p + 1) 16 - p) + (min (r + 1) 16 - r) ≤ 9223372036854775807 := by omega
        have u3 : ¬ 9223372036854775807 < 1 + (min (p + 1) 16 - p) := by omega
        have u4 : ¬ 9223372036854775807 < 1 + (min (p + 1) 16 - p) + (min (r + 1) 16 - r) := by omega
        have t1 : Hid (n5 + 3 ≤ maxLen) := by show _ ≤ _; simp only [maxLen]; omega
        have t2 : Hid ((n5 + 3) * 16 ≤ 140737488355328) := by show _ ≤ _; omega
        go_region_held3 (fun w' => w'.cell? (ad.add (k * 2)) = some (.int .u8 b.toNat) ∧ w'.cell? ⟨(ad.add (k * 2)).block, (ad.add (k * 2)).off + 1, none⟩ = some (.int .i64 o) ∧ Below w2.heap.size w2 w')
          (first
            | exact HKS.out _ HBL.out.drew
            | (go_split_ands; exact HKS.out _ (by assumption))
            | exact HKS.out _ hbB
            | (go_split_ands; exact HKS.out _ (below_next (by assumption) (Nat.le_refl _) hbA)))
          (first
            | (go_at_call 9; refine (all_three _ b o _ HOO.out HP.out HTXT.out).mono ?_; rintro e wA ⟨adA, cA, rfl, hnA, hbA⟩; have hzA : wr2.heap.size ≤ wA.heap.size := hbA.size; have t3 : Hid (w2.heap.size ≤ wA.heap.size) := Nat.le_trans hws hzA; have hownA : Hid (wA.ownsRow w2.heap.size 30 2 (.slice A5 n5 c5) n5 (chCells q)) := own_keep (w := wr2.drew) HOWN.out hbA; have hblA : Hid (Below w2.heap.size w2 wA) := below_next (w := wr2.drew) HBL.out.drew (Nat.le_refl _) hbA)
            | (refine step_append_lies _ (by rfl) _ _ _ (by rfl) w2.heap.size 30 i0 _ 2 16 Try.underlying26 hi hq0 hq1 hq2 rfl (by omega) (.slice A5 n5 c5) n5 _ (by rfl) hownA.out
                adA 3 cA (chCells (encC (b, o))) (by rfl) HLE.out hnA (chCells_one' _)
                (by omega) t1.out t2.out t3.out wA.heap.size (by rfl) ?_; intro gg cap w1' hown1 hgrow hat hlt'; have hbB : Below w2.heap.size w2 w1' := hblA.out.grown hgrow t3.out (fun x hx => (HOWN.out.lt x hx).1)))
        all_goals
          have hE3 : (encC (b, o)).length = 3 := by rw [encC_len, encB_not HP.out]; rfl
          have HE3 := Lib.hid hE3
          clear hE3
          go_wp2_with fail
          go_roundw
          case rel => exact ⟨k + 1, by omega, by go_num, by rw [HNX.out, chCells_append, List.length_append, HN5.out, HE3.out]; exact hown1, hbB⟩
          case measure => simp [intOf]; omega
    · obtain rfl : k = s.size := by omega
      have htk : L.take s.size = L := List.take_of_length_le (by rw [HLN.out]; exact Nat.le_refl _)
      have hq9 := HQ.out
      rw [htk] at hq9
      have HQ9 := Lib.hid hq9
      obtain ⟨w3, rfl⟩ : ∃ w3 : World, w3 = wr := ⟨_, rfl⟩
      have hl3 : Lies w3 w3.heap.size A (runCells rs) := hl2.next HBL.out (Nat.le_refl _)
      have hL3 : Lies w3 w3.heap.size A2 (chCells L) := hL2.next HBL.out (Nat.le_refl _)
      have hE3 : Lies w3 w3.heap.size A5 (chCells q) := Lies.own HOWN.out
      have y3 := y2.below HBL.out y2.lt
      have hbw3 : Below w.heap.size w w3 := hbw2.trans (HBL.out.mono hbw2.size)
      have HHL3 := Lib.hid hl3
      have HHE3 := Lib.hid hE3
      have HBW3 := Lib.hid hbw3
      clear hl2 hL2 y2 hbw2 htk hq9 hown hbl hl3 hE3 hbw3
      go_wp2_with fail
      go_loopw [8, 10] (DecRel L s.size w3) (fun _ i _ => s.size - (intOf i).toNat)
      case atStart => exact ⟨0, [], Nat.zero_le _, rfl, by simp, by simpa [chCells] using World.ownsRow_nil _ _ _ _, Below.refl _ _⟩
      case round =>
        obtain ⟨k, out, hk, rfl, hdec, hown, hbl⟩ := hrel
        have hws3 := hbl.size
        have hol : out.length ≤ s.size := by
          have h := HDL.out
          rw [hdec, List.length_append] at h
          omega
        generalize hz6 : out.length = z6 at *
        have HZ6 := Lib.hid hz6
        have HDEC := Lib.hid hdec
        have HOWN3 := Lib.hid hown
        have HBL3 := Lib.hid hbl
        obtain ⟨A6, c6, rfl, _, _, _⟩ := own_form hown
        clear hz6 hdec hown
        by_cases hlt : k < s.size
        · obtain ⟨ad, b, o, rfl, hb, hc1, hc2', HR⟩ := (hL3.below hbl).ch (k := k) (by rw [HLN.out]; exact hlt)
          have hk0 : (0 : Int) ≤ (k : Int) := Int.natCast_nonneg _
          have hk1 : (k : Int) < (s.size : Int) := by omega
          have hne : L.drop k ≠ [] := by
            intro h
            have := congrArg List.length h
            rw [List.length_drop, HLN.out, List.length_nil] at this
            omega
          have HDN : Hid (dec (L.drop k) = ((frC (L.drop k)).1, worT (L.drop k) (frC (L.drop k)).2) :: dec (L.drop (k + (frC (L.drop k)).2))) := by
            show _ = _
            rw [dec_next hne, List.drop_drop]
          have hoo : 0 ≤ o ∧ o ≤ 65536 := HIN.out o (List.mem_map.2 ⟨(b, o), List.mem_of_getElem? HR.out, rfl⟩)
          have HOO := Lib.hid hoo
          clear hne hoo hbl
          have HD0 : Hid ((L.drop k) = (b, o) :: L.drop (k + 1)) := by
            obtain ⟨h1, h2⟩ := List.getElem?_eq_some_iff.1 HR.out
            show _ = _
            rw [← h2, ← List.drop_eq_getElem_cons h1]
          by_cases h37 : b = 37
          · have hb1 : ((b.toNat : Int) == 37) = true := by rw [h37]; rfl
            have H37 := Lib.hid h37
            clear h37
            by_cases hk2 : k + 2 < s.size
            · obtain ⟨ad1, x1, o1, he1, _, hx1, hx2, HR1⟩ := (hL3.below HBL3.out).ch (k := k + 1) (by rw [HLN.out]; omega)
              obtain rfl : ad = ad1 := by injection he1
              obtain ⟨ad2, y1, o2, he2, _, hy1, hy2, HR2⟩ := (hL3.below HBL3.out).ch (k := k + 2) (by rw [HLN.out]; omega)
              obtain rfl : ad = ad2 := by injection he2
              clear he1 he2
              have HD3 : Hid (L.drop k = (b, o) :: (x1, o1) :: (y1, o2) :: L.drop (k + 3)) := by
                have e1 : L.drop (k + 1) = (x1, o1) :: L.drop (k + 2) := by
                  obtain ⟨h1, h2⟩ := List.getElem?_eq_some_iff.1 HR1.out
                  rw [← h2, ← List.drop_eq_getElem_cons h1]
                have e2 : L.drop (k + 2) = (y1, o2) :: L.drop (k + 3) := by
                  obtain ⟨h1, h2⟩ := List.getElem?_eq_some_iff.1 HR2.out
                  rw [← h2, ← List.drop_eq_getElem_cons h1]
                show _ = _
                rw [HD0.out, e1, e2]
              have hk3 : (k : Int) + 2 < (s.size : Int) := by omega
              have hk4 : (k : Int) + 1 < (s.size : Int) := by omega
              have hk5 : ((k : Int) + 1).toNat = k + 1 := by omega
              have hk6 : ((k : Int) + 2).toNat = k + 2 := by omega
              have hX := hexB_bd x1
              have hY := hexB_bd y1
              by_cases hgx : 0 ≤ hexB x1
              · by_cases hgy : 0 ≤ hexB y1
                · go_wp2_with fail
                  refine (lawHex_any x1 _).mono ?_
                  rintro e w' ⟨rfl, rfl⟩
                  go_wp2_with fail
                  refine (lawHex_any y1 _).mono ?_
                  rintro e w' ⟨rfl, rfl⟩
                  go_wp2_with fail
                  obtain ⟨wq, rfl⟩ : ∃ wq : World, wq = w' := ⟨_, rfl⟩
                  obtain ⟨p, hp0⟩ : ∃ p : Nat, hexB x1 = (p : Int) := ⟨(hexB x1).toNat, by omega⟩
                  obtain ⟨r, hr0⟩ : ∃ r : Nat, hexB y1 = (r : Int) := ⟨(hexB y1).toNat, by omega⟩
                  have hp15 : p ≤ 15 := by omega
                  have hr15 : r ≤ 15 := by omega
                  obtain ⟨nb, hnb⟩ : ∃ nb : UInt8, nb = UInt8.ofNat (p * 16 + r) := ⟨_, rfl⟩
                  have hnn : 16 * (p : Int) + (r : Int) = (nb.toNat : Int) := by
                    rw [hnb]
                    simp
                    omega
                  have HX3 : Hid (dec L = (out ++ [(nb, worT (L.drop k) 3)]) ++ dec (L.drop (k + 3))) := by
                    have e : frC (L.drop k) = (nb, 3) := by
                      unfold frC
                      rw [HD3.out, List.map_cons, List.map_cons, List.map_cons, frst3, if_pos ⟨H37.out, hgx, hgy⟩, hp0, hr0, hnb]
                      rfl
                    show _ = _
                    rw [HDEC.out, HDN.out, e]
                    simp
                  have HHX : Hid (∀ w', Calls Try.prog 10 #[.int .u8 x1.toNat] w' fun e w'' => e = .returned (.int .i64 (p : Int)) ∧ w'' = w') := fun w' => by
                    have h := lawHex_any x1 w'
                    rw [hp0] at h
                    exact h
                  have HHY : Hid (∀ w', Calls Try.prog 10 #[.int .u8 y1.toNat] w' fun e w'' => e = .returned (.int .i64 (r : Int)) ∧ w'' = w') := fun w' => by
                    have h := lawHex_any y1 w'
                    rw [hr0] at h
                    exact h
                  have hT3 : ((L.drop k).take 3).length = 3 := by rw [List.length_take, List.length_drop, HLN.out]; omega
                  have HT3 := Lib.hid hT3
                  have HWC : Hid (∀ w', Below w3.heap.size w3 w' → Calls Try.prog 11 #[.slice (some (ad.add (k * 2))) 3 (c2 - k)] w' fun e w'' => e = .returned (.int .i64 (worT (L.drop k) 3)) ∧ w'' = w') := fun w' hb' =>
                    (refWorst_any (some (ad.add (k * 2))) 3 (c2 - k) ((L.drop k).take 3) w' (lies_part (hL3.next hb' (Nat.le_refl _)) k 3) HT3.out (by omega)).mono fun e w'' ⟨he, hw⟩ => ⟨he, hw.symm⟩
                  generalize worT (L.drop k) 3 = wt at *
                  have v1 : IntKind.i64.wrap (16 * (p : Int)) = 16 * (p : Int) := IntWalk.i64_in _ (by omega)
                  have hnb2 := nb.toNat_lt
                  have v2 : IntKind.i64.wrap (nb.toNat : Int) = (nb.toNat : Int) := IntWalk.i64_in _ (by omega)
                  have v3 : IntKind.u8.wrap (nb.toNat : Int) = (nb.toNat : Int) := IntWalk.u8_in _ (by omega)
                  have v4 : IntKind.i64.wrap ((k : Int) + 1) = (k : Int) + 1 := IntWalk.i64_in _ (by omega)
                  have v5 : IntKind.i64.wrap ((k : Int) + 2) = (k : Int) + 2 := IntWalk.i64_in _ (by omega)
                  have v6 : IntKind.i64.wrap ((k : Int) + 3) = (k : Int) + 3 := IntWalk.i64_in _ (by omega)
                  have v7 : (0 : Int) ≤ (k : Int) + 1 := by omega
                  have v8 : (0 : Int) ≤ (k : Int) + 2 := by omega
                  have v9 : (0 : Int) ≤ (k : Int) + 3 := by omega
                  have va : (k : Int) + 3 ≤ (c2 : Int) := by omega
                  have vb : (k : Int) ≤ (k : Int) + 3 := by omega
                  have vc : ((k : Int) + 3).toNat = k + 3 := by omega
                  have vd : k + 3 - k = 3 := by omega
                  have ve : ¬ c2 = k := by omega
                  have vf : (c2 == k) = false := by rw [beq_eq_false_iff_ne]; exact ve
                  have HR16 : Hid (wq.cell? (ad.add ((k + 1) * 2)) = some (.int .u8 x1.toNat)) := hx1
                  have hbk : ad.block < w3.heap.size := by omega
                  have KS : ∀ w', Below w3.heap.size w3 w' → w'.cell? (ad.add ((k + 1) * 2)) = some (.int .u8 x1.toNat) ∧ w'.cell? (ad.add ((k + 2) * 2)) = some (.int .u8 y1.toNat) ∧ Below w3.heap.size w3 w' := fun w' h =>
                    ⟨((h.cell (by rw [addr_block]; omega)).trans ((HBL3.out.cell (by rw [addr_block]; omega)).symm.trans hx1)), ((h.cell (by rw [addr_block]; omega)).trans ((HBL3.out.cell (by rw [addr_block]; omega)).symm.trans hy1)), h⟩
                  have HKS := Lib.hid KS
                  have t1 : Hid (z6 + 1 ≤ maxLen) := by show _ ≤ _; simp only [maxLen]; omega
                  have t2 : Hid ((z6 + 1) * 16 ≤ 140737488355328) := by show _ ≤ _; omega
                  clear KS hnb hp0 hr0 HR16
                  go_region_held3 (fun w' => w'.cell? (ad.add ((k + 1) * 2)) = some (.int .u8 x1.toNat) ∧ w'.cell? (ad.add ((k + 2) * 2)) = some (.int .u8 y1.toNat) ∧ Below w3.heap.size w3 w')
                    (first
                      | exact HKS.out _ HBL3.out.drew
                      | (go_split_ands; exact HKS.out _ (by assumption))
                      | exact HKS.out _ hbB
                      | exact HKS.out _ ((HBL3.out.alloc hws3 _).drew))
                    (first
                      | (go_at_call_of 10 x1; refine (HHX.out _).mono ?_; rintro e w' ⟨rfl, rfl⟩)
                      | (go_at_call_of 10 y1; refine (HHY.out _).mono ?_; rintro e w' ⟨rfl, rfl⟩)
                      | (go_at_call 11; refine (HWC.out _ ?_).mono ?_; (go_split_ands; assumption); rintro e w' ⟨rfl, rfl⟩)
                      | (refine step_append_lies _ (by rfl) _ _ _ (by rfl) w3.heap.size 30 i0 _ 2 16 Try.underlying26 hi hq0 hq1 hq2 rfl (by omega) (.slice A6 z6 c6) z6 _ (by rfl) ((HOWN3.out.alloc _).drew)
                          ⟨wq.heap.size, 0, none⟩ 1 1 [.int .u8 nb.toNat, .int .i64 wt] (by rfl) (by rfl) (World.news_of_block (cs := #[.int .u8 nb.toNat, .int .i64 wt]) (t := 30) (fr := (0, 0)) (heap_alloc_new wq _)) (by simp [Value.oneCell'])
                          (by omega) t1.out t2.out (by simp; omega) (wq.heap.size + 1) (by simp) ?_; intro gg cap w1' hown1 hgrow hat hlt'; have hbB : Below w3.heap.size w3 w1' := ((HBL3.out.alloc hws3 _).drew).grown hgrow (by simp; omega) (fun x hx => (HOWN3.out.lt x hx).1)))
                  all_goals
                    go_wp2_with fail
                    go_roundw
                    case rel => exact ⟨k + 3, out ++ [(nb, wt)], by omega, by go_num, HX3.out, by rw [chCells_snoc, List.length_append, HZ6.out]; exact hown1, hbB⟩
                    case measure => simp [intOf]; omega
                · have HX1 : Hid (dec L = (out ++ [(b, o)]) ++ dec (L.drop (k + 1))) := by
                    have e : frC (L.drop k) = (b, 1) := by
                      unfold frC
                      rw [HD0.out, List.map_cons]
                      have hd := HD3.out
                      rw [HD0.out] at hd
                      injection hd with _ hd
                      rw [hd, List.map_cons, List.map_cons, frst3, if_neg (fun h => hgy h.2.2)]
                    show _ = _
                    rw [HDEC.out, HDN.out, e]
                    have e2 : worT (L.drop k) 1 = o := by
                      rw [HD0.out]
                      show max 0 o = o
                      have := HOO.out
                      omega
                    rw [e2]
                    simp
                  have hny : ¬ 0 ≤ hexB y1 := hgy
                  go_wp2_with fail
                  refine (lawHex_any x1 _).mono ?_
                  rintro e w' ⟨rfl, rfl⟩
                  go_wp2_with fail
                  refine (lawHex_any y1 _).mono ?_
                  rintro e w' ⟨rfl, rfl⟩
                  go_wp2_with (at_builtin; refine wpList_append_own_at _ rfl _ _ 26 rfl w3.heap.size 30 i0 _ 2 16 Try.underlying26 hi hq0 hq1 hq2 rfl (by decide) (.slice A6 z6 c6) z6 _ rfl (HOWN3.out.alloc _) ⟨_, 0, none⟩ 1 1 [.int .u8 b.toNat, .int .i64 o] rfl rfl (cells_new _ _ _) (by simp [Value.oneCell']) (by simp only [maxLen]; omega) (by omega) (by simp; omega) ?_)
                  intro v' w1' hown1 hgrow _ _
                  have hbl1 : Below w3.heap.size w3 w1' := (HBL3.out.alloc (by omega) _).grown hgrow (by simp; omega) (fun x hx => (HOWN3.out.lt x hx).1)
                  clear hgrow
                  go_wp2_with fail
                  go_roundw
                  case rel => exact ⟨k + 1, out ++ [(b, o)], by omega, by go_num, HX1.out, by rw [chCells_snoc, List.length_append, HZ6.out]; exact hown1, hbl1⟩
                  case measure => simp [intOf]; omega
              · have HX1 : Hid (dec L = (out ++ [(b, o)]) ++ dec (L.drop (k + 1))) := by
                  have e : frC (L.drop k) = (b, 1) := by
                    unfold frC
                    rw [HD0.out, List.map_cons]
                    have hd := HD3.out
                    rw [HD0.out] at hd
                    injection hd with _ hd
                    rw [hd, List.map_cons, List.map_cons, frst3, if_neg (fun h => hgx h.2.1)]
                  show _ = _
                  rw [HDEC.out, HDN.out, e]
                  have e2 : worT (L.drop k) 1 = o := by
                    rw [HD0.out]
                    show max 0 o = o
                    have := HOO.out
                    omega
                  rw [e2]
                  simp
                go_wp2_with fail
                refine (lawHex_any x1 _).mono ?_
                rintro e w' ⟨rfl, rfl⟩
                go_wp2_with (at_builtin; refine wpList_append_own_at _ rfl _ _ 26 rfl w3.heap.size 30 i0 _ 2 16 Try.underlying26 hi hq0 hq1 hq2 rfl (by decide) (.slice A6 z6 c6) z6 _ rfl (HOWN3.out.alloc _) ⟨_, 0, none⟩ 1 1 [.int .u8 b.toNat, .int .i64 o] rfl rfl (cells_new _ _ _) (by simp [Value.oneCell']) (by simp only [maxLen]; omega) (by omega) (by simp; omega) ?_)
                intro v' w1' hown1 hgrow _ _
                have hbl1 : Below w3.heap.size w3 w1' := (HBL3.out.alloc (by omega) _).grown hgrow (by simp; omega) (fun x hx => (HOWN3.out.lt x hx).1)
                clear hgrow
                go_wp2_with fail
                go_roundw
                case rel => exact ⟨k + 1, out ++ [(b, o)], by omega, by go_num, HX1.out, by rw [chCells_snoc, List.length_append, HZ6.out]; exact hown1, hbl1⟩
                case measure => simp [intOf]; omega
            · have hk3 : ¬ (k : Int) + 2 < (s.size : Int) := by omega
              have HX1 : Hid (dec L = (out ++ [(b, o)]) ++ dec (L.drop (k + 1))) := by
                have e : frC (L.drop k) = (b, 1) := by
                  unfold frC
                  rw [HD0.out, List.map_cons]
                  have hl : (L.drop (k + 1)).length ≤ 1 := by rw [List.length_drop, HLN.out]; omega
                  match hq : L.drop (k + 1), hl with
                  | [], _ => rfl
                  | [_], _ => rfl
                  | _ :: _ :: _, hl => simp at hl
                show _ = _
                rw [HDEC.out, HDN.out, e]
                have e2 : worT (L.drop k) 1 = o := by
                  rw [HD0.out]
                  show max 0 o = o
                  have := HOO.out
                  omega
                rw [e2]
                simp
              go_wp2_with (at_builtin; refine wpList_append_own_at _ rfl _ _ 26 rfl w3.heap.size 30 i0 _ 2 16 Try.underlying26 hi hq0 hq1 hq2 rfl (by decide) (.slice A6 z6 c6) z6 _ rfl (HOWN3.out.alloc _) ⟨_, 0, none⟩ 1 1 [.int .u8 b.toNat, .int .i64 o] rfl rfl (cells_new _ _ _) (by simp [Value.oneCell']) (by simp only [maxLen]; omega) (by omega) (by simp; omega) ?_)
              intro v' w1' hown1 hgrow _ _
              have hbl1 : Below w3.heap.size w3 w1' := (HBL3.out.alloc (by omega) _).grown hgrow (by simp; omega) (fun x hx => (HOWN3.out.lt x hx).1)
              clear hgrow
              go_wp2_with fail
              go_roundw
              case rel => exact ⟨k + 1, out ++ [(b, o)], by omega, by go_num, HX1.out, by rw [chCells_snoc, List.length_append, HZ6.out]; exact hown1, hbl1⟩
              case measure => simp [intOf]; omega
          · have hb1 : ((b.toNat : Int) == 37) = false := by
              rw [beq_eq_false_iff_ne]
              intro e
              exact h37 (UInt8.toNat_inj.1 (by show b.toNat = 37; omega))
            have HX1 : Hid (dec L = (out ++ [(b, o)]) ++ dec (L.drop (k + 1))) := by
              have e : frC (L.drop k) = (b, 1) := by
                unfold frC
                rw [HD0.out, List.map_cons]
                exact frst_not b _ h37
              show _ = _
              rw [HDEC.out, HDN.out, e]
              have e2 : worT (L.drop k) 1 = o := by
                rw [HD0.out]
                show max 0 o = o
                have := HOO.out
                omega
              rw [e2]
              simp
            clear h37
            go_wp2_with (at_builtin; refine wpList_append_own_at _ rfl _ _ 26 rfl w3.heap.size 30 i0 _ 2 16 Try.underlying26 hi hq0 hq1 hq2 rfl (by decide) (.slice A6 z6 c6) z6 _ rfl (HOWN3.out.alloc _) ⟨_, 0, none⟩ 1 1 [.int .u8 b.toNat, .int .i64 o] rfl rfl (cells_new _ _ _) (by simp [Value.oneCell']) (by simp only [maxLen]; omega) (by omega) (by simp; omega) ?_)
            intro v' w1' hown1 hgrow _ _
            have hbl1 : Below w3.heap.size w3 w1' := (HBL3.out.alloc (by omega) _).grown hgrow (by simp; omega) (fun x hx => (HOWN3.out.lt x hx).1)
            clear hgrow
            go_wp2_with fail
            go_roundw
            case rel => exact ⟨k + 1, out ++ [(b, o)], by omega, by go_num, HX1.out, by rw [chCells_snoc, List.length_append, HZ6.out]; exact hown1, hbl1⟩
            case measure => simp [intOf]; omega
        · obtain rfl : k = s.size := by omega
          have hdr : L.drop s.size = [] := List.drop_of_length_le (by rw [HLN.out]; exact Nat.le_refl _)
          have hdd : dec L = out := by
            have h := HDEC.out
            rw [hdr, dec_nil, List.append_nil] at h
            exact h
          have HDD := Lib.hid hdd
          have y4 := y3.below HBL3.out y3.lt
          have hl4 := HHL3.out.next HBL3.out (Nat.le_refl _)
          have hE4 := HHE3.out.next HBL3.out (Nat.le_refl _)
          have hD4 : Lies wr wr.heap.size A6 (chCells out) := Lies.own HOWN3.out
          have hbw4 : Below w.heap.size w wr := HBW3.out.trans (HBL3.out.mono HBW3.out.size)
          have HBW4 := Lib.hid hbw4
          have hlenE : (encL L).length ≤ 3 * s.size := by have h := (encL_len L).2; rw [HLN.out] at h; exact h
          have c0 : wr.cell? ⟨w.heap.size, 0, none⟩ = some (.string s) := y4.at_ 0
          have c1 : wr.cell? ⟨w.heap.size, 1, none⟩ = some (.slice A m c) := y4.at_ 1
          clear hdr hdd hbl hL3 y3
          have HISE : Hid (∀ (D : Option Addr) (kk : Nat) (W : World), Lies W W.heap.size D (runCells (comp ((encL L).map (·.2)))) → Below wr.heap.size wr W → Calls Try.prog 12 #[.agg #[.string (txtOf (encL L)), .slice D (runN (encL L)) kk], .slice A5 n5 c5] W (SaysB (.bool true) W)) := fun D kk W h1 hb => by
            have h := isL_true (encL L) (by have := runN_le (encL L); omega) (by omega) W D kk A5 c5 h1 (by rw [HQ9.out]; exact hE4.next hb (Nat.le_refl _))
            rw [show (encL L).length = n5 by rw [HQ9.out, HN5.out]] at h
            exact h
          have HISD : Hid (∀ (D : Option Addr) (kk : Nat) (W : World), Lies W W.heap.size D (runCells (comp ((dec L).map (·.2)))) → Below wr.heap.size wr W → Calls Try.prog 12 #[.agg #[.string (txtOf (dec L)), .slice D (runN (dec L)) kk], .slice A6 z6 c6] W (SaysB (.bool true) W)) := fun D kk W h1 hb => by
            have hdn := HDL.out
            have h := isL_true (dec L) (by have := runN_le (dec L); omega) (by omega) W D kk A6 c6 h1 (by rw [HDD.out]; exact hD4.next hb (Nat.le_refl _))
            rw [show (dec L).length = z6 by rw [HDD.out, HZ6.out]] at h
            exact h
          have HEN : Hid (∀ W, Below wr.heap.size wr W → Calls Try.prog 13 #[.agg #[.string s, .slice A m c]] W (TellsL (encL L) W)) := fun W hb => by
            have h := encode_any s A m c rs W (hl4.next hb (Nat.le_refl _)) HM.out (by omega) hm2
            rw [HL.out] at h
            exact h.mono fun e w'' h => tellsL_of h
          have HDE : Hid (∀ W, Below wr.heap.size wr W → Calls Try.prog 14 #[.agg #[.string s, .slice A m c]] W (TellsL (dec L) W)) := fun W hb => by
            have h := decode_any s A m c rs W (hl4.next hb (Nat.le_refl _)) HM.out (by omega) hm2
            rw [HL.out] at h
            exact h.mono fun e w'' h => tellsL_of h
          have KS : ∀ w', Below wr.heap.size wr w' → w'.cell? ⟨w.heap.size, 0, none⟩ = some (.string s) ∧ w'.cell? ⟨w.heap.size, 1, none⟩ = some (.slice A m c) := fun w' h =>
            ⟨(h.cell y4.lt).trans (y4.at_ 0), (h.cell y4.lt).trans (y4.at_ 1)⟩
          have HKS := Lib.hid KS
          clear KS hlenE hl4 hE4 hD4 hbw4
          have hK0 : Below wr.heap.size wr wr := Below.refl _ _
          go_wp2_with fail
          refine (HEN.out _ hK0).mono ?_
          rintro e wx1 ⟨D1, k1, rfl, hd1, hb1⟩
          have hK1 : Below wr.heap.size wr wx1 := below_next hK0 (Nat.le_refl _) hb1
          clear c0 c1 hb1
          obtain ⟨c0, c1⟩ := HKS.out _ hK1
          have HD1 := Lib.hid hd1
          clear hd1
          go_wp2_with fail
          refine (HISE.out D1 k1 _ HD1.out hK1).mono ?_
          rintro e wx2 ⟨rfl, hb2⟩
          have hK2 : Below wr.heap.size wr wx2 := below_next hK1 (Nat.le_refl _) hb2
          clear c0 c1 hb2
          obtain ⟨c0, c1⟩ := HKS.out _ hK2
          go_wp2_with fail
          refine (HDE.out _ hK2).mono ?_
          rintro e wx3 ⟨D3, k3, rfl, hd3, hb3⟩
          have hK3 : Below wr.heap.size wr wx3 := below_next hK2 (Nat.le_refl _) hb3
          clear c0 c1 hb3
          have HD3 := Lib.hid hd3
          clear hd3
          go_wp2_with fail
          refine (HISD.out D3 k3 _ HD3.out hK3).mono ?_
          rintro e wx4 ⟨rfl, hb4⟩
          have hK4 : Below wr.heap.size wr wx4 := below_next hK3 (Nat.le_refl _) hb4
          clear hb4
          generalize hpx : plainB x = px
          have HPA : Hid (∀ W, Calls Try.prog 15 #[.int .u8 x.toNat] W fun e w'' => e = .returned (.bool px) ∧ w'' = W) := fun W => by
            have h := plain_any x W
            rw [hpx] at h
            exact h
          have HPB : Hid (∀ W, Calls Try.prog 8 #[.int .u8 x.toNat] W fun e w'' => e = .returned (.bool px) ∧ w'' = W) := fun W => by
            have h := lawPlain_any x W
            rw [hpx] at h
            exact h
          clear hpx
          go_wp2_with fail
          refine (HPA.out _).mono ?_
          rintro e w' ⟨rfl, rfl⟩
          go_wp2_with fail
          refine (HPB.out _).mono ?_
          rintro e w' ⟨rfl, rfl⟩
          have hpp : (px == px) = true := by simp
          go_wp2_with fail
          refine (hex_any x _).mono ?_
          rintro e w' ⟨rfl, rfl⟩
          go_wp2_with fail
          refine (lawHex_any x _).mono ?_
          rintro e w' ⟨rfl, rfl⟩
          have hhh : (hexB x == hexB x) = true := by simp
          go_wp2_with fail
          all_goals
            go_ret
            exact ⟨by first | rfl | exact ret_bool (by simp), HBW4.out.trans (hK4.mono (by have := HBW4.out.size; omega))⟩

end Go.Proofs.Ytpjbhjebjebbjaa.mk
