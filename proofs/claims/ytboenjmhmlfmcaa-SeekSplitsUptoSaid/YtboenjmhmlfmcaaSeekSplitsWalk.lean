/-
  The walk of the statement SeekSplits.
-/
import Derived.Test.YtboenjmhmlfmcaaSeekAlive
import Derived.Test.YtboenjmhmlfmcaaSeekJoin
import Derived.Test.YtboenjmhmlfmcaaMarkRefStr
import Derived.Deep.RegionHeld3
namespace Go.Proofs.Ytboenjmhmlfmcaa.mk
open Go.RowKit

theorem findI_absent {l : List UInt8} {x : UInt8} (h : ∀ y ∈ l, y ≠ x) (f : Int) : findI l [x] f = -1 := by
  refine findI_none (a := atN l.length f) (i := l.length) rfl (by simp) (fun j _ _ => ?_)
  cases ho : Lib.occAt l [x] j with
  | false => rfl
  | true =>
    have := Lib.occAt_head (t := []) rfl ho
    exact absurd rfl (h x (List.mem_of_getElem? this))
theorem weave_flat {α : Type} (b : List α) (a : List (List α)) (z : List α) : (weave b (a ++ [z])).flatten = (a.flatMap fun q => q ++ b) ++ z := by
  cases a with
  | nil => simp [weave]
  | cons x xs =>
    have h : ∀ ys : List (List α), x ++ (ys.flatMap fun y => [b, y]).flatten ++ b = (x :: ys).flatMap fun q => q ++ b := by
      intro ys
      induction ys using snocInd with
      | nil => simp
      | append_singleton ys y ih =>
        rw [← List.cons_append, List.flatMap_append, List.flatMap_append, List.flatten_append, ← ih]
        simp
    rw [← h xs]
    simp [weave]
theorem split_text {x : UInt8} {s : List UInt8} {ts : List LT} {b : LT} (hb : b.bs = [x]) (h : ts.map LT.bs = parts (atB x) s) : catBs (weave b ts) = s := by
  rw [catBs_map, weave_map, h, hb]
  unfold parts
  rw [weave_flat]
  exact parts_join (atB x) s x (fun y _ hy => by simpa [atB] using hy)

def CountRel (l : List UInt8) (x : UInt8) (n i : Value) : Prop :=
  ∃ k : Nat, k ≤ l.length ∧ i = .int .i64 (k : Int) ∧ n = .int .i64 (((l.take k).countP (atB x) + 1 : Nat) : Int)
/-- a labelled text of these bytes is told -/
def SaysText (t : ByteArray) (w : World) (e : Ending) (w' : World) : Prop := ∃ A n c, e = .returned (.agg #[.string t, .slice A n c]) ∧ Below w.heap.size w w'
def SplitsRel (m : Nat) (w0 : World) (i : Value) (wr : World) : Prop :=
  ∃ k : Nat, k ≤ m ∧ i = .int .i64 (k : Int) ∧ Below w0.heap.size w0 wr

set_option maxHeartbeats 600000 in
set_option maxRecDepth 100000 in
theorem splits_any (mx : Int) (a : LT) (x : UInt8) (w : World) (hmx : w.cell? ⟨0, 0, none⟩ = some (.int .i64 mx)) (hok : a.ok w w.heap.size) (hs : a.s.size ≤ 1048576) :
    Calls Try.prog 4 #[a.v, .int .u8 x.toNat] w fun e w' => e = .returned (.bool true) ∧ Below w.heap.size w w' := by
  have HOK := Lib.hid hok
  have HMX := Lib.hid hmx
  clear hok hmx
  have hsl : a.s.data.toList.length = a.s.size := by rw [Array.length_toList]; rfl
  have HSL := Lib.hid hsl
  clear hsl
  unfold LT.v
  go_enter Try.func4, Try.ntmps4
  go_wp2_with fail
  generalize hw0 : w.alloc (.cells #[.string a.s, .slice a.A a.n a.c] 24) = w0
  have y0 : Whole w0 w.heap.size 24 #[.string a.s, .slice a.A a.n a.c] := by rw [← hw0]; exact Whole.made w _ _
  have hb0 : Below w.heap.size w w0 := by rw [← hw0]; exact (Below.refl _ _).alloc (Nat.le_refl _) _
  clear hw0
  refine (alive4_any mx w0 (maxLen_keep HMX.out hb0)).mono ?_
  rintro e w1 ⟨rfl, hb1⟩
  have y1 := y0.below hb1 y0.lt
  have hbw := below_next hb0 (Nat.le_refl _) hb1
  have hz1 := hbw.size
  have hlt1 := y1.lt
  have e0 : w1.cell? ⟨w.heap.size, 0, none⟩ = some (.string a.s) := y1.at_ 0
  have e1 : w1.cell? ⟨w.heap.size, 1, none⟩ = some (.slice a.A a.n a.c) := y1.at_ 1
  have HA1 := Lib.hid (HOK.out.next hbw (Nat.le_refl _))
  clear y0
  go_wp2_with fail
  obtain ⟨wo, rfl⟩ : ∃ wo : World, wo = w1 := ⟨_, rfl⟩
  go_loop [5, 6] (CountRel a.s.data.toList x) (fun _ i => a.s.size - (intOf i).toNat)
  case atStart => exact ⟨0, Nat.zero_le _, rfl, rfl⟩
  case round =>
    obtain ⟨k, hk, rfl, rfl⟩ := hrel
    rw [HSL.out] at hk
    have hcn : (a.s.data.toList.take k).countP (atB x) ≤ k := Nat.le_trans List.countP_le_length (by rw [List.length_take]; omega)
    by_cases hlt : k < a.s.size
    · have hk0 : (0 : Int) ≤ (k : Int) := Int.natCast_nonneg _
      have hk1 : (k : Int) < (a.s.size : Int) := by omega
      have HSK : Hid (a.s.data.toList[k]? = some (a.s[k]'hlt)) := by
        show _ = _
        rw [List.getElem?_eq_getElem (by rw [HSL.out]; exact hlt)]
        rfl
      have HNX : Hid ((a.s.data.toList.take (k + 1)).countP (atB x) = (a.s.data.toList.take k).countP (atB x) + if atB x (a.s[k]'hlt) then 1 else 0) := by
        show _ = _
        rw [take_next HSK.out, List.countP_append, List.countP_singleton]
      generalize hcc : (a.s.data.toList.take k).countP (atB x) = cc at *
      clear hcc
      generalize hy : a.s[k]'hlt = y at *
      have HY := Lib.hid hy
      clear hy
      by_cases hyx : y = x
      · have HNY : Hid ((a.s.data.toList.take (k + 1)).countP (atB x) = cc + 1) := by show _ = _; rw [HNX.out, if_pos (by simp [atB, hyx])]
        have hyi : ((a.s[k]'hlt).toNat : Int) = (x.toNat : Int) := by rw [HY.out, hyx]
        clear hyx
        go_wp2_with fail
        go_round
        case rel => exact ⟨k + 1, by rw [HSL.out]; omega, by go_num, by rw [HNY.out]; go_num⟩
        case measure => simp [intOf]; omega
      · have HNY : Hid ((a.s.data.toList.take (k + 1)).countP (atB x) = cc) := by show _ = _; rw [HNX.out, if_neg (by simp [atB, hyx]), Nat.add_zero]
        have hyi : ¬ ((a.s[k]'hlt).toNat : Int) = (x.toNat : Int) := by rw [HY.out]; intro e; exact hyx (UInt8.toNat_inj.1 (by omega))
        clear hyx
        go_wp2_with fail
        go_round
        case rel => exact ⟨k + 1, by rw [HSL.out]; omega, by go_num, by rw [HNY.out]⟩
        case measure => simp [intOf]; omega
    · have HKE := Lib.hid (show k = a.s.size by omega)
      have HCN : Hid ((a.s.data.toList.take k).countP (atB x) = a.s.data.toList.countP (atB x)) := by show _ = _; rw [List.take_of_length_le (by rw [HSL.out]; omega)]
      rw [HCN.out] at hcn ⊢
      generalize hcc : a.s.data.toList.countP (atB x) = cc at *
      have HCC := Lib.hid hcc
      clear hcc
      go_wp2_with fail
      refine (split2_any a.s a.A a.n a.c a.rs x _ HA1.out.1 HA1.out.2.1 HA1.out.2.2.2 HA1.out.2.2.1).mono ?_
      rintro e w2 ⟨v2, ts, rfl, ho2, hT, hb2⟩
      obtain ⟨A2, c2, rfl, _, _, _⟩ := own_form ho2
      have hTL : ts.length = cc + 1 := by
        rw [hT.1, ← HCC.out, ← parts_length, ← chars_fst a.s.data.toList a.rs, ← parts_fst, List.length_map, chars_fst]
      have HTB : Hid (ts.map LT.bs = parts (atB x) a.s.data.toList) := by
        show _ = _
        rw [hT.bs, parts_fst, chars_fst]
      have HOKT : Hid (∀ t ∈ ts, t.ok w2 w2.heap.size) := hT.ok (fun q hq => by have h := parts_le _ _ q hq; rw [chars_length, HSL.out] at h; omega)
      have HNO : Hid (∀ (j : Nat) (t : LT), ts[j]? = some t → findI t.s.data.toList [x] 0 = -1) := by
        intro j t ht
        obtain ⟨q, hq, h1, _⟩ := hT.get ht
        refine findI_absent (fun y hy => ?_) 0
        rw [h1] at hy
        have hy' : y ∈ q.map (·.1) := hy
        obtain ⟨z, hz, rfl⟩ := List.mem_map.1 hy'
        have h2 := parts_none _ _ q (List.mem_of_getElem? hq) z hz
        simpa [onB, atB] using h2
      have HSM : Hid (∀ t ∈ ts, t.s.size ≤ 1048576) := by
        intro t ht
        obtain ⟨j, hj⟩ := List.mem_iff_getElem?.1 ht
        obtain ⟨q, hq, h1, _⟩ := hT.get hj
        have h := parts_le _ _ q (List.mem_of_getElem? hq)
        rw [chars_length, HSL.out] at h
        rw [h1, bytesOf_size]
        omega
      have HTL := Lib.hid hTL
      have HLI := Lib.hid (Lies.own ho2)
      clear hT hTL ho2
      rw [HTL.out]
      have y2 := y1.below hb2 y1.lt
      have hz2 := hb2.size
      go_wp2_with fail
      obtain ⟨wq, rfl⟩ : ∃ wq : World, wq = w2 := ⟨_, rfl⟩
      go_loopw [8] (SplitsRel (cc + 1) wq) (fun i _ => cc + 1 - (intOf i).toNat)
      case atStart => exact ⟨0, Nat.zero_le _, rfl, Below.refl _ _⟩
      case round =>
        obtain ⟨j, hj, rfl, hbl⟩ := hrel
        have hws := hbl.size
        by_cases hjl : j < cc + 1
        · obtain ⟨ad, t, rfl, hbA, hd1, hd2, HR⟩ := (HLI.out.below hbl).lt (k := j) (by rw [HTL.out]; exact hjl)
          have HNF := Lib.hid (HNO.out j t HR.out)
          have HST := Lib.hid (HSM.out t (List.mem_of_getElem? HR.out))
          have hj0 : (0 : Int) ≤ (j : Int) := Int.natCast_nonneg _
          have hj1 : (j : Int) < (cc : Int) + 1 := by omega
          have KS : ∀ w', Below wr.heap.size wr w' → w'.cell? (ad.add (j * 2)) = some (.string t.s) ∧ w'.cell? ⟨(ad.add (j * 2)).block, (ad.add (j * 2)).off + 1, none⟩ = some (.slice t.A t.n t.c) ∧ Below wr.heap.size wr w' := fun w' h =>
            ⟨(h.cell (by rw [addr_block]; omega)).trans hd1, (h.cell (by show (ad.add (j * 2)).block < _; rw [addr_block]; omega)).trans hd2, h⟩
          have hd1' := (KS (wr.alloc (.cells #[.int .u8 x.toNat] 5)) (Below.alloc (Below.refl _ _) (Nat.le_refl _) _)).1
          have hd2' := (KS (wr.alloc (.cells #[.int .u8 x.toNat] 5)) (Below.alloc (Below.refl _ _) (Nat.le_refl _) _)).2.1
          clear KS
          have hcv : (convert 43 9 (.slice (some ⟨wr.heap.size, 0, none⟩) 1 1)).run Try.prog (wr.alloc (.cells #[.int .u8 x.toNat] 5)) = .ok (.string ⟨#[x]⟩) (wr.alloc (.cells #[.int .u8 x.toNat] 5)) :=
            run_convert_bytes_back (P := Try.prog) _ 43 9 5 ⟨wr.heap.size, 0, none⟩ 1 [x] Try.underlying43 Try.underlying5 Try.underlying9 (fun i hi => by
              obtain rfl : i = 0 := by simpa using hi
              exact (Whole.made wr 5 #[.int .u8 x.toNat]).at_ 0)
          have hcv2 : (convert 43 9 (.slice (some ⟨wr.heap.size, 0, none⟩) 1 1)).run Try.prog (wr.alloc (.cells #[.int .u8 x.toNat] 5)).drew = .ok (.string ⟨#[x]⟩) (wr.alloc (.cells #[.int .u8 x.toNat] 5)).drew :=
            run_convert_bytes_back (P := Try.prog) _ 43 9 5 ⟨wr.heap.size, 0, none⟩ 1 [x] Try.underlying43 Try.underlying5 Try.underlying9 (fun i hi => by
              obtain rfl : i = 0 := by simpa using hi
              exact (Whole.made wr 5 #[.int .u8 x.toNat]).at_ 0)
          have HIX : Hid (∀ W, Below wr.heap.size wr W → Calls Try.prog 13 #[.agg #[.string t.s, .slice t.A t.n t.c], .string ⟨#[x]⟩, .int .i64 0] W fun e w' => e = .returned (.int .i64 (-1)) ∧ Below W.heap.size W w') := by
            intro W hW
            have h := index_any t.s t.A t.n t.c ⟨#[x]⟩ 0 mx W (by have := HST.out; omega) (maxLen_keep HMX.out (below_next (below_next (below_next hbw (Nat.le_refl _) hb2) (Nat.le_refl _) hbl) (Nat.le_refl _) hW))
            rw [show (ByteArray.mk #[x]).data.toList = [x] from rfl, HNF.out] at h
            exact h
          go_wp2_with fail
          go_region_with (go_at_call 13; refine (HIX.out _ ?_).mono ?_; (first | exact Below.alloc (Below.refl _ _) (Nat.le_refl _) _ | exact Below.drew (Below.alloc (Below.refl _ _) (Nat.le_refl _) _) | exact Below.drewN (Below.alloc (Below.refl _ _) (Nat.le_refl _) _) _); rintro e w4 ⟨rfl, hbC⟩; have HB4 : Hid (Below wr.heap.size wr w4) := (by first | exact below_next (Below.alloc (Below.refl _ _) (Nat.le_refl _) _) (Nat.le_refl _) hbC | exact below_next (Below.drew (Below.alloc (Below.refl _ _) (Nat.le_refl _) _)) (Nat.le_refl _) hbC | exact below_next (Below.drewN (Below.alloc (Below.refl _ _) (Nat.le_refl _) _) _) (Nat.le_refl _) hbC); clear hbC)
          all_goals
            go_wp2_with fail
            go_roundw
            case rel => exact ⟨j + 1, by omega, by go_num, below_next hbl (Nat.le_refl _) HB4.out⟩
            case measure => simp [intOf]; omega
        · have HBT := Lib.hid (split_text (x := x) (s := a.s.data.toList) (ts := ts) (b := ⟨⟨#[x]⟩, none, 0, 0, []⟩) rfl HTB.out)
          have yr := y2.below hbl (by omega)
          have e0r : wr.cell? ⟨w.heap.size, 0, none⟩ = some (.string a.s) := yr.at_ 0
          have e0a : (wr.alloc (.cells #[.int .u8 x.toNat] 5)).cell? ⟨w.heap.size, 0, none⟩ = some (.string a.s) := (yr.alloc _).at_ 0
          have hyr := yr.lt
          have HJN : Hid (∀ W A5 q c5, Below wr.heap.size wr W → Lies W W.heap.size A5 (runCells q) → q.length ≤ 1 → Calls Try.prog 18 #[.slice A2 (cc + 1) c2, .agg #[.string ⟨#[x]⟩, .slice A5 q.length c5]] W (SaysText a.s W)) := by
            intro W A5 q c5 hW hq hq1
            have hWq := below_next hbl (Nat.le_refl _) hW
            have hbt : catBs (weave ⟨⟨#[x]⟩, A5, q.length, c5, q⟩ ts) = a.s.data.toList := split_text (x := x) rfl HTB.out
            refine (seekJoin_any A2 (cc + 1) c2 ts ⟨⟨#[x]⟩, A5, q.length, c5, q⟩ W (HLI.out.next hWq (Nat.le_refl _)) HTL.out (by omega) (fun t ht => (HOKT.out t ht).next hWq (Nat.le_refl _)) ⟨hq, rfl, by show q.length ≤ _; omega, by show (1 : Nat) ≤ _; omega⟩ (by rw [← catBs_length, hbt, HSL.out]; omega)).mono ?_
            rintro e w' ⟨v, rfl, h1, h2⟩
            obtain ⟨A6, c6, rfl, _, _, _⟩ := own_form h1
            rw [hbt]
            exact ⟨A6, _, c6, rfl, h2⟩
          have HOF : Hid (∀ W, Below wr.heap.size wr W → Calls Try.prog 19 #[.string ⟨#[x]⟩, .int .i64 0] W fun e w' => ∃ A5 q c5, e = .returned (.agg #[.string ⟨#[x]⟩, .slice A5 (q : List (Int × Int)).length c5]) ∧ Lies w' w'.heap.size A5 (runCells q) ∧ q.length ≤ 1 ∧ Below wr.heap.size wr w') := by
            intro W hW
            refine (of_any ⟨#[x]⟩ 0 W (by show (1 : Nat) ≤ _; omega)).mono ?_
            rintro e w' ⟨v, rfl, h1, h2⟩
            obtain ⟨A6, c6, rfl, _, _, _⟩ := own_form h1
            refine ⟨A6, _, c6, rfl, Lies.own h1, ?_, below_next hW (Nat.le_refl _) h2⟩
            have := comp_length_le (List.replicate (ByteArray.mk #[x]).size (nearO 0))
            rw [List.length_replicate] at this
            exact this
          have hcv : (convert 43 9 (.slice (some ⟨wr.heap.size, 0, none⟩) 1 1)).run Try.prog (wr.alloc (.cells #[.int .u8 x.toNat] 5)) = .ok (.string ⟨#[x]⟩) (wr.alloc (.cells #[.int .u8 x.toNat] 5)) :=
            run_convert_bytes_back (P := Try.prog) _ 43 9 5 ⟨wr.heap.size, 0, none⟩ 1 [x] Try.underlying43 Try.underlying5 Try.underlying9 (fun i hi => by
              obtain rfl : i = 0 := by simpa using hi
              exact (Whole.made wr 5 #[.int .u8 x.toNat]).at_ 0)
          have hcv2 : (convert 43 9 (.slice (some ⟨wr.heap.size, 0, none⟩) 1 1)).run Try.prog (wr.alloc (.cells #[.int .u8 x.toNat] 5)).drew = .ok (.string ⟨#[x]⟩) (wr.alloc (.cells #[.int .u8 x.toNat] 5)).drew :=
            run_convert_bytes_back (P := Try.prog) _ 43 9 5 ⟨wr.heap.size, 0, none⟩ 1 [x] Try.underlying43 Try.underlying5 Try.underlying9 (fun i hi => by
              obtain rfl : i = 0 := by simpa using hi
              exact (Whole.made wr 5 #[.int .u8 x.toNat]).at_ 0)
          go_wp2_with fail
          have KS2 : ∀ w', Below wr.heap.size wr w' → w'.cell? ⟨w.heap.size, 0, none⟩ = some (.string a.s) ∧ Below wr.heap.size wr w' := fun w' h => ⟨(h.cell hyr).trans e0r, h⟩
          have HKS2 := Lib.hid KS2
          clear KS2
          go_region_held (fun w' => w'.cell? ⟨w.heap.size, 0, none⟩ = some (.string a.s) ∧ Below wr.heap.size wr w')
            (first
              | exact HKS2.out _ (Below.refl _ _)
              | exact HKS2.out _ (Below.drew (Below.refl _ _))
              | exact HKS2.out _ (Below.alloc (Below.refl _ _) (Nat.le_refl _) _)
              | exact HKS2.out _ (Below.drew (Below.alloc (Below.refl _ _) (Nat.le_refl _) _))
              | (go_split_ands; exact HKS2.out _ (by assumption))
              | (go_split_ands; exact HKS2.out _ (below_next (by assumption) (Nat.le_refl _) hb6)))
            (first
              | (go_at_call 19; refine (HOF.out _ ?_).mono ?_; (go_split_ands; assumption); rintro e w5 ⟨A5, q5, c5, rfl, hl5, hq5, hb5⟩)
              | (go_at_call 18; refine (HJN.out _ _ _ _ hb5 hl5 hq5).mono ?_; rintro e w6 ⟨A6, n6, c6, rfl, hb6⟩; have ft := fun w' => field_text a.s A6 n6 c6 w'))
          all_goals
            go_wp2_with fail
            go_ret
            exact ⟨rfl, below_next (below_next (below_next (below_next (below_next hbw (Nat.le_refl _) hb2) (Nat.le_refl _) hbl) (Nat.le_refl _) hb5) (Nat.le_refl _) hb6) (Nat.le_refl _) (Below.refl _ _)⟩

end Go.Proofs.Ytboenjmhmlfmcaa.mk
