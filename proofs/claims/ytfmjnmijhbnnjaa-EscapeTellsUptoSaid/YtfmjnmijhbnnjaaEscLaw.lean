/-
  The contract of the statement's own words: what is escaped, as a row of bytes with their origins.
-/
import Derived.Test.YtfmjnmijhbnnjaaEscPure
import Derived.Test.YtfmjnmijhbnnjaaMarkAll
import Derived.Test.YtfmjnmijhbnnjaaApp
import Derived.Lib.ConvBytes
import Derived.Deep.DeepCutAuto
import Derived.Deep.CutBlock
namespace Go.Proofs.Ytfmjnmijhbnnjaa.mk
open Go.RowKit

def WordsRel (L : List (UInt8 × Int)) (n : Nat) (v : Bool) (w0 : World) (out i : Value) (wr : World) : Prop :=
  ∃ k : Nat, k ≤ n ∧ i = .int .i64 (k : Int) ∧ wr.ownsRow w0.heap.size 33 2 out (escL v (L.take k)).length (chCells (escL v (L.take k))) ∧ Below w0.heap.size w0 wr
theorem putE_all9 {p : List UInt8} {o : Int} (h : 0 ≤ o ∧ o ≤ 65536) : allCh p o = putE p o := by
  unfold allCh putE
  rw [nearO_in h.1 h.2]
theorem escB_size {v : Bool} {b : UInt8} {T : ByteArray} (h : T.data.toList = escB v b) : T.size = (escB v b).length := by
  rw [← h, Array.length_toList]; rfl

set_option maxHeartbeats 4000000 in
set_option maxRecDepth 100000 in
theorem lawWords_any (L : List (UInt8 × Int)) (A : Option Addr) (n c : Nat) (v : Bool) (w : World) (hl : Lies w w.heap.size A (chCells L)) (hn : L.length = n) (hin : InR L) (hsz : n ≤ 3000000) :
    Calls Try.prog 10 #[.slice A n c, .bool v] w fun e w' => ∃ x, e = .returned x ∧ w'.ownsRow w.heap.size 33 2 x (escL v L).length (chCells (escL v L)) ∧ Below w.heap.size w w' := by
  have HN := Lib.hid hn
  have HIN := Lib.hid hin
  have hel : ∀ k, (escL v (L.take k)).length ≤ 6 * n := fun k => by
    have h1 := (escL_len v (L.take k)).2
    have h2 : (L.take k).length ≤ n := by rw [List.length_take]; omega
    omega
  have HEL := Lib.hid hel
  clear hn hin hel
  obtain ⟨i0, hi, hq0, hq1, hq2⟩ := info_parts ch_info
  go_enter Try.func10, Try.ntmps10
  go_wp2_with fail
  go_loopw [5, 6] (WordsRel L n v w) (fun _ i _ => n - (intOf i).toNat)
  case atStart => exact ⟨0, Nat.zero_le _, rfl, by simpa [chCells, escL] using World.ownsRow_nil _ _ _ _, Below.refl _ _⟩
  case round =>
    obtain ⟨k, hk, rfl, hown, hbl⟩ := hrel
    have hws := hbl.size
    have hrl := HEL.out k
    by_cases hlt : k < n
    · obtain ⟨ad, b, o, rfl, hb, hc1, hc2, HR⟩ := (hl.below hbl).ch (k := k) (by rw [HN.out]; exact hlt)
      have hk0 : (0 : Int) ≤ (k : Int) := Int.natCast_nonneg _
      have hk1 : (k : Int) < (n : Int) := by omega
      have hoo : 0 ≤ o ∧ o ≤ 65536 := HIN.out o (List.mem_map.2 ⟨(b, o), List.mem_of_getElem? HR.out, rfl⟩)
      have HOO := Lib.hid hoo
      have HNX : Hid (escL v (L.take (k + 1)) = escL v (L.take k) ++ putE (escB v b) o) := escL_next HR.out
      generalize hq : escL v (L.take k) = q at *
      generalize hz : q.length = z at *
      have HZ := Lib.hid hz
      have HOWN := Lib.hid hown
      have HBL := Lib.hid hbl
      obtain ⟨A5, c5, rfl, _, _, _⟩ := own_form hown
      clear hq hz hoo hown hbl
      have hb8 := b.toNat_lt
      go_upto_block 2 with fail
      go_cut [7] (fun s7 wx => ∃ T : ByteArray, s7 = .string T ∧ T.data.toList = escB v b ∧ Below wr.heap.size wr wx)
      case first =>
        have HBC := Lib.hid hc1
        by_cases h1 : b = 38
        · subst h1
          go_wp2_with fail
          go_meet
          exact ⟨_, rfl, by simp [escB], Below.refl _ _⟩
        have n1 : ¬ ((b.toNat : Int) = 38) := fun e => h1 (UInt8.toNat_inj.1 (by show b.toNat = 38; omega))
        by_cases h2 : b = 60
        · subst h2
          go_wp2_with fail
          go_meet
          exact ⟨_, rfl, by simp [escB], Below.refl _ _⟩
        have n2 : ¬ ((b.toNat : Int) = 60) := fun e => h2 (UInt8.toNat_inj.1 (by show b.toNat = 60; omega))
        by_cases h3 : b = 62
        · subst h3
          go_wp2_with fail
          go_meet
          exact ⟨_, rfl, by simp [escB], Below.refl _ _⟩
        have n3 : ¬ ((b.toNat : Int) = 62) := fun e => h3 (UInt8.toNat_inj.1 (by show b.toNat = 62; omega))
        by_cases h4 : b = 13
        · subst h4
          go_wp2_with fail
          go_meet
          exact ⟨_, rfl, by simp [escB], Below.refl _ _⟩
        have n4 : ¬ ((b.toNat : Int) = 13) := fun e => h4 (UInt8.toNat_inj.1 (by show b.toNat = 13; omega))
        have hcv : (convert 47 9 (.slice (some ⟨wr.heap.size, 0, none⟩) 1 1)).run Try.prog (wr.alloc (.cells #[.int .u8 b.toNat] 5)) = .ok (.string ⟨#[b]⟩) (wr.alloc (.cells #[.int .u8 b.toNat] 5)) :=
          run_convert_bytes_back (P := Try.prog) _ 47 9 5 ⟨wr.heap.size, 0, none⟩ 1 [b] Try.underlying47 Try.underlying5 Try.underlying9 (fun i hi => by
            obtain rfl : i = 0 := by simpa using hi
            exact (Whole.made wr 5 #[.int .u8 b.toNat]).at_ 0)
        by_cases h5 : b = 34
        · subst h5
          cases v with
          | true =>
            go_wp2_with fail
            go_meet
            exact ⟨_, rfl, by simp [escB], Below.refl _ _⟩
          | false =>
            have hcv2 : (convert 47 9 (.slice (some ⟨wr.heap.size, 0, none⟩) 1 1)).run Try.prog (wr.alloc (.cells #[.int .u8 34] 5)) = .ok (.string ⟨#[34]⟩) (wr.alloc (.cells #[.int .u8 34] 5)) := hcv
            clear hcv
            go_wp2_with fail
            go_meet
            exact ⟨_, rfl, by simp [escB], (Below.refl _ _).alloc (Nat.le_refl _) _⟩
        have n5 : ¬ ((b.toNat : Int) = 34) := fun e => h5 (UInt8.toNat_inj.1 (by show b.toNat = 34; omega))
        have HE : Hid ((ByteArray.mk #[b]).data.toList = escB v b) := by show _ = _; simp [escB, h1, h2, h3, h4, h5]
        clear h1 h2 h3 h4 h5
        go_wp2_with fail
        go_meet
        exact ⟨_, rfl, HE.out, (Below.refl _ _).alloc (Nat.le_refl _) _⟩
      case rest =>
        obtain ⟨T, rfl, hT, hbc⟩ := hcut
        have hTs := escB_size hT
        have hTl := (escB_len v b).2
        rw [← hTs] at hTl
        have hd2 : wc.cell? ⟨(ad.add (k * 2)).block, (ad.add (k * 2)).off + 1, none⟩ = some (.int .i64 o) := (hbc.cell (by show (ad.add (k * 2)).block < _; rw [addr_block]; omega)).trans hc2
        have hOWc := own_keep HOWN.out hbc
        have hwc := hbc.size
        have HTT := Lib.hid hT
        have HOC := Lib.hid hOWc
        have hblc := HBL.out.trans (hbc.mono hws)
        clear hT hTs hc1 hc2 hOWc
        go_wp2_with fail
        refine (all_any T o _ (by omega)).mono ?_
        rintro e w0 ⟨v0, rfl, hown0, hbl0⟩
        rw [putE_all9 HOO.out, HTT.out] at hown0
        obtain ⟨A0, c0, rfl, hA0, _, _⟩ := own_form hown0
        have HOW0 := Lib.hid (own_keep HOC.out hbl0)
        have HO0 := Lib.hid hown0
        have hz0' := hbl0.size
        clear hown0
        have hTl2 : T.size = (escB v b).length := by rw [← HTT.out, Array.length_toList]; rfl
        have s1 := Lib.hid (show (chCells (putE (escB v b) o)).length = T.size * 2 by rw [chCells_length, putE_len, hTl2])
        have s3 : Hid (z + T.size ≤ maxLen) := by show _ ≤ _; simp only [maxLen]; omega
        have s4 : Hid ((z + T.size) * 16 ≤ 140737488355328) := by show _ ≤ _; omega
        have s5 : Hid (w.heap.size ≤ w0.heap.size) := by show _ ≤ _; omega
        clear hTl2
        go_wp2_with (at_builtin; refine wpList_append_src _ rfl _ _ 26 rfl w.heap.size 33 i0 _ 2 16 Try.underlying26 hi hq0 hq1 hq2 rfl (by decide) (.slice A5 z c5) z _ rfl HOW0.out w0.heap.size A0 T.size c0 (chCells (putE (escB v b) o)) rfl hA0 s1.out (Lies.own HO0.out) (chCells_one' _) s3.out s4.out s5.out ?_)
        intro v1 w1 hown1 hgrow _
        have hbl1 : Below w.heap.size w w1 := (hblc.trans (hbl0.mono (by omega))).trans ((Below.refl _ _).grown hgrow s5.out (fun x hx => (HOW0.out.lt x hx).1))
        clear hgrow
        go_wp2_with fail
        go_roundw
        case rel => exact ⟨k + 1, by omega, by go_num, by rw [HNX.out, chCells_append, List.length_append, HZ.out, putE_len, ← HTT.out, Array.length_toList]; rw [← HTT.out] at hown1; exact hown1, hbl1⟩
        case measure => simp [intOf]; omega
    · have hkn : k = n := by omega
      subst hkn
      have HF : Hid (L.take k = L) := List.take_of_length_le (by rw [HN.out]; exact Nat.le_refl _)
      rw [HF.out] at hown
      obtain ⟨A5, c5, rfl, _, _, _⟩ := own_form hown
      generalize hz : (escL v L).length = z at *
      have HZ := Lib.hid hz
      have HOWN := Lib.hid hown
      clear hz hown
      go_wp2_with fail
      go_ret
      exact ⟨_, rfl, by rw [HZ.out]; exact HOWN.out, hbl⟩

end Go.Proofs.Ytfmjnmijhbnnjaa.mk
