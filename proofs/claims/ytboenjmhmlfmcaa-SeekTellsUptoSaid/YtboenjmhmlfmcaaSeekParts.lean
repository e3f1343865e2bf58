/-
  Contracts of seek's Split and Fields.
-/
import Derived.Test.YtboenjmhmlfmcaaSeekSplit
import Derived.Lib.IndexAny
namespace Go.Proofs.Ytboenjmhmlfmcaa.mk
open Go.RowKit

set_option maxHeartbeats 400000 in
theorem splitF_any (b x : UInt8) (g : Nat) (w : World) (h : w.cell? ⟨g, 0, none⟩ = some (.int .u8 x.toNat)) :
    Calls Try.prog 28 #[.int .u8 b.toNat, .pointer (some ⟨g, 0, none⟩)] w fun e w' => e = .returned (.bool (b == x)) ∧ w = w' := by
  go_enter Try.func28, Try.ntmps28
  go_wp2
  go_ret
  refine ⟨ret_bool ?_, rfl⟩
  rw [Bool.eq_iff_iff]
  simp [← UInt8.toNat_inj]
  try omega

def blanksL : List UInt8 := [9, 10, 12, 13, 32]
theorem byte_back (b : UInt8) : (b.toNat : Int).toNat.toUInt8 = b := by simp

set_option maxHeartbeats 400000 in
theorem fieldsF_any (b : UInt8) (w : World) :
    Calls Try.prog 23 #[.int .u8 b.toNat] w fun e w' => e = .returned (.bool (isIn blanksL b)) ∧ w = w' := by
  have HB : Hid (isIn blanksL b = decide (0 ≤ Lib.indexByte blanksL b)) := Lib.contains_iff_indexByte blanksL b
  go_enter Try.func23, Try.ntmps23
  go_wp2_with fail
  refine (Try.strings_IndexByte ⟨#[9, 10, 12, 13, 32]⟩ (b.toNat : Int) _).mono ?_
  rw [byte_back]
  rintro e w' ⟨rfl, rfl⟩
  have hj : Lib.indexByte (ByteArray.mk #[9, 10, 12, 13, 32]).data.toList b = Lib.indexByte blanksL b := rfl
  rw [hj]
  generalize Lib.indexByte blanksL b = j at *
  go_wp2
  go_ret
  exact ⟨by rw [HB.out]; rfl, rfl⟩

theorem tellsAll_next {qs : List (List (UInt8 × Int))} {w w1 : World} {e : Ending} {w' : World} (h : TellsAll qs w1 e w') (hb : Below w.heap.size w w1) : TellsAll qs w e w' := by
  obtain ⟨v, ts, h1, h2, h3, h4⟩ := h
  exact ⟨v, ts, h1, own_mono h2 hb.size, h3.mono hb.size, hb.trans (h4.mono hb.size)⟩

/-- whether a byte is the one sought -/
def atB (x : UInt8) (b : UInt8) : Bool := b == x

set_option maxHeartbeats 1000000 in
set_option maxRecDepth 100000 in
theorem split2_any (s : ByteArray) (A : Option Addr) (n c : Nat) (rs : List (Int × Int)) (x : UInt8) (w : World) (hl : Lies w w.heap.size A (runCells rs)) (hn : rs.length = n) (hs : s.size ≤ 4294967296) (hn2 : n ≤ 4294967296) :
    Calls Try.prog 17 #[.agg #[.string s, .slice A n c], .int .u8 x.toNat] w (TellsAll (parts (onB (atB x)) (chars s.data.toList rs)) w) := by
  have HN := Lib.hid hn
  clear hn
  go_enter Try.func17, Try.ntmps17
  go_wp2_with fail
  generalize hw0 : (w.alloc (.cells #[.string s, .slice A n c] 24)).alloc (.cells #[.int .u8 x.toNat] 5) = w0
  have hb0 : Below w.heap.size w w0 := by rw [← hw0]; exact ((Below.refl _ _).alloc (Nat.le_refl _) _).alloc (by simp) _
  have hW : Whole w0 (w.heap.size + 1) 5 #[.int .u8 x.toNat] := by
    rw [← hw0]
    have h := Whole.made (w.alloc (.cells #[.string s, .slice A n c] 24)) 5 #[.int .u8 x.toNat]
    simp only [World.size_alloc] at h
    exact h
  have hlt := hW.lt
  clear hw0
  refine (split_any 28 #[.pointer (some ⟨w.heap.size + 1, 0, none⟩)] (atB x) 0 s A n c rs w0 (hl.next hb0 (Nat.le_refl _)) HN.out hs hn2 (by omega) (fun _ _ => rfl) (fun b w' h => splitF_any b x _ w' ((hW.below h hlt).at_ 0))).mono ?_
  rw [least_zero]
  intro e w2 h
  obtain ⟨v, ts, rfl, h2, h3, h4⟩ := tellsAll_next h hb0
  obtain ⟨A2, c2, rfl, _, _, _⟩ := own_form h2
  clear h
  have H2 := Lib.hid h2
  clear h2
  go_wp2
  go_ret
  exact ⟨_, ts, rfl, H2.out, h3, h4⟩

set_option maxHeartbeats 1000000 in
set_option maxRecDepth 100000 in
theorem fields_any (s : ByteArray) (A : Option Addr) (n c : Nat) (rs : List (Int × Int)) (w : World) (hl : Lies w w.heap.size A (runCells rs)) (hn : rs.length = n) (hs : s.size ≤ 4294967296) (hn2 : n ≤ 4294967296) :
    Calls Try.prog 11 #[.agg #[.string s, .slice A n c]] w (TellsAll (least 1 (parts (onB (isIn blanksL)) (chars s.data.toList rs))) w) := by
  have HN := Lib.hid hn
  clear hn
  go_enter Try.func11, Try.ntmps11
  go_wp2_with fail
  generalize hw0 : w.alloc (.cells #[.string s, .slice A n c] 24) = w0
  have hb0 : Below w.heap.size w w0 := by rw [← hw0]; exact (Below.refl _ _).alloc (Nat.le_refl _) _
  clear hw0
  refine (split_any 23 #[] (isIn blanksL) 1 s A n c rs w0 (hl.next hb0 (Nat.le_refl _)) HN.out hs hn2 (by omega) (fun _ _ => rfl) (fun b w' _ => fieldsF_any b w')).mono ?_
  intro e w2 h
  obtain ⟨v, ts, rfl, h2, h3, h4⟩ := tellsAll_next h hb0
  obtain ⟨A2, c2, rfl, _, _, _⟩ := own_form h2
  clear h
  have H2 := Lib.hid h2
  clear h2
  go_wp2
  go_ret
  exact ⟨_, ts, rfl, H2.out, h3, h4⟩

end Go.Proofs.Ytboenjmhmlfmcaa.mk
