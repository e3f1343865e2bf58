/-
  Contracts of strings.Builder's WriteByte and Len at a builder of the call's own, and of percent's writeEncoded.
-/
import Derived.Test.YtpjbhjebjebbjaaPctByte
import Derived.Test.YtpjbhjebjebbjaaMarkBuf
import Derived.Test.YtpjbhjebjebbjaaPctFirst
namespace Go.Proofs.Ytpjbhjebjebbjaa.mk
open Go.RowKit

set_option maxHeartbeats 1000000 in
set_option maxRecDepth 100000 in
theorem builderLen_any (B b : Nat) (bs : List Value) (w : World) (h : Lib.IsBuilderF 50 5 B b bs w) :
    Calls Try.prog 25 #[.pointer (some ⟨b, 0, none⟩)] w fun e w' => e = .returned (.int .i64 (bs.length : Int)) ∧ w' = w := by
  obtain ⟨p, hB, v, hbk, hown, hne⟩ : ∃ p, Lib.BuilderAtF 50 5 B b p bs w := by
    rcases h with h | h
    · exact ⟨_, h⟩
    · exact ⟨_, h⟩
  obtain ⟨ao, cap, rfl⟩ : ∃ ao cap, v = .slice ao bs.length cap := by
    rcases hown.2 with ⟨hv, h0⟩ | ⟨g, cap, cur, fz, hv, _⟩
    · exact ⟨none, 0, by rw [hv, h0]⟩
    · exact ⟨_, _, hv⟩
  have c1 : w.cell? ⟨b, 1, none⟩ = some (.slice ao bs.length cap) := Whole.at_ hbk 1
  go_enter Try.func25, Try.ntmps25
  go_wp2_with fail
  go_ret
  exact ⟨rfl, rfl⟩

set_option maxHeartbeats 2000000 in
set_option maxRecDepth 100000 in
theorem writeByte_any (B b : Nat) (bs : List Value) (c : Int) (w : World) (h : Lib.IsBuilderF 50 5 B b bs w) (hlen : bs.length + 1 ≤ 140737488355328) (hBw : B ≤ w.heap.size) :
    Calls Try.prog 29 #[.pointer (some ⟨b, 0, none⟩), .int .u8 c] w fun e w' => e = .returned .nilIface ∧ Lib.BuilderAtF 50 5 B b (.pointer (some ⟨b, 0, none⟩)) (bs ++ [.int .u8 c]) w' ∧ Below B w w' ∧ Lib.OthersKept 5 (some b) w w' := by
  obtain ⟨i0, hi, hz0, hz1, hz2⟩ := info_parts byte_info'
  go_enter Try.func29, Try.ntmps29
  go_wp2_with fail
  refine (copyCheck_any B b bs _ h).mono ?_
  rintro e w1 ⟨rfl, ⟨hB, v, hbk, hown, hne⟩, hb1, hk1⟩
  have hz := hb1.size
  have c0 : w1.cell? ⟨b, 0, none⟩ = some (.pointer (some ⟨b, 0, none⟩)) := Whole.at_ hbk 0
  have c1 : w1.cell? ⟨b, 1, none⟩ = some v := Whole.at_ hbk 1
  go_wp2_with (at_builtin; refine wpList_append_ownF _ rfl _ _ 48 rfl B 5 i0 (.int .u8 0) 1 1 Try.underlying48 hi hz0 hz1 hz2 rfl (by decide) _ _ _ rfl (hown.alloc _) ⟨w1.heap.size, 0, none⟩ 1 1 [.int .u8 c] rfl rfl (cells_new w1 _ _) (by simp [Value.oneCell']) (by simp only [maxLen]; omega) (by omega) (by simp; omega) ?_)
  intro v' w2 hown' hgrow _
  have hbk1 : Whole (w1.alloc (.cells #[.int .u8 c] 5)) b 50 #[.pointer (some ⟨b, 0, none⟩), v] := Whole.alloc hbk _
  have hb2 := Whole.grown (t := 50) hbk1 hgrow (fun e => hne e.symm)
  have d0 : w2.cell? ⟨b, 0, none⟩ = some (.pointer (some ⟨b, 0, none⟩)) := hb2.at_ 0
  have d1 : w2.cell? ⟨b, 1, none⟩ = some v := hb2.at_ 1
  have f1 := hb2.free 1
  obtain ⟨ao, n', cap, rfl⟩ : ∃ ao n' cap, v' = .slice ao n' cap := by
    rcases hown'.2 with ⟨hv, _⟩ | ⟨g, cap, cur, fz, hv, _⟩
    · exact ⟨_, _, _, hv⟩
    · exact ⟨_, _, _, hv⟩
  go_wp2
  go_ret
  refine ⟨rfl, ?_, ?_, ((hk1.alloc _).grown hgrow (Lib.ownsRowF_kind (hown.alloc _))).setCell ⟨b, 1, none⟩ rfl _⟩
  · exact Lib.BuilderAtF.put (T := 50) (e := 5) hB hb2 (bs' := bs ++ [.int .u8 c]) (by simpa using hown') (by decide)
  · exact ((hb1.alloc (by omega) _).grown hgrow (by simp; omega) (fun k hk => (hown.lt k hk).1)).setCell (p := ⟨b, 1, none⟩) hB _

/-- what writing leaves -/
def WrotePost (B b : Nat) (xs : List UInt8) (w : World) (w' : World) : Prop :=
  Lib.IsBuilderF 50 5 B b (Lib.byteCells xs) w' ∧ Below B w w' ∧ Lib.OthersKept 5 (some b) w w'
theorem WrotePost.next {B b : Nat} {xs ys : List UInt8} {w w1 w2 : World} (h : WrotePost B b xs w w1) (k : WrotePost B b ys w1 w2) : WrotePost B b ys w w2 :=
  ⟨k.1, h.2.1.trans k.2.1, h.2.2.trans k.2.2⟩
theorem writeByte_bytes (B b : Nat) (xs : List UInt8) (x : UInt8) (w : World) (h : Lib.IsBuilderF 50 5 B b (Lib.byteCells xs) w) (hlen : xs.length + 1 ≤ 140737488355328) (hBw : B ≤ w.heap.size) :
    Calls Try.prog 29 #[.pointer (some ⟨b, 0, none⟩), .int .u8 x.toNat] w fun e w' => e = .returned .nilIface ∧ WrotePost B b (xs ++ [x]) w w' := by
  refine (writeByte_any B b (Lib.byteCells xs) x.toNat w h (by rw [Lib.byteCells_length]; exact hlen) hBw).mono ?_
  rintro e w' ⟨rfl, h1, h2, h3⟩
  refine ⟨rfl, .inr ?_, h2, h3⟩
  rw [byteCells_append]
  exact h1

theorem digit_at : ∀ n : Nat, n < 16 → ∀ h : n < (ByteArray.mk #[48, 49, 50, 51, 52, 53, 54, 55, 56, 57, 65, 66, 67, 68, 69, 70]).size, (ByteArray.mk #[48, 49, 50, 51, 52, 53, 54, 55, 56, 57, 65, 66, 67, 68, 69, 70])[n]'h = digitB n := by decide +kernel

set_option maxHeartbeats 2000000 in
set_option maxRecDepth 100000 in
theorem writeEncoded_any (B b : Nat) (xs : List UInt8) (x : UInt8) (w : World) (h : Lib.IsBuilderF 50 5 B b (Lib.byteCells xs) w) (hlen : xs.length + 3 ≤ 140737488355328) (hBw : B ≤ w.heap.size) :
    Calls Try.prog 26 #[.pointer (some ⟨b, 0, none⟩), .int .u8 x.toNat] w fun e w' => e = .returned (.tuple #[]) ∧ WrotePost B b (xs ++ encB x) w w' := by
  have hx := x.toNat_lt
  go_enter Try.func26, Try.ntmps26
  go_wp2_with fail
  refine (plain_any x _).mono ?_
  rintro e w' ⟨rfl, rfl⟩
  cases hp : plainB x with
  | true =>
    have HE := Lib.hid (encB_plain hp)
    clear hp
    go_wp2_with fail
    refine (writeByte_bytes B b xs x _ h (by omega) hBw).mono ?_
    rintro e w1 ⟨rfl, h1⟩
    go_wp2_with fail
    (try simp only [Exit.inBlock, Exit.then])
    refine bodyPost_ret (results_none rfl _ _ _) rfl ?_
    rw [HE.out]
    exact ⟨rfl, h1⟩
  | false =>
    have HE := Lib.hid (encB_not hp)
    clear hp
    go_wp2_with fail
    refine (writeByte_bytes B b xs 37 _ h (by omega) hBw).mono ?_
    rintro e w1 ⟨rfl, h1⟩
    have hz1 := h1.2.1.size
    go_wp2_with fail
    rw [digit_at (x.toNat / 16) (by omega)]
    refine (writeByte_bytes B b (xs ++ [37]) _ _ h1.1 (by rw [List.length_append]; simp; omega) (by omega)).mono ?_
    rintro e w2 ⟨rfl, h2⟩
    have hz2 := h2.2.1.size
    go_wp2_with fail
    rw [digit_at (x.toNat % 16) (by omega)]
    refine (writeByte_bytes B b (xs ++ [37] ++ [digitB (x.toNat / 16)]) _ _ h2.1 (by rw [List.length_append, List.length_append]; simp; omega) (by omega)).mono ?_
    rintro e w3 ⟨rfl, h3⟩
    have h4 := (h1.next h2).next h3
    go_wp2_with fail
    go_end0
    rw [HE.out]
    refine ⟨rfl, ?_⟩
    simpa using h4

end Go.Proofs.Ytpjbhjebjebbjaa.mk
