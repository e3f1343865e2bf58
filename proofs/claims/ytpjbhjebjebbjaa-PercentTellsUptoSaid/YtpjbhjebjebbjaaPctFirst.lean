/-
  The contract of percent's first.
-/
import Derived.Test.YtpjbhjebjebbjaaPctByte
import Derived.Test.YtpjbhjebjebbjaaUtfPure
namespace Go.Proofs.Ytpjbhjebjebbjaa.mk
open Go.RowKit

theorem ba_at {s : ByteArray} {k : Nat} (h : k < s.size) : s.data.toList[k]? = some (s[k]'h) := by
  rw [List.getElem?_eq_getElem (by rw [Array.length_toList]; exact h)]
  rfl

theorem or_hex_all : ((List.range 16).all fun a => (List.range 16).all fun b => bits BinOp.or IntKind.i64 ((a : Int) * 16) (b : Int) == (a : Int) * 16 + (b : Int)) = true := by decide +kernel
theorem or_hex {p q : Int} (h0 : 0 ≤ p) (h1 : p ≤ 15) (h2 : 0 ≤ q) (h3 : q ≤ 15) : bits BinOp.or IntKind.i64 (p * 16) q % 256 = ((UInt8.ofNat (p.toNat * 16 + q.toNat)).toNat : Int) := by
  have h := List.all_eq_true.1 (List.all_eq_true.1 or_hex_all p.toNat (List.mem_range.2 (by omega))) q.toNat (List.mem_range.2 (by omega))
  rw [beq_iff_eq, show ((p.toNat : Nat) : Int) = p by omega, show ((q.toNat : Nat) : Int) = q by omega] at h
  rw [h]
  simp
  omega

set_option maxHeartbeats 1000000 in
set_option maxRecDepth 100000 in
theorem first_any (s : ByteArray) (w : World) (hs : 1 ≤ s.size) (hs2 : s.size ≤ 4294967296) :
    Calls Try.prog 28 #[.string s] w fun e w' => e = .returned (.tuple #[.int .u8 (frst s.data.toList).1.toNat, .int .i64 ((frst s.data.toList).2 : Nat)]) ∧ Below w.heap.size w w' := by
  have hsl : s.data.toList.length = s.size := by rw [Array.length_toList]; rfl
  have HSL := Lib.hid hsl
  clear hsl
  have H0 := ba_at (s := s) (k := 0) hs
  generalize h0 : s[0]'hs = b at *
  have hs0 : (0 : Int) < (s.size : Int) := by omega
  by_cases h3 : 2 < s.size
  · have H1 := ba_at (s := s) (k := 1) (Nat.lt_trans (by decide) h3)
    have H2 := ba_at (s := s) (k := 2) h3
    generalize h1 : s[1]'(Nat.lt_trans (by decide) h3) = x at *
    generalize h2 : s[2]'h3 = y at *
    have hl : ∃ t, s.data.toList = b :: x :: y :: t := by
      match hl : s.data.toList, H0, H1, H2 with
      | _ :: _ :: _ :: t, H0, H1, H2 =>
        simp at H0 H1 H2
        subst H0 H1 H2
        exact ⟨t, rfl⟩
    obtain ⟨t, hl⟩ := hl
    have HF : Hid (frst s.data.toList = if b = 37 ∧ 0 ≤ hexB x ∧ 0 ≤ hexB y then (UInt8.ofNat ((hexB x).toNat * 16 + (hexB y).toNat), 3) else (b, 1)) := by
      show _ = _
      rw [hl, frst3]
    clear hl H0 H1 H2
    have hs1 : (1 : Int) < (s.size : Int) := by omega
    have hs3 : (2 : Int) < (s.size : Int) := by omega
    have hX := hexB_bd x
    have hY := hexB_bd y
    by_cases h37 : b = 37
    · have hb : ((b.toNat : Int) == 37) = true := by rw [h37]; rfl
      have HB := Lib.hid h37
      clear h37
      go_enter Try.func28, Try.ntmps28
      go_wp2_with fail
      go_quiet (first
        | (go_at_call_of 16 x; exact Calls.quiet_of_same (hex_any x _))
        | (go_at_call_of 16 y; exact Calls.quiet_of_same (hex_any y _)))
      by_cases hx : 0 ≤ hexB x
      · by_cases hy : 0 ≤ hexB y
        · go_wp2_with fail
          go_ret2
          rw [HF.out, if_pos ⟨HB.out, hx, hy⟩]
          refine ⟨?_, (Below.refl _ _).drewN _⟩
          show Ending.returned (.tuple #[.int .u8 (bits BinOp.or IntKind.i64 (hexB x * 16) (hexB y) % 256), .int .i64 3]) = _
          rw [or_hex hx hX.2 hy hY.2]
          rfl
        · go_wp2_with fail
          go_ret2
          rw [HF.out, if_neg (fun h => by have := h.2.2; omega)]
          exact ⟨rfl, (Below.refl _ _).drewN _⟩
      · go_wp2_with fail
        go_ret2
        rw [HF.out, if_neg (fun h => by have := h.2.1; omega)]
        exact ⟨rfl, (Below.refl _ _).drewN _⟩
    · have hb : ((b.toNat : Int) == 37) = false := by
        rw [beq_eq_false_iff_ne]
        intro e
        exact h37 (UInt8.toNat_inj.1 (by show b.toNat = 37; omega))
      have HB := Lib.hid h37
      clear h37
      go_enter Try.func28, Try.ntmps28
      go_wp2_with fail
      go_ret2
      rw [HF.out, if_neg (fun h => HB.out h.1)]
      exact ⟨rfl, Below.refl _ _⟩
  · have HF : Hid (frst s.data.toList = (b, 1)) := by
      show _ = _
      have hsl := HSL.out
      match hl : s.data.toList, H0, hsl with
      | [_], H0, _ => simp at H0; subst H0; rfl
      | [_, _], H0, _ => simp at H0; subst H0; rfl
      | _ :: _ :: _ :: _, _, hsl => simp at hsl; omega
    clear H0
    have hs3 : ¬ (2 : Int) < (s.size : Int) := by omega
    go_enter Try.func28, Try.ntmps28
    go_wp2_with fail
    all_goals
      go_ret2
      rw [HF.out]
      refine ⟨?_, Below.refl _ _⟩
      first
        | rfl
        | (have e : (37 : Int) = (b.toNat : Int) := by omega
           show Ending.returned (.tuple #[.int .u8 37, .int .i64 1]) = _
           rw [e]
           rfl)

end Go.Proofs.Ytpjbhjebjebbjaa.mk
