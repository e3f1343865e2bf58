/-
  Digits that are put in front, and what a text that is one reference to a number is.
-/
import Derived.Test.YtagpdcgcjallhaaEntOne
namespace Go.Proofs.Ytagpdcgcjallhaa.mk
open Go.RowKit

theorem valD_front (base : Int) (d : UInt8) (l : List UInt8) : valD base (d :: l) = hexB d * base ^ l.length + valD base l := by
  induction l using snocInd with
  | nil => simp [valD]
  | append_singleton l b ih =>
    rw [← List.cons_append, valD_snoc, valD_snoc, ih, List.length_append, List.length_cons, List.length_nil, Int.add_mul, Int.mul_assoc, Int.pow_succ, Int.add_assoc]
/-- the digits so far, and what is left of the number -/
def DigSt (base : Int) (n : Int) (l : List UInt8) (k : Int) : Prop :=
  0 ≤ k ∧ n = k * base ^ l.length + valD base l ∧ (∀ b ∈ l, digV base b = true) ∧ l.length ≤ 7
theorem DigSt.start {base n : Int} (h : 0 ≤ n) : DigSt base n [] n := ⟨h, by simp [valD], by simp, by simp⟩
theorem DigSt.next {base n k : Int} {l : List UInt8} {d : UInt8} (hb : 10 ≤ base) (hn : n < 10000000) (h : DigSt base n l k) (hk : 0 < k ∨ l = []) (hd : hexB d = k % base) : DigSt base n (d :: l) (k / base) := by
  obtain ⟨h1, h2, h3, h4⟩ := h
  have hp : 0 < base ^ l.length := Int.pow_pos (by omega)
  have hm := Int.emod_nonneg k (show base ≠ 0 by omega)
  have hm2 := Int.emod_lt_of_pos k (show 0 < base by omega)
  have hv := (valC_eq (top := 0) (Int.le_refl _) (by omega) l h3).1
  have hl : l.length ≤ 6 := by
    rcases hk with hk | hk
    · rcases Nat.lt_or_ge 6 l.length with hl | hl
      · exfalso
        have h5 : l.length = 7 := by omega
        rw [h5] at h2 hp
        have h6 : (10 : Int) ^ 7 ≤ base ^ 7 := by
          have e : ∀ x : Int, x ^ 7 = x * x * x * x * x * x * x := fun x => by simp [Int.pow_succ]
          rw [e, e]
          have a1 : (10 : Int) * 10 ≤ base * base := Int.mul_le_mul hb hb (by omega) (by omega)
          have a2 : (10 : Int) * 10 * 10 ≤ base * base * base := Int.mul_le_mul a1 hb (by omega) (by omega)
          have a3 : (10 : Int) * 10 * 10 * 10 ≤ base * base * base * base := Int.mul_le_mul a2 hb (by omega) (by omega)
          have a4 : (10 : Int) * 10 * 10 * 10 * 10 ≤ base * base * base * base * base := Int.mul_le_mul a3 hb (by omega) (by omega)
          have a5 : (10 : Int) * 10 * 10 * 10 * 10 * 10 ≤ base * base * base * base * base * base := Int.mul_le_mul a4 hb (by omega) (by omega)
          exact Int.mul_le_mul a5 hb (by omega) (by omega)
        have h7 : 1 * base ^ 7 ≤ k * base ^ 7 := Int.mul_le_mul_of_nonneg_right (by omega) (by omega)
        have h8 : (10 : Int) ^ 7 = 10000000 := by decide
        omega
      · exact hl
    · subst hk; simp
  refine ⟨Int.ediv_nonneg h1 (by omega), ?_, ?_, by simp; omega⟩
  · rw [valD_front, hd, List.length_cons, Int.pow_succ, ← Int.add_assoc, h2]
    congr 1
    have e := Int.mul_ediv_add_emod k base
    generalize base ^ l.length = p at *
    rw [Int.mul_comm p base, ← Int.mul_assoc, ← Int.add_mul, Int.mul_comm (k / base) base, e]
  · intro b hb'
    rcases List.mem_cons.1 hb' with rfl | hb'
    · unfold digV
      rw [hd]
      simp
      exact ⟨hm, hm2⟩
    · exact h3 b hb'
theorem DigSt.done {base n : Int} {l : List UInt8} (h : DigSt base n l 0) : valD base l = n := by
  have := h.2.1
  rw [Int.zero_mul, Int.zero_add] at this
  exact this.symm

theorem digV_semi2 {base : Int} {b : UInt8} (h : digV base b = true) : (b != 59) = true := by
  rw [bne_iff_ne]
  intro e
  subst e
  have h2 := (digV_bd h).1
  revert h2
  decide
theorem standsN_dec {l : List UInt8} (h1 : l ≠ []) (h2 : ∀ b ∈ l, digV 10 b = true) : standsN (35 :: l) = some (valD 10 l) := by rw [standsN_hash, numS_dec h1 h2]
theorem standsN_hex {l : List UInt8} (h1 : l ≠ []) (h2 : ∀ b ∈ l, digV 16 b = true) : standsN (35 :: 120 :: l) = some (valD 16 l) := by rw [standsN_hash, numS_hex (.inl rfl) h1 h2]
theorem ref_one {T b : List UInt8} {n : Int} (hT : T = 38 :: (b ++ [59])) (hb : ∀ x ∈ b, (x != 59) = true) (hs : standsN b = some n) (q : List (Int × Int)) : (decE (chars T q)).map (·.1) = (numB n).data.toList := by
  refine decE_whole ?_
  rw [chars_fst, chars_length, hT, refer_of hb hs]
  simp
theorem decD_hex : ∀ d : Nat, d < 10 → hexB (UInt8.ofNat (48 + d)) = (d : Int) := by decide
theorem hexD_cut : ∀ p : Nat, p < 16 → ∃ x, ((ByteArray.mk #[48, 49, 50, 51, 52, 53, 54, 55, 56, 57, 97, 98, 99, 100, 101, 102]).extract p (p + 1)).data.toList = [x] ∧ hexB x = (p : Int) := by
  intro p hp
  have h : ∀ p : Nat, p < 16 → ((ByteArray.mk #[48, 49, 50, 51, 52, 53, 54, 55, 56, 57, 97, 98, 99, 100, 101, 102]).extract p (p + 1)).data.toList = [if p < 10 then UInt8.ofNat (48 + p) else UInt8.ofNat (87 + p)] := by decide +kernel
  have h2 : ∀ p : Nat, p < 16 → hexB (if p < 10 then UInt8.ofNat (48 + p) else UInt8.ofNat (87 + p)) = (p : Int) := by decide
  exact ⟨_, h p hp, h2 p hp⟩

end Go.Proofs.Ytagpdcgcjallhaa.mk
