/-
  Contracts of fold's functions that tell whether a byte is sought, and of upper.
-/
import Derived.Test.YtpbpnffbaelcaaaMarkRefIs
import Derived.Test.YtpbpnffbaelcaaaMarkFix
namespace Go.Proofs.Ytpbpnffbaelcaaa.mk
open Go.RowKit

def upperB (b : UInt8) : Bool := decide (65 ≤ b.toNat) && decide (b.toNat ≤ 90)
def lowB (b : UInt8) : UInt8 := if upperB b then b + 32 else b

set_option maxHeartbeats 400000 in
theorem upper_any (b : UInt8) (w : World) :
    Calls Try.prog 32 #[.int .u8 b.toNat] w fun e w' => e = .returned (.bool (upperB b)) ∧ w = w' := by
  go_enter Try.func32, Try.ntmps32
  go_wp2
  all_goals
    go_ret
    refine ⟨ret_bool ?_, rfl⟩
    unfold upperB
    rw [Bool.eq_iff_iff]
    simp
    try omega

set_option maxHeartbeats 400000 in
theorem endsF_any (b : UInt8) (w : World) :
    Calls Try.prog 37 #[.int .u8 b.toNat] w fun e w' => e = .returned (.bool (decide (b.toNat ≤ 32))) ∧ w = w' := by
  go_enter Try.func37, Try.ntmps37
  go_wp2
  all_goals
    go_ret
    refine ⟨ret_bool ?_, rfl⟩
    rw [Bool.eq_iff_iff]
    simp
    try omega

set_option maxHeartbeats 400000 in
theorem amongF_any (b : UInt8) (f : UInt8 → Bool) (g : Nat) (w : World) (h : w.cell? ⟨g, b.toNat, none⟩ = some (.bool (f b))) :
    Calls Try.prog 43 #[.int .u8 b.toNat, .pointer (some ⟨g, 0, none⟩)] w fun e w' => e = .returned (.bool (f b)) ∧ w = w' := by
  have hb := b.toNat_lt
  have hb1 : (b.toNat : Int) < 256 := by omega
  go_enter Try.func43, Try.ntmps43
  go_wp2
  go_ret
  exact ⟨rfl, rfl⟩

theorem zero_given (w : World) : Sem.run Try.prog (zeroValue 60) w = Result.ok (.agg (Array.replicate 256 (.bool false))) w := by kernel_rfl

def AmongRel (l : List UInt8) (g : Nat) (w0 : World) (i : Value) (wr : World) : Prop :=
  ∃ k : Nat, k ≤ l.length ∧ i = .int .i64 (k : Int) ∧ (∃ cs, cs.size = 256 ∧ Whole wr g 60 cs ∧ ∀ b : UInt8, cs[b.toNat]? = some (.bool ((l.take k).contains b))) ∧ Below g w0 wr

set_option maxHeartbeats 1000000 in
set_option maxRecDepth 100000 in
theorem among_any (s : ByteArray) (w : World) (hs : s.size ≤ 4294967296) :
    Calls Try.prog 35 #[.string s] w fun e w' => e = .returned (.func (.func 43) #[] #[.pointer (some ⟨w.heap.size, 0, none⟩)]) ∧ (∀ b : UInt8, w'.cell? ⟨w.heap.size, b.toNat, none⟩ = some (.bool (s.data.toList.contains b))) ∧ w.heap.size < w'.heap.size ∧ Below w.heap.size w w' := by
  have hsl : s.data.toList.length = s.size := by rw [Array.length_toList]; rfl
  have HSL := Lib.hid hsl
  clear hsl
  go_enter Try.func35, Try.ntmps35
  go_wp2_with fail
  obtain ⟨cs0, hcs⟩ : ∃ cs0 : Array Value, cs0 = Array.replicate 256 (Value.bool false) := ⟨_, rfl⟩
  have hw1 : AmongRel s.data.toList w.heap.size w (.int .i64 0) (w.alloc (.cells cs0 60)) := by
    refine ⟨0, Nat.zero_le _, rfl, ⟨cs0, by rw [hcs]; simp, Whole.made _ _ _, fun b => ?_⟩, (Below.refl _ _).alloc (Nat.le_refl _) _⟩
    have := b.toNat_lt
    rw [hcs]
    simp [Array.getElem?_replicate]
    omega
  first
    | (rw [zero_given]
       simp only [Result.andThen]
       rw [Oper.upon_value, ← hcs]
       clear hcs
       generalize w.alloc (.cells cs0 60) = w1 at *
       go_wp2_with fail)
    | (have hzc : Try.zeroCells60 = cs0 := by rw [hcs]; kernel_rfl
       rw [hzc]
       clear hcs hzc
       generalize w.alloc (.cells cs0 60) = w1 at *)
  go_loopw [7] (AmongRel s.data.toList w.heap.size w) (fun i _ => s.size - (intOf i).toNat)
  case atStart => exact hw1
  case round =>
    obtain ⟨k, hk, rfl, ⟨cs, hcs, hW, hcell⟩, hbl⟩ := hrel
    rw [HSL.out] at hk
    clear hw1
    have hWl := hW.lt
    by_cases hlt : k < s.size
    · have hk0 : (0 : Int) ≤ (k : Int) := Int.natCast_nonneg _
      have hk1 : (k : Int) < (s.size : Int) := by omega
      have HSK : Hid (s.data.toList[k]? = some (s[k]'hlt)) := by
        show _ = _
        rw [List.getElem?_eq_getElem (by rw [HSL.out]; exact hlt)]
        rfl
      generalize hsk : s[k]'hlt = x at *
      have hx := x.toNat_lt
      have hx1 : (x.toNat : Int) < 256 := by omega
      have hx0 : (0 : Int) ≤ (x.toNat : Int) := Int.natCast_nonneg _
      have hc0 : wr.cell? ⟨w.heap.size, x.toNat, none⟩ = some (.bool ((s.data.toList.take k).contains x)) := (hW.at_ _).trans (hcell x)
      have hf0 := hW.free x.toNat
      have HC := Lib.hid hcell
      have HNX : Hid (s.data.toList.take (k + 1) = s.data.toList.take k ++ [x]) := take_next HSK.out
      clear hcell
      go_wp2_with fail
      go_roundw
      case rel =>
        refine ⟨k + 1, by rw [HSL.out]; omega, by go_num, ⟨_, ?_, hW.put x.toNat _, fun b => ?_⟩, hbl.setCell (Nat.le_refl _) _⟩
        · simpa using hcs
        · rw [HNX.out]
          by_cases hb : b = x
          · subst hb
            rw [Array.getElem?_setIfInBounds_self_of_lt (by rw [hcs]; omega)]
            simp
          · rw [Array.getElem?_setIfInBounds_ne (by intro e; exact hb (UInt8.toNat_inj.1 e.symm)), HC.out]
            simp [hb]
      case measure => simp [intOf]; omega
    · obtain rfl : k = s.size := by omega
      have HC := Lib.hid hcell
      clear hcell
      go_wp2_with fail
      go_ret
      refine ⟨rfl, fun b => ?_, hWl, hbl⟩
      rw [hW.at_, HC.out, List.take_of_length_le (by rw [HSL.out]; exact Nat.le_refl _)]

end Go.Proofs.Ytpbpnffbaelcaaa.mk
