/-
  The contract of the reference's Index.
-/
import Derived.Test.YtdiifkmcbnhliaaGreatJoinC
import Derived.Test.YtdiifkmcbnhliaaGreatJoinV
import Derived.Test.YtdiifkmcbnhliaaGreatJoinR
import Derived.Deep.QuietTactic
import Derived.BigQuiet
namespace Go.Proofs.YtdiifkmcbnhliaaGreat.mk
open Go.RowKit

def RefIRel (lb p : List UInt8) (a : Nat) (w0 : World) (i : Value) (wr : World) : Prop :=
  ∃ k : Nat, a ≤ k ∧ k ≤ lb.length + 1 ∧ i = .int .i64 (k : Int) ∧ (∀ j, a ≤ j → j < k → Lib.occAt lb p j = false) ∧ Below w0.heap.size w0 wr
theorem byte_beq (a b : UInt8) : ((a.toNat : Int) == (b.toNat : Int)) = (a == b) := by
  rw [Bool.eq_iff_iff]
  simp [← UInt8.toNat_inj]
  try omega
def RefIIn (lb p : List UInt8) (i : Nat) (w0 : World) (b k : Value) (wr : World) : Prop :=
  ∃ j : Nat, j ≤ p.length ∧ k = .int .i64 (j : Int) ∧ b = .bool (agree lb p i j) ∧ Below w0.heap.size w0 wr

set_option maxHeartbeats 1000000 in
set_option maxRecDepth 100000 in
theorem refIndex_any (A : Option Addr) (n c : Nat) (l : List (UInt8 × Int)) (p : ByteArray) (f : Int) (w : World) (hl : Lies w w.heap.size A (chCells l)) (hn : l.length = n) (hn2 : n ≤ 4294967296) (hp : p.size ≤ 4294967296) :
    Calls Tryz.prog 53 #[.slice A n c, .string p, .int .i64 f] w fun e w' => e = .returned (.int .i64 (findI (l.map (·.1)) p.data.toList f)) ∧ Below w.heap.size w w' := by
  have hpl : p.data.toList.length = p.size := by rw [Array.length_toList]; rfl
  have hml : (l.map (·.1)).length = n := by rw [List.length_map, hn]
  have hx := atN_eq n f
  have hal := atN_le n f
  have HPL := Lib.hid hpl
  have HN := Lib.hid hn
  have HML := Lib.hid hml
  have HL := Lib.hid hl
  have HAA : Hid (atN n f = atN (l.map (·.1)).length f) := by show _ = _; rw [hml]
  clear hpl hn hml hl
  go_enter Tryz.func53, Tryz.ntmps53
  go_wp2_with fail
  clear hx
  generalize hat : atN n f = a at *
  clear hat
  go_loopw [7] (RefIRel (l.map (·.1)) p.data.toList a w) (fun i _ => n + 1 - (intOf i).toNat)
  case atStart => exact ⟨a, Nat.le_refl _, by rw [HML.out]; omega, rfl, fun j h1 h2 => by omega, Below.refl _ _⟩
  case round =>
    obtain ⟨k, hak, hk, rfl, hno, hbl⟩ := hrel
    rw [HML.out] at hk
    have HNO := Lib.hid hno
    have HBL := Lib.hid hbl
    clear hno hbl
    by_cases hgo : k + p.size ≤ n
    · go_wp2_with fail
      obtain ⟨wo, rfl⟩ : ∃ wo : World, wo = wr := ⟨_, rfl⟩
      go_loopw [8, 9] (RefIIn (l.map (·.1)) p.data.toList k w) (fun _ i _ => p.size - (intOf i).toNat)
      case atStart => exact ⟨0, Nat.zero_le _, rfl, by rw [agree_zero], HBL.out⟩
      case round =>
        obtain ⟨j, hj, rfl, rfl, hbl⟩ := hrel
        rw [HPL.out] at hj
        have HB2 := Lib.hid hbl
        clear hbl
        by_cases hlt : j < p.size
        · obtain ⟨ad, b, o, rfl, hb, hc1, hc2, HR⟩ := (HL.out.below HB2.out).ch (k := k + j) (by rw [HN.out]; omega)
          have HPK : Hid (p.data.toList[j]? = some (p[j]'hlt)) := by
            show _ = _
            rw [List.getElem?_eq_getElem (by rw [HPL.out]; exact hlt)]
            rfl
          have HLK : Hid ((l.map (·.1))[k + j]? = some b) := by show _ = _; rw [List.getElem?_map, HR.out]; rfl
          have HAG := Lib.hid (agree_next HPK.out HLK.out)
          generalize hy : p[j]'hlt = y at *
          have HY := Lib.hid hy
          clear hy
          have e1 : (0 : Int) ≤ (k : Int) + (j : Int) := by omega
          have e2 : (k : Int) + (j : Int) < (n : Int) := by omega
          have e3 : ((k : Int) + (j : Int)).toNat = k + j := by omega
          have e4 : IntKind.i64.wrap ((k : Int) + (j : Int)) = (k : Int) + (j : Int) := IntWalk.i64_in _ (by omega)
          have e5 : (0 : Int) ≤ (j : Int) := Int.natCast_nonneg _
          have e6 : (j : Int) < (p.size : Int) := by omega
          clear hc2
          cases hag : agree (l.map (·.1)) p.data.toList k j with
          | false =>
            have HA2 : Hid (agree (l.map (·.1)) p.data.toList k (j + 1) = false) := by show _ = _; rw [HAG.out, hag, Bool.false_and]
            clear hag
            go_wp2_with fail
            go_quiet (fail)
            go_wp2_with fail
            go_roundw
            case rel => exact ⟨j + 1, by rw [HPL.out]; omega, by go_num, by rw [HA2.out], HB2.out.drewN _⟩
            case measure => simp [intOf]; omega
          | true =>
            have HA2 : Hid (agree (l.map (·.1)) p.data.toList k (j + 1) = (b == y)) := by show _ = _; rw [HAG.out, hag, Bool.true_and]
            clear hag
            go_wp2_with fail
            go_quiet (fail)
            go_wp2_with fail
            go_roundw
            case rel => exact ⟨j + 1, by rw [HPL.out]; omega, by go_num, by rw [HA2.out, ← HY.out]; exact congrArg Value.bool (byte_beq _ _), HB2.out.drewN _⟩
            case measure => simp [intOf]; omega
        · obtain rfl : j = p.size := by omega
          have HAG : Hid (agree (l.map (·.1)) p.data.toList k p.size = Lib.occAt (l.map (·.1)) p.data.toList k) := by
            show _ = _
            rw [← HPL.out, agree_all]
          cases hoc : Lib.occAt (l.map (·.1)) p.data.toList k with
          | true =>
            have HE := Lib.hid (HAG.out.trans hoc)
            have HRES : Hid (findI (l.map (·.1)) p.data.toList f = k) := findI_first HAA.out hak (by rw [HML.out]; omega) hoc HNO.out
            clear hoc
            rw [HE.out]
            go_wp2_with fail
            go_ret
            exact ⟨by rw [HRES.out]; rfl, HB2.out⟩
          | false =>
            have HE := Lib.hid (HAG.out.trans hoc)
            have HNX : Hid (∀ j, a ≤ j → j < k + 1 → Lib.occAt (l.map (·.1)) p.data.toList j = false) := by
              intro j h1 h2
              rcases Nat.lt_or_ge j k with h | h
              · exact HNO.out j h1 h
              · obtain rfl : j = k := by omega
                exact hoc
            clear hoc
            rw [HE.out]
            go_wp2_with fail
            go_roundw
            case rel => exact ⟨k + 1, by omega, by rw [HML.out]; omega, by go_num, HNX.out, HB2.out⟩
            case measure => simp [intOf]; omega
    · have HRES : Hid (findI (l.map (·.1)) p.data.toList f = -1) := findI_none HAA.out (i := k) (by rw [HML.out, HPL.out]; omega) HNO.out
      go_wp2_with fail
      go_ret
      exact ⟨by rw [HRES.out]; rfl, HBL.out⟩

end Go.Proofs.YtdiifkmcbnhliaaGreat.mk
