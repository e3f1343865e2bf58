/-
  Contracts of entity's next and Named.
-/
import Derived.Test.YtagpdcgcjallhaaEntTake
namespace Go.Proofs.Ytagpdcgcjallhaa.mk
open Go.RowKit

theorem ba_first (s : ByteArray) (n : Nat) : (s.extract 0 n).data.toList = s.data.toList.take n := by
  rw [ByteArray.data_extract, Array.toList_extract, List.extract_eq_take_drop]
  simp
theorem ba_ext {a b : ByteArray} (h : a.data.toList = b.data.toList) : a = b := by
  cases a with | mk a => cases b with | mk b => congr 1; exact Array.toList_inj.1 h

set_option maxHeartbeats 400000 in
set_option maxRecDepth 100000 in
theorem entNext_any (s : ByteArray) (hs0 : 1 ≤ s.size) (hs : s.size ≤ 4294967296) (w : World) :
    Calls Try.prog 31 #[.string s] w fun e w' => e = .returned (.tuple #[.string ⟨(nextE s.data.toList).1.toArray⟩, .int .i64 ((nextE s.data.toList).2 : Nat)]) ∧ Below w.heap.size w w' := by
  go_enter Try.func31, Try.ntmps31
  go_wp2_with fail
  refine (entTake_any s hs _).mono ?_
  cases hr : refer s.data.toList with
  | none =>
    rw [takeE_none hr]
    rintro e w1 ⟨rfl, hb1⟩
    have HX : Hid ((nextE s.data.toList) = (s.data.toList.take 1, 1)) := nextE_none hr
    have HE : Hid (s.extract 0 1 = ⟨(s.data.toList.take 1).toArray⟩) := by
      show _ = _
      refine ba_ext ?_
      rw [ba_first]
    have h1 : (1 : Int) ≤ (s.size : Int) := by omega
    clear hr
    go_wp2_with fail
    go_ret2
    exact ⟨by rw [HX.out, ← HE.out]; rfl, hb1⟩
  | some p =>
    obtain ⟨n, k⟩ := p
    rw [takeE_some hr]
    rintro e w1 ⟨rfl, hb1⟩
    have HX : Hid ((nextE s.data.toList) = ((numB n).data.toList, k)) := nextE_some hr
    have hk := (refer_bd hr).1
    have hk1 : (0 : Int) < (k : Int) := by omega
    clear hr
    generalize numB n = b at *
    go_wp2_with fail
    go_ret2
    exact ⟨by rw [HX.out]; rfl, hb1⟩

/-! names -/
def namedB (l : List UInt8) : ByteArray := match nameN l with | some n => numB n | none => ⟨#[]⟩
def NdRel (s : ByteArray) (w0 : World) (i : Value) (wr : World) : Prop :=
  ∃ k : Nat, k ≤ 6 ∧ i = .int .i64 (k : Int) ∧ (∀ (j : Nat) (nm : List UInt8) (c : Int), j < k → nameL[j]? = some (nm, c) → nm ≠ s.data.toList) ∧ Below w0.heap.size w0 wr
theorem namedB_hit {l : List UInt8} {k : Nat} {c : Int} (h : nameL[k]? = some (l, c)) : namedB l = numB c := by unfold namedB; rw [nameN_at h]
theorem namedB_miss {l : List UInt8} (h : ∀ (j : Nat) (nm : List UInt8) (c : Int), nameL[j]? = some (nm, c) → nm ≠ l) : namedB l = ⟨#[]⟩ := by
  unfold namedB
  cases hn : nameN l with
  | none => rfl
  | some m =>
    obtain ⟨k, _, hk⟩ := nameN_some hn
    exact absurd rfl (h k l m hk)

set_option maxHeartbeats 1000000 in
set_option maxRecDepth 100000 in
theorem named_any (s : ByteArray) (w : World) :
    Calls Try.prog 13 #[.string s] w fun e w' => e = .returned (.string (namedB s.data.toList)) ∧ Below w.heap.size w w' := by
  go_enter Try.func13, Try.ntmps13
  go_wp2_with fail
  refine (characters_any _).mono ?_
  rintro e w1 ⟨rfl, hb1⟩
  have HCH := Lib.hid char_at
  generalize charV = cv at *
  go_wp2_with fail
  obtain ⟨wo, rfl⟩ : ∃ wo : World, wo = w1 := ⟨_, rfl⟩
  go_loopw [6] (NdRel s w) (fun i _ => 6 - (intOf i).toNat)
  case atStart => exact ⟨0, Nat.zero_le _, rfl, fun j _ _ h => by omega, hb1⟩
  case round =>
    obtain ⟨k, hk, rfl, hno, hbl⟩ := hrel
    have HNO := Lib.hid hno
    clear hno
    have hws := hbl.size
    by_cases hlt : k < 6
    · obtain ⟨nb, c, hn, hz, ft⟩ := HCH.out k hlt
      have hk3 : (k : Int) < 6 := by omega
      have HN := Lib.hid hn
      clear hn
      have hbl4 : Below w.heap.size w (wr.alloc (.cells #[.string nb, .int .i64 c] 51)) := hbl.alloc hws _
      have HBT : Hid ((s.toList == nb.toList) = (s.data.toList == nb.data.toList)) := by show _ = _; rw [ByteArray.toList_eq, ByteArray.toList_eq]
      cases hm : (s.toList == nb.toList) with
      | false =>
        have hne : nb.data.toList ≠ s.data.toList := by
          rw [HBT.out] at hm
          exact fun e => (beq_eq_false_iff_ne.1 hm) e.symm
        have HNX : Hid (∀ (j : Nat) (nm : List UInt8) (d : Int), j < k + 1 → nameL[j]? = some (nm, d) → nm ≠ s.data.toList) := by
          intro j nm d hj hjn
          rcases Nat.lt_or_ge j k with h | h
          · exact HNO.out j nm d h hjn
          · obtain rfl : j = k := by omega
            have := HN.out.symm.trans hjn
            injection this with this
            injection this with h1 h2
            rw [← h1]; exact hne
        have HM := Lib.hid hm
        clear hne
        go_wp2_with fail
        go_roundw
        case rel => exact ⟨k + 1, by omega, by go_num, HNX.out, hbl4⟩
        case measure => simp [intOf]; omega
      | true =>
        have HR : Hid (namedB s.data.toList = numB c) := by
          rw [HBT.out] at hm
          show _ = _
          rw [beq_iff_eq.1 hm]
          exact namedB_hit HN.out
        have hW := Whole.made wr 51 #[.string nb, .int .i64 c]
        have c1 := hW.at_ 1
        clear hW
        go_wp2_with fail
        refine (number_any c _).mono ?_
        rintro e w5 ⟨rfl, hb5⟩
        go_wp2_with fail
        go_ret
        exact ⟨by rw [HR.out]; rfl, below_next hbl4 (Nat.le_refl _) hb5⟩
    · have HR : Hid (namedB s.data.toList = ⟨#[]⟩) := namedB_miss (fun j nm c h => HNO.out j nm c (by have h6 : j < 6 := (List.getElem?_eq_some_iff.1 h).1; omega) h)
      go_wp2_with fail
      go_ret
      exact ⟨by rw [HR.out]; rfl, hbl⟩

end Go.Proofs.Ytagpdcgcjallhaa.mk
