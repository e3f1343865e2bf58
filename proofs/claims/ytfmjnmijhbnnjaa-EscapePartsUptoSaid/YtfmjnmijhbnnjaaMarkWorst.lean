/-
  Contracts of Worst and Pure, and of the reference's Worst.
-/
import Derived.Test.YtfmjnmijhbnnjaaMarkCut
namespace Go.Proofs.Ytfmjnmijhbnnjaa.mk
open Go.RowKit

/-- the greatest origin, 0 of none -/
def worstO (l : List Int) : Int := l.foldl max 0
theorem worstO_append (a b : List Int) : worstO (a ++ b) = b.foldl max (worstO a) := by unfold worstO; rw [List.foldl_append]
theorem foldl_max_replicate (n : Nat) (o acc : Int) (h : 0 < n) : (List.replicate n o).foldl max acc = max acc o := by
  induction n generalizing acc with
  | zero => omega
  | succ n ih =>
    rw [List.replicate_succ, List.foldl_cons]
    rcases Nat.eq_zero_or_pos n with rfl | h0
    · rfl
    · rw [ih _ h0]; omega

def WorstRel (qs : List Int) (ta : Value) (Bt : Nat) (w0 : World) (v i : Value) (wr : World) : Prop :=
  ∃ j : Nat, j ≤ (comp qs).length ∧ i = .int .i64 j ∧ v = .int .i64 (worstO (expand ((comp qs).take j))) ∧ wr.ownsRow Bt 45 2 ta (comp qs).length (runCells (comp qs)) ∧ Below w0.heap.size w0 wr

set_option maxHeartbeats 1000000 in
set_option maxRecDepth 100000 in
theorem worst_any (s : ByteArray) (A : Option Addr) (n c : Nat) (rs : List (Int × Int)) (w : World) (hl : Lies w w.heap.size A (runCells rs)) (hn : rs.length = n) (hs : s.size ≤ 4294967296) (hn2 : n ≤ 4294967296) :
    Calls Try.prog 23 #[.agg #[.string s, .slice A n c]] w fun e w' => e = .returned (.int .i64 (worstO (origins s.size rs))) ∧ Below w.heap.size w w' := by
  have HN := Lib.hid hn
  clear hn
  go_enter Try.func23, Try.ntmps23
  go_wp2_with fail
  refine (taken_any s A n c rs _ ((hl.alloc (Nat.le_refl _) _).mono (by simp)) HN.out hs hn2).mono ?_
  rintro e w2 ⟨ta, rfl, hta, hbT⟩
  have hbw : Below w.heap.size w w2 := ((Below.refl _ _).alloc (Nat.le_refl _) _).trans (hbT.mono (by simp))
  have hz2 := hbw.size
  unfold taken at *
  generalize hqs : origins s.size rs = qs at *
  have hql : qs.length ≤ s.size := by rw [← hqs, origins_length]; exact Nat.le_refl _
  have HQS := Lib.hid hqs
  clear hqs
  obtain ⟨At, ct, rfl, _, _, _⟩ := own_form hta
  have hcl := comp_length_le qs
  go_wp2_with fail
  obtain ⟨wo, rfl⟩ : ∃ wo : World, wo = w2 := ⟨_, rfl⟩
  go_loopw [3, 9] (WorstRel qs (.slice At (comp qs).length ct) w.heap.size w) (fun _ i _ => (comp qs).length - (intOf i).toNat)
  case atStart => exact ⟨0, Nat.zero_le _, rfl, by simp [expand, worstO], own_mono hta (by simp), hbw⟩
  case round =>
    obtain ⟨j, hj, rfl, rfl, hta3, hbl⟩ := hrel
    have hws := hbl.size
    by_cases hjl : j < (comp qs).length
    · obtain ⟨ad', l, p, rfl, hbA, hd1, hd2, HR2⟩ := (Lies.own hta3).run (k := j) hjl
      have hlp : 1 ≤ l := comp_pos qs (l, p) (List.mem_of_getElem? HR2.out)
      have HNX : Hid (worstO (expand ((comp qs).take (j + 1))) = max (worstO (expand ((comp qs).take j))) p) := by
        show _ = _
        rw [expand_next HR2.out, worstO_append, foldl_max_replicate _ _ _ (by omega)]
      generalize hz : (comp qs).length = z at *
      have HT := Lib.hid hta3
      have HZ := Lib.hid hz
      clear hz hta3 hta
      generalize hx : worstO (expand ((comp qs).take j)) = x at *
      clear hx
      go_wp2_with fail
      go_roundw
      case rel => exact ⟨j + 1, by rw [HZ.out]; omega, by go_num, by rw [HNX.out], by rw [HZ.out]; exact HT.out.alloc _, hbl.alloc (by omega) _⟩
      case measure => simp [intOf]; omega
    · have HE : Hid (worstO (expand ((comp qs).take j)) = worstO qs) := by
        show _ = _
        rw [List.take_of_length_le (by omega), expand_comp]
      generalize hz : (comp qs).length = z at *
      clear hz
      go_wp2_with fail
      go_ret
      exact ⟨ret_int (HE.out.trans (congrArg worstO HQS.out.symm)), hbl⟩

def RWorstRel (l : List (UInt8 × Int)) (v i : Value) : Prop :=
  ∃ j : Nat, j ≤ l.length ∧ i = .int .i64 j ∧ v = .int .i64 (worstO ((l.take j).map (·.2)))

end Go.Proofs.Ytfmjnmijhbnnjaa.mk
