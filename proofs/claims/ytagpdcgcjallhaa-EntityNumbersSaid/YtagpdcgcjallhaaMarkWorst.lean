/-
  Contracts of Worst and Pure, and of the reference's Worst.
-/
import Derived.Test.YtagpdcgcjallhaaMarkCut
namespace Go.Proofs.Ytagpdcgcjallhaa.mk
open Go.RowKit

/-- the greatest origin, 0 of none -/
def worstO (l : List Int) : Int := l.foldl max 0
theorem worstO_append (a b : List Int) : worstO (a ++ b) = b.foldl max (worstO a) := by unfold worstO; rw [List.foldl_append]
theorem foldl_max_replicate (n : Nat) (o acc : Int) (h : 0 < n) : (List.replicate n o).foldl max acc = max acc o := by
  induction n generalizing acc with
  | zero => omega
  | succ n ih =>
    rw [List.replicate_succ, List.foldl_cons]
    rcases Nat.eq_zero_or_pos n with rfl | h0
    · rfl
    · rw [ih _ h0]; omega

def WorstRel (qs : List Int) (ta : Value) (Bt : Nat) (w0 : World) (v i : Value) (wr : World) : Prop :=
  ∃ j : Nat, j ≤ (comp qs).length ∧ i = .int .i64 j ∧ v = .int .i64 (worstO (expand ((comp qs).take j))) ∧ wr.ownsRow Bt 44 2 ta (comp qs).length (runCells (comp qs)) ∧ Below w0.heap.size w0 wr

def RWorstRel (l : List (UInt8 × Int)) (v i : Value) : Prop :=
  ∃ j : Nat, j ≤ l.length ∧ i = .int .i64 j ∧ v = .int .i64 (worstO ((l.take j).map (·.2)))

set_option maxHeartbeats 1000000 in
set_option maxRecDepth 100000 in
theorem refWorst_any (A : Option Addr) (n c : Nat) (l : List (UInt8 × Int)) (w : World) (hl : Lies w w.heap.size A (chCells l)) (hn : l.length = n) (hn2 : n ≤ 4294967296) :
    Calls Try.prog 36 #[.slice A n c] w fun e w' => e = .returned (.int .i64 (worstO (l.map (·.2)))) ∧ w = w' := by
  have HN := Lib.hid hn
  clear hn
  go_enter Try.func36, Try.ntmps36
  go_wp2_with fail
  go_loop [3, 4] (RWorstRel l) (fun _ i => n - (intOf i).toNat)
  case atStart => exact ⟨0, Nat.zero_le _, rfl, by simp [worstO]⟩
  case round =>
    obtain ⟨j, hj, rfl, rfl⟩ := hrel
    rw [HN.out] at hj
    by_cases hjl : j < n
    · obtain ⟨ad', b, p, rfl, hbA, hd1, hd2, HR2⟩ := hl.ch (k := j) (by rw [HN.out]; exact hjl)
      have HNX : Hid (worstO ((l.take (j + 1)).map (·.2)) = max (worstO ((l.take j).map (·.2))) p) := by
        show _ = _
        rw [take_next HR2.out, List.map_append, worstO_append]; rfl
      generalize hx : worstO ((l.take j).map (·.2)) = x at *
      clear hx
      go_wp2_with fail
      go_round
      case rel => exact ⟨j + 1, by rw [HN.out]; omega, by go_num, by rw [HNX.out]⟩
      case measure => simp [intOf]; omega
    · have HE : Hid (worstO ((l.take j).map (·.2)) = worstO (l.map (·.2))) := by
        show _ = _
        rw [List.take_of_length_le (by rw [HN.out]; omega)]
      go_wp2_with fail
      go_ret
      exact ⟨ret_int (by first | exact HE.out | simpa using HE.out), rfl⟩

end Go.Proofs.Ytagpdcgcjallhaa.mk
