/-
  The contract of mark's At.
-/
import Derived.Test.YtamnoenjpphkcaaMarkFix
namespace Go.Proofs.Ytamnoenjpphkcaa.mk
open Go.RowKit

theorem pre_more (n : Nat) (a b : List (Int × Int)) : ∃ c, pre n (a ++ b) = pre n a ++ c := by
  induction b using snocInd with
  | nil => exact ⟨[], by simp⟩
  | append_singleton b x ih =>
    obtain ⟨c, hc⟩ := ih
    rw [← List.append_assoc, pre_snoc, hc, List.append_assoc]
    exact ⟨_, rfl⟩
theorem origins_at {n : Nat} {rs : List (Int × Int)} {j k : Nat} {x : Int} (h : (pre n (rs.take j))[k]? = some x) : (origins n rs)[k]? = some x := by
  obtain ⟨c, hc⟩ := pre_more n (rs.take j) (rs.drop j)
  rw [List.take_append_drop] at hc
  have hk := (List.getElem?_eq_some_iff.1 h).1
  unfold origins
  rw [hc, List.append_assoc, List.getElem?_append_left hk]
  exact h
theorem origins_end {n : Nat} {rs : List (Int × Int)} {k : Nat} (h : (pre n rs).length ≤ k) (hk : k < n) : (origins n rs)[k]? = some 65536 := by
  unfold origins
  rw [List.getElem?_append_right h, List.getElem?_replicate, if_pos (by omega)]

/-- the i-th byte's origin; -1: there is none -/
def atO (n : Nat) (rs : List (Int × Int)) (i : Int) : Int := if 0 ≤ i ∧ i < n then (origins n rs).getD i.toNat 0 else -1
theorem atO_of {n : Nat} {rs : List (Int × Int)} {i : Nat} {x : Int} (hi : i < n) (h : (origins n rs)[i]? = some x) : atO n rs i = x := by
  unfold atO
  rw [if_pos ⟨by omega, by omega⟩]
  simp [List.getD, h]
theorem atO_none {n : Nat} {rs : List (Int × Int)} {i : Int} (h : ¬ (0 ≤ i ∧ i < n)) : atO n rs i = -1 := by unfold atO; rw [if_neg h]

def AtRel (n m : Nat) (rs : List (Int × Int)) (i0 : Nat) (B : Nat) (w0 : World) (i k : Value) (wr : World) : Prop :=
  ∃ j q : Nat, j ≤ m ∧ k = .int .i64 j ∧ i = .int .i64 q ∧ (pre n (rs.take j)).length + q = i0 ∧ Below B w0 wr

set_option maxHeartbeats 1000000 in
set_option maxRecDepth 100000 in
theorem at_any (s : ByteArray) (A : Option Addr) (n c : Nat) (rs : List (Int × Int)) (i : Int) (w : World) (hl : Lies w w.heap.size A (runCells rs)) (hn : rs.length = n) (hs : s.size ≤ 4294967296) (hn2 : n ≤ 4294967296) :
    Calls Try.prog 12 #[.agg #[.string s, .slice A n c], .int .i64 i] w fun e w' => e = .returned (.int .i64 (atO s.size rs i)) ∧ Below w.heap.size w w' := by
  have HN := Lib.hid hn
  clear hn
  by_cases hi : 0 ≤ i ∧ i < s.size
  · obtain ⟨i0, rfl⟩ : ∃ i0 : Nat, i = i0 := ⟨i.toNat, by omega⟩
    have hi0 : i0 < s.size := by omega
    clear hi
    go_enter Try.func12, Try.ntmps12
    go_wp2_with fail
    go_loopw [1, 19] (AtRel s.size n rs i0 (w.heap.size + 1) (w.alloc (.cells #[.string s, .slice A n c] 24))) (fun _ k _ => n - (intOf k).toNat)
    case atStart => exact ⟨0, i0, Nat.zero_le _, rfl, rfl, by simp [pre], Below.refl _ _⟩
    case round =>
      obtain ⟨j, q, hj, rfl, rfl, hq, hbl⟩ := hrel
      have HQ := Lib.hid hq
      have hqi : q ≤ i0 := by omega
      clear hq
      have hz := hbl.size
      simp only [World.size_alloc] at hz
      have hBelow : Below w.heap.size w wr := below_made hbl
      by_cases hlt : j < n
      · obtain ⟨ad, l, o, rfl, hb, hc1, hc2, HR⟩ := (((hl.alloc (Nat.le_refl _) (.cells #[.string s, .slice A n c] 24)).mono (Nat.le_succ _)).below hbl).run (k := j) (by rw [HN.out]; exact hlt)
        have HP : Hid (pre s.size (rs.take (j + 1)) = pre s.size (rs.take j) ++ List.replicate (min l.toNat (s.size - (pre s.size (rs.take j)).length)) (nearO o)) := by
          show _ = _
          rw [take_next HR.out, pre_snoc]
        by_cases hl1 : l < 1
        · go_wp2_with fail
          go_roundw
          case rel => exact ⟨j + 1, q, by omega, by go_num, rfl, by rw [HP.out, List.length_append, List.length_replicate]; have := HQ.out; omega, hbl.alloc (by omega) _⟩
          case measure => simp [intOf]; omega
        · by_cases hql : (q : Int) < l
          · have HRES : Hid (nearO o = atO s.size rs i0) := by
              show _ = _
              refine (atO_of hi0 (origins_at (j := j + 1) ?_)).symm
              have := HQ.out
              rw [HP.out, List.getElem?_append_right (by omega), List.getElem?_replicate, if_pos (by omega)]
            go_wp2_with fail
            refine (nearest_any _ _).mono ?_
            rintro e w' ⟨rfl, rfl⟩
            go_wp2
            go_ret
            exact ⟨ret_int HRES.out, hBelow.alloc hBelow.size _⟩
          · go_wp2_with fail
            go_roundw
            case rel => exact ⟨j + 1, q - l.toNat, by omega, by go_num, by congr 1; omega, by rw [HP.out, List.length_append, List.length_replicate]; have := HQ.out; omega, hbl.alloc (by omega) _⟩
            case measure => simp [intOf]; omega
      · have HRES : Hid ((65536 : Int) = atO s.size rs i0) := by
          show _ = _
          refine (atO_of hi0 (origins_end ?_ hi0)).symm
          have h1 := HQ.out
          rw [List.take_of_length_le (by rw [HN.out]; omega)] at h1
          omega
        go_wp2_with fail
        go_ret
        exact ⟨ret_int HRES.out, hBelow⟩
  · have HRES := Lib.hid (atO_none (n := s.size) (rs := rs) hi)
    by_cases h0 : i < 0
    · go_enter Try.func12, Try.ntmps12
      go_wp2_with fail
      go_ret
      exact ⟨ret_int HRES.out.symm, (Below.refl _ _).alloc (Nat.le_refl _) _⟩
    · have h1 : (s.size : Int) ≤ i := by omega
      clear hi
      go_enter Try.func12, Try.ntmps12
      go_wp2_with fail
      go_ret
      exact ⟨ret_int HRES.out.symm, (Below.refl _ _).alloc (Nat.le_refl _) _⟩

end Go.Proofs.Ytamnoenjpphkcaa.mk
