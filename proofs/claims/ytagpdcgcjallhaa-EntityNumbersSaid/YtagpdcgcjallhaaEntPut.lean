/-
  The contract of entity's behind: some bytes of an origin behind runs of the caller's own.
-/
import Derived.Test.YtagpdcgcjallhaaMarkJoin
namespace Go.Proofs.Ytagpdcgcjallhaa.mk
open Go.RowKit

set_option maxHeartbeats 400000 in
set_option maxRecDepth 100000 in
theorem put_nil (base : Nat) (A : Option Addr) (c : Nat) (n o : Int) (w : World) (hown : w.ownsRow base 44 2 (.slice A 0 c) 0 []) (hbase : base ≤ w.heap.size) :
    Calls Try.prog 33 #[.slice A 0 c, .int .i64 n, .int .i64 o] w (JoinPost base (.slice A 0 c) [(n, o)] w) := by
  obtain ⟨i0, hi, hz0, hz1, hz2⟩ := info_parts run_info
  go_enter Try.func33, Try.ntmps33
  go_wp2_with (at_builtin; refine wpList_append_own_at _ rfl _ _ 22 rfl base 44 i0 _ 2 16 Try.underlying22 hi hz0 hz1 hz2 rfl (by decide) (.slice A 0 c) 0 [] rfl (hown.alloc _) ⟨w.heap.size, 0, none⟩ 1 1 [.int .i64 n, .int .i64 o] rfl rfl (cells_new w _ _) (by simp [Value.oneCell']) (by simp only [maxLen]; omega) (by omega) (by simp; omega) ?_)
  intro v' w1 h1 h2 _ h3
  go_wp2
  go_ret
  exact join_put (rs := []) h1 h2 h3

set_option maxHeartbeats 400000 in
set_option maxRecDepth 100000 in
theorem put_other (base : Nat) (g c : Nat) (rs : List (Int × Int)) (l p n o : Int) (w : World) (hlen : rs.length ≤ 4294967296) (hown : w.ownsRow base 44 2 (.slice (some ⟨g, 0, none⟩) (rs.length + 1) c) (rs.length + 1) (runCells (rs ++ [(l, p)]))) (hbase : base ≤ w.heap.size) (hp : p ≠ o) :
    Calls Try.prog 33 #[.slice (some ⟨g, 0, none⟩) (rs.length + 1) c, .int .i64 n, .int .i64 o] w (JoinPost base (.slice (some ⟨g, 0, none⟩) (rs.length + 1) c) (rs ++ [(l, p)] ++ [(n, o)]) w) := by
  obtain ⟨i0, hi, hz0, hz1, hz2⟩ := info_parts run_info
  have hcell : w.cell? ⟨g, rs.length * 2 + 1, none⟩ = some (.int .i64 p) := by
    rw [hown.cellAt _ (by omega)]
    have := runCells_snd (rs ++ [(l, p)]) rs.length (by simp)
    simpa [List.getD] using this
  have hpo : (p == o) = false := by simpa using hp
  generalize hk : rs.length = k at *
  have HK := Lib.hid hk
  clear hk
  have hk0 : (0 : Int) ≤ (k : Int) := Int.natCast_nonneg _
  go_enter Try.func33, Try.ntmps33
  go_wp2_with (at_builtin; refine wpList_append_own_at _ rfl _ _ 22 rfl base 44 i0 _ 2 16 Try.underlying22 hi hz0 hz1 hz2 rfl (by decide) (.slice (some ⟨g, 0, none⟩) (k + 1) c) (k + 1) (runCells (rs ++ [(l, p)])) rfl (hown.alloc _) ⟨w.heap.size, 0, none⟩ 1 1 [.int .i64 n, .int .i64 o] rfl rfl (cells_new w _ _) (by simp [Value.oneCell']) (by simp only [maxLen]; omega) (by omega) (by simp; omega) ?_)
  intro v' w1 h1 h2 _ h3
  go_wp2
  go_ret
  exact join_put (rs := rs ++ [(l, p)]) (by simpa [HK.out] using h1) h2 h3

set_option maxHeartbeats 400000 in
set_option maxRecDepth 100000 in
theorem put_same (base : Nat) (g c : Nat) (rs : List (Int × Int)) (l n o : Int) (w : World) (hlen : rs.length ≤ 4294967296) (hown : w.ownsRow base 44 2 (.slice (some ⟨g, 0, none⟩) (rs.length + 1) c) (rs.length + 1) (runCells (rs ++ [(l, o)]))) (hl : 0 ≤ l) (hl2 : l ≤ 4294967296) (hn : 0 ≤ n) (hn2 : n ≤ 4294967296) :
    Calls Try.prog 33 #[.slice (some ⟨g, 0, none⟩) (rs.length + 1) c, .int .i64 n, .int .i64 o] w (JoinPost base (.slice (some ⟨g, 0, none⟩) (rs.length + 1) c) (rs ++ [(l + n, o)]) w) := by
  have hcell : w.cell? ⟨g, rs.length * 2 + 1, none⟩ = some (.int .i64 o) := by
    rw [hown.cellAt _ (by omega)]
    have := runCells_snd (rs ++ [(l, o)]) rs.length (by simp)
    simpa [List.getD] using this
  have hcell2 : w.cell? ⟨g, rs.length * 2, none⟩ = some (.int .i64 l) := by
    rw [hown.cellAt _ (by omega)]
    have := runCells_fst (rs ++ [(l, o)]) rs.length (by simp)
    simpa [List.getD] using this
  have hfz : w.frozen? ⟨g, rs.length * 2, none⟩ = false := hown.frozenAt _
  have hst := Lib.hid (hown.stored (rs.length * 2) (.int .i64 (l + n)))
  have hpo : (o == o) = true := by simp
  generalize hk : rs.length = k at *
  have HK := Lib.hid hk
  clear hk
  have hk0 : (0 : Int) ≤ (k : Int) := Int.natCast_nonneg _
  go_enter Try.func33, Try.ntmps33
  go_wp2
  go_ret
  refine ⟨_, rfl, ?_, hst.out.2, .inl rfl⟩
  have h1 := hst.out.1
  obtain rfl : rs.length = k := HK.out
  rw [runCells_set] at h1
  simpa using h1

theorem put_any (base : Nat) (v : Value) (rs : List (Int × Int)) (n o : Int) (w : World) (hown : w.ownsRow base 44 2 v rs.length (runCells rs)) (hbase : base ≤ w.heap.size) (hlen : rs.length ≤ 4294967296) (hrs : ∀ r ∈ rs, 0 ≤ r.1 ∧ r.1 ≤ 4294967296) (hn : 1 ≤ n) (hn2 : n ≤ 4294967296) :
    Calls Try.prog 33 #[v, .int .i64 n, .int .i64 o] w (JoinPost base v (joinR rs n o) w) := by
  have h : ¬ n < 1 := by omega
  rcases snoc_cases rs with rfl | ⟨r, ⟨l, p⟩, rfl⟩
  · rw [joinR_nil h]
    rcases hown.2 with ⟨rfl, _⟩ | ⟨g, cap, cur, rfl, _⟩
    · exact put_nil base none 0 n o w hown hbase
    · exact put_nil base _ cap n o w hown hbase
  · have hr := hrs (l, p) (by simp)
    have hl : (r ++ [(l, p)]).length = r.length + 1 := by simp
    rw [hl] at hown hlen
    rcases hown.2 with ⟨_, h0⟩ | ⟨g, cap, cur, rfl, _⟩
    · omega
    · by_cases hp : p = o
      · subst hp; rw [joinR_same h]
        exact put_same base g cap r l n p w (by omega) hown hr.1 hr.2 (by omega) hn2
      · rw [joinR_other h hp]
        exact put_other base g cap r l p n o w (by omega) hown hbase hp

/-- behind at runs of origins -/
theorem put_comp (base : Nat) (v : Value) (l : List Int) (n : Nat) (o : Int) (w : World) (hown : w.ownsRow base 44 2 v (comp l).length (runCells (comp l))) (hbase : base ≤ w.heap.size) (hlen : l.length ≤ 4294967296) (hn : 1 ≤ n) (hn2 : n ≤ 4294967296) :
    Calls Try.prog 33 #[v, .int .i64 n, .int .i64 o] w (JoinPost base v (comp (l ++ List.replicate n o)) w) := by
  rw [comp_replicate]
  refine put_any base v (comp l) n o w hown hbase (Nat.le_trans (comp_length_le l) hlen) (fun r hr => ⟨by have := comp_pos l r hr; omega, ?_⟩) (by omega) (by omega)
  have := comp_le l r hr
  omega

end Go.Proofs.Ytagpdcgcjallhaa.mk
