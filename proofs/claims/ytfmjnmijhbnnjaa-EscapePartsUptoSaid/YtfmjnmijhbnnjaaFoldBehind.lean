/-
  The contract of fold's behind.
-/
import Derived.Test.YtfmjnmijhbnnjaaMarkJoin
namespace Go.Proofs.Ytfmjnmijhbnnjaa.mk
open Go.RowKit

set_option maxHeartbeats 400000 in
theorem behind_less (base : Nat) (v : Value) (rs : List (Int × Int)) (n o : Int) (w : World) (hown : w.ownsRow base 45 2 v rs.length (runCells rs)) (hn : n = 0) :
    Calls Try.prog 83 #[v, .int .i64 n, .int .i64 o] w (JoinPost base v (joinR rs n o) w) := by
  have H := Lib.hid (joinR_less (rs := rs) (o := o) (show n < 1 by omega))
  subst hn
  go_enter Try.func83, Try.ntmps83
  go_wp2
  go_ret
  rw [H.out]
  exact ⟨v, rfl, hown, World.grownBy.refl _ _, .inl rfl⟩

set_option maxHeartbeats 400000 in
set_option maxRecDepth 100000 in
theorem behind_nil (base : Nat) (A : Option Addr) (c : Nat) (n o : Int) (w : World) (hown : w.ownsRow base 45 2 (.slice A 0 c) 0 []) (hn : 1 ≤ n) (hbase : base ≤ w.heap.size) :
    Calls Try.prog 83 #[.slice A 0 c, .int .i64 n, .int .i64 o] w (JoinPost base (.slice A 0 c) [(n, o)] w) := by
  obtain ⟨i0, hi, hz0, hz1, hz2⟩ := info_parts run_info
  have hn' : ¬ n = 0 := by omega
  have hn'' : (n == 0) = false := by rw [beq_eq_false_iff_ne]; exact hn'
  go_enter Try.func83, Try.ntmps83
  go_wp2_with (at_builtin; refine wpList_append_own_at _ rfl (.tmp 35) (.tmp 39) 22 rfl base 45 i0 _ 2 16 Try.underlying22 hi hz0 hz1 hz2 rfl (by decide) (.slice A 0 c) 0 [] rfl (hown.alloc _) ⟨w.heap.size, 0, none⟩ 1 1 [.int .i64 n, .int .i64 o] rfl rfl (cells_new w _ _) (by simp [Value.oneCell']) (by simp only [maxLen]; omega) (by omega) (by simp; omega) ?_)
  intro v' w1 h1 h2 _ h3
  go_wp2
  go_ret
  exact join_put (rs := []) h1 h2 h3

set_option maxHeartbeats 400000 in
set_option maxRecDepth 100000 in
theorem behind_other (base : Nat) (g c : Nat) (rs : List (Int × Int)) (l p n o : Int) (w : World) (hlen : rs.length ≤ 4294967296) (hown : w.ownsRow base 45 2 (.slice (some ⟨g, 0, none⟩) (rs.length + 1) c) (rs.length + 1) (runCells (rs ++ [(l, p)]))) (hn : 1 ≤ n) (hbase : base ≤ w.heap.size) (hp : p ≠ o) :
    Calls Try.prog 83 #[.slice (some ⟨g, 0, none⟩) (rs.length + 1) c, .int .i64 n, .int .i64 o] w (JoinPost base (.slice (some ⟨g, 0, none⟩) (rs.length + 1) c) (rs ++ [(l, p)] ++ [(n, o)]) w) := by
  obtain ⟨i0, hi, hz0, hz1, hz2⟩ := info_parts run_info
  have hn' : ¬ n = 0 := by omega
  have hn'' : (n == 0) = false := by rw [beq_eq_false_iff_ne]; exact hn'
  have hcell : w.cell? ⟨g, rs.length * 2 + 1, none⟩ = some (.int .i64 p) := by
    rw [hown.cellAt _ (by omega)]
    have := runCells_snd (rs ++ [(l, p)]) rs.length (by simp)
    simpa [List.getD] using this
  have hpo : (p == o) = false := by simpa using hp
  generalize hk : rs.length = k at *
  have HK := Lib.hid hk
  clear hk
  go_enter Try.func83, Try.ntmps83
  go_wp2_with (at_builtin; refine wpList_append_own_at _ rfl (.tmp 35) (.tmp 39) 22 rfl base 45 i0 _ 2 16 Try.underlying22 hi hz0 hz1 hz2 rfl (by decide) (.slice (some ⟨g, 0, none⟩) (k + 1) c) (k + 1) (runCells (rs ++ [(l, p)])) rfl (hown.alloc _) ⟨w.heap.size, 0, none⟩ 1 1 [.int .i64 n, .int .i64 o] rfl rfl (cells_new w _ _) (by simp [Value.oneCell']) (by simp only [maxLen]; omega) (by omega) (by simp; omega) ?_)
  intro v' w1 h1 h2 _ h3
  go_wp2
  go_ret
  exact join_put (rs := rs ++ [(l, p)]) (by simpa [HK.out] using h1) h2 h3

set_option maxHeartbeats 400000 in
set_option maxRecDepth 100000 in
theorem behind_same (base : Nat) (g c : Nat) (rs : List (Int × Int)) (l n o : Int) (w : World) (hlen : rs.length ≤ 4294967296) (hown : w.ownsRow base 45 2 (.slice (some ⟨g, 0, none⟩) (rs.length + 1) c) (rs.length + 1) (runCells (rs ++ [(l, o)]))) (hn : 1 ≤ n) (hn2 : n ≤ 70368744177664) (hl : 0 ≤ l) (hl2 : l ≤ 70368744177664) :
    Calls Try.prog 83 #[.slice (some ⟨g, 0, none⟩) (rs.length + 1) c, .int .i64 n, .int .i64 o] w (JoinPost base (.slice (some ⟨g, 0, none⟩) (rs.length + 1) c) (rs ++ [(l + n, o)]) w) := by
  have hn' : ¬ n = 0 := by omega
  have hn'' : (n == 0) = false := by rw [beq_eq_false_iff_ne]; exact hn'
  have hcell : w.cell? ⟨g, rs.length * 2 + 1, none⟩ = some (.int .i64 o) := by
    rw [hown.cellAt _ (by omega)]
    have := runCells_snd (rs ++ [(l, o)]) rs.length (by simp)
    simpa [List.getD] using this
  have hcell2 : w.cell? ⟨g, rs.length * 2, none⟩ = some (.int .i64 l) := by
    rw [hown.cellAt _ (by omega)]
    have := runCells_fst (rs ++ [(l, o)]) rs.length (by simp)
    simpa [List.getD] using this
  have hfz : w.frozen? ⟨g, rs.length * 2, none⟩ = false := hown.frozenAt _
  have hst := Lib.hid (hown.stored (rs.length * 2) (.int .i64 (l + n)))
  have hpo : (o == o) = true := by simp
  generalize hk : rs.length = k at *
  have HK := Lib.hid hk
  clear hk
  go_enter Try.func83, Try.ntmps83
  go_wp2
  go_ret
  refine ⟨_, rfl, ?_, hst.out.2, .inl rfl⟩
  have h1 := hst.out.1
  obtain rfl : rs.length = k := HK.out
  rw [runCells_set] at h1
  simpa using h1

/-- behind, whatever the runs -/
theorem behind_any (base : Nat) (v : Value) (rs : List (Int × Int)) (n o : Int) (w : World) (hown : w.ownsRow base 45 2 v rs.length (runCells rs)) (hbase : base ≤ w.heap.size) (hlen : rs.length ≤ 4294967296) (hrs : ∀ r ∈ rs, 0 ≤ r.1 ∧ r.1 ≤ 70368744177664) (hn0 : 0 ≤ n) (hn : n ≤ 70368744177664) :
    Calls Try.prog 83 #[v, .int .i64 n, .int .i64 o] w (JoinPost base v (joinR rs n o) w) := by
  by_cases h : n < 1
  · exact behind_less base v rs n o w hown (by omega)
  rcases snoc_cases rs with rfl | ⟨r, ⟨l, p⟩, rfl⟩
  · rw [joinR_nil h]
    rcases hown.2 with ⟨rfl, _⟩ | ⟨g, cap, cur, rfl, _⟩
    · exact behind_nil base none 0 n o w hown (by omega) hbase
    · exact behind_nil base _ cap n o w hown (by omega) hbase
  · have hr := hrs (l, p) (by simp)
    have hl : (r ++ [(l, p)]).length = r.length + 1 := by simp
    rw [hl] at hown hlen
    rcases hown.2 with ⟨_, h0⟩ | ⟨g, cap, cur, rfl, _⟩
    · omega
    · by_cases hp : p = o
      · subst hp; rw [joinR_same h]
        exact behind_same base g cap r l n p w (by omega) hown (by omega) hn hr.1 hr.2
      · rw [joinR_other h hp]
        exact behind_other base g cap r l p n o w (by omega) hown (by omega) hbase hp

/-- behind at runs of origins -/
theorem behind_comp (base : Nat) (v : Value) (l : List Int) (n o : Int) (w : World) (hown : w.ownsRow base 45 2 v (comp l).length (runCells (comp l))) (hbase : base ≤ w.heap.size) (hlen : (comp l).length ≤ 4294967296) (hlen2 : l.length ≤ 70368744177664) (hn0 : 0 ≤ n) (hn : n ≤ 70368744177664) :
    Calls Try.prog 83 #[v, .int .i64 n, .int .i64 o] w (JoinPost base v (comp (l ++ List.replicate n.toNat o)) w) := by
  rw [← joinR_comp]
  refine behind_any base v (comp l) n o w hown hbase hlen (fun r hr => ⟨by have := comp_pos l r hr; omega, ?_⟩) hn0 hn
  have := comp_le l r hr
  omega

end Go.Proofs.Ytfmjnmijhbnnjaa.mk
