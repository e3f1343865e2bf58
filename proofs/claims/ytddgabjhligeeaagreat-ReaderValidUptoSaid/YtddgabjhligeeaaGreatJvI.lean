/-
  The contract of entity's behind: some bytes of an origin behind runs of the caller's own.
-/
import Derived.Test.YtddgabjhligeeaaGreatJvA
import Derived.WalkKit
import Derived.WalkLawsBesides
import Derived.BigQuiet
import Derived.Deep.QuietTactic
import Derived.Lib.Hide
import Derived.Outline
import Derived.OwnWalk
import Derived.Maps.AppendAt
namespace Go.Proofs.YtddgabjhligeeaaGreat.mk
open Go.RowKit

theorem ret_int {k : IntKind} {a b : Int} (h : a = b) : Ending.returned (.int k a) = .returned (.int k b) := by rw [h]

set_option maxHeartbeats 400000 in
theorem near_any (o : Int) (w : World) : Calls Tryz.prog 117 #[.int .i64 o] w fun e w' => e = .returned (.int .i64 (nearO o)) ∧ w = w' := by
  go_enter Tryz.func117, Tryz.ntmps117
  go_wp2
  all_goals (go_ret; exact ⟨ret_int (by unfold nearO; omega), rfl⟩)

set_option maxHeartbeats 400000 in
theorem nearest_any (o : Int) (w : World) : Calls Tryz.prog 59 #[.int .i64 o] w fun e w' => e = .returned (.int .i64 (nearO o)) ∧ w = w' := by
  go_enter Tryz.func59, Tryz.ntmps59
  go_wp2
  all_goals (go_ret; exact ⟨ret_int (by unfold nearO; omega), rfl⟩)

set_option maxHeartbeats 400000 in
theorem place_any (i n : Int) (w : World) : Calls Tryz.prog 26 #[.int .i64 i, .int .i64 n] w fun e w' => e = .returned (.int .i64 (min (max i 0) n)) ∧ w = w' := by
  go_enter Tryz.func26, Tryz.ntmps26
  go_wp2
  all_goals (go_ret; exact ⟨ret_int (by omega), rfl⟩)

/-- what join leaves: the joined runs, in a row of the call's own -/
def JoinPost (base : Nat) (v : Value) (rs' : List (Int × Int)) (w : World) (e : Ending) (w' : World) : Prop :=
  ∃ v', e = .returned v' ∧ w'.ownsRow base 53 2 v' rs'.length (runCells rs') ∧ w.grownBy w' v.ownBlock ∧ (v'.ownBlock = v.ownBlock ∨ ∃ k, w.heap.size ≤ k ∧ v'.ownBlock = some k)

theorem run_info : (Tryz.prog.info? 53).map (fun i => (i.zero, i.size, i.bytes)) = some (some (.agg #[.int .i64 0, .int .i64 0]), 2, 16) := by kernel_rfl

set_option maxHeartbeats 400000 in
theorem join_less (base : Nat) (v : Value) (rs : List (Int × Int)) (n o : Int) (w : World) (hown : w.ownsRow base 53 2 v rs.length (runCells rs)) (hn : n < 1) :
    Calls Tryz.prog 28 #[v, .int .i64 n, .int .i64 o] w (JoinPost base v (joinR rs n o) w) := by
  have H := Lib.hid (joinR_less (rs := rs) (o := o) hn)
  go_enter Tryz.func28, Tryz.ntmps28
  go_wp2
  go_ret
  rw [H.out]
  exact ⟨v, rfl, hown, World.grownBy.refl _ _, .inl rfl⟩

/-- the cells of a block that was just made -/
theorem cells_new (w : World) (t : TypeId) (cs : List Value) : ∀ j u, cs[j]? = some u → (w.alloc (.cells cs.toArray t)).cell? ((⟨w.heap.size, 0, none⟩ : Addr).add j) = some u := by
  intro j u h
  have hadd : (⟨w.heap.size, 0, none⟩ : Addr).add j = ⟨w.heap.size, j, none⟩ := by unfold Addr.add; split <;> simp_all
  rw [hadd, cell_of_row (w.alloc (.cells cs.toArray t)) w.heap.size j cs.toArray t (0, 0) (heap_alloc_new w _)]
  simpa using h

/-- behind an append of one run -/
theorem join_put {base : Nat} {v v' : Value} {rs : List (Int × Int)} {n o : Int} {w w1 : World} {ob : Obj}
    (h1 : w1.ownsRow base 53 2 v' (rs.length + 1) (runCells rs ++ [.int .i64 n, .int .i64 o])) (h2 : (w.alloc ob).grownBy w1 v.ownBlock) (h3 : v'.ownBlock = v.ownBlock ∨ v'.ownBlock = some (w.heap.size + 1)) :
    JoinPost base v (rs ++ [(n, o)]) w (.returned v') w1 := by
  refine ⟨v', rfl, ?_, ?_, ?_⟩
  · rw [runCells_append, runCells_one]; simpa using h1
  · exact ⟨h2.os, h2.tape, h2.output, Nat.le_trans (by simp) h2.size, fun k hk hne => (h2.block k (by simp; omega) hne).trans (Below.heap_alloc w ob k hk)⟩
  · rcases h3 with h | h
    · exact .inl h
    · exact .inr ⟨_, by omega, h⟩

set_option maxHeartbeats 400000 in
set_option maxRecDepth 100000 in
theorem join_nil (base : Nat) (A : Option Addr) (c : Nat) (n o : Int) (w : World) (hown : w.ownsRow base 53 2 (.slice A 0 c) 0 []) (hn : 1 ≤ n) (hbase : base ≤ w.heap.size) :
    Calls Tryz.prog 28 #[.slice A 0 c, .int .i64 n, .int .i64 o] w (JoinPost base (.slice A 0 c) [(n, o)] w) := by
  obtain ⟨i0, hi, hz0, hz1, hz2⟩ := info_parts run_info
  have hn' : ¬ n < 1 := by omega
  go_enter Tryz.func28, Tryz.ntmps28
  go_wp2_with (at_builtin; refine wpList_append_own_at _ rfl (.tmp 35) (.tmp 39) 22 rfl base 53 i0 _ 2 16 Tryz.underlying22 hi hz0 hz1 hz2 rfl (by decide) (.slice A 0 c) 0 [] rfl (hown.alloc _) ⟨w.heap.size, 0, none⟩ 1 1 [.int .i64 n, .int .i64 o] rfl rfl (cells_new w _ _) (by simp [Value.oneCell']) (by simp only [maxLen]; omega) (by omega) (by simp; omega) ?_)
  intro v' w1 h1 h2 _ h3
  go_wp2
  go_ret
  exact join_put (rs := []) h1 h2 h3

set_option maxHeartbeats 400000 in
set_option maxRecDepth 100000 in
theorem join_other (base : Nat) (g c : Nat) (rs : List (Int × Int)) (l p n o : Int) (w : World) (hlen : rs.length ≤ 4294967296) (hown : w.ownsRow base 53 2 (.slice (some ⟨g, 0, none⟩) (rs.length + 1) c) (rs.length + 1) (runCells (rs ++ [(l, p)]))) (hn : 1 ≤ n) (hbase : base ≤ w.heap.size) (hp : p ≠ o) :
    Calls Tryz.prog 28 #[.slice (some ⟨g, 0, none⟩) (rs.length + 1) c, .int .i64 n, .int .i64 o] w (JoinPost base (.slice (some ⟨g, 0, none⟩) (rs.length + 1) c) (rs ++ [(l, p)] ++ [(n, o)]) w) := by
  obtain ⟨i0, hi, hz0, hz1, hz2⟩ := info_parts run_info
  have hn' : ¬ n < 1 := by omega
  have hcell : w.cell? ⟨g, rs.length * 2 + 1, none⟩ = some (.int .i64 p) := by
    rw [hown.cellAt _ (by omega)]
    have := runCells_snd (rs ++ [(l, p)]) rs.length (by simp)
    simpa [List.getD] using this
  have hpo : (p == o) = false := by simpa using hp
  generalize hk : rs.length = k at *
  have HK := Lib.hid hk
  clear hk
  go_enter Tryz.func28, Tryz.ntmps28
  go_wp2_with (at_builtin; refine wpList_append_own_at _ rfl (.tmp 35) (.tmp 39) 22 rfl base 53 i0 _ 2 16 Tryz.underlying22 hi hz0 hz1 hz2 rfl (by decide) (.slice (some ⟨g, 0, none⟩) (k + 1) c) (k + 1) (runCells (rs ++ [(l, p)])) rfl (hown.alloc _) ⟨w.heap.size, 0, none⟩ 1 1 [.int .i64 n, .int .i64 o] rfl rfl (cells_new w _ _) (by simp [Value.oneCell']) (by simp only [maxLen]; omega) (by omega) (by simp; omega) ?_)
  intro v' w1 h1 h2 _ h3
  go_wp2
  go_ret
  exact join_put (rs := rs ++ [(l, p)]) (by simpa [HK.out] using h1) h2 h3

theorem runCells_set (rs : List (Int × Int)) (l p m : Int) : (runCells (rs ++ [(l, p)])).set (rs.length * 2) (.int .i64 m) = runCells (rs ++ [(m, p)]) := by
  rw [runCells_append, runCells_append, List.set_append_right _ _ (by rw [runCells_length]; exact Nat.le_refl _), runCells_length]
  simp [runCells]

set_option maxHeartbeats 400000 in
set_option maxRecDepth 100000 in
theorem join_same (base : Nat) (g c : Nat) (rs : List (Int × Int)) (l n o : Int) (w : World) (hlen : rs.length ≤ 4294967296) (hown : w.ownsRow base 53 2 (.slice (some ⟨g, 0, none⟩) (rs.length + 1) c) (rs.length + 1) (runCells (rs ++ [(l, o)]))) (hn : 1 ≤ n) (hn2 : n ≤ 4294967296) (hl : 0 ≤ l) (hl2 : l ≤ 4294967296) :
    Calls Tryz.prog 28 #[.slice (some ⟨g, 0, none⟩) (rs.length + 1) c, .int .i64 n, .int .i64 o] w (JoinPost base (.slice (some ⟨g, 0, none⟩) (rs.length + 1) c) (rs ++ [(l + n, o)]) w) := by
  have hn' : ¬ n < 1 := by omega
  have hcell : w.cell? ⟨g, rs.length * 2 + 1, none⟩ = some (.int .i64 o) := by
    rw [hown.cellAt _ (by omega)]
    have := runCells_snd (rs ++ [(l, o)]) rs.length (by simp)
    simpa [List.getD] using this
  have hcell2 : w.cell? ⟨g, rs.length * 2, none⟩ = some (.int .i64 l) := by
    rw [hown.cellAt _ (by omega)]
    have := runCells_fst (rs ++ [(l, o)]) rs.length (by simp)
    simpa [List.getD] using this
  have hfz : w.frozen? ⟨g, rs.length * 2, none⟩ = false := hown.frozenAt _
  have hst := Lib.hid (hown.stored (rs.length * 2) (.int .i64 (l + n)))
  have hpo : (o == o) = true := by simp
  generalize hk : rs.length = k at *
  have HK := Lib.hid hk
  clear hk
  go_enter Tryz.func28, Tryz.ntmps28
  go_wp2
  go_ret
  refine ⟨_, rfl, ?_, hst.out.2, .inl rfl⟩
  have h1 := hst.out.1
  obtain rfl : rs.length = k := HK.out
  rw [runCells_set] at h1
  simpa using h1

/-- join, whatever the runs -/
theorem join_any (base : Nat) (v : Value) (rs : List (Int × Int)) (n o : Int) (w : World) (hown : w.ownsRow base 53 2 v rs.length (runCells rs)) (hbase : base ≤ w.heap.size) (hlen : rs.length ≤ 4294967296) (hrs : ∀ r ∈ rs, 0 ≤ r.1 ∧ r.1 ≤ 4294967296) (hn : n ≤ 4294967296) :
    Calls Tryz.prog 28 #[v, .int .i64 n, .int .i64 o] w (JoinPost base v (joinR rs n o) w) := by
  by_cases h : n < 1
  · exact join_less base v rs n o w hown h
  rcases snoc_cases rs with rfl | ⟨r, ⟨l, p⟩, rfl⟩
  · rw [joinR_nil h]
    rcases hown.2 with ⟨rfl, _⟩ | ⟨g, cap, cur, rfl, _⟩
    · exact join_nil base none 0 n o w hown (by omega) hbase
    · exact join_nil base _ cap n o w hown (by omega) hbase
  · have hr := hrs (l, p) (by simp)
    have hl : (r ++ [(l, p)]).length = r.length + 1 := by simp
    rw [hl] at hown hlen
    rcases hown.2 with ⟨_, h0⟩ | ⟨g, cap, cur, rfl, _⟩
    · omega
    · by_cases hp : p = o
      · subst hp; rw [joinR_same h]
        exact join_same base g cap r l n p w (by omega) hown (by omega) hn hr.1 hr.2
      · rw [joinR_other h hp]
        exact join_other base g cap r l p n o w (by omega) hown (by omega) hbase hp

/-- join at runs of origins -/
theorem join_comp (base : Nat) (v : Value) (l : List Int) (n o : Int) (w : World) (hown : w.ownsRow base 53 2 v (comp l).length (runCells (comp l))) (hbase : base ≤ w.heap.size) (hlen : l.length ≤ 4294967296) (hn : n ≤ 4294967296) :
    Calls Tryz.prog 28 #[v, .int .i64 n, .int .i64 o] w (JoinPost base v (comp (l ++ List.replicate n.toNat o)) w) := by
  rw [← joinR_comp]
  refine join_any base v (comp l) n o w hown hbase (Nat.le_trans (comp_length_le l) hlen) (fun r hr => ⟨by have := comp_pos l r hr; omega, ?_⟩) hn
  have := comp_le l r hr
  omega

end Go.Proofs.YtddgabjhligeeaaGreat.mk

namespace Go.Proofs.YtddgabjhligeeaaGreat.mk
open Go.RowKit

set_option maxHeartbeats 400000 in
theorem behind_less (base : Nat) (v : Value) (rs : List (Int × Int)) (n o : Int) (w : World) (hown : w.ownsRow base 53 2 v rs.length (runCells rs)) (hn : n = 0) :
    Calls Tryz.prog 73 #[v, .int .i64 n, .int .i64 o] w (JoinPost base v (joinR rs n o) w) := by
  have H := Lib.hid (joinR_less (rs := rs) (o := o) (show n < 1 by omega))
  subst hn
  go_enter Tryz.func73, Tryz.ntmps73
  go_wp2
  go_ret
  rw [H.out]
  exact ⟨v, rfl, hown, World.grownBy.refl _ _, .inl rfl⟩

set_option maxHeartbeats 400000 in
set_option maxRecDepth 100000 in
theorem behind_nil (base : Nat) (A : Option Addr) (c : Nat) (n o : Int) (w : World) (hown : w.ownsRow base 53 2 (.slice A 0 c) 0 []) (hn : 1 ≤ n) (hbase : base ≤ w.heap.size) :
    Calls Tryz.prog 73 #[.slice A 0 c, .int .i64 n, .int .i64 o] w (JoinPost base (.slice A 0 c) [(n, o)] w) := by
  obtain ⟨i0, hi, hz0, hz1, hz2⟩ := info_parts run_info
  have hn' : ¬ n = 0 := by omega
  have hn'' : (n == 0) = false := by rw [beq_eq_false_iff_ne]; exact hn'
  go_enter Tryz.func73, Tryz.ntmps73
  go_wp2_with (at_builtin; refine wpList_append_own_at _ rfl (.tmp 35) (.tmp 39) 22 rfl base 53 i0 _ 2 16 Tryz.underlying22 hi hz0 hz1 hz2 rfl (by decide) (.slice A 0 c) 0 [] rfl (hown.alloc _) ⟨w.heap.size, 0, none⟩ 1 1 [.int .i64 n, .int .i64 o] rfl rfl (cells_new w _ _) (by simp [Value.oneCell']) (by simp only [maxLen]; omega) (by omega) (by simp; omega) ?_)
  intro v' w1 h1 h2 _ h3
  go_wp2
  go_ret
  exact join_put (rs := []) h1 h2 h3

set_option maxHeartbeats 400000 in
set_option maxRecDepth 100000 in
theorem behind_other (base : Nat) (g c : Nat) (rs : List (Int × Int)) (l p n o : Int) (w : World) (hlen : rs.length ≤ 4294967296) (hown : w.ownsRow base 53 2 (.slice (some ⟨g, 0, none⟩) (rs.length + 1) c) (rs.length + 1) (runCells (rs ++ [(l, p)]))) (hn : 1 ≤ n) (hbase : base ≤ w.heap.size) (hp : p ≠ o) :
    Calls Tryz.prog 73 #[.slice (some ⟨g, 0, none⟩) (rs.length + 1) c, .int .i64 n, .int .i64 o] w (JoinPost base (.slice (some ⟨g, 0, none⟩) (rs.length + 1) c) (rs ++ [(l, p)] ++ [(n, o)]) w) := by
  obtain ⟨i0, hi, hz0, hz1, hz2⟩ := info_parts run_info
  have hn' : ¬ n = 0 := by omega
  have hn'' : (n == 0) = false := by rw [beq_eq_false_iff_ne]; exact hn'
  have hcell : w.cell? ⟨g, rs.length * 2 + 1, none⟩ = some (.int .i64 p) := by
    rw [hown.cellAt _ (by omega)]
    have := runCells_snd (rs ++ [(l, p)]) rs.length (by simp)
    simpa [List.getD] using this
  have hpo : (p == o) = false := by simpa using hp
  generalize hk : rs.length = k at *
  have HK := Lib.hid hk
  clear hk
  go_enter Tryz.func73, Tryz.ntmps73
  go_wp2_with (at_builtin; refine wpList_append_own_at _ rfl (.tmp 35) (.tmp 39) 22 rfl base 53 i0 _ 2 16 Tryz.underlying22 hi hz0 hz1 hz2 rfl (by decide) (.slice (some ⟨g, 0, none⟩) (k + 1) c) (k + 1) (runCells (rs ++ [(l, p)])) rfl (hown.alloc _) ⟨w.heap.size, 0, none⟩ 1 1 [.int .i64 n, .int .i64 o] rfl rfl (cells_new w _ _) (by simp [Value.oneCell']) (by simp only [maxLen]; omega) (by omega) (by simp; omega) ?_)
  intro v' w1 h1 h2 _ h3
  go_wp2
  go_ret
  exact join_put (rs := rs ++ [(l, p)]) (by simpa [HK.out] using h1) h2 h3

set_option maxHeartbeats 400000 in
set_option maxRecDepth 100000 in
theorem behind_same (base : Nat) (g c : Nat) (rs : List (Int × Int)) (l n o : Int) (w : World) (hlen : rs.length ≤ 4294967296) (hown : w.ownsRow base 53 2 (.slice (some ⟨g, 0, none⟩) (rs.length + 1) c) (rs.length + 1) (runCells (rs ++ [(l, o)]))) (hn : 1 ≤ n) (hn2 : n ≤ 70368744177664) (hl : 0 ≤ l) (hl2 : l ≤ 70368744177664) :
    Calls Tryz.prog 73 #[.slice (some ⟨g, 0, none⟩) (rs.length + 1) c, .int .i64 n, .int .i64 o] w (JoinPost base (.slice (some ⟨g, 0, none⟩) (rs.length + 1) c) (rs ++ [(l + n, o)]) w) := by
  have hn' : ¬ n = 0 := by omega
  have hn'' : (n == 0) = false := by rw [beq_eq_false_iff_ne]; exact hn'
  have hcell : w.cell? ⟨g, rs.length * 2 + 1, none⟩ = some (.int .i64 o) := by
    rw [hown.cellAt _ (by omega)]
    have := runCells_snd (rs ++ [(l, o)]) rs.length (by simp)
    simpa [List.getD] using this
  have hcell2 : w.cell? ⟨g, rs.length * 2, none⟩ = some (.int .i64 l) := by
    rw [hown.cellAt _ (by omega)]
    have := runCells_fst (rs ++ [(l, o)]) rs.length (by simp)
    simpa [List.getD] using this
  have hfz : w.frozen? ⟨g, rs.length * 2, none⟩ = false := hown.frozenAt _
  have hst := Lib.hid (hown.stored (rs.length * 2) (.int .i64 (l + n)))
  have hpo : (o == o) = true := by simp
  generalize hk : rs.length = k at *
  have HK := Lib.hid hk
  clear hk
  go_enter Tryz.func73, Tryz.ntmps73
  go_wp2
  go_ret
  refine ⟨_, rfl, ?_, hst.out.2, .inl rfl⟩
  have h1 := hst.out.1
  obtain rfl : rs.length = k := HK.out
  rw [runCells_set] at h1
  simpa using h1

/-- behind, whatever the runs -/
theorem behind_any (base : Nat) (v : Value) (rs : List (Int × Int)) (n o : Int) (w : World) (hown : w.ownsRow base 53 2 v rs.length (runCells rs)) (hbase : base ≤ w.heap.size) (hlen : rs.length ≤ 4294967296) (hrs : ∀ r ∈ rs, 0 ≤ r.1 ∧ r.1 ≤ 70368744177664) (hn0 : 0 ≤ n) (hn : n ≤ 70368744177664) :
    Calls Tryz.prog 73 #[v, .int .i64 n, .int .i64 o] w (JoinPost base v (joinR rs n o) w) := by
  by_cases h : n < 1
  · exact behind_less base v rs n o w hown (by omega)
  rcases snoc_cases rs with rfl | ⟨r, ⟨l, p⟩, rfl⟩
  · rw [joinR_nil h]
    rcases hown.2 with ⟨rfl, _⟩ | ⟨g, cap, cur, rfl, _⟩
    · exact behind_nil base none 0 n o w hown (by omega) hbase
    · exact behind_nil base _ cap n o w hown (by omega) hbase
  · have hr := hrs (l, p) (by simp)
    have hl : (r ++ [(l, p)]).length = r.length + 1 := by simp
    rw [hl] at hown hlen
    rcases hown.2 with ⟨_, h0⟩ | ⟨g, cap, cur, rfl, _⟩
    · omega
    · by_cases hp : p = o
      · subst hp; rw [joinR_same h]
        exact behind_same base g cap r l n p w (by omega) hown (by omega) hn hr.1 hr.2
      · rw [joinR_other h hp]
        exact behind_other base g cap r l p n o w (by omega) hown (by omega) hbase hp

/-- behind at runs of origins -/
theorem behind_comp (base : Nat) (v : Value) (l : List Int) (n o : Int) (w : World) (hown : w.ownsRow base 53 2 v (comp l).length (runCells (comp l))) (hbase : base ≤ w.heap.size) (hlen : (comp l).length ≤ 4294967296) (hlen2 : l.length ≤ 70368744177664) (hn0 : 0 ≤ n) (hn : n ≤ 70368744177664) :
    Calls Tryz.prog 73 #[v, .int .i64 n, .int .i64 o] w (JoinPost base v (comp (l ++ List.replicate n.toNat o)) w) := by
  rw [← joinR_comp]
  refine behind_any base v (comp l) n o w hown hbase hlen (fun r hr => ⟨by have := comp_pos l r hr; omega, ?_⟩) hn0 hn
  have := comp_le l r hr
  omega

end Go.Proofs.YtddgabjhligeeaaGreat.mk

namespace Go.Proofs.YtddgabjhligeeaaGreat.mk
open Go.RowKit

set_option maxHeartbeats 400000 in
set_option maxRecDepth 100000 in
theorem put_nil (base : Nat) (A : Option Addr) (c : Nat) (n o : Int) (w : World) (hown : w.ownsRow base 53 2 (.slice A 0 c) 0 []) (hbase : base ≤ w.heap.size) :
    Calls Tryz.prog 153 #[.slice A 0 c, .int .i64 n, .int .i64 o] w (JoinPost base (.slice A 0 c) [(n, o)] w) := by
  obtain ⟨i0, hi, hz0, hz1, hz2⟩ := info_parts run_info
  go_enter Tryz.func153, Tryz.ntmps153
  go_wp2_with (at_builtin; refine wpList_append_own_at _ rfl _ _ 22 rfl base 53 i0 _ 2 16 Tryz.underlying22 hi hz0 hz1 hz2 rfl (by decide) (.slice A 0 c) 0 [] rfl (hown.alloc _) ⟨w.heap.size, 0, none⟩ 1 1 [.int .i64 n, .int .i64 o] rfl rfl (cells_new w _ _) (by simp [Value.oneCell']) (by simp only [maxLen]; omega) (by omega) (by simp; omega) ?_)
  intro v' w1 h1 h2 _ h3
  go_wp2
  go_ret
  exact join_put (rs := []) h1 h2 h3

set_option maxHeartbeats 400000 in
set_option maxRecDepth 100000 in
theorem put_other (base : Nat) (g c : Nat) (rs : List (Int × Int)) (l p n o : Int) (w : World) (hlen : rs.length ≤ 4294967296) (hown : w.ownsRow base 53 2 (.slice (some ⟨g, 0, none⟩) (rs.length + 1) c) (rs.length + 1) (runCells (rs ++ [(l, p)]))) (hbase : base ≤ w.heap.size) (hp : p ≠ o) :
    Calls Tryz.prog 153 #[.slice (some ⟨g, 0, none⟩) (rs.length + 1) c, .int .i64 n, .int .i64 o] w (JoinPost base (.slice (some ⟨g, 0, none⟩) (rs.length + 1) c) (rs ++ [(l, p)] ++ [(n, o)]) w) := by
  obtain ⟨i0, hi, hz0, hz1, hz2⟩ := info_parts run_info
  have hcell : w.cell? ⟨g, rs.length * 2 + 1, none⟩ = some (.int .i64 p) := by
    rw [hown.cellAt _ (by omega)]
    have := runCells_snd (rs ++ [(l, p)]) rs.length (by simp)
    simpa [List.getD] using this
  have hpo : (p == o) = false := by simpa using hp
  generalize hk : rs.length = k at *
  have HK := Lib.hid hk
  clear hk
  have hk0 : (0 : Int) ≤ (k : Int) := Int.natCast_nonneg _
  go_enter Tryz.func153, Tryz.ntmps153
  go_wp2_with (at_builtin; refine wpList_append_own_at _ rfl _ _ 22 rfl base 53 i0 _ 2 16 Tryz.underlying22 hi hz0 hz1 hz2 rfl (by decide) (.slice (some ⟨g, 0, none⟩) (k + 1) c) (k + 1) (runCells (rs ++ [(l, p)])) rfl (hown.alloc _) ⟨w.heap.size, 0, none⟩ 1 1 [.int .i64 n, .int .i64 o] rfl rfl (cells_new w _ _) (by simp [Value.oneCell']) (by simp only [maxLen]; omega) (by omega) (by simp; omega) ?_)
  intro v' w1 h1 h2 _ h3
  go_wp2
  go_ret
  exact join_put (rs := rs ++ [(l, p)]) (by simpa [HK.out] using h1) h2 h3

set_option maxHeartbeats 400000 in
set_option maxRecDepth 100000 in
theorem put_same (base : Nat) (g c : Nat) (rs : List (Int × Int)) (l n o : Int) (w : World) (hlen : rs.length ≤ 4294967296) (hown : w.ownsRow base 53 2 (.slice (some ⟨g, 0, none⟩) (rs.length + 1) c) (rs.length + 1) (runCells (rs ++ [(l, o)]))) (hl : 0 ≤ l) (hl2 : l ≤ 4294967296) (hn : 0 ≤ n) (hn2 : n ≤ 4294967296) :
    Calls Tryz.prog 153 #[.slice (some ⟨g, 0, none⟩) (rs.length + 1) c, .int .i64 n, .int .i64 o] w (JoinPost base (.slice (some ⟨g, 0, none⟩) (rs.length + 1) c) (rs ++ [(l + n, o)]) w) := by
  have hcell : w.cell? ⟨g, rs.length * 2 + 1, none⟩ = some (.int .i64 o) := by
    rw [hown.cellAt _ (by omega)]
    have := runCells_snd (rs ++ [(l, o)]) rs.length (by simp)
    simpa [List.getD] using this
  have hcell2 : w.cell? ⟨g, rs.length * 2, none⟩ = some (.int .i64 l) := by
    rw [hown.cellAt _ (by omega)]
    have := runCells_fst (rs ++ [(l, o)]) rs.length (by simp)
    simpa [List.getD] using this
  have hfz : w.frozen? ⟨g, rs.length * 2, none⟩ = false := hown.frozenAt _
  have hst := Lib.hid (hown.stored (rs.length * 2) (.int .i64 (l + n)))
  have hpo : (o == o) = true := by simp
  generalize hk : rs.length = k at *
  have HK := Lib.hid hk
  clear hk
  have hk0 : (0 : Int) ≤ (k : Int) := Int.natCast_nonneg _
  go_enter Tryz.func153, Tryz.ntmps153
  go_wp2
  go_ret
  refine ⟨_, rfl, ?_, hst.out.2, .inl rfl⟩
  have h1 := hst.out.1
  obtain rfl : rs.length = k := HK.out
  rw [runCells_set] at h1
  simpa using h1

theorem put_any (base : Nat) (v : Value) (rs : List (Int × Int)) (n o : Int) (w : World) (hown : w.ownsRow base 53 2 v rs.length (runCells rs)) (hbase : base ≤ w.heap.size) (hlen : rs.length ≤ 4294967296) (hrs : ∀ r ∈ rs, 0 ≤ r.1 ∧ r.1 ≤ 4294967296) (hn : 1 ≤ n) (hn2 : n ≤ 4294967296) :
    Calls Tryz.prog 153 #[v, .int .i64 n, .int .i64 o] w (JoinPost base v (joinR rs n o) w) := by
  have h : ¬ n < 1 := by omega
  rcases snoc_cases rs with rfl | ⟨r, ⟨l, p⟩, rfl⟩
  · rw [joinR_nil h]
    rcases hown.2 with ⟨rfl, _⟩ | ⟨g, cap, cur, rfl, _⟩
    · exact put_nil base none 0 n o w hown hbase
    · exact put_nil base _ cap n o w hown hbase
  · have hr := hrs (l, p) (by simp)
    have hl : (r ++ [(l, p)]).length = r.length + 1 := by simp
    rw [hl] at hown hlen
    rcases hown.2 with ⟨_, h0⟩ | ⟨g, cap, cur, rfl, _⟩
    · omega
    · by_cases hp : p = o
      · subst hp; rw [joinR_same h]
        exact put_same base g cap r l n p w (by omega) hown hr.1 hr.2 (by omega) hn2
      · rw [joinR_other h hp]
        exact put_other base g cap r l p n o w (by omega) hown hbase hp

/-- behind at runs of origins -/
theorem put_comp (base : Nat) (v : Value) (l : List Int) (n : Nat) (o : Int) (w : World) (hown : w.ownsRow base 53 2 v (comp l).length (runCells (comp l))) (hbase : base ≤ w.heap.size) (hlen : l.length ≤ 4294967296) (hn : 1 ≤ n) (hn2 : n ≤ 4294967296) :
    Calls Tryz.prog 153 #[v, .int .i64 n, .int .i64 o] w (JoinPost base v (comp (l ++ List.replicate n o)) w) := by
  rw [comp_replicate]
  refine put_any base v (comp l) n o w hown hbase (Nat.le_trans (comp_length_le l) hlen) (fun r hr => ⟨by have := comp_pos l r hr; omega, ?_⟩) (by omega) (by omega)
  have := comp_le l r hr
  omega

end Go.Proofs.YtddgabjhligeeaaGreat.mk
