/-
  The contract of fold's behind.
-/
import Derived.Test.YtnbdldapmllegaaGreatJsA
import Derived.Test.YtnbdldapmllegaaGreatJsG
import Derived.WalkKit
import Derived.WalkLawsBesides
import Derived.BigQuiet
import Derived.Deep.QuietTactic
import Derived.Lib.Hide
import Derived.Outline
import Derived.OwnWalk
import Derived.Maps.AppendAt
namespace Go.Proofs.YtnbdldapmllegaaGreat.mk
open Go.RowKit

theorem ret_int {k : IntKind} {a b : Int} (h : a = b) : Ending.returned (.int k a) = .returned (.int k b) := by rw [h]

set_option maxHeartbeats 400000 in
theorem near_any (o : Int) (w : World) : Calls Tryz.prog 76 #[.int .i64 o] w fun e w' => e = .returned (.int .i64 (nearO o)) ∧ w = w' := by
  go_enter Tryz.func76, Tryz.ntmps76
  go_wp2
  all_goals (go_ret; exact ⟨ret_int (by unfold nearO; omega), rfl⟩)

set_option maxHeartbeats 400000 in
theorem nearest_any (o : Int) (w : World) : Calls Tryz.prog 42 #[.int .i64 o] w fun e w' => e = .returned (.int .i64 (nearO o)) ∧ w = w' := by
  go_enter Tryz.func42, Tryz.ntmps42
  go_wp2
  all_goals (go_ret; exact ⟨ret_int (by unfold nearO; omega), rfl⟩)

set_option maxHeartbeats 400000 in
theorem place_any (i n : Int) (w : World) : Calls Tryz.prog 84 #[.int .i64 i, .int .i64 n] w fun e w' => e = .returned (.int .i64 (min (max i 0) n)) ∧ w = w' := by
  go_enter Tryz.func84, Tryz.ntmps84
  go_wp2
  all_goals (go_ret; exact ⟨ret_int (by omega), rfl⟩)

/-- what join leaves: the joined runs, in a row of the call's own -/
def JoinPost (base : Nat) (v : Value) (rs' : List (Int × Int)) (w : World) (e : Ending) (w' : World) : Prop :=
  ∃ v', e = .returned v' ∧ w'.ownsRow base 79 2 v' rs'.length (runCells rs') ∧ w.grownBy w' v.ownBlock ∧ (v'.ownBlock = v.ownBlock ∨ ∃ k, w.heap.size ≤ k ∧ v'.ownBlock = some k)

theorem run_info : (Tryz.prog.info? 79).map (fun i => (i.zero, i.size, i.bytes)) = some (some (.agg #[.int .i64 0, .int .i64 0]), 2, 16) := by kernel_rfl

set_option maxHeartbeats 400000 in
theorem join_less (base : Nat) (v : Value) (rs : List (Int × Int)) (n o : Int) (w : World) (hown : w.ownsRow base 79 2 v rs.length (runCells rs)) (hn : n < 1) :
    Calls Tryz.prog 41 #[v, .int .i64 n, .int .i64 o] w (JoinPost base v (joinR rs n o) w) := by
  have H := Lib.hid (joinR_less (rs := rs) (o := o) hn)
  go_enter Tryz.func41, Tryz.ntmps41
  go_wp2
  go_ret
  rw [H.out]
  exact ⟨v, rfl, hown, World.grownBy.refl _ _, .inl rfl⟩


/-- behind an append of one run -/
theorem join_put {base : Nat} {v v' : Value} {rs : List (Int × Int)} {n o : Int} {w w1 : World} {ob : Obj}
    (h1 : w1.ownsRow base 79 2 v' (rs.length + 1) (runCells rs ++ [.int .i64 n, .int .i64 o])) (h2 : (w.alloc ob).grownBy w1 v.ownBlock) (h3 : v'.ownBlock = v.ownBlock ∨ v'.ownBlock = some (w.heap.size + 1)) :
    JoinPost base v (rs ++ [(n, o)]) w (.returned v') w1 := by
  refine ⟨v', rfl, ?_, ?_, ?_⟩
  · rw [runCells_append, runCells_one]; simpa using h1
  · exact ⟨h2.os, h2.tape, h2.output, Nat.le_trans (by simp) h2.size, fun k hk hne => (h2.block k (by simp; omega) hne).trans (Below.heap_alloc w ob k hk)⟩
  · rcases h3 with h | h
    · exact .inl h
    · exact .inr ⟨_, by omega, h⟩

set_option maxHeartbeats 400000 in
set_option maxRecDepth 100000 in
theorem join_nil (base : Nat) (A : Option Addr) (c : Nat) (n o : Int) (w : World) (hown : w.ownsRow base 79 2 (.slice A 0 c) 0 []) (hn : 1 ≤ n) (hbase : base ≤ w.heap.size) :
    Calls Tryz.prog 41 #[.slice A 0 c, .int .i64 n, .int .i64 o] w (JoinPost base (.slice A 0 c) [(n, o)] w) := by
  obtain ⟨i0, hi, hz0, hz1, hz2⟩ := info_parts run_info
  have hn' : ¬ n < 1 := by omega
  go_enter Tryz.func41, Tryz.ntmps41
  go_wp2_with (at_builtin; refine wpList_append_own_at _ rfl (.tmp 35) (.tmp 39) 26 rfl base 79 i0 _ 2 16 Tryz.underlying26 hi hz0 hz1 hz2 rfl (by decide) (.slice A 0 c) 0 [] rfl (hown.alloc _) ⟨w.heap.size, 0, none⟩ 1 1 [.int .i64 n, .int .i64 o] rfl rfl (cells_new w _ _) (by simp [Value.oneCell']) (by simp only [maxLen]; omega) (by omega) (by simp; omega) ?_)
  intro v' w1 h1 h2 _ h3
  go_wp2
  go_ret
  exact join_put (rs := []) h1 h2 h3

set_option maxHeartbeats 400000 in
set_option maxRecDepth 100000 in
theorem join_other (base : Nat) (g c : Nat) (rs : List (Int × Int)) (l p n o : Int) (w : World) (hlen : rs.length ≤ 4294967296) (hown : w.ownsRow base 79 2 (.slice (some ⟨g, 0, none⟩) (rs.length + 1) c) (rs.length + 1) (runCells (rs ++ [(l, p)]))) (hn : 1 ≤ n) (hbase : base ≤ w.heap.size) (hp : p ≠ o) :
    Calls Tryz.prog 41 #[.slice (some ⟨g, 0, none⟩) (rs.length + 1) c, .int .i64 n, .int .i64 o] w (JoinPost base (.slice (some ⟨g, 0, none⟩) (rs.length + 1) c) (rs ++ [(l, p)] ++ [(n, o)]) w) := by
  obtain ⟨i0, hi, hz0, hz1, hz2⟩ := info_parts run_info
  have hn' : ¬ n < 1 := by omega
  have hcell : w.cell? ⟨g, rs.length * 2 + 1, none⟩ = some (.int .i64 p) := by
    rw [hown.cellAt _ (by omega)]
    have := runCells_snd (rs ++ [(l, p)]) rs.length (by simp)
    simpa [List.getD] using this
  have hpo : (p == o) = false := by simpa using hp
  generalize hk : rs.length = k at *
  have HK := Lib.hid hk
  clear hk
  go_enter Tryz.func41, Tryz.ntmps41
  go_wp2_with (at_builtin; refine wpList_append_own_at _ rfl (.tmp 35) (.tmp 39) 26 rfl base 79 i0 _ 2 16 Tryz.underlying26 hi hz0 hz1 hz2 rfl (by decide) (.slice (some ⟨g, 0, none⟩) (k + 1) c) (k + 1) (runCells (rs ++ [(l, p)])) rfl (hown.alloc _) ⟨w.heap.size, 0, none⟩ 1 1 [.int .i64 n, .int .i64 o] rfl rfl (cells_new w _ _) (by simp [Value.oneCell']) (by simp only [maxLen]; omega) (by omega) (by simp; omega) ?_)
  intro v' w1 h1 h2 _ h3
  go_wp2
  go_ret
  exact join_put (rs := rs ++ [(l, p)]) (by simpa [HK.out] using h1) h2 h3

theorem runCells_set (rs : List (Int × Int)) (l p m : Int) : (runCells (rs ++ [(l, p)])).set (rs.length * 2) (.int .i64 m) = runCells (rs ++ [(m, p)]) := by
  rw [runCells_append, runCells_append, List.set_append_right _ _ (by rw [runCells_length]; exact Nat.le_refl _), runCells_length]
  simp [runCells]

set_option maxHeartbeats 400000 in
set_option maxRecDepth 100000 in
theorem join_same (base : Nat) (g c : Nat) (rs : List (Int × Int)) (l n o : Int) (w : World) (hlen : rs.length ≤ 4294967296) (hown : w.ownsRow base 79 2 (.slice (some ⟨g, 0, none⟩) (rs.length + 1) c) (rs.length + 1) (runCells (rs ++ [(l, o)]))) (hn : 1 ≤ n) (hn2 : n ≤ 4294967296) (hl : 0 ≤ l) (hl2 : l ≤ 4294967296) :
    Calls Tryz.prog 41 #[.slice (some ⟨g, 0, none⟩) (rs.length + 1) c, .int .i64 n, .int .i64 o] w (JoinPost base (.slice (some ⟨g, 0, none⟩) (rs.length + 1) c) (rs ++ [(l + n, o)]) w) := by
  have hn' : ¬ n < 1 := by omega
  have hcell : w.cell? ⟨g, rs.length * 2 + 1, none⟩ = some (.int .i64 o) := by
    rw [hown.cellAt _ (by omega)]
    have := runCells_snd (rs ++ [(l, o)]) rs.length (by simp)
    simpa [List.getD] using this
  have hcell2 : w.cell? ⟨g, rs.length * 2, none⟩ = some (.int .i64 l) := by
    rw [hown.cellAt _ (by omega)]
    have := runCells_fst (rs ++ [(l, o)]) rs.length (by simp)
    simpa [List.getD] using this
  have hfz : w.frozen? ⟨g, rs.length * 2, none⟩ = false := hown.frozenAt _
  have hst := Lib.hid (hown.stored (rs.length * 2) (.int .i64 (l + n)))
  have hpo : (o == o) = true := by simp
  generalize hk : rs.length = k at *
  have HK := Lib.hid hk
  clear hk
  go_enter Tryz.func41, Tryz.ntmps41
  go_wp2
  go_ret
  refine ⟨_, rfl, ?_, hst.out.2, .inl rfl⟩
  have h1 := hst.out.1
  obtain rfl : rs.length = k := HK.out
  rw [runCells_set] at h1
  simpa using h1

/-- join, whatever the runs -/
theorem join_any (base : Nat) (v : Value) (rs : List (Int × Int)) (n o : Int) (w : World) (hown : w.ownsRow base 79 2 v rs.length (runCells rs)) (hbase : base ≤ w.heap.size) (hlen : rs.length ≤ 4294967296) (hrs : ∀ r ∈ rs, 0 ≤ r.1 ∧ r.1 ≤ 4294967296) (hn : n ≤ 4294967296) :
    Calls Tryz.prog 41 #[v, .int .i64 n, .int .i64 o] w (JoinPost base v (joinR rs n o) w) := by
  by_cases h : n < 1
  · exact join_less base v rs n o w hown h
  rcases snoc_cases rs with rfl | ⟨r, ⟨l, p⟩, rfl⟩
  · rw [joinR_nil h]
    rcases hown.2 with ⟨rfl, _⟩ | ⟨g, cap, cur, rfl, _⟩
    · exact join_nil base none 0 n o w hown (by omega) hbase
    · exact join_nil base _ cap n o w hown (by omega) hbase
  · have hr := hrs (l, p) (by simp)
    have hl : (r ++ [(l, p)]).length = r.length + 1 := by simp
    rw [hl] at hown hlen
    rcases hown.2 with ⟨_, h0⟩ | ⟨g, cap, cur, rfl, _⟩
    · omega
    · by_cases hp : p = o
      · subst hp; rw [joinR_same h]
        exact join_same base g cap r l n p w (by omega) hown (by omega) hn hr.1 hr.2
      · rw [joinR_other h hp]
        exact join_other base g cap r l p n o w (by omega) hown (by omega) hbase hp

/-- join at runs of origins -/
theorem join_comp (base : Nat) (v : Value) (l : List Int) (n o : Int) (w : World) (hown : w.ownsRow base 79 2 v (comp l).length (runCells (comp l))) (hbase : base ≤ w.heap.size) (hlen : l.length ≤ 4294967296) (hn : n ≤ 4294967296) :
    Calls Tryz.prog 41 #[v, .int .i64 n, .int .i64 o] w (JoinPost base v (comp (l ++ List.replicate n.toNat o)) w) := by
  rw [← joinR_comp]
  refine join_any base v (comp l) n o w hown hbase (Nat.le_trans (comp_length_le l) hlen) (fun r hr => ⟨by have := comp_pos l r hr; omega, ?_⟩) hn
  have := comp_le l r hr
  omega

end Go.Proofs.YtnbdldapmllegaaGreat.mk

namespace Go.Proofs.YtnbdldapmllegaaGreat.mk
open Go.RowKit

/-- what holds at the head of each round -/
def TakenRel (s : ByteArray) (rs : List (Int × Int)) (n B : Nat) (w0 : World) (r l i : Value) (wr : World) : Prop :=
  ∃ k : Nat, k ≤ n ∧ i = .int .i64 k ∧ l = .int .i64 ((s.size - (pre s.size (rs.take k)).length : Nat) : Int) ∧
    wr.ownsRow B 79 2 r (comp (pre s.size (rs.take k))).length (runCells (comp (pre s.size (rs.take k)))) ∧ Below B w0 wr

theorem taken_skip {n : Nat} {rs : List (Int × Int)} {k : Nat} {l o : Int} (h : rs[k]? = some (l, o)) (h0 : l < 1 ∨ n - (pre n (rs.take k)).length = 0) : pre n (rs.take (k + 1)) = pre n (rs.take k) := by
  rw [take_next h, pre_snoc]
  have : min l.toNat (n - (pre n (rs.take k)).length) = 0 := by omega
  simp only [this, List.replicate_zero, List.append_nil]
theorem taken_next {n : Nat} {rs : List (Int × Int)} {k : Nat} {l o m : Int} (h : rs[k]? = some (l, o)) (hm : m = min l (n - (pre n (rs.take k)).length : Nat)) : pre n (rs.take (k + 1)) = pre n (rs.take k) ++ List.replicate m.toNat (nearO o) := by
  rw [take_next h, pre_snoc]
  have : min l.toNat (n - (pre n (rs.take k)).length) = m.toNat := by omega
  simp only [this]
/-- a JoinPost, as a round of the caller's sees it -/
theorem JoinPost.below {base : Nat} {v : Value} {rs : List (Int × Int)} {w : World} {e : Ending} {w' : World} {B : Nat} {w0 : World} (h : JoinPost base v rs w e w') (hv : ∀ k, v.ownBlock = some k → B ≤ k) (hb : Below B w0 w) (hB : B ≤ w.heap.size) :
    ∃ v', e = .returned v' ∧ w'.ownsRow base 79 2 v' rs.length (runCells rs) ∧ Below B w0 w' := by
  obtain ⟨v', he, h1, h2, _⟩ := h
  exact ⟨v', he, h1, hb.grown h2 hB hv⟩

set_option maxHeartbeats 400000 in
set_option maxRecDepth 100000 in
theorem taken_any (s : ByteArray) (A : Option Addr) (n c : Nat) (rs : List (Int × Int)) (w : World) (hl : Lies w w.heap.size A (runCells rs)) (hn : rs.length = n) (hs : s.size ≤ 4294967296) (hn2 : n ≤ 4294967296) :
    Calls Tryz.prog 50 #[.agg #[.string s, .slice A n c]] w fun e w' => ∃ v, e = .returned v ∧ w'.ownsRow w.heap.size 79 2 v (taken s.size rs).length (runCells (taken s.size rs)) ∧ Below w.heap.size w w' := by
  have HN := Lib.hid hn
  clear hn
  go_enter Tryz.func50, Tryz.ntmps50
  go_wp2_with fail
  go_loopw [3, 4, 14] (TakenRel s rs n (w.heap.size + 1) (w.alloc (.cells #[.string s, .slice A n c] 28))) (fun _ _ i _ => n - (intOf i).toNat)
  case atStart => exact ⟨0, Nat.zero_le _, rfl, by simp [pre], World.ownsRow_nil _ _ _ _, Below.refl _ _⟩
  case round =>
    obtain ⟨k, hk, rfl, rfl, hown, hbl⟩ := hrel
    have hpl := pre_length_le s.size (rs.take k)
    have hsz := hbl.size
    simp only [World.size_alloc] at hsz
    by_cases hlt : k < n
    · obtain ⟨ad, l, o, rfl, hb, hc1, hc2, HR⟩ := (((hl.alloc (Nat.le_refl _) (.cells #[.string s, .slice A n c] 28)).mono (Nat.le_succ _)).below hbl).run (k := k) (by rw [HN.out]; exact hlt)
      have HL := Lib.hid hl
      clear hl
      generalize hq : s.size - (pre s.size (rs.take k)).length = q at *
      have HQ := Lib.hid hq
      have hqs : q ≤ s.size := by omega
      clear hq
      by_cases hm : l < 1 ∨ q = 0
      · have HS := Lib.hid (taken_skip HR.out (by rw [HQ.out]; exact hm))
        rcases hm with hm | hm
        · go_wp2_with fail
          go_roundw
          case rel => exact ⟨k + 1, by omega, by go_num, by rw [HS.out, HQ.out], by rw [HS.out]; exact hown.alloc _, hbl.alloc (by omega) _⟩
          case measure => simp [intOf]; omega
        · have hm1 : 1 ≤ l ∨ l < 1 := by omega
          rcases hm1 with hm1 | hm1
          all_goals
            obtain ⟨q', rfl⟩ : ∃ q' : Nat, q' = q := ⟨_, rfl⟩
            have hm2 : q' ≤ 0 := by omega
            clear hm
            go_wp2_with fail
            go_roundw
            case rel => exact ⟨k + 1, by omega, by go_num, by rw [HS.out, HQ.out], by rw [HS.out]; exact hown.alloc _, hbl.alloc (by omega) _⟩
            case measure => simp [intOf]; omega
      · have hl1 : 1 ≤ l := by omega
        have hq1 : 1 ≤ q := by omega
        clear hm
        by_cases hlq : l ≤ q
        · have HS := Lib.hid (taken_next (m := l) HR.out (by rw [HQ.out]; omega))
          go_wp2_with fail
          refine (nearest_any _ _).mono ?_
          rintro e w' ⟨rfl, rfl⟩
          go_wp2_with fail
          refine (join_comp (w.heap.size + 1) u3 (pre s.size (rs.take k)) l _ _ (hown.alloc _) (by simp; omega) (by omega) (by omega)).mono ?_
          rintro e w1 hj
          obtain ⟨v', rfl, hown', hbl'⟩ := hj.below (fun k hk => (hown.lt k hk).1) (hbl.alloc (by omega) _) (by simp; omega)
          clear hj
          go_wp2
          go_roundw
          case rel => exact ⟨k + 1, by omega, by go_num, by rw [HS.out]; simp; have := HQ.out; omega, by rw [HS.out]; exact hown', hbl'⟩
          case measure => simp [intOf]; omega
        · have hlq' : q < l := by omega
          clear hlq
          have HS := Lib.hid (taken_next (m := q) HR.out (by rw [HQ.out]; omega))
          go_wp2_with fail
          refine (nearest_any _ _).mono ?_
          rintro e w' ⟨rfl, rfl⟩
          go_wp2_with fail
          refine (join_comp (w.heap.size + 1) u3 (pre s.size (rs.take k)) q _ _ (hown.alloc _) (by simp; omega) (by omega) (by omega)).mono ?_
          rintro e w1 hj
          obtain ⟨v', rfl, hown', hbl'⟩ := hj.below (fun k hk => (hown.lt k hk).1) (hbl.alloc (by omega) _) (by simp; omega)
          clear hj
          go_wp2
          go_roundw
          case rel => exact ⟨k + 1, by omega, by go_num, by rw [HS.out]; simp; have := HQ.out; omega, by rw [HS.out]; exact hown', hbl'⟩
          case measure => simp [intOf]; omega
    · have HT := Lib.hid (show rs.take k = rs from List.take_of_length_le (by have := HN.out; omega))
      rw [HT.out] at hown hpl ⊢
      have HJ : Hid (comp (pre s.size rs ++ List.replicate (((s.size - (pre s.size rs).length : Nat) : Int)).toNat 65536) = taken s.size rs) := by
        unfold taken origins; rw [Int.toNat_natCast]; exact rfl
      generalize hq : s.size - (pre s.size rs).length = q at *
      have hqs : q ≤ s.size := by omega
      have HQ := Lib.hid hq
      clear hq
      go_wp2_with fail
      refine (join_comp (w.heap.size + 1) u3 (pre s.size rs) q _ _ hown (by omega) (by omega) (by omega)).mono ?_
      rintro e w1 hj
      obtain ⟨v', rfl, hown', hbl'⟩ := hj.below (fun k hk => (hown.lt k hk).1) hbl (by omega)
      clear hj
      rw [HJ.out] at hown'
      go_wp2
      go_ret
      exact ⟨v', rfl, own_mono hown' (Nat.le_succ _), ((Below.refl _ _).alloc (Nat.le_refl _) _).trans (hbl'.mono (Nat.le_succ _))⟩

end Go.Proofs.YtnbdldapmllegaaGreat.mk

namespace Go.Proofs.YtnbdldapmllegaaGreat.mk
open Go.RowKit

set_option maxHeartbeats 400000 in
theorem behind_less (base : Nat) (v : Value) (rs : List (Int × Int)) (n o : Int) (w : World) (hown : w.ownsRow base 79 2 v rs.length (runCells rs)) (hn : n = 0) :
    Calls Tryz.prog 117 #[v, .int .i64 n, .int .i64 o] w (JoinPost base v (joinR rs n o) w) := by
  have H := Lib.hid (joinR_less (rs := rs) (o := o) (show n < 1 by omega))
  subst hn
  go_enter Tryz.func117, Tryz.ntmps117
  go_wp2
  go_ret
  rw [H.out]
  exact ⟨v, rfl, hown, World.grownBy.refl _ _, .inl rfl⟩

set_option maxHeartbeats 400000 in
set_option maxRecDepth 100000 in
theorem behind_nil (base : Nat) (A : Option Addr) (c : Nat) (n o : Int) (w : World) (hown : w.ownsRow base 79 2 (.slice A 0 c) 0 []) (hn : 1 ≤ n) (hbase : base ≤ w.heap.size) :
    Calls Tryz.prog 117 #[.slice A 0 c, .int .i64 n, .int .i64 o] w (JoinPost base (.slice A 0 c) [(n, o)] w) := by
  obtain ⟨i0, hi, hz0, hz1, hz2⟩ := info_parts run_info
  have hn' : ¬ n = 0 := by omega
  have hn'' : (n == 0) = false := by rw [beq_eq_false_iff_ne]; exact hn'
  go_enter Tryz.func117, Tryz.ntmps117
  go_wp2_with (at_builtin; refine wpList_append_own_at _ rfl (.tmp 35) (.tmp 39) 26 rfl base 79 i0 _ 2 16 Tryz.underlying26 hi hz0 hz1 hz2 rfl (by decide) (.slice A 0 c) 0 [] rfl (hown.alloc _) ⟨w.heap.size, 0, none⟩ 1 1 [.int .i64 n, .int .i64 o] rfl rfl (cells_new w _ _) (by simp [Value.oneCell']) (by simp only [maxLen]; omega) (by omega) (by simp; omega) ?_)
  intro v' w1 h1 h2 _ h3
  go_wp2
  go_ret
  exact join_put (rs := []) h1 h2 h3

set_option maxHeartbeats 400000 in
set_option maxRecDepth 100000 in
theorem behind_other (base : Nat) (g c : Nat) (rs : List (Int × Int)) (l p n o : Int) (w : World) (hlen : rs.length ≤ 4294967296) (hown : w.ownsRow base 79 2 (.slice (some ⟨g, 0, none⟩) (rs.length + 1) c) (rs.length + 1) (runCells (rs ++ [(l, p)]))) (hn : 1 ≤ n) (hbase : base ≤ w.heap.size) (hp : p ≠ o) :
    Calls Tryz.prog 117 #[.slice (some ⟨g, 0, none⟩) (rs.length + 1) c, .int .i64 n, .int .i64 o] w (JoinPost base (.slice (some ⟨g, 0, none⟩) (rs.length + 1) c) (rs ++ [(l, p)] ++ [(n, o)]) w) := by
  obtain ⟨i0, hi, hz0, hz1, hz2⟩ := info_parts run_info
  have hn' : ¬ n = 0 := by omega
  have hn'' : (n == 0) = false := by rw [beq_eq_false_iff_ne]; exact hn'
  have hcell : w.cell? ⟨g, rs.length * 2 + 1, none⟩ = some (.int .i64 p) := by
    rw [hown.cellAt _ (by omega)]
    have := runCells_snd (rs ++ [(l, p)]) rs.length (by simp)
    simpa [List.getD] using this
  have hpo : (p == o) = false := by simpa using hp
  generalize hk : rs.length = k at *
  have HK := Lib.hid hk
  clear hk
  go_enter Tryz.func117, Tryz.ntmps117
  go_wp2_with (at_builtin; refine wpList_append_own_at _ rfl (.tmp 35) (.tmp 39) 26 rfl base 79 i0 _ 2 16 Tryz.underlying26 hi hz0 hz1 hz2 rfl (by decide) (.slice (some ⟨g, 0, none⟩) (k + 1) c) (k + 1) (runCells (rs ++ [(l, p)])) rfl (hown.alloc _) ⟨w.heap.size, 0, none⟩ 1 1 [.int .i64 n, .int .i64 o] rfl rfl (cells_new w _ _) (by simp [Value.oneCell']) (by simp only [maxLen]; omega) (by omega) (by simp; omega) ?_)
  intro v' w1 h1 h2 _ h3
  go_wp2
  go_ret
  exact join_put (rs := rs ++ [(l, p)]) (by simpa [HK.out] using h1) h2 h3

set_option maxHeartbeats 400000 in
set_option maxRecDepth 100000 in
theorem behind_same (base : Nat) (g c : Nat) (rs : List (Int × Int)) (l n o : Int) (w : World) (hlen : rs.length ≤ 4294967296) (hown : w.ownsRow base 79 2 (.slice (some ⟨g, 0, none⟩) (rs.length + 1) c) (rs.length + 1) (runCells (rs ++ [(l, o)]))) (hn : 1 ≤ n) (hn2 : n ≤ 70368744177664) (hl : 0 ≤ l) (hl2 : l ≤ 70368744177664) :
    Calls Tryz.prog 117 #[.slice (some ⟨g, 0, none⟩) (rs.length + 1) c, .int .i64 n, .int .i64 o] w (JoinPost base (.slice (some ⟨g, 0, none⟩) (rs.length + 1) c) (rs ++ [(l + n, o)]) w) := by
  have hn' : ¬ n = 0 := by omega
  have hn'' : (n == 0) = false := by rw [beq_eq_false_iff_ne]; exact hn'
  have hcell : w.cell? ⟨g, rs.length * 2 + 1, none⟩ = some (.int .i64 o) := by
    rw [hown.cellAt _ (by omega)]
    have := runCells_snd (rs ++ [(l, o)]) rs.length (by simp)
    simpa [List.getD] using this
  have hcell2 : w.cell? ⟨g, rs.length * 2, none⟩ = some (.int .i64 l) := by
    rw [hown.cellAt _ (by omega)]
    have := runCells_fst (rs ++ [(l, o)]) rs.length (by simp)
    simpa [List.getD] using this
  have hfz : w.frozen? ⟨g, rs.length * 2, none⟩ = false := hown.frozenAt _
  have hst := Lib.hid (hown.stored (rs.length * 2) (.int .i64 (l + n)))
  have hpo : (o == o) = true := by simp
  generalize hk : rs.length = k at *
  have HK := Lib.hid hk
  clear hk
  go_enter Tryz.func117, Tryz.ntmps117
  go_wp2
  go_ret
  refine ⟨_, rfl, ?_, hst.out.2, .inl rfl⟩
  have h1 := hst.out.1
  obtain rfl : rs.length = k := HK.out
  rw [runCells_set] at h1
  simpa using h1

/-- behind, whatever the runs -/
theorem behind_any (base : Nat) (v : Value) (rs : List (Int × Int)) (n o : Int) (w : World) (hown : w.ownsRow base 79 2 v rs.length (runCells rs)) (hbase : base ≤ w.heap.size) (hlen : rs.length ≤ 4294967296) (hrs : ∀ r ∈ rs, 0 ≤ r.1 ∧ r.1 ≤ 70368744177664) (hn0 : 0 ≤ n) (hn : n ≤ 70368744177664) :
    Calls Tryz.prog 117 #[v, .int .i64 n, .int .i64 o] w (JoinPost base v (joinR rs n o) w) := by
  by_cases h : n < 1
  · exact behind_less base v rs n o w hown (by omega)
  rcases snoc_cases rs with rfl | ⟨r, ⟨l, p⟩, rfl⟩
  · rw [joinR_nil h]
    rcases hown.2 with ⟨rfl, _⟩ | ⟨g, cap, cur, rfl, _⟩
    · exact behind_nil base none 0 n o w hown (by omega) hbase
    · exact behind_nil base _ cap n o w hown (by omega) hbase
  · have hr := hrs (l, p) (by simp)
    have hl : (r ++ [(l, p)]).length = r.length + 1 := by simp
    rw [hl] at hown hlen
    rcases hown.2 with ⟨_, h0⟩ | ⟨g, cap, cur, rfl, _⟩
    · omega
    · by_cases hp : p = o
      · subst hp; rw [joinR_same h]
        exact behind_same base g cap r l n p w (by omega) hown (by omega) hn hr.1 hr.2
      · rw [joinR_other h hp]
        exact behind_other base g cap r l p n o w (by omega) hown (by omega) hbase hp

/-- behind at runs of origins -/
theorem behind_comp (base : Nat) (v : Value) (l : List Int) (n o : Int) (w : World) (hown : w.ownsRow base 79 2 v (comp l).length (runCells (comp l))) (hbase : base ≤ w.heap.size) (hlen : (comp l).length ≤ 4294967296) (hlen2 : l.length ≤ 70368744177664) (hn0 : 0 ≤ n) (hn : n ≤ 70368744177664) :
    Calls Tryz.prog 117 #[v, .int .i64 n, .int .i64 o] w (JoinPost base v (comp (l ++ List.replicate n.toNat o)) w) := by
  rw [← joinR_comp]
  refine behind_any base v (comp l) n o w hown hbase hlen (fun r hr => ⟨by have := comp_pos l r hr; omega, ?_⟩) hn0 hn
  have := comp_le l r hr
  omega

end Go.Proofs.YtnbdldapmllegaaGreat.mk
