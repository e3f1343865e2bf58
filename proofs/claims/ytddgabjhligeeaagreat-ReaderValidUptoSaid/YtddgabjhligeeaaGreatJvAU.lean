/-
  The reader's cut: a part of the source, and the runs ahead of it are gone.
-/
import Derived.Test.YtddgabjhligeeaaGreatJvAJ
import Derived.Test.YtddgabjhligeeaaGreatJvAI
import Derived.Test.YtddgabjhligeeaaGreatJvP
import Derived.Test.YtddgabjhligeeaaGreatJvAM
import Derived.Test.YtddgabjhligeeaaGreatJvH
import Derived.Deep.QuietTactic
import Derived.BigQuiet
import Derived.Test.YtddgabjhligeeaaGreatJvY
import Derived.Deep.DeepCutAuto
import Derived.Deep.CutBlock
import Derived.Deep.RegionHeld3
namespace Go.Proofs.YtddgabjhligeeaaGreat.mk
open Go.RowKit

/-- a region that draws its order, under a condition that the last operations need not keep -/
theorem wp_region_last13 {P : Program} {ops : Array Oper} {Q : Exit → Act → World → Prop} {S : World → Prop} {Z : Nat → Bool} {id : Nat} {a : Act} {w : World} (hm : P.follows .mixedOrders = true)
    (h : wpAnyL P .any ops Q S Z ops.size (Array.replicate ops.size false) a w.drew) : (Code.region id ops true).wp P Q a w := wp_region_any hm (wpAny_of_last _ _ _ _ h)

/-- the runs of a text -/
def runsL (L : Ch) : List (Int × Int) := comp (L.map (·.2))
/-- the source in block g: its text L, at place i; the runs that are left begin at m at the latest; what else lies in the reader -/
structure SrcM (w : World) (g : Nat) (L : Ch) (i m : Nat) (v4 v5 : Value) : Prop where
  cells : ∃ A n c k, Whole w g 64 #[.string (txtOf L), .int .i64 (i : Int), .slice A n c, .int .i64 (lenTo (runsL L) k : Int), v4, v5] ∧ Lies w g A (runCells ((runsL L).drop k)) ∧ ((runsL L).drop k).length = n ∧ n ≤ c ∧ (A = none → c = 0) ∧ lenTo (runsL L) k ≤ m ∧ k ≤ (runsL L).length
  le : i ≤ L.length
  inr : InR L
  len : L.length ≤ 268435456
/-- all that was there stays, but for the reader -/
abbrev Sv (g : Nat) : World → World → Prop := Moved (fun b => b = g)
theorem SrcM.lt {w : World} {g : Nat} {L : Ch} {i m : Nat} {v4 v5 : Value} (h : SrcM w g L i m v4 v5) : g < w.heap.size := by
  obtain ⟨A, n, c, k, hW, _⟩ := h.cells
  exact hW.lt
theorem SrcM.next {w w' : World} {g : Nat} {L : Ch} {i m : Nat} {v4 v5 : Value} (h : SrcM w g L i m v4 v5) (hb : Below w.heap.size w w') : SrcM w' g L i m v4 v5 := by
  have hlt := h.lt
  obtain ⟨A, n, c, k, hW, hL, r⟩ := h.cells
  exact ⟨⟨A, n, c, k, hW.below hb hlt, hL.below (hb.mono (Nat.le_of_lt hlt)), r⟩, h.le, h.inr, h.len⟩
theorem SrcM.drewN {w : World} {g : Nat} {L : Ch} {i m : Nat} {v4 v5 : Value} (h : SrcM w g L i m v4 v5) (n : Nat) : SrcM (w.drewN n) g L i m v4 v5 := h.next ((Below.refl _ _).drewN n)
theorem SrcM.mono {w : World} {g : Nat} {L : Ch} {i m m' : Nat} {v4 v5 : Value} (h : SrcM w g L i m v4 v5) (hm : m ≤ m') : SrcM w g L i m' v4 v5 := by
  obtain ⟨A, n, c, k, hW, hL, h1, h2, h3, h4, h5⟩ := h.cells
  exact ⟨⟨A, n, c, k, hW, hL, h1, h2, h3, Nat.le_trans h4 hm, h5⟩, h.le, h.inr, h.len⟩
theorem Sv.below {g : Nat} {w w' : World} (h : Sv g w w') (hg : g ≤ w.heap.size) : Below g w w' := Moved.below h hg fun k hk e => by omega
theorem txt_data (L : Ch) : (txtOf L).data.toList = L.map (·.1) := by unfold txtOf; simp
/-- what is left, as a text -/
theorem txt_drop (L : Ch) (i : Nat) : (txtOf L).extract i (txtOf L).size = txtOf (L.drop i) := by
  rw [extract_list, txt_data, txtOf_size]
  unfold txtOf
  rw [List.map_drop, List.take_of_length_le (by rw [List.length_map]; exact Nat.le_refl _)]

set_option maxHeartbeats 1000000 in
set_option maxRecDepth 100000 in
theorem srcMore_any {g : Nat} {L : Ch} {i m : Nat} {v4 v5 : Value} (w : World) (h : SrcM w g L i m v4 v5) :
    Calls Tryz.prog 34 #[.pointer (some ⟨g, 0, none⟩)] w fun e w' => e = .returned (.bool (decide (i < L.length))) ∧ ∃ n, w' = w.drewN n := by
  obtain ⟨A, n, c, k, hW, hL, _⟩ := h.cells
  have hs : (txtOf L).size = L.length := txtOf_size L
  have HV : Hid (decide (i < (txtOf L).size) = decide (i < L.length)) := by show _ = _; rw [hs]
  have c0 : w.cell? ⟨g, 0, none⟩ = some (.string (txtOf L)) := hW.at_ 0
  have c1 : w.cell? ⟨g, 1, none⟩ = some (.int .i64 (i : Int)) := hW.at_ 1
  generalize txtOf L = s at *
  clear hW hL h hs
  go_enter Tryz.func34, Tryz.ntmps34
  go_wp2_with fail
  go_quiet (fail)
  go_wp2
  go_ret
  exact ⟨by rw [← HV.out]; rfl, _, rfl⟩

set_option maxHeartbeats 1000000 in
set_option maxRecDepth 100000 in
theorem srcRest_any {g : Nat} {L : Ch} {i m : Nat} {v4 v5 : Value} (w : World) (h : SrcM w g L i m v4 v5) :
    Calls Tryz.prog 68 #[.pointer (some ⟨g, 0, none⟩)] w fun e w' => e = .returned (.string (txtOf (L.drop i))) ∧ ∃ n, w' = w.drewN n := by
  obtain ⟨A, n, c, k, hW, hL, _⟩ := h.cells
  have hs : (txtOf L).size = L.length := txtOf_size L
  have hi := h.le
  have HV := Lib.hid (txt_drop L i)
  have c0 : w.cell? ⟨g, 0, none⟩ = some (.string (txtOf L)) := hW.at_ 0
  have c1 : w.cell? ⟨g, 1, none⟩ = some (.int .i64 (i : Int)) := hW.at_ 1
  generalize txtOf L = s at *
  have h0 : (0 : Int) ≤ (i : Int) := Int.natCast_nonneg _
  have h1 : (i : Int) ≤ (s.size : Int) := by omega
  clear hW hL h hs hi
  go_enter Tryz.func68, Tryz.ntmps68
  go_wp2_with fail
  go_quiet (fail)
  go_wp2
  go_ret
  exact ⟨by rw [← HV.out]; rfl, _, rfl⟩

set_option maxHeartbeats 1000000 in
set_option maxRecDepth 100000 in
theorem srcAhead_any {g : Nat} {L : Ch} {i m : Nat} {v4 v5 : Value} (p : ByteArray) (w : World) (h : SrcM w g L i m v4 v5) :
    Calls Tryz.prog 65 #[.pointer (some ⟨g, 0, none⟩), .string p] w fun e w' => e = .returned (.bool (isA p.data.toList (L.drop i))) ∧ ∃ n, w' = w.drewN n := by
  have hp : p.data.toList.length = p.size := by rw [Array.length_toList]; rfl
  have HV : Hid (((txtOf (L.drop i)).data.toList.take p.size == p.data.toList) = isA p.data.toList (L.drop i)) := by
    show _ = _
    unfold isA
    rw [txt_data, hp]
  have HR := Lib.hid (srcRest_any w h)
  generalize txtOf (L.drop i) = t at *
  clear h hp
  go_enter Tryz.func65, Tryz.ntmps65
  go_wp2_with fail
  refine HR.out.mono ?_
  rintro e w1 ⟨rfl, n1, rfl⟩
  go_wp2_with fail
  refine (hasPrefix_any t p _).mono ?_
  rintro e w2 ⟨rfl, rfl⟩
  rw [HV.out]
  go_wp2
  go_ret
  exact ⟨rfl, _, rfl⟩

/-- the place moves on -/
theorem SrcM.pass {w : World} {g : Nat} {L : Ch} {i m : Nat} {v4 v5 : Value} (h : SrcM w g L i m v4 v5) (j : Nat) (hj : j ≤ L.length) : SrcM (w.setCell ⟨g, 1, none⟩ (.int .i64 (j : Int))) g L j m v4 v5 := by
  obtain ⟨A, n, c, k, hW, hL, r⟩ := h.cells
  exact ⟨⟨A, n, c, k, hW.put 1 _, hL.below ((Below.refl g w).setCell (Nat.le_refl _) _), r⟩, hj, h.inr, h.len⟩

set_option maxHeartbeats 2000000 in
set_option maxRecDepth 100000 in
theorem srcPass_any {g : Nat} {L : Ch} {i m : Nat} {v4 v5 : Value} (n : Nat) (w : World) (h : SrcM w g L i m v4 v5) (hn : n ≤ 268435456) :
    Calls Tryz.prog 66 #[.pointer (some ⟨g, 0, none⟩), .int .i64 (n : Int)] w fun e w' => e = .returned (.tuple #[]) ∧ SrcM w' g L (min (i + n) L.length) m v4 v5 ∧ Sv g w w' := by
  have hlt := h.lt
  obtain ⟨A, rn, c, k, hW, hL, _⟩ := h.cells
  have hs : (txtOf L).size = L.length := txtOf_size L
  have hi := h.le
  have hl := h.len
  have c0 : w.drew.cell? ⟨g, 0, none⟩ = some (.string (txtOf L)) := hW.drew.at_ 0
  have c1 : w.drew.cell? ⟨g, 1, none⟩ = some (.int .i64 (i : Int)) := hW.drew.at_ 1
  have f1 : w.drew.frozen? ⟨g, 1, none⟩ = false := hW.drew.free 1
  have hw : IntKind.i64.wrap ((i : Int) + (n : Int)) = (i : Int) + (n : Int) := IntWalk.i64_in _ (by omega)
  have HV : Hid (min ((i : Int) + (n : Int)) ((txtOf L).size : Int) = ((min (i + n) L.length : Nat) : Int)) := by show _ = _; rw [hs]; omega
  have HP : Hid (SrcM (w.drew.setCell ⟨g, 1, none⟩ (.int .i64 ((min (i + n) L.length : Nat) : Int))) g L (min (i + n) L.length) m v4 v5) := (h.next (Below.drew (Below.refl _ _))).pass _ (Nat.min_le_right _ _)
  have HM : Hid (Sv g w (w.drew.setCell ⟨g, 1, none⟩ (.int .i64 ((min (i + n) L.length : Nat) : Int)))) := Moved.setCell (S := fun b => b = g) (Moved.drew (Moved.refl _ _)) (p := ⟨g, 1, none⟩) rfl _
  generalize ((min (i + n) L.length : Nat) : Int) = z at *
  generalize min (i + n) L.length = y at *
  generalize txtOf L = s at *
  have hS : w.drew.cell? ⟨g, 0, none⟩ = some (.string s) ∧ w.drew.cell? ⟨g, 1, none⟩ = some (.int .i64 (i : Int)) := ⟨c0, c1⟩
  clear hW hL h hs hi hl hn c0
  go_enter Tryz.func66, Tryz.ntmps66
  refine wp_region_last13 (S := (fun V => V.cell? ⟨g, 0, none⟩ = some (.string s) ∧ V.cell? ⟨g, 1, none⟩ = some (.int .i64 (i : Int)))) (Z := (fun i => decide (13 ≤ i))) (by kernel_rfl) ?_
  refine' wpAnyL_take (i := 0) ?hi1 (by kernel_rfl) (by kernel_rfl) (by kernel_rfl) (by kernel_rfl) ?hQ1 ?hy1 hS ?rest1
  case hi1 => simp only [List.getElem?_toArray, List.getElem?_cons_zero]; rfl
  case hQ1 => exact fun _ _ _ h => h
  case hy1 =>
    refine Or.inl ⟨by rfl, ?_⟩
    intro wq hq
    try dsimp only at hq
    try obtain ⟨hq0, hq1, hq2, hq3, hq4, hq5, hq6⟩ := hq
    try obtain ⟨hq0, hq1, hq2, hq3, hq4, hq5⟩ := hq
    try obtain ⟨hq0, hq1, hq2, hq3, hq4⟩ := hq
    try obtain ⟨hq0, hq1, hq2, hq3⟩ := hq
    try obtain ⟨hq0, hq1, hq2⟩ := hq
    try obtain ⟨hq0, hq1⟩ := hq
    go_simp
    try with_reducible rfl
  try simp only [Act.put, List.setIfInBounds_toArray, List.set_cons_zero, List.set_cons_succ]
  refine' wpAnyL_take (i := 1) ?hi2 (by kernel_rfl) (by kernel_rfl) (by kernel_rfl) (by kernel_rfl) ?hQ2 ?hy2 hS ?rest2
  case hi2 => simp only [List.getElem?_toArray, List.getElem?_cons_succ, List.getElem?_cons_zero]; rfl
  case hQ2 => exact fun _ _ _ h => h
  case hy2 =>
    refine Or.inl ⟨by rfl, ?_⟩
    intro wq hq
    try dsimp only at hq
    try obtain ⟨hq0, hq1, hq2, hq3, hq4, hq5, hq6⟩ := hq
    try obtain ⟨hq0, hq1, hq2, hq3, hq4, hq5⟩ := hq
    try obtain ⟨hq0, hq1, hq2, hq3, hq4⟩ := hq
    try obtain ⟨hq0, hq1, hq2, hq3⟩ := hq
    try obtain ⟨hq0, hq1, hq2⟩ := hq
    try obtain ⟨hq0, hq1⟩ := hq
    go_simp
    try with_reducible rfl
  try simp only [Act.put, List.setIfInBounds_toArray, List.set_cons_zero, List.set_cons_succ]
  refine' wpAnyL_take (i := 2) ?hi3 (by kernel_rfl) (by kernel_rfl) (by kernel_rfl) (by kernel_rfl) ?hQ3 ?hy3 hS ?rest3
  case hi3 => simp only [List.getElem?_toArray, List.getElem?_cons_succ, List.getElem?_cons_zero]; rfl
  case hQ3 => exact fun _ _ _ h => h
  case hy3 =>
    refine Or.inl ⟨by rfl, ?_⟩
    intro wq hq
    try dsimp only at hq
    try obtain ⟨hq0, hq1, hq2, hq3, hq4, hq5, hq6⟩ := hq
    try obtain ⟨hq0, hq1, hq2, hq3, hq4, hq5⟩ := hq
    try obtain ⟨hq0, hq1, hq2, hq3, hq4⟩ := hq
    try obtain ⟨hq0, hq1, hq2, hq3⟩ := hq
    try obtain ⟨hq0, hq1, hq2⟩ := hq
    try obtain ⟨hq0, hq1⟩ := hq
    go_simp
    try with_reducible rfl
  try simp only [Act.put, List.setIfInBounds_toArray, List.set_cons_zero, List.set_cons_succ]
  refine' wpAnyL_take (i := 3) ?hi4 (by kernel_rfl) (by kernel_rfl) (by kernel_rfl) (by kernel_rfl) ?hQ4 ?hy4 hS ?rest4
  case hi4 => simp only [List.getElem?_toArray, List.getElem?_cons_succ, List.getElem?_cons_zero]; rfl
  case hQ4 => exact fun _ _ _ h => h
  case hy4 =>
    refine Or.inl ⟨by rfl, ?_⟩
    intro wq hq
    try dsimp only at hq
    try obtain ⟨hq0, hq1, hq2, hq3, hq4, hq5, hq6⟩ := hq
    try obtain ⟨hq0, hq1, hq2, hq3, hq4, hq5⟩ := hq
    try obtain ⟨hq0, hq1, hq2, hq3, hq4⟩ := hq
    try obtain ⟨hq0, hq1, hq2, hq3⟩ := hq
    try obtain ⟨hq0, hq1, hq2⟩ := hq
    try obtain ⟨hq0, hq1⟩ := hq
    go_simp
    try with_reducible rfl
  try simp only [Act.put, List.setIfInBounds_toArray, List.set_cons_zero, List.set_cons_succ]
  refine' wpAnyL_take (i := 4) ?hi5 (by kernel_rfl) (by kernel_rfl) (by kernel_rfl) (by kernel_rfl) ?hQ5 ?hy5 hS ?rest5
  case hi5 => simp only [List.getElem?_toArray, List.getElem?_cons_succ, List.getElem?_cons_zero]; rfl
  case hQ5 => exact fun _ _ _ h => h
  case hy5 =>
    refine Or.inl ⟨by rfl, ?_⟩
    intro wq hq
    try dsimp only at hq
    try obtain ⟨hq0, hq1, hq2, hq3, hq4, hq5, hq6⟩ := hq
    try obtain ⟨hq0, hq1, hq2, hq3, hq4, hq5⟩ := hq
    try obtain ⟨hq0, hq1, hq2, hq3, hq4⟩ := hq
    try obtain ⟨hq0, hq1, hq2, hq3⟩ := hq
    try obtain ⟨hq0, hq1, hq2⟩ := hq
    try obtain ⟨hq0, hq1⟩ := hq
    go_simp
    try with_reducible rfl
  try simp only [Act.put, List.setIfInBounds_toArray, List.set_cons_zero, List.set_cons_succ]
  refine' wpAnyL_take (i := 5) ?hi6 (by kernel_rfl) (by kernel_rfl) (by kernel_rfl) (by kernel_rfl) ?hQ6 ?hy6 hS ?rest6
  case hi6 => simp only [List.getElem?_toArray, List.getElem?_cons_succ, List.getElem?_cons_zero]; rfl
  case hQ6 => exact fun _ _ _ h => h
  case hy6 =>
    refine Or.inl ⟨by rfl, ?_⟩
    intro wq hq
    try dsimp only at hq
    try obtain ⟨hq0, hq1, hq2, hq3, hq4, hq5, hq6⟩ := hq
    try obtain ⟨hq0, hq1, hq2, hq3, hq4, hq5⟩ := hq
    try obtain ⟨hq0, hq1, hq2, hq3, hq4⟩ := hq
    try obtain ⟨hq0, hq1, hq2, hq3⟩ := hq
    try obtain ⟨hq0, hq1, hq2⟩ := hq
    try obtain ⟨hq0, hq1⟩ := hq
    go_simp
    try with_reducible rfl
  try simp only [Act.put, List.setIfInBounds_toArray, List.set_cons_zero, List.set_cons_succ]
  refine' wpAnyL_take (i := 6) ?hi7 (by kernel_rfl) (by kernel_rfl) (by kernel_rfl) (by kernel_rfl) ?hQ7 ?hy7 hS ?rest7
  case hi7 => simp only [List.getElem?_toArray, List.getElem?_cons_succ, List.getElem?_cons_zero]; rfl
  case hQ7 => exact fun _ _ _ h => h
  case hy7 =>
    refine Or.inl ⟨by rfl, ?_⟩
    intro wq hq
    try dsimp only at hq
    try obtain ⟨hq0, hq1, hq2, hq3, hq4, hq5, hq6⟩ := hq
    try obtain ⟨hq0, hq1, hq2, hq3, hq4, hq5⟩ := hq
    try obtain ⟨hq0, hq1, hq2, hq3, hq4⟩ := hq
    try obtain ⟨hq0, hq1, hq2, hq3⟩ := hq
    try obtain ⟨hq0, hq1, hq2⟩ := hq
    try obtain ⟨hq0, hq1⟩ := hq
    go_simp
    try with_reducible rfl
  try simp only [Act.put, List.setIfInBounds_toArray, List.set_cons_zero, List.set_cons_succ]
  refine' wpAnyL_take (i := 7) ?hi8 (by kernel_rfl) (by kernel_rfl) (by kernel_rfl) (by kernel_rfl) ?hQ8 ?hy8 hS ?rest8
  case hi8 => simp only [List.getElem?_toArray, List.getElem?_cons_succ, List.getElem?_cons_zero]; rfl
  case hQ8 => exact fun _ _ _ h => h
  case hy8 =>
    refine Or.inl ⟨by rfl, ?_⟩
    intro wq hq
    try dsimp only at hq
    try obtain ⟨hq0, hq1, hq2, hq3, hq4, hq5, hq6⟩ := hq
    try obtain ⟨hq0, hq1, hq2, hq3, hq4, hq5⟩ := hq
    try obtain ⟨hq0, hq1, hq2, hq3, hq4⟩ := hq
    try obtain ⟨hq0, hq1, hq2, hq3⟩ := hq
    try obtain ⟨hq0, hq1, hq2⟩ := hq
    try obtain ⟨hq0, hq1⟩ := hq
    go_simp
    try with_reducible rfl
  try simp only [Act.put, List.setIfInBounds_toArray, List.set_cons_zero, List.set_cons_succ]
  refine' wpAnyL_take (i := 8) ?hi9 (by kernel_rfl) (by kernel_rfl) (by kernel_rfl) (by kernel_rfl) ?hQ9 ?hy9 hS ?rest9
  case hi9 => simp only [List.getElem?_toArray, List.getElem?_cons_succ, List.getElem?_cons_zero]; rfl
  case hQ9 => exact fun _ _ _ h => h
  case hy9 =>
    refine Or.inl ⟨by rfl, ?_⟩
    intro wq hq
    try dsimp only at hq
    try obtain ⟨hq0, hq1, hq2, hq3, hq4, hq5, hq6⟩ := hq
    try obtain ⟨hq0, hq1, hq2, hq3, hq4, hq5⟩ := hq
    try obtain ⟨hq0, hq1, hq2, hq3, hq4⟩ := hq
    try obtain ⟨hq0, hq1, hq2, hq3⟩ := hq
    try obtain ⟨hq0, hq1, hq2⟩ := hq
    try obtain ⟨hq0, hq1⟩ := hq
    go_simp
    try with_reducible rfl
  try simp only [Act.put, List.setIfInBounds_toArray, List.set_cons_zero, List.set_cons_succ]
  refine' wpAnyL_take (i := 9) ?hi10 (by kernel_rfl) (by kernel_rfl) (by kernel_rfl) (by kernel_rfl) ?hQ10 ?hy10 hS ?rest10
  case hi10 => simp only [List.getElem?_toArray, List.getElem?_cons_succ, List.getElem?_cons_zero]; rfl
  case hQ10 => exact fun _ _ _ h => h
  case hy10 =>
    refine Or.inl ⟨by rfl, ?_⟩
    intro wq hq
    try dsimp only at hq
    try obtain ⟨hq0, hq1, hq2, hq3, hq4, hq5, hq6⟩ := hq
    try obtain ⟨hq0, hq1, hq2, hq3, hq4, hq5⟩ := hq
    try obtain ⟨hq0, hq1, hq2, hq3, hq4⟩ := hq
    try obtain ⟨hq0, hq1, hq2, hq3⟩ := hq
    try obtain ⟨hq0, hq1, hq2⟩ := hq
    try obtain ⟨hq0, hq1⟩ := hq
    go_simp
    try with_reducible rfl
  try simp only [Act.put, List.setIfInBounds_toArray, List.set_cons_zero, List.set_cons_succ]
  refine' wpAnyL_take (i := 10) ?hi11 (by kernel_rfl) (by kernel_rfl) (by kernel_rfl) (by kernel_rfl) ?hQ11 ?hy11 hS ?rest11
  case hi11 => simp only [List.getElem?_toArray, List.getElem?_cons_succ, List.getElem?_cons_zero]; rfl
  case hQ11 => exact fun _ _ _ h => h
  case hy11 =>
    refine Or.inl ⟨by rfl, ?_⟩
    intro wq hq
    try dsimp only at hq
    try obtain ⟨hq0, hq1, hq2, hq3, hq4, hq5, hq6⟩ := hq
    try obtain ⟨hq0, hq1, hq2, hq3, hq4, hq5⟩ := hq
    try obtain ⟨hq0, hq1, hq2, hq3, hq4⟩ := hq
    try obtain ⟨hq0, hq1, hq2, hq3⟩ := hq
    try obtain ⟨hq0, hq1, hq2⟩ := hq
    try obtain ⟨hq0, hq1⟩ := hq
    go_simp
    try with_reducible rfl
  try simp only [Act.put, List.setIfInBounds_toArray, List.set_cons_zero, List.set_cons_succ]
  refine' wpAnyL_take (i := 11) ?hi12 (by kernel_rfl) (by kernel_rfl) (by kernel_rfl) (by kernel_rfl) ?hQ12 ?hy12 hS ?rest12
  case hi12 => simp only [List.getElem?_toArray, List.getElem?_cons_succ, List.getElem?_cons_zero]; rfl
  case hQ12 => exact fun _ _ _ h => h
  case hy12 =>
    refine Or.inl ⟨by rfl, ?_⟩
    intro wq hq
    try dsimp only at hq
    try obtain ⟨hq0, hq1, hq2, hq3, hq4, hq5, hq6⟩ := hq
    try obtain ⟨hq0, hq1, hq2, hq3, hq4, hq5⟩ := hq
    try obtain ⟨hq0, hq1, hq2, hq3, hq4⟩ := hq
    try obtain ⟨hq0, hq1, hq2, hq3⟩ := hq
    try obtain ⟨hq0, hq1, hq2⟩ := hq
    try obtain ⟨hq0, hq1⟩ := hq
    go_simp
    try with_reducible rfl
  try simp only [Act.put, List.setIfInBounds_toArray, List.set_cons_zero, List.set_cons_succ]
  refine' wpAnyL_take (i := 12) ?hi13 (by kernel_rfl) (by kernel_rfl) (by kernel_rfl) (by kernel_rfl) ?hQ13 ?hy13 hS ?rest13
  case hi13 => simp only [List.getElem?_toArray, List.getElem?_cons_succ, List.getElem?_cons_zero]; rfl
  case hQ13 => exact fun _ _ _ h => h
  case hy13 =>
    refine Or.inl ⟨by rfl, ?_⟩
    intro wq hq
    try dsimp only at hq
    try obtain ⟨hq0, hq1, hq2, hq3, hq4, hq5, hq6⟩ := hq
    try obtain ⟨hq0, hq1, hq2, hq3, hq4, hq5⟩ := hq
    try obtain ⟨hq0, hq1, hq2, hq3, hq4⟩ := hq
    try obtain ⟨hq0, hq1, hq2, hq3⟩ := hq
    try obtain ⟨hq0, hq1, hq2⟩ := hq
    try obtain ⟨hq0, hq1⟩ := hq
    go_simp
    try with_reducible rfl
  try simp only [Act.put, List.setIfInBounds_toArray, List.set_cons_zero, List.set_cons_succ]
  refine wpAnyL_ready (rs := [13]) (by kernel_rfl) (by simp) ?_
  refine' ReadyL.cons ?ho14 (fun K hK => ?step14) ?more14
  case ho14 => simp only [List.getElem?_toArray, List.getElem?_cons_succ, List.getElem?_cons_zero]; rfl
  case step14 =>
    go_simp
    refine hK.out _ _ (.inl (by decide)) ?_
    clear hK K
    try simp only [Act.put, List.setIfInBounds_toArray, List.set_cons_zero, List.set_cons_succ]
    refine wpAnyL_ready (rs := [14]) (by kernel_rfl) (by simp) ?_
    refine' ReadyL.cons ?ho15 (fun K hK => ?step15) ?more15
    case ho15 => simp only [List.getElem?_toArray, List.getElem?_cons_succ, List.getElem?_cons_zero]; rfl
    case step15 =>
      go_simp
      refine hK.out _ _ (.inl (by decide)) ?_
      clear hK K
      try simp only [Act.put, List.setIfInBounds_toArray, List.set_cons_zero, List.set_cons_succ]
      refine wpAnyL_ready (rs := [15]) (by kernel_rfl) (by simp) ?_
      refine' ReadyL.cons ?ho16 (fun K hK => ?step16) ?more16
      case ho16 => simp only [List.getElem?_toArray, List.getElem?_cons_succ, List.getElem?_cons_zero]; rfl
      case step16 =>
        go_simp
        refine hK.out _ _ (.inl (by decide)) ?_
        clear hK K
        try simp only [Act.put, List.setIfInBounds_toArray, List.set_cons_zero, List.set_cons_succ]
        refine wpAnyL_done (by kernel_rfl) ?_ _
        rw [HV.out]
        go_wp2_with fail
        go_end0
        exact ⟨rfl, HP.out, HM.out⟩
      exact ReadyL.nil
    exact ReadyL.nil
  exact ReadyL.nil

theorem span_len (f : UInt8 → Bool) (l : Ch) : spanN (l.map (·.1)) f = (l.takeWhile fun c => f c.1).length := by
  unfold spanN
  rw [List.takeWhile_map, List.length_map]
  rfl
theorem drop_over (f : UInt8 → Bool) (l : Ch) : l.drop (l.takeWhile fun c => f c.1).length = overP f l := by
  have h := congrArg (List.drop (l.takeWhile fun c => f c.1).length) (List.takeWhile_append_dropWhile (p := fun c : UInt8 × Int => f c.1) (l := l))
  rw [List.drop_left] at h
  exact h.symm

set_option maxHeartbeats 1000000 in
set_option maxRecDepth 100000 in
theorem srcOver_any {g : Nat} {L : Ch} {i m : Nat} {v4 v5 : Value} (p : ByteArray) (w : World) (h : SrcM w g L i m v4 v5) (hp : p.size ≤ 4294967296) :
    Calls Tryz.prog 145 #[.pointer (some ⟨g, 0, none⟩), .string p] w fun e w' => e = .returned (.tuple #[]) ∧ ∃ j, i ≤ j ∧ L.drop j = overP (fun b => p.data.toList.contains b) (L.drop i) ∧ SrcM w' g L j m v4 v5 ∧ Sv g w w' := by
  have H := Lib.hid h
  have HR := Lib.hid (srcRest_any w h)
  have hi := h.le
  have hl := h.len
  have hts : (txtOf (L.drop i)).size ≤ 4294967296 := by rw [txtOf_size, List.length_drop]; omega
  have hn : spanN (txtOf (L.drop i)).data.toList (isIn p.data.toList) = ((L.drop i).takeWhile fun c => p.data.toList.contains c.1).length := by rw [txt_data, span_len]; rfl
  have hle := (List.takeWhile_sublist (fun c : UInt8 × Int => p.data.toList.contains c.1) (l := L.drop i)).length_le
  rw [List.length_drop] at hle
  have HD : Hid (L.drop (i + ((L.drop i).takeWhile fun c => p.data.toList.contains c.1).length) = overP (fun b => p.data.toList.contains b) (L.drop i)) := by
    show _ = _
    rw [← List.drop_drop, drop_over]
  have HN := Lib.hid hn
  generalize ((L.drop i).takeWhile fun c => p.data.toList.contains c.1).length = q at *
  have hq : min (i + q) L.length = i + q := by omega
  have HQ := Lib.hid hq
  generalize txtOf (L.drop i) = t at *
  clear h hn hq
  go_enter Tryz.func145, Tryz.ntmps145
  go_wp2_with fail
  refine HR.out.mono ?_
  rintro e w1 ⟨rfl, n1, rfl⟩
  have HS := Lib.hid (H.out.drewN n1)
  go_wp2_with fail
  refine (span_any t none 0 0 p _ hts hp).mono ?_
  rw [HN.out]
  rintro e w2 ⟨rfl, hb2⟩
  have HS2 := Lib.hid (HS.out.next hb2)
  go_wp2_with fail
  refine (srcPass_any q _ HS2.out (by omega)).mono ?_
  rw [HQ.out]
  rintro e w3 ⟨rfl, h3, hv3⟩
  go_wp2_with fail
  go_end0
  exact ⟨rfl, i + q, Nat.le_add_right _ _, HD.out, h3, (Moved.of_below (((Below.refl _ _).drewN n1).trans hb2)).trans hv3⟩

end Go.Proofs.YtddgabjhligeeaaGreat.mk

namespace Go.Proofs.YtddgabjhligeeaaGreat.mk
open Go.RowKit

theorem runs_good {L : Ch} (h : InR L) : Good (runsL L) := fun r hr => by
  have h1 := comp_pos _ r hr
  have h2 := h r.2 (mem_comp _ r hr)
  exact ⟨h1, h2.1, h2.2⟩
theorem runs_exp (L : Ch) : expand (runsL L) = L.map (·.2) := expand_comp _
theorem runs_len (L : Ch) : (expand (runsL L)).length = (txtOf L).size := by rw [runs_exp, List.length_map, txtOf_size]

theorem SrcM.far {w : World} {g : Nat} {L : Ch} {i m : Nat} {v4 v5 : Value} (h : SrcM w g L i m v4 v5) (p : Addr) (hp : g < p.block) (u : Value) : SrcM (w.setCell p u) g L i m v4 v5 := by
  obtain ⟨A, n, c, k, hW, hL, r⟩ := h.cells
  exact ⟨⟨A, n, c, k, hW.far _ (by omega) _, hL.below ((Below.refl g w).setCell (by omega) _), r⟩, h.le, h.inr, h.len⟩
/-- a run is gone past -/
theorem SrcM.cutNext {w : World} {g : Nat} {L : Ch} {i f k n c n' c' : Nat} {v4 v5 : Value} {A' : Option Addr} {ad : Addr} {l o : Int} (h : SrcM w g L i f v4 v5) (hk : (runsL L)[k]? = some (l, o))
    (hW : Whole w g 64 #[.string (txtOf L), .int .i64 (i : Int), .slice (some ad) n c, .int .i64 (lenTo (runsL L) k : Int), v4, v5]) (hn : ((runsL L).drop k).length = n) (hnc : n ≤ c) (hL : Lies w g (some ad) (runCells ((runsL L).drop k))) (hl : 1 ≤ l)
    (hf : (lenTo (runsL L) k : Int) + l ≤ (f : Int)) (hA' : 1 < c → A' = some (ad.add 2)) (hz : A' = none → c' = 0) (hn' : n' = n - 1) (hc' : c' = c - 1) :
    SrcM ((w.setCell ⟨g, 3, none⟩ (.int .i64 ((lenTo (runsL L) k : Int) + l))).setCell ⟨g, 2, none⟩ (.slice A' n' c')) g L i f v4 v5 := by
  subst hn' hc'
  have hkl : k < (runsL L).length := (List.getElem?_eq_some_iff.1 hk).1
  have hd : (runsL L).drop k = (l, o) :: (runsL L).drop (k + 1) := by
    rw [List.drop_eq_getElem_cons hkl]
    rw [List.getElem?_eq_getElem hkl] at hk
    injection hk with hk
    rw [hk]
  have hval : (lenTo (runsL L) k : Int) + l = (lenTo (runsL L) (k + 1) : Int) := by rw [lenTo_next hk]; omega
  refine ⟨⟨A', n - 1, c - 1, k + 1, ?_, ?_, ?_, by omega, hz, by omega, hkl⟩, h.le, h.inr, h.len⟩
  · rw [← hval]; exact (hW.put 3 _).put 2 _
  · rw [hd] at hL hn
    by_cases hc : 1 < c
    · rw [hA' hc]
      exact (lies_tail hL).below (((Below.refl g w).setCell (p := ⟨g, 3, none⟩) (Nat.le_refl _) _).setCell (p := ⟨g, 2, none⟩) (Nat.le_refl _) _)
    · have h0 : (runsL L).drop (k + 1) = [] := List.eq_nil_of_length_eq_zero (by simp at hn ⊢; omega)
      rw [h0]
      exact Lies.empty _ _ _
  · rw [hd] at hn; simp at hn; simp; omega
def CutAt13 (g : Nat) (L : Ch) (i f : Nat) (v4 v5 : Value) (w1 wr : World) : Prop := SrcM wr g L i f v4 v5 ∧ Sv g w1 wr
def runsLeft (w : World) (g : Nat) : Nat := sliceN ((w.cell? ⟨g, 2, none⟩).getD .nilFunc)
theorem runsLeft_eq {w : World} {g n c : Nat} {A : Option Addr} (h : w.cell? ⟨g, 2, none⟩ = some (.slice A n c)) : runsLeft w g = n := by unfold runsLeft; rw [h]; rfl
/-- a labelled text is told, in memory of its own, and the source goes on -/
def TellsS (g : Nat) (L l : Ch) (i m : Nat) (v4 v5 : Value) (w : World) (e : Ending) (w' : World) : Prop :=
  ∃ u : LT, e = .returned (.agg #[.string u.s, .slice u.A u.n u.c]) ∧ Hid (u.ch = l ∧ OwnL w' w.heap.size u) ∧ SrcM w' g L i m v4 v5 ∧ Sv g w w'
theorem toldLT {l : Ch} {s : ByteArray} {rs : List (Int × Int)} {w w' : World} {A : Option Addr} {c : Nat} (hi : InR l) (hn : l.length ≤ 4294967296) (hs : s = txtOf l) (hr : rs = comp (l.map (·.2))) (ho : w'.ownsRow w.heap.size 53 2 (.slice A rs.length c) rs.length (runCells rs)) :
    (LT.mk s A rs.length c rs).ch = l ∧ OwnL w' w.heap.size ⟨s, A, rs.length, c, rs⟩ := by
  subst hs hr
  exact ⟨toldT_ch hi A c, rfl, ⟨Nat.le_trans (runN_le l) hn, by show comp (l.map (·.2)) = comp ((toldT l A c).ch.map (·.2)); rw [toldT_ch hi]⟩, by show (txtOf l).size ≤ _; rw [txtOf_size]; exact hn, ho⟩
/-- the store of an answer into its own block, behind the call that told it -/
theorem tellsS_end {g : Nat} {L l : Ch} {i m r : Nat} {v4 v5 : Value} {w w2 : World} {u : LT} (hr : w.heap.size ≤ r) (hgr : g < r) (h : u.ch = l ∧ OwnL w2 (r + 1) u) (hs : SrcM w2 g L i m v4 v5) (hv : Sv g w w2) :
    TellsS g L l i m v4 v5 w (.returned (.agg #[.string u.s, .slice u.A u.n u.c])) ((w2.setCell ⟨r, 0, none⟩ (.string u.s)).setCell ⟨r, 1, none⟩ (.slice u.A u.n u.c)) := by
  refine ⟨u, rfl, ⟨h.1, h.2.1, h.2.2.1, h.2.2.2.1, ?_⟩, (hs.far _ hgr _).far _ hgr _, (hv.setNew (p := ⟨r, 0, none⟩) hr _).setNew (p := ⟨r, 1, none⟩) hr _⟩
  exact own_mono (own_far (own_far h.2.2.2.2 _ (fun e => by have := (h.2.2.2.2.lt _ e).1; simp at this; omega) _) _ (fun e => by have := (h.2.2.2.2.lt _ e).1; simp at this; omega) _) (by omega)

set_option maxHeartbeats 4000000 in
set_option maxRecDepth 100000 in
theorem srcCut_any {g : Nat} {L : Ch} {i m : Nat} {v4 v5 : Value} (f t : Nat) (w : World) (h : SrcM w g L i m v4 v5) (hmf : m ≤ f) (hft : f ≤ t) (ht : t ≤ L.length) :
    Calls Tryz.prog 151 #[.pointer (some ⟨g, 0, none⟩), .int .i64 (f : Int), .int .i64 (t : Int)] w (TellsS g L ((L.take t).drop f) i f v4 v5 w) := by
  have hlt := h.lt
  have hlen := h.len
  have hg := runs_good h.inr
  have hex := runs_len L
  have HINR := Lib.hid h.inr
  have hrl : (runsL L).length ≤ L.length := by have := comp_length_le (L.map (·.2)); rw [List.length_map] at this; exact this
  have hts : (txtOf L).size = L.length := txtOf_size L
  go_enter Tryz.func151, Tryz.ntmps151
  go_upto_block 0 with fail
  generalize hw1 : w.alloc (.cells #[.string ⟨#[]⟩, .slice none 0 0] 24) = w1
  have y0 : Whole w1 w.heap.size 24 #[.string ⟨#[]⟩, .slice none 0 0] := by rw [← hw1]; exact Whole.made w _ _
  have hb1 : Below w.heap.size w w1 := by rw [← hw1]; exact (Below.refl _ _).alloc (Nat.le_refl _) _
  have hz1 : w1.heap.size = w.heap.size + 1 := by rw [← hw1]; simp
  have hst1 := (h.mono hmf).next hb1
  clear h hw1
  have HZ1 := Lib.hid hz1
  have HG := Lib.hid hg
  have HEX := Lib.hid (hex.trans hts)
  have HTS := Lib.hid hts
  clear hg hex hz1 hts
  go_cut [] (fun wx => CutAt13 g L i f v4 v5 w1 wx)
  case first =>
    go_wp2_with fail
    go_loopw [] (CutAt13 g L i f v4 v5 w1) (fun wr => runsLeft wr g)
    case atStart => exact ⟨hst1, Moved.refl _ _⟩
    case round =>
      obtain ⟨hcs, hmv⟩ := hrel
      have HCS := Lib.hid hcs
      obtain ⟨A, n, c, k, hW, hLi, hn, hnc, hAn, hkf, _⟩ := hcs.cells
      have HN := Lib.hid hn
      have HW := Lib.hid hW
      have HLi := Lib.hid hLi
      clear hn hcs hAn
      have c2 : wr.cell? ⟨g, 2, none⟩ = some (.slice A n c) := hW.at_ 2
      have c3 : wr.cell? ⟨g, 3, none⟩ = some (.int .i64 (lenTo (runsL L) k : Int)) := hW.at_ 3
      have f2 := hW.free 2
      have f3 := hW.free 3
      clear hW
      by_cases hn0 : 0 < n
      · obtain ⟨ad, l, o, rfl, hbA, hd1, hd2, HR⟩ := hLi.run (k := 0) (by rw [HN.out]; exact hn0)
        have HR2 : Hid ((runsL L)[k]? = some (l, o)) := by have h := HR.out; rw [List.getElem?_drop] at h; exact h
        obtain ⟨hl1, ho1, ho2⟩ := HG.out (l, o) (List.mem_of_getElem? HR2.out)
        simp only at hl1 ho1 ho2
        have HLN := Lib.hid (lenTo_next HR2.out)
        have hle2 := lenTo_le (runsL L) (k + 1)
        rw [HLN.out, HEX.out] at hle2
        have hd0 : wr.cell? ad = some (.int .i64 l) := addr_zero ad ▸ hd1
        clear hd1 hd2 hLi
        have hni : (0 : Int) < (n : Int) := by omega
        have hw : IntKind.i64.wrap ((lenTo (runsL L) k : Int) + l) = (lenTo (runsL L) k : Int) + l := IntWalk.i64_in _ (by omega)
        by_cases hle : (lenTo (runsL L) k : Int) + l ≤ (f : Int)
        · have hHLE := Lib.hid hle
          have hLK := Lib.hid hkf
          have HLE2 := Lib.hid hle2
          go_wp2_with fail
          go_quiet (fail)
          go_wp2_with fail
          have hS : (wr.drewN nq).drew.cell? ⟨g, 3, none⟩ = some (.int .i64 (lenTo (runsL L) k : Int)) ∧ (wr.drewN nq).drew.cell? ⟨g, 2, none⟩ = some (.slice (some ad) n c) ∧ (wr.drewN nq).drew.cell? ad = some (.int .i64 l) := ⟨c3, c2, hd0⟩
          have f3' : (wr.drewN nq).drew.frozen? ⟨g, 3, none⟩ = false := f3
          have e3' : (wr.drewN nq).drew.cell? ⟨g, 3, none⟩ = some (.int .i64 (lenTo (runsL L) k : Int)) := c3
          have HWD : Hid (Whole (wr.drewN nq).drew g 64 #[.string (txtOf L), .int .i64 (i : Int), .slice (some ad) n c, .int .i64 (lenTo (runsL L) k : Int), v4, v5]) := HW.out
          have HLD : Hid (Lies (wr.drewN nq).drew g (some ad) (runCells ((runsL L).drop k))) := HLi.out
          have HCD : Hid (SrcM (wr.drewN nq).drew g L i f v4 v5) := (HCS.out.drewN nq).next (Below.drew (Below.refl _ _))
          have HMD : Hid (Sv g w1 (wr.drewN nq).drew) := (hmv.drewN nq).drew
          have hRL : runsLeft wr g = n := runsLeft_eq c2
          refine wp_region_last13 (S := (fun V => V.cell? ⟨g, 3, none⟩ = some (.int .i64 (lenTo (runsL L) k : Int)) ∧ V.cell? ⟨g, 2, none⟩ = some (.slice (some ad) n c) ∧ V.cell? ad = some (.int .i64 l))) (Z := (fun i => decide (12 ≤ i))) (by kernel_rfl) ?_
          generalize (wr.drewN nq).drew = wq at *
          refine' wpAnyL_take (i := 0) ?hi1 (by kernel_rfl) (by kernel_rfl) (by kernel_rfl) (by kernel_rfl) ?hQ1 ?hy1 hS ?rest1
          case hi1 => simp only [List.getElem?_toArray, List.getElem?_cons_zero]; rfl
          case hQ1 => exact fun _ _ _ h => h
          case hy1 =>
            refine Or.inl ⟨by rfl, ?_⟩
            intro wq hq
            try dsimp only at hq
            try obtain ⟨hq0, hq1, hq2, hq3, hq4, hq5, hq6⟩ := hq
            try obtain ⟨hq0, hq1, hq2, hq3, hq4, hq5⟩ := hq
            try obtain ⟨hq0, hq1, hq2, hq3, hq4⟩ := hq
            try obtain ⟨hq0, hq1, hq2, hq3⟩ := hq
            try obtain ⟨hq0, hq1, hq2⟩ := hq
            try obtain ⟨hq0, hq1⟩ := hq
            go_simp
            try with_reducible rfl
          try simp only [Act.put, List.setIfInBounds_toArray, List.set_cons_zero, List.set_cons_succ]
          refine' wpAnyL_take (i := 1) ?hi2 (by kernel_rfl) (by kernel_rfl) (by kernel_rfl) (by kernel_rfl) ?hQ2 ?hy2 hS ?rest2
          case hi2 => simp only [List.getElem?_toArray, List.getElem?_cons_succ, List.getElem?_cons_zero]; rfl
          case hQ2 => exact fun _ _ _ h => h
          case hy2 =>
            refine Or.inl ⟨by rfl, ?_⟩
            intro wq hq
            try dsimp only at hq
            try obtain ⟨hq0, hq1, hq2, hq3, hq4, hq5, hq6⟩ := hq
            try obtain ⟨hq0, hq1, hq2, hq3, hq4, hq5⟩ := hq
            try obtain ⟨hq0, hq1, hq2, hq3, hq4⟩ := hq
            try obtain ⟨hq0, hq1, hq2, hq3⟩ := hq
            try obtain ⟨hq0, hq1, hq2⟩ := hq
            try obtain ⟨hq0, hq1⟩ := hq
            go_simp
            try with_reducible rfl
          try simp only [Act.put, List.setIfInBounds_toArray, List.set_cons_zero, List.set_cons_succ]
          refine' wpAnyL_take (i := 2) ?hi3 (by kernel_rfl) (by kernel_rfl) (by kernel_rfl) (by kernel_rfl) ?hQ3 ?hy3 hS ?rest3
          case hi3 => simp only [List.getElem?_toArray, List.getElem?_cons_succ, List.getElem?_cons_zero]; rfl
          case hQ3 => exact fun _ _ _ h => h
          case hy3 =>
            refine Or.inl ⟨by rfl, ?_⟩
            intro wq hq
            try dsimp only at hq
            try obtain ⟨hq0, hq1, hq2, hq3, hq4, hq5, hq6⟩ := hq
            try obtain ⟨hq0, hq1, hq2, hq3, hq4, hq5⟩ := hq
            try obtain ⟨hq0, hq1, hq2, hq3, hq4⟩ := hq
            try obtain ⟨hq0, hq1, hq2, hq3⟩ := hq
            try obtain ⟨hq0, hq1, hq2⟩ := hq
            try obtain ⟨hq0, hq1⟩ := hq
            go_simp
            try with_reducible rfl
          try simp only [Act.put, List.setIfInBounds_toArray, List.set_cons_zero, List.set_cons_succ]
          refine' wpAnyL_take (i := 3) ?hi4 (by kernel_rfl) (by kernel_rfl) (by kernel_rfl) (by kernel_rfl) ?hQ4 ?hy4 hS ?rest4
          case hi4 => simp only [List.getElem?_toArray, List.getElem?_cons_succ, List.getElem?_cons_zero]; rfl
          case hQ4 => exact fun _ _ _ h => h
          case hy4 =>
            refine Or.inl ⟨by rfl, ?_⟩
            intro wq hq
            try dsimp only at hq
            try obtain ⟨hq0, hq1, hq2, hq3, hq4, hq5, hq6⟩ := hq
            try obtain ⟨hq0, hq1, hq2, hq3, hq4, hq5⟩ := hq
            try obtain ⟨hq0, hq1, hq2, hq3, hq4⟩ := hq
            try obtain ⟨hq0, hq1, hq2, hq3⟩ := hq
            try obtain ⟨hq0, hq1, hq2⟩ := hq
            try obtain ⟨hq0, hq1⟩ := hq
            go_simp
            try with_reducible rfl
          try simp only [Act.put, List.setIfInBounds_toArray, List.set_cons_zero, List.set_cons_succ]
          refine' wpAnyL_take (i := 4) ?hi5 (by kernel_rfl) (by kernel_rfl) (by kernel_rfl) (by kernel_rfl) ?hQ5 ?hy5 hS ?rest5
          case hi5 => simp only [List.getElem?_toArray, List.getElem?_cons_succ, List.getElem?_cons_zero]; rfl
          case hQ5 => exact fun _ _ _ h => h
          case hy5 =>
            refine Or.inl ⟨by rfl, ?_⟩
            intro wq hq
            try dsimp only at hq
            try obtain ⟨hq0, hq1, hq2, hq3, hq4, hq5, hq6⟩ := hq
            try obtain ⟨hq0, hq1, hq2, hq3, hq4, hq5⟩ := hq
            try obtain ⟨hq0, hq1, hq2, hq3, hq4⟩ := hq
            try obtain ⟨hq0, hq1, hq2, hq3⟩ := hq
            try obtain ⟨hq0, hq1, hq2⟩ := hq
            try obtain ⟨hq0, hq1⟩ := hq
            go_simp
            try with_reducible rfl
          try simp only [Act.put, List.setIfInBounds_toArray, List.set_cons_zero, List.set_cons_succ]
          refine' wpAnyL_take (i := 5) ?hi6 (by kernel_rfl) (by kernel_rfl) (by kernel_rfl) (by kernel_rfl) ?hQ6 ?hy6 hS ?rest6
          case hi6 => simp only [List.getElem?_toArray, List.getElem?_cons_succ, List.getElem?_cons_zero]; rfl
          case hQ6 => exact fun _ _ _ h => h
          case hy6 =>
            refine Or.inl ⟨by rfl, ?_⟩
            intro wq hq
            try dsimp only at hq
            try obtain ⟨hq0, hq1, hq2, hq3, hq4, hq5, hq6⟩ := hq
            try obtain ⟨hq0, hq1, hq2, hq3, hq4, hq5⟩ := hq
            try obtain ⟨hq0, hq1, hq2, hq3, hq4⟩ := hq
            try obtain ⟨hq0, hq1, hq2, hq3⟩ := hq
            try obtain ⟨hq0, hq1, hq2⟩ := hq
            try obtain ⟨hq0, hq1⟩ := hq
            go_simp
            try with_reducible rfl
          try simp only [Act.put, List.setIfInBounds_toArray, List.set_cons_zero, List.set_cons_succ]
          refine' wpAnyL_take (i := 6) ?hi7 (by kernel_rfl) (by kernel_rfl) (by kernel_rfl) (by kernel_rfl) ?hQ7 ?hy7 hS ?rest7
          case hi7 => simp only [List.getElem?_toArray, List.getElem?_cons_succ, List.getElem?_cons_zero]; rfl
          case hQ7 => exact fun _ _ _ h => h
          case hy7 =>
            refine Or.inl ⟨by rfl, ?_⟩
            intro wq hq
            try dsimp only at hq
            try obtain ⟨hq0, hq1, hq2, hq3, hq4, hq5, hq6⟩ := hq
            try obtain ⟨hq0, hq1, hq2, hq3, hq4, hq5⟩ := hq
            try obtain ⟨hq0, hq1, hq2, hq3, hq4⟩ := hq
            try obtain ⟨hq0, hq1, hq2, hq3⟩ := hq
            try obtain ⟨hq0, hq1, hq2⟩ := hq
            try obtain ⟨hq0, hq1⟩ := hq
            go_simp
            try with_reducible rfl
          try simp only [Act.put, List.setIfInBounds_toArray, List.set_cons_zero, List.set_cons_succ]
          refine' wpAnyL_take (i := 7) ?hi8 (by kernel_rfl) (by kernel_rfl) (by kernel_rfl) (by kernel_rfl) ?hQ8 ?hy8 hS ?rest8
          case hi8 => simp only [List.getElem?_toArray, List.getElem?_cons_succ, List.getElem?_cons_zero]; rfl
          case hQ8 => exact fun _ _ _ h => h
          case hy8 =>
            refine Or.inl ⟨by rfl, ?_⟩
            intro wq hq
            try dsimp only at hq
            try obtain ⟨hq0, hq1, hq2, hq3, hq4, hq5, hq6⟩ := hq
            try obtain ⟨hq0, hq1, hq2, hq3, hq4, hq5⟩ := hq
            try obtain ⟨hq0, hq1, hq2, hq3, hq4⟩ := hq
            try obtain ⟨hq0, hq1, hq2, hq3⟩ := hq
            try obtain ⟨hq0, hq1, hq2⟩ := hq
            try obtain ⟨hq0, hq1⟩ := hq
            go_simp
            try with_reducible rfl
          try simp only [Act.put, List.setIfInBounds_toArray, List.set_cons_zero, List.set_cons_succ]
          refine' wpAnyL_take (i := 8) ?hi9 (by kernel_rfl) (by kernel_rfl) (by kernel_rfl) (by kernel_rfl) ?hQ9 ?hy9 hS ?rest9
          case hi9 => simp only [List.getElem?_toArray, List.getElem?_cons_succ, List.getElem?_cons_zero]; rfl
          case hQ9 => exact fun _ _ _ h => h
          case hy9 =>
            refine Or.inl ⟨by rfl, ?_⟩
            intro wq hq
            try dsimp only at hq
            try obtain ⟨hq0, hq1, hq2, hq3, hq4, hq5, hq6⟩ := hq
            try obtain ⟨hq0, hq1, hq2, hq3, hq4, hq5⟩ := hq
            try obtain ⟨hq0, hq1, hq2, hq3, hq4⟩ := hq
            try obtain ⟨hq0, hq1, hq2, hq3⟩ := hq
            try obtain ⟨hq0, hq1, hq2⟩ := hq
            try obtain ⟨hq0, hq1⟩ := hq
            go_simp
            try with_reducible rfl
          try simp only [Act.put, List.setIfInBounds_toArray, List.set_cons_zero, List.set_cons_succ]
          refine' wpAnyL_take (i := 9) ?hi10 (by kernel_rfl) (by kernel_rfl) (by kernel_rfl) (by kernel_rfl) ?hQ10 ?hy10 hS ?rest10
          case hi10 => simp only [List.getElem?_toArray, List.getElem?_cons_succ, List.getElem?_cons_zero]; rfl
          case hQ10 => exact fun _ _ _ h => h
          case hy10 =>
            refine Or.inl ⟨by rfl, ?_⟩
            intro wq hq
            try dsimp only at hq
            try obtain ⟨hq0, hq1, hq2, hq3, hq4, hq5, hq6⟩ := hq
            try obtain ⟨hq0, hq1, hq2, hq3, hq4, hq5⟩ := hq
            try obtain ⟨hq0, hq1, hq2, hq3, hq4⟩ := hq
            try obtain ⟨hq0, hq1, hq2, hq3⟩ := hq
            try obtain ⟨hq0, hq1, hq2⟩ := hq
            try obtain ⟨hq0, hq1⟩ := hq
            go_simp
            try with_reducible rfl
          try simp only [Act.put, List.setIfInBounds_toArray, List.set_cons_zero, List.set_cons_succ]
          refine' wpAnyL_take (i := 10) ?hi11 (by kernel_rfl) (by kernel_rfl) (by kernel_rfl) (by kernel_rfl) ?hQ11 ?hy11 hS ?rest11
          case hi11 => simp only [List.getElem?_toArray, List.getElem?_cons_succ, List.getElem?_cons_zero]; rfl
          case hQ11 => exact fun _ _ _ h => h
          case hy11 =>
            refine Or.inl ⟨by rfl, ?_⟩
            intro wq hq
            try dsimp only at hq
            try obtain ⟨hq0, hq1, hq2, hq3, hq4, hq5, hq6⟩ := hq
            try obtain ⟨hq0, hq1, hq2, hq3, hq4, hq5⟩ := hq
            try obtain ⟨hq0, hq1, hq2, hq3, hq4⟩ := hq
            try obtain ⟨hq0, hq1, hq2, hq3⟩ := hq
            try obtain ⟨hq0, hq1, hq2⟩ := hq
            try obtain ⟨hq0, hq1⟩ := hq
            go_simp
            try with_reducible rfl
          try simp only [Act.put, List.setIfInBounds_toArray, List.set_cons_zero, List.set_cons_succ]
          refine' wpAnyL_take (i := 11) ?hi12 (by kernel_rfl) (by kernel_rfl) (by kernel_rfl) (by kernel_rfl) ?hQ12 ?hy12 hS ?rest12
          case hi12 => simp only [List.getElem?_toArray, List.getElem?_cons_succ, List.getElem?_cons_zero]; rfl
          case hQ12 => exact fun _ _ _ h => h
          case hy12 =>
            refine Or.inl ⟨by rfl, ?_⟩
            intro wq hq
            try dsimp only at hq
            try obtain ⟨hq0, hq1, hq2, hq3, hq4, hq5, hq6⟩ := hq
            try obtain ⟨hq0, hq1, hq2, hq3, hq4, hq5⟩ := hq
            try obtain ⟨hq0, hq1, hq2, hq3, hq4⟩ := hq
            try obtain ⟨hq0, hq1, hq2, hq3⟩ := hq
            try obtain ⟨hq0, hq1, hq2⟩ := hq
            try obtain ⟨hq0, hq1⟩ := hq
            go_simp
            try with_reducible rfl
          try simp only [Act.put, List.setIfInBounds_toArray, List.set_cons_zero, List.set_cons_succ]
          refine wpAnyL_ready (rs := [12]) (by kernel_rfl) (by simp) ?_
          refine' ReadyL.cons ?ho13 (fun K hK => ?step13) ?more13
          case ho13 => simp only [List.getElem?_toArray, List.getElem?_cons_succ, List.getElem?_cons_zero]; rfl
          case step13 =>
            go_simp
            refine hK.out _ _ (.inl (by decide)) ?_
            clear hK K
            try simp only [Act.put, List.setIfInBounds_toArray, List.set_cons_zero, List.set_cons_succ]
            refine wpAnyL_ready (rs := [13]) (by kernel_rfl) (by simp) ?_
            refine' ReadyL.cons ?ho14 (fun K hK => ?step14) ?more14
            case ho14 => simp only [List.getElem?_toArray, List.getElem?_cons_succ, List.getElem?_cons_zero]; rfl
            case step14 =>
              go_simp
              refine hK.out _ _ (.inl (by decide)) ?_
              clear hK K
              try simp only [Act.put, List.setIfInBounds_toArray, List.set_cons_zero, List.set_cons_succ]
              refine wpAnyL_ready (rs := [14]) (by kernel_rfl) (by simp) ?_
              refine' ReadyL.cons ?ho15 (fun K hK => ?step15) ?more15
              case ho15 => simp only [List.getElem?_toArray, List.getElem?_cons_succ, List.getElem?_cons_zero]; rfl
              case step15 =>
                go_simp
                refine hK.out _ _ (.inl (by decide)) ?_
                clear hK K
                try simp only [Act.put, List.setIfInBounds_toArray, List.set_cons_zero, List.set_cons_succ]
                refine wpAnyL_done (by kernel_rfl) ?_ _
                have hWS := HWD.out.put 3 (.int .i64 ((lenTo (runsL L) k : Int) + l))
                have g2 : (wq.setCell ⟨g, 3, none⟩ (.int .i64 ((lenTo (runsL L) k : Int) + l))).cell? ⟨g, 2, none⟩ = some (.slice (some ad) n c) := hWS.at_ 2
                have k2 := hWS.free 2
                have HXX : Hid (∀ A' n' c', (1 < c → A' = some (ad.add 2)) → (A' = none → c' = 0) → n' = n - 1 → c' = c - 1 → SrcM ((wq.setCell ⟨g, 3, none⟩ (.int .i64 ((lenTo (runsL L) k : Int) + l))).setCell ⟨g, 2, none⟩ (.slice A' n' c')) g L i f v4 v5 ∧ Sv g w1 ((wq.setCell ⟨g, 3, none⟩ (.int .i64 ((lenTo (runsL L) k : Int) + l))).setCell ⟨g, 2, none⟩ (.slice A' n' c')) ∧ runsLeft ((wq.setCell ⟨g, 3, none⟩ (.int .i64 ((lenTo (runsL L) k : Int) + l))).setCell ⟨g, 2, none⟩ (.slice A' n' c')) g < runsLeft wr g) := by
                  intro A' n' c' a1 a2 a3 a4
                  refine ⟨SrcM.cutNext HCD.out HR2.out HWD.out HN.out hnc HLD.out hl1 hHLE.out a1 a2 a3 a4, Moved.setCell (S := fun b => b = g) (Moved.setCell (S := fun b => b = g) HMD.out (p := ⟨g, 3, none⟩) rfl _) (p := ⟨g, 2, none⟩) rfl _, ?_⟩
                  rw [hRL, runsLeft_eq ((hWS.put 2 _).at_ 2), a3]
                  omega
                clear hWS HWD HLD HCD HMD hRL hS f3' e3'
                generalize wq.setCell ⟨g, 3, none⟩ (.int .i64 ((lenTo (runsL L) k : Int) + l)) = ws at *
                clear c2 c3 f2 f3 hd0 hle hw hle2 hkf
                by_cases hc1 : c = 1
                · subst hc1
                  obtain rfl : n = 1 := by omega
                  go_wp2_with fail
                  go_roundw
                  case rel => exact ⟨(HXX.out _ _ _ (fun h => absurd h (by omega)) (fun h => by cases h) rfl rfl).1, (HXX.out _ _ _ (fun h => absurd h (by omega)) (fun h => by cases h) rfl rfl).2.1⟩
                  case measure => exact (HXX.out _ _ _ (fun h => absurd h (by omega)) (fun h => by cases h) rfl rfl).2.2
                · have hc2 : 1 < c := by omega
                  go_wp2_with fail
                  go_roundw
                  case rel => exact ⟨(HXX.out _ _ _ (fun _ => (addr_two ad).symm ▸ rfl) (fun h => by cases h) rfl rfl).1, (HXX.out _ _ _ (fun _ => (addr_two ad).symm ▸ rfl) (fun h => by cases h) rfl rfl).2.1⟩
                  case measure => exact (HXX.out _ _ _ (fun _ => (addr_two ad).symm ▸ rfl) (fun h => by cases h) rfl rfl).2.2
              exact ReadyL.nil
            exact ReadyL.nil
          exact ReadyL.nil
        · go_wp2_with fail
          go_quiet (fail)
          go_wp2_with fail
          go_meet
          exact ⟨HCS.out.drewN _, hmv.drewN _⟩
      · go_wp2_with fail
        go_quiet (fail)
        go_wp2_with fail
        go_meet
        exact ⟨HCS.out.drewN _, hmv.drewN _⟩
  case rest =>
    clear hst1
    obtain ⟨hcs, hmv⟩ := hcut
    have HCS := Lib.hid hcs
    obtain ⟨A, n, c, k, hW, hLi, hn, hnc, hAn, hkf, hkl⟩ := hcs.cells
    have HN := Lib.hid hn
    clear hn hcs hAn
    have c0 : wc.cell? ⟨g, 0, none⟩ = some (.string (txtOf L)) := hW.at_ 0
    have c2 : wc.cell? ⟨g, 2, none⟩ = some (.slice A n c) := hW.at_ 2
    have c3 : wc.cell? ⟨g, 3, none⟩ = some (.int .i64 (lenTo (runsL L) k : Int)) := hW.at_ 3
    have hrn : k + n = (runsL L).length := by rw [← HN.out, List.length_drop]; omega
    have HRN := Lib.hid hrn
    clear hrn
    have hyW := hmv.whole y0 (by omega)
    have hzc := hmv.size
    rw [HZ1.out] at hzc
    go_wp2_with fail
    go_quiet (fail)
    go_wp2_with fail
    go_loop [7, 8] (CutRel2 (runsL L) k) (fun j _ => (runsL L).length - (intOf j).toNat)
    case atStart => exact ⟨0, by omega, rfl, rfl⟩
    case round =>
      obtain ⟨j, hj, rfl, rfl⟩ := hrel
      have hE := lenTo_le (runsL L) (k + j)
      rw [HEX.out] at hE
      by_cases he : lenTo (runsL L) (k + j) < t
      · have hjl : k + j < (runsL L).length := by
          rcases Nat.lt_or_ge (k + j) (runsL L).length with h | h
          · exact h
          · have := lenTo_all h; rw [HEX.out] at this; omega
        have hjn : j < n := by have := HRN.out; omega
        obtain ⟨ad, l, o, rfl, hbA, hd1, hd2, HR⟩ := hLi.run (k := j) (by rw [HN.out]; exact hjn)
        have HR2 : Hid ((runsL L)[k + j]? = some (l, o)) := by have h := HR.out; rw [List.getElem?_drop] at h; exact h
        obtain ⟨hl1, ho1, ho2⟩ := HG.out (l, o) (List.mem_of_getElem? HR2.out)
        simp only at hl1 ho1 ho2
        have HLN := Lib.hid (lenTo_next HR2.out)
        have hle2 := lenTo_le (runsL L) (k + j + 1)
        rw [HLN.out, HEX.out] at hle2
        have hj0 : (0 : Int) ≤ (j : Int) := Int.natCast_nonneg _
        have hj1 : (j : Int) < (n : Int) := by omega
        clear hd2
        go_wp2_with fail
        go_round
        case rel => exact ⟨j + 1, by omega, by go_num, by rw [← Nat.add_assoc, HLN.out]; exact congrArg (Value.int .i64) (by omega)⟩
        case measure => simp [intOf]; omega
      · have hjn : j ≤ n := by have := HRN.out; omega
        have hjc : j ≤ c := by omega
        have haE : lenTo (runsL L) k ≤ lenTo (runsL L) (k + j) := by rw [lenTo_add]; omega
        have HSP := Lib.hid (expand_split (runsL L) k j)
        have HTK : Hid ((expand (((runsL L).drop k).take j)).length = lenTo (runsL L) (k + j) - lenTo (runsL L) k) := by show _ = _; rw [lenTo_add]; omega
        have HRL : Hid ((((runsL L).drop k).take j).length = j) := by show _ = _; rw [List.length_take, HN.out]; omega
        have hts := HTS.out
        have HSZ : Hid (((txtOf L).extract (lenTo (runsL L) k) (lenTo (runsL L) (k + j))).size = lenTo (runsL L) (k + j) - lenTo (runsL L) k) := by show _ = _; rw [ByteArray.size_extract]; omega
        have HA : Hid (min (max ((f : Int) - (lenTo (runsL L) k : Int)) 0) ((((txtOf L).extract (lenTo (runsL L) k) (lenTo (runsL L) (k + j))).size : Nat) : Int) = ((f - lenTo (runsL L) k : Nat) : Int)) := by show _ = _; rw [HSZ.out]; omega
        have HB : Hid (min (max ((t : Int) - (lenTo (runsL L) k : Int)) 0) ((((txtOf L).extract (lenTo (runsL L) k) (lenTo (runsL L) (k + j))).size : Nat) : Int) = ((t - lenTo (runsL L) k : Nat) : Int)) := by show _ = _; rw [HSZ.out]; omega
        have hsl : (txtOf L).data.toList.length = (txtOf L).size := by rw [Array.length_toList]; rfl
        have HT1 : Hid ((((txtOf L).extract (lenTo (runsL L) k) (lenTo (runsL L) (k + j))).data.toList.take (t - lenTo (runsL L) k)).drop (f - lenTo (runsL L) k) = ((txtOf L).data.toList.take t).drop f) := by
          show _ = _
          rw [extract_list]
          have h := cut_mid ((txtOf L).data.toList.take (lenTo (runsL L) k)) (((txtOf L).data.toList.take (lenTo (runsL L) (k + j))).drop (lenTo (runsL L) k)) ((txtOf L).data.toList.drop (lenTo (runsL L) (k + j))) f t (by rw [List.length_take]; omega) (by rw [List.length_take]; omega) (by rw [List.length_take, List.length_drop, List.length_take]; omega)
          rw [List.length_take, Nat.min_eq_left (by omega)] at h
          rw [h]
          congr 2
          have e1 : (txtOf L).data.toList.take (lenTo (runsL L) k) = ((txtOf L).data.toList.take (lenTo (runsL L) (k + j))).take (lenTo (runsL L) k) := by rw [List.take_take, Nat.min_eq_left haE]
          rw [e1, List.take_append_drop, List.take_append_drop]
        have HT2 : Hid (((origins ((txtOf L).extract (lenTo (runsL L) k) (lenTo (runsL L) (k + j))).size (((runsL L).drop k).take j)).take (t - lenTo (runsL L) k)).drop (f - lenTo (runsL L) k) = ((expand (runsL L)).take t).drop f) := by
          show _ = _
          rw [origins_good (fun r hr => HG.out r (List.mem_of_mem_drop (List.mem_of_mem_take hr))) (HTK.out.trans HSZ.out.symm)]
          have h := cut_mid (expand ((runsL L).take k)) (expand (((runsL L).drop k).take j)) (expand ((runsL L).drop (k + j))) f t hkf (by show lenTo (runsL L) k ≤ t; omega) (by rw [HTK.out]; show t ≤ lenTo (runsL L) k + _; omega)
          rw [← HSP.out] at h
          exact h
        have hLj : Lies wc g A (runCells (((runsL L).drop k).take j)) := by
          have h := hLi
          rw [← List.take_append_drop j ((runsL L).drop k)] at h
          exact lies_front h
        have hE2 : (lenTo (runsL L) (k + j) : Int) ≤ ((txtOf L).size : Int) := by omega
        have ht2 : (t : Int) ≤ ((txtOf L).size : Int) := by omega
        have haE2 : (lenTo (runsL L) k : Int) ≤ (lenTo (runsL L) (k + j) : Int) := by omega
        have hjc2 : (j : Int) ≤ (c : Int) := by omega
        have hzc1 : w.heap.size ≤ wc.heap.size := by omega
        have hzc2 : w.heap.size < wc.heap.size := by omega
        have e1 : (⟨(((txtOf L).data.toList.take t).drop f).toArray⟩ : ByteArray) = txtOf ((L.take t).drop f) := by rw [txt_data]; unfold txtOf; rw [List.map_drop, List.map_take]
        have e2 : comp (((expand (runsL L)).take t).drop f) = comp (((L.take t).drop f).map (·.2)) := by rw [runs_exp, List.map_drop, List.map_take]
        have HCUT : Hid (∀ W, Below w.heap.size wc W → Calls Tryz.prog 8 #[.agg #[.string ((txtOf L).extract (lenTo (runsL L) k) (lenTo (runsL L) (k + j))), .slice A j c], .int .i64 ((f : Int) - (lenTo (runsL L) k : Int)), .int .i64 ((t : Int) - (lenTo (runsL L) k : Int))] W (Tells (txtOf ((L.take t).drop f)) (comp (((L.take t).drop f).map (·.2))) W)) := by
          intro W hW
          have h := cut_any ((txtOf L).extract (lenTo (runsL L) k) (lenTo (runsL L) (k + j))) A j c (((runsL L).drop k).take j) _ _ (f - lenTo (runsL L) k) (t - lenTo (runsL L) k) W ((hLj.mono (by omega)).next hW hzc1) HRL.out (by rw [HSZ.out]; omega) (by omega) HA.out HB.out
          rw [HT1.out, HT2.out, e1, e2] at h
          exact h
        have HTO : Hid (InR ((L.take t).drop f) ∧ ((L.take t).drop f).length ≤ 4294967296) := ⟨(HINR.out.take _).drop _, by rw [List.length_drop, List.length_take]; omega⟩
        clear hsl hLj HSP HTK HRL HSZ HA HB HT1 HT2 hts e1 e2
        have KS : ∀ w', Below w.heap.size wc w' → w'.cell? ⟨g, 0, none⟩ = some (.string (txtOf L)) ∧ w'.cell? ⟨g, 3, none⟩ = some (.int .i64 (lenTo (runsL L) k : Int)) ∧ w'.cell? ⟨g, 2, none⟩ = some (.slice A n c) ∧ Below w.heap.size wc w' := fun w' h =>
          ⟨(h.cell (by show g < _; omega)).trans c0, (h.cell (by show g < _; omega)).trans c3, (h.cell (by show g < _; omega)).trans c2, h⟩
        have HKS := Lib.hid KS
        have HLI := Lib.hid hLi
        have HHE := Lib.hid hE
        have HWW := Lib.hid hW
        clear KS hW hLi hE
        generalize hEE : lenTo (runsL L) (k + j) = E at *
        generalize haa : lenTo (runsL L) k = a0 at *
        have HEE := Lib.hid hEE
        have HAA := Lib.hid haa
        clear hEE haa
        generalize hres : (L.take t).drop f = res at *
        have HRS := Lib.hid hres
        clear hres
        generalize hsq : txtOf L = s at *
        have HSQ := Lib.hid hsq
        clear hsq
        have b1 : (0 : Int) ≤ (a0 : Int) := Int.natCast_nonneg _
        have b2 : (0 : Int) ≤ (E : Int) := Int.natCast_nonneg _
        have b3 : (0 : Int) ≤ (j : Int) := Int.natCast_nonneg _
        have b4 : IntKind.i64.wrap ((f : Int) - (a0 : Int)) = (f : Int) - (a0 : Int) := IntWalk.i64_in _ (by omega)
        have b5 : IntKind.i64.wrap ((t : Int) - (a0 : Int)) = (t : Int) - (a0 : Int) := IntWalk.i64_in _ (by omega)
        go_wp2_with fail
        go_region_held3 (fun w' => w'.cell? ⟨g, 0, none⟩ = some (.string s) ∧ w'.cell? ⟨g, 3, none⟩ = some (.int .i64 (a0 : Int)) ∧ w'.cell? ⟨g, 2, none⟩ = some (.slice A n c) ∧ Below w.heap.size wc w')
          (first
            | exact HKS.out _ (Below.drew (Below.drewN (Below.refl _ _) _))
            | exact HKS.out _ (Below.drewN (Below.refl _ _) _)
            | (go_split_ands; exact HKS.out _ (by assumption))
            | (go_split_ands; exact HKS.out _ (below_next (by assumption) hzc1 hbC))
            | (go_split_ands; refine HKS.out _ ?_; refine Below.setCell (p := ⟨w.heap.size, 1, none⟩) ?_ (Nat.le_refl _) _; refine Below.setCell (p := ⟨w.heap.size, 0, none⟩) ?_ (Nat.le_refl _) _; assumption))
          (first
            | (go_at_call 8; refine (HCUT.out _ ?_).mono ?_; (go_split_ands; assumption); rintro e w2 ⟨v, rfl, hown, hbC⟩; obtain ⟨A', c', rfl, _, _, _⟩ := own_form hown; have hwC := hyW.same (hbC.block _ hzc2); have c10 := hwC.at_ 0; have c11 := hwC.at_ 1; have f10 := hwC.free 0; have f11 := hwC.free 1))
        all_goals
          have HC2 : Hid (SrcM w2 g L i f v4 v5) := SrcM.next (w := (wc.drewN _).drew) (SrcM.next HCS.out (Below.drew (Below.drewN (Below.refl _ _) _))) hbC
          have HM2 : Hid (Sv g w w2) := (((Moved.of_below hb1).trans hmv).drewN _).drew.trans (Moved.of_below hbC)
          have HO2 : Hid ((LT.mk (txtOf res) A' (comp (res.map (·.2))).length c' (comp (res.map (·.2)))).ch = res ∧ OwnL w2 (w.heap.size + 1) ⟨txtOf res, A', (comp (res.map (·.2))).length, c', comp (res.map (·.2))⟩) := by
            have h1 := toldLT (w := (wc.drewN _).drew) (w' := w2) HTO.out.1 HTO.out.2 rfl rfl hown
            exact ⟨h1.1, h1.2.mono hzc2⟩
          clear hown
          go_wp2
          refine bodyPost_ret (v := .agg #[.string (txtOf res), .slice A' (comp (res.map (·.2))).length c']) ?_ rfl ?_
          · simp [results, Tryz.results151, go_sem, c10, c11]
          · exact tellsS_end (u := ⟨txtOf res, A', (comp (res.map (·.2))).length, c', comp (res.map (·.2))⟩) (Nat.le_refl _) hlt HO2.out HC2.out HM2.out

end Go.Proofs.YtddgabjhligeeaaGreat.mk
