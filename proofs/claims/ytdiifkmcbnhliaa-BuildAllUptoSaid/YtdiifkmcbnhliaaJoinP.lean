/-
  strings.HasPrefix and strings.CutPrefix.
-/
import Derived.Test.YtdiifkmcbnhliaaJoinK
import Derived.Test.YtdiifkmcbnhliaaJoinF
import Derived.Deep.RegionHeld3
import Derived.Deep.RegionLaw
import Derived.Deep.AppendLies
import Derived.StillTactics
import Derived.WalkSpells
import Derived.Laws.IdiomStrings
namespace Go.Proofs.Ytdiifkmcbnhliaa.mk
open Go.RowKit

theorem byte_info : (Try.prog.info? 5).map (fun i => (i.zero, i.size, i.bytes)) = some (some (.int .u8 0), 1, 1) := by kernel_rfl

/-- what holds at the head of each round -/
def StrRel (l : List (UInt8 × Int)) (n B : Nat) (w : World) (i : Value) (wr : World) : Prop :=
  ∃ (k : Nat) (v : Value) (bs : List Value), k ≤ n ∧ i = .int .i64 k ∧ Whole wr B 24 #[.string ⟨#[]⟩, .slice none 0 0] ∧ Whole wr (B + 1) 24 #[.string ⟨#[]⟩, v] ∧ Whole wr (B + 2) 5 bs.toArray ∧ bs.length = n ∧
    (∀ (j : Nat) (c : UInt8 × Int), (l.take k)[j]? = some c → bs[j]? = some (Value.int .u8 c.1.toNat)) ∧
    wr.ownsRow (B + 3) 61 2 v (comp ((l.take k).map (·.2))).length (runCells (comp ((l.take k).map (·.2)))) ∧ Below B w wr

/-- behind the store of the byte -/
theorem str_mid {wr : World} {B k nq : Nat} {u v : Value} {bs : List Value} {n : Nat} {xs : List Value} {w : World}
    (hB0 : Whole wr B 24 #[.string ⟨#[]⟩, .slice none 0 0]) (hB1 : Whole wr (B + 1) 24 #[.string ⟨#[]⟩, v]) (hB2 : Whole wr (B + 2) 5 bs.toArray) (hown : wr.ownsRow (B + 3) 61 2 v n xs) (hbe : Below B w wr) (w2 : World) (e : (wr.setCell ⟨B + 1 + 1, k, none⟩ u).drewN nq = w2) :
    Whole w2 B 24 #[.string ⟨#[]⟩, .slice none 0 0] ∧ Whole w2 (B + 1) 24 #[.string ⟨#[]⟩, v] ∧ Whole w2 (B + 2) 5 (bs.set k u).toArray ∧ w2.ownsRow (B + 3) 61 2 v n xs ∧ Below B w w2 := by
  subst e
  refine ⟨(hB0.far ⟨B + 1 + 1, k, none⟩ (by simp; omega) u), (hB1.far ⟨B + 1 + 1, k, none⟩ (by simp) u), ?_, own_far hown ⟨B + 1 + 1, k, none⟩ (fun h => by have := hown.lt _ h; simp at this; omega) u, ?_⟩
  · have h := hB2.put k u
    simp only [List.setIfInBounds_toArray] at h
    exact h
  · exact ⟨hbe.os, hbe.tape, hbe.output, by have := hbe.size; simpa using this, fun j hj => (Below.heap_setCell _ _ _ _ (by simp; omega)).trans (hbe.block j hj)⟩

theorem str_step {l : List (UInt8 × Int)} {n B k : Nat} {w w3 : World} {b : UInt8} {o : Int} {v : Value} {bs : List Value} {rs : List (Int × Int)} (hr : l[k]? = some (b, o)) (hk : k < n)
    (hB0 : Whole w3 B 24 #[.string ⟨#[]⟩, .slice none 0 0]) (hB1 : Whole w3 (B + 1) 24 #[.string ⟨#[]⟩, v]) (hB2 : Whole w3 (B + 2) 5 (bs.set k (.int .u8 b.toNat)).toArray) (hbl : bs.length = n)
    (hbs : ∀ (j : Nat) (c : UInt8 × Int), (l.take k)[j]? = some c → bs[j]? = some (Value.int .u8 c.1.toNat)) (hrs : joinR (comp ((l.take k).map (·.2))) 1 o = rs) (hown : w3.ownsRow (B + 3) 61 2 v rs.length (runCells rs)) (hbe : Below B w w3) :
    StrRel l n B w (.int .i64 ((k : Int) + 1)) w3 := by
  refine ⟨k + 1, v, bs.set k (.int .u8 b.toNat), by omega, by simp, hB0, hB1, hB2, by simpa using hbl, ?_, ?_, hbe⟩
  · intro j c hc
    rw [List.getElem?_take] at hc
    split at hc
    · rename_i hj
      by_cases hjk : j = k
      · subst hjk
        rw [hr] at hc
        injection hc with hc
        subst hc
        rw [List.getElem?_set_self (by omega)]
      · rw [List.getElem?_set_ne (by omega)]
        exact hbs j c (by rw [List.getElem?_take, if_pos (by omega)]; exact hc)
    · cases hc
  · rw [take_next hr, List.map_append, List.map_singleton, comp_snoc, hrs]
    exact hown

/-- behind the append of a new run -/
theorem str_app {l : List (UInt8 × Int)} {n B k gg cap : Nat} {w w2 w1 : World} {b : UInt8} {o : Int} {v : Value} {bs : List Value} {rs : List (Int × Int)} {ob : Obj} {z : Nat} (hz : rs.length = z) (hr : l[k]? = some (b, o)) (hk : k < n)
    (hB0 : Whole w2 B 24 #[.string ⟨#[]⟩, .slice none 0 0]) (hB1 : Whole w2 (B + 1) 24 #[.string ⟨#[]⟩, v]) (hB2 : Whole w2 (B + 2) 5 (bs.set k (.int .u8 b.toNat)).toArray) (hbl : bs.length = n)
    (hbs : ∀ (j : Nat) (c : UInt8 × Int), (l.take k)[j]? = some c → bs[j]? = some (Value.int .u8 c.1.toNat)) (hrs : joinR (comp ((l.take k).map (·.2))) 1 o = rs ++ [(1, o)]) (hown : w2.ownsRow (B + 3) 61 2 v rs.length (runCells rs)) (hbe : Below B w w2)
    (hown1 : w1.ownsRow (B + 3) 61 2 (.slice (some ⟨gg, 0, none⟩) (z + 1) cap) (z + 1) (runCells rs ++ [.int .i64 1, .int .i64 o])) (hgrow : ((w2.alloc ob).drew).grownBy w1 v.ownBlock) :
    StrRel l n B w (.int .i64 ((k : Int) + 1)) (w1.setCell ⟨B + 1, 1, none⟩ (.slice (some ⟨gg, 0, none⟩) (z + 1) cap)) := by
  subst hz
  have hfar : ∀ x, x < B + 3 → some x ≠ v.ownBlock := fun x hx e => by have := hown.lt x e.symm; omega
  have hg := hown1.lt gg rfl
  have h0 := ((hB0.alloc ob).drew.grown hgrow (hfar _ (by omega))).far ⟨B + 1, 1, none⟩ (by simp) (.slice (some ⟨gg, 0, none⟩) (rs.length + 1) cap)
  have h1 := ((hB1.alloc ob).drew.grown hgrow (hfar _ (by omega))).put 1 (.slice (some ⟨gg, 0, none⟩) (rs.length + 1) cap)
  have h2 := ((hB2.alloc ob).drew.grown hgrow (hfar _ (by omega))).far ⟨B + 1, 1, none⟩ (by simp) (.slice (some ⟨gg, 0, none⟩) (rs.length + 1) cap)
  have hs2 := hB2.lt
  refine str_step hr hk h0 h1 h2 hbl hbs hrs ?_ ?_
  · refine own_far ?_ ⟨B + 1, 1, none⟩ (fun h => ?_) _
    · rw [runCells_append, runCells_one]; simpa using hown1
    · simp [Value.ownBlock] at h; omega
  · exact (((hbe.alloc (by omega) ob).drew).grown hgrow (by simp; omega) (fun x hx => by have := hown.lt x hx; omega)).setCell (by simp) _

set_option maxHeartbeats 3000000 in
set_option maxRecDepth 100000 in
theorem refStr_any (A : Option Addr) (n c : Nat) (l : List (UInt8 × Int)) (w : World) (hl : Lies w w.heap.size A (chCells l)) (hn : l.length = n) (hn2 : n ≤ 1099511627776) :
    Calls Try.prog 10 #[.slice A n c] w fun e w' => ∃ v, e = .returned (.agg #[.string ⟨(l.map (·.1)).toArray⟩, v]) ∧ w'.ownsRow w.heap.size 61 2 v (comp (l.map (·.2))).length (runCells (comp (l.map (·.2)))) ∧ Below w.heap.size w w' := by
  have HN := Lib.hid hn
  clear hn
  obtain ⟨ib, hbi, hbz0, hbz1, hbz2⟩ := info_parts byte_info
  have hmk : ∀ u : World, (Instr.makeSlice 69 (.int .i64 (n : Int)) (.int .i64 (n : Int))).run Try.prog u =
      .ok (.slice (some ⟨u.heap.size, 0, none⟩) n n) (u.alloc (.cells (madeCells #[.int .u8 0] n) 5)) := fun u => by
    have h := run_make (P := Try.prog) u 69 5 ib (.int .u8 0) Try.underlying69 hbi hbz0 .i64 .i64 (n : Int) (n : Int) (by omega) (Int.le_refl _) (by rw [hbz2]; omega) (by omega)
    simp only [Int.toNat_natCast] at h
    simpa [hbz1, Value.cells] using h
  clear hbi hbz0 hbz1 hbz2
  obtain ⟨i0, hi, hz0, hz1, hz2⟩ := info_parts run_info
  go_enter Try.func10, Try.ntmps10
  go_wp2_with fail
  go_loopw [5] (StrRel l n w.heap.size w) (fun i _ => n - (intOf i).toNat)
  case atStart =>
    refine ⟨0, .slice none 0 0, List.replicate n (.int .u8 0), Nat.zero_le _, rfl, ((Whole.made _ _ _).alloc _).alloc _, ?_, ?_, by simp, ?_, by simpa [comp, runCells] using World.ownsRow_nil _ _ _ _, ((Below.refl _ _).alloc (Nat.le_refl _) _ |>.alloc (by simp) _).alloc (by simp; omega) _⟩
    · have h := (Whole.made (w.alloc (.cells #[.string ⟨#[]⟩, .slice none 0 0] 24)) 24 #[.string ⟨#[]⟩, .slice none 0 0]).alloc (.cells (madeCells #[.int .u8 0] n) 5)
      simp only [World.size_alloc] at h
      exact h
    · have h := Whole.made ((w.alloc (.cells #[.string ⟨#[]⟩, .slice none 0 0] 24)).alloc (.cells #[.string ⟨#[]⟩, .slice none 0 0] 24)) 5 (madeCells #[.int .u8 0] n)
      have e : madeCells #[Value.int .u8 0] n = (List.replicate n (Value.int .u8 0)).toArray := by
        apply Array.toList_inj.1
        rw [toList_madeCells_one]
      rw [← e]
      simp only [World.size_alloc] at h
      exact h
    · intro j c h; simp at h
  case round =>
    obtain ⟨k, v, bs, hk, rfl, hB0, hB1, hB2, hbl, hbs, hown, hbe⟩ := hrel
    have hsz := hB2.lt
    have hcl := comp_length_le ((l.take k).map (·.2))
    simp only [List.length_map, List.length_take] at hcl
    by_cases hlt : k < n
    · obtain ⟨ad, b, o, rfl, hb, hc1, hc2, HR⟩ := (hl.below hbe).ch (k := k) (by rw [HN.out]; exact hlt)
      have hl' := Lib.hid hl
      have hbl' := Lib.hid hbl
      have hbs' := Lib.hid hbs
      clear hl hbl hbs
      generalize hq : comp ((l.take k).map (·.2)) = q at *
      have HQ := Lib.hid hq
      clear hq
      obtain ⟨A', c', rfl, _, _, _⟩ := own_form hown
      have h11 : wr.cell? ⟨w.heap.size + 1, 1, none⟩ = some (.slice A' q.length c') := hB1.at_ 1
      obtain ⟨old, hold⟩ : ∃ old, wr.cell? ⟨w.heap.size + 2, k, none⟩ = some old := ⟨bs[k]'(by have := hbl'.out; omega), (hB2.at_ k).trans (by have := hbl'.out; rw [List.getElem?_toArray, List.getElem?_eq_getElem (show k < bs.length by omega)])⟩
      have hfz := hB2.free k
      have hadb : (ad.add (k * 2)).block < w.heap.size := by rw [addr_block]; exact hb
      rcases snoc_cases q with rfl | ⟨r, ⟨m, p⟩, rfl⟩
      · simp only [List.length_nil] at *
        go_wp2_with fail
        go_quiet (fail)
        go_wp2_with fail
        generalize hw2 : (wr.setCell { block := w.heap.size + 1 + 1, off := k } (Value.int IntKind.u8 ↑b.toNat)).drewN nq = w2
        obtain ⟨k0, k1, k2, k3, k4⟩ := str_mid hB0 hB1 hB2 hown hbe w2 hw2
        have g11 : w2.cell? ⟨w.heap.size + 1, 1, none⟩ = some (.slice A' 0 c') := k1.at_ 1
        have g11f := k1.free 1
        have gc2 : w2.cell? ⟨(ad.add (k * 2)).block, (ad.add (k * 2)).off + 1, none⟩ = some (.int .i64 o) := by rw [← hw2]; exact (World.cell?_setCell_other _ _ _ _ (fun e => by have := congrArg Addr.block e; simp at this; omega)).trans hc2
        have HW2 := Lib.hid hw2
        clear hw2 hc1 hc2 h11 hold hfz hown
        have hfar : ∀ x, x < w.heap.size + 3 → some x ≠ (Value.slice A' 0 c').ownBlock := fun x hx e => by have := k3.lt x e.symm; omega
        have hk0 : (0 : Int) ≤ (k : Int) := Int.natCast_nonneg _
        have hk1 : (k : Int) < (n : Int) := by omega
        have hs2 := k2.lt
        have ha1 : ∀ ob, (w2.alloc ob).cell? ⟨w.heap.size + 1, 1, none⟩ = some (.slice A' 0 c') := fun ob => (k1.alloc ob).at_ 1
        have ha2 : ∀ ob, (w2.alloc ob).cell? ⟨(ad.add (k * 2)).block, (ad.add (k * 2)).off + 1, none⟩ = some (.int .i64 o) := fun ob => (World.cell?_alloc_past _ _ _ (by omega)).trans gc2
        go_region_law (refine step_append_lies _ (by rfl) _ _ _ (by rfl) (w.heap.size + 3) 61 i0 _ 2 16 Try.underlying22 hi hz0 hz1 hz2 rfl (by omega) (.slice A' 0 c') 0 _ (by rfl) ((k3.alloc _).drew) ⟨w2.heap.size, 0, none⟩ 1 1 [.int .i64 1, .int .i64 o] (by rfl) (by rfl) (World.news_of_block (cs := #[.int .i64 1, .int .i64 o]) (t := 61) (fr := (0, 0)) (heap_alloc_new w2 _)) (by simp [Value.oneCell']) (by omega) (by simp only [maxLen]; omega) (by omega) (by simp; omega) (w2.heap.size + 1) (by simp) ?_; intro gg cap w1 hown1 hgrow hat hlt'; have hf1 : w1.frozen? ⟨w.heap.size + 1, 1, none⟩ = false := ((k1.alloc _).drew.grown hgrow (hfar _ (by omega))).free 1; have hf2 : w1.cell? ⟨w.heap.size + 1, 1, none⟩ = some (.slice A' 0 c') := ((k1.alloc _).drew.grown hgrow (hfar _ (by omega))).at_ 1)
        all_goals
          go_wp2
          go_roundw
          case rel => exact str_app (rs := []) (z := 0) rfl HR.out hlt k0 k1 k2 hbl'.out hbs'.out (by rw [HQ.out, joinR_nil (by omega)]; rfl) k3 k4 hown1 hgrow
          case measure => simp [intOf]; omega
      · simp only [List.length_append, List.length_cons, List.length_nil, Nat.zero_add] at *
        obtain ⟨g, rfl⟩ : ∃ g, A' = some ⟨g, 0, none⟩ := by
          rcases hown.2 with ⟨h, _⟩ | ⟨g, cap, cur, h, _⟩
          · simp at h
          · simp only [Value.slice.injEq] at h
            exact ⟨g, h.1⟩
        have hg := hown.lt g rfl
        have hr1 : wr.cell? ⟨g, r.length * 2 + 1, none⟩ = some (.int .i64 p) := by
          rw [hown.cellAt _ (by omega)]
          have := runCells_snd (r ++ [(m, p)]) r.length (by simp)
          simpa [List.getD] using this
        have hr0 : wr.cell? ⟨g, r.length * 2, none⟩ = some (.int .i64 m) := by
          rw [hown.cellAt _ (by omega)]
          have := runCells_fst (r ++ [(m, p)]) r.length (by simp)
          simpa [List.getD] using this
        have hmb : 0 ≤ m ∧ m ≤ 1099511627776 := by
          have hmem : (m, p) ∈ comp ((l.take k).map (·.2)) := by rw [HQ.out]; simp
          have h1 := comp_pos _ _ hmem
          have h2 := comp_le _ _ hmem
          simp only [List.length_map, List.length_take] at h1 h2
          omega
        generalize hk' : r.length = z at *
        have HK := Lib.hid hk'
        clear hk'
        by_cases hpo : p = o
        · subst hpo
          have hm0 : 0 ≤ m ∧ m ≤ 1099511627776 := hmb
          go_wp2_with fail
          go_quiet (fail)
          go_wp2_with fail
          generalize hw2 : (wr.setCell { block := w.heap.size + 1 + 1, off := k } (Value.int IntKind.u8 ↑b.toNat)).drewN nq = w2
          obtain ⟨k0, k1, k2, k3, k4⟩ := str_mid hB0 hB1 hB2 hown hbe w2 hw2
          have g11 : w2.cell? ⟨w.heap.size + 1, 1, none⟩ = some (.slice (some ⟨g, 0, none⟩) (z + 1) c') := k1.at_ 1
          have gr0 : w2.cell? ⟨g, z * 2, none⟩ = some (.int .i64 m) := by rw [← hw2]; exact (World.cell?_setCell_other _ _ _ _ (fun e => by have := congrArg Addr.block e; simp at this; omega)).trans hr0
          have grf : w2.frozen? ⟨g, z * 2, none⟩ = false := k3.frozenAt _
          have HW2 := Lib.hid hw2
          clear hw2 hc1 hc2 h11 hold hfz hown hr0 hr1
          have hz0' : (0 : Int) ≤ (z : Int) := Int.natCast_nonneg _
          have hz1' : (z : Int) < ((z : Int) + 1) := by omega
          have hs2 := k2.lt
          go_region
          all_goals
            go_wp2
            go_roundw
            case rel =>
              have hst := k3.stored (z * 2) (.int .i64 (m + 1))
              have hfar : ∀ x, x < w.heap.size + 3 → x ≠ g := fun x hx e => by omega
              refine str_step (v := .slice (some ⟨g, 0, none⟩) (z + 1) c') (rs := r ++ [(m + 1, p)]) HR.out hlt (k0.far ⟨g, z * 2, none⟩ (hfar _ (by omega)) _) (k1.far ⟨g, z * 2, none⟩ (hfar _ (by omega)) _) (k2.far ⟨g, z * 2, none⟩ (hfar _ (by omega)) _) hbl'.out hbs'.out (by rw [HQ.out, joinR_same (by omega)]) ?_ (Below.drew (k4.setCell (p := ⟨g, z * 2, none⟩) (by show w.heap.size ≤ g; omega) _))
              have h1 := hst.1
              obtain rfl : r.length = z := HK.out
              rw [runCells_set] at h1
              have h2 := h1.drew
              simpa using h2
            case measure => simp [intOf]; omega
        · have hpo' : (p == o) = false := by simpa using hpo
          go_wp2_with fail
          go_quiet (fail)
          go_wp2_with fail
          generalize hw2 : (wr.setCell { block := w.heap.size + 1 + 1, off := k } (Value.int IntKind.u8 ↑b.toNat)).drewN nq = w2
          obtain ⟨k0, k1, k2, k3, k4⟩ := str_mid hB0 hB1 hB2 hown hbe w2 hw2
          have g11 : w2.cell? ⟨w.heap.size + 1, 1, none⟩ = some (.slice (some ⟨g, 0, none⟩) (z + 1) c') := k1.at_ 1
          have g11f := k1.free 1
          have gc2 : w2.cell? ⟨(ad.add (k * 2)).block, (ad.add (k * 2)).off + 1, none⟩ = some (.int .i64 o) := by rw [← hw2]; exact (World.cell?_setCell_other _ _ _ _ (fun e => by have := congrArg Addr.block e; simp at this; omega)).trans hc2
          have HW2 := Lib.hid hw2
          clear hw2 hc1 hc2 h11 hold hfz hown hr0 hr1
          have hfar : ∀ x, x < w.heap.size + 3 → some x ≠ (Value.slice (some ⟨g, 0, none⟩) (z + 1) c').ownBlock := fun x hx e => by have := k3.lt x e.symm; omega
          have hk0 : (0 : Int) ≤ (k : Int) := Int.natCast_nonneg _
          have hk1 : (k : Int) < (n : Int) := by omega
          have hs2 := k2.lt
          have ha1 : ∀ ob, (w2.alloc ob).cell? ⟨w.heap.size + 1, 1, none⟩ = some (.slice (some ⟨g, 0, none⟩) (z + 1) c') := fun ob => (k1.alloc ob).at_ 1
          have ha2 : ∀ ob, (w2.alloc ob).cell? ⟨(ad.add (k * 2)).block, (ad.add (k * 2)).off + 1, none⟩ = some (.int .i64 o) := fun ob => (World.cell?_alloc_past _ _ _ (by omega)).trans gc2
          go_region_law (refine step_append_lies _ (by rfl) _ _ _ (by rfl) (w.heap.size + 3) 61 i0 _ 2 16 Try.underlying22 hi hz0 hz1 hz2 rfl (by omega) (.slice (some ⟨g, 0, none⟩) (z + 1) c') (z + 1) _ (by rfl) ((k3.alloc _).drew) ⟨w2.heap.size, 0, none⟩ 1 1 [.int .i64 1, .int .i64 o] (by rfl) (by rfl) (World.news_of_block (cs := #[.int .i64 1, .int .i64 o]) (t := 61) (fr := (0, 0)) (heap_alloc_new w2 _)) (by simp [Value.oneCell']) (by omega) (by simp only [maxLen]; omega) (by omega) (by simp; omega) (w2.heap.size + 1) (by simp) ?_; intro gg cap w1 hown1 hgrow hat hlt'; have hf1 : w1.frozen? ⟨w.heap.size + 1, 1, none⟩ = false := ((k1.alloc _).drew.grown hgrow (hfar _ (by omega))).free 1; have hf2 : w1.cell? ⟨w.heap.size + 1, 1, none⟩ = some (.slice (some ⟨g, 0, none⟩) (z + 1) c') := ((k1.alloc _).drew.grown hgrow (hfar _ (by omega))).at_ 1)
          all_goals
            go_wp2
            go_roundw
            case rel =>
              exact str_app (rs := r ++ [(m, p)]) (z := z + 1) (by simp [HK.out]) HR.out hlt k0 k1 k2 hbl'.out hbs'.out (by rw [HQ.out, joinR_other (by omega) hpo]) (by simpa [HK.out] using k3) k4 hown1 hgrow
            case measure => simp [intOf]; omega
    · have HT := Lib.hid (show l.take k = l from List.take_of_length_le (by have := HN.out; omega))
      rw [HT.out] at hown hbs
      clear hcl
      obtain ⟨A', c', rfl, _, _, _⟩ := own_form hown
      have hcv : (convert 69 9 (.slice (some ⟨w.heap.size + 1 + 1, 0, none⟩) n n)).run Try.prog wr = .ok (.string ⟨(l.map (·.1)).toArray⟩) wr := by
        have h := run_convert_bytes_back (P := Try.prog) wr 69 9 5 ⟨w.heap.size + 1 + 1, 0, none⟩ n (l.map (·.1)) Try.underlying69 Try.underlying5 Try.underlying9 (fun j hj => ?_)
        · simpa [HN.out] using h
        · have hadd : (⟨w.heap.size + 1 + 1, 0, none⟩ : Addr).add j = ⟨w.heap.size + 2, j, none⟩ := by unfold Addr.add; split <;> simp_all
          simp only [List.length_map] at hj
          rw [hadd, hB2.at_ j, List.getElem?_toArray, hbs j l[j] (List.getElem?_eq_getElem hj)]
          simp
      have HB := Lib.hid hbs
      have HBL := Lib.hid hbl
      have h10 : wr.cell? ⟨w.heap.size + 1, 0, none⟩ = some (.string ⟨#[]⟩) := hB1.at_ 0
      have h11 : wr.cell? ⟨w.heap.size + 1, 1, none⟩ = some (.slice A' (comp (l.map (·.2))).length c') := hB1.at_ 1
      have h1f := hB1.free 0
      have h00 : wr.cell? ⟨w.heap.size, 0, none⟩ = some (.string ⟨#[]⟩) := hB0.at_ 0
      have h01 : wr.cell? ⟨w.heap.size, 1, none⟩ = some (.slice none 0 0) := hB0.at_ 1
      have h0f := hB0.free 0
      have h0f1 := hB0.free 1
      clear hbs hbl
      go_wp2_with fail
      refine bodyPost_ret (v := .agg #[.string ⟨(l.map (·.1)).toArray⟩, .slice A' (comp (l.map (·.2))).length c']) ?_ rfl ?_
      · simp [results, Try.results10, go_sem, h00, h01]
      · refine ⟨_, rfl, ?_, ?_⟩
        · refine own_mono (base := w.heap.size + 3) ?_ (by omega)
          repeat (refine own_far ?_ _ (fun h => by have := (hown.lt _ h).1; first | omega | (simp at this; done) | (simp at this; omega)) _)
          exact hown
        · repeat (refine Below.setCell ?_ (by first | exact Nat.le_refl _ | exact Nat.le_succ _) _)
          exact hbe

end Go.Proofs.Ytdiifkmcbnhliaa.mk

namespace Go.Proofs.Ytdiifkmcbnhliaa.mk
open Go.RowKit

/-- is it, as told, these bytes? -/
def isB (s : List UInt8) (rs : List (Int × Int)) (l : List (UInt8 × Int)) : Bool := decide (s = l.map (·.1) ∧ rs = comp (l.map (·.2)))

def IsRel (rs qs : List (Int × Int)) (n : Nat) (w3 : World) (i : Value) (wr : World) : Prop :=
  ∃ k : Nat, k ≤ n ∧ i = .int .i64 k ∧ rs.take k = qs.take k ∧ Below w3.heap.size w3 wr

theorem ret_bool {a b : Bool} (h : a = b) : Ending.returned (.bool a) = .returned (.bool b) := by rw [h]
theorem toList_data (s : ByteArray) : s.toList = s.data.toList := ByteArray.toList_eq s

set_option maxHeartbeats 1000000 in
set_option maxRecDepth 100000 in
theorem refIs_any (s : ByteArray) (A : Option Addr) (n c : Nat) (rs : List (Int × Int)) (A2 : Option Addr) (m c2 : Nat) (l : List (UInt8 × Int)) (w : World) (hl : Lies w w.heap.size A (runCells rs)) (hn : rs.length = n) (hn2 : n ≤ 4294967296)
    (hl2 : Lies w w.heap.size A2 (chCells l)) (hm : l.length = m) (hm2 : m ≤ 1099511627776) :
    Calls Try.prog 11 #[.agg #[.string s, .slice A n c], .slice A2 m c2] w fun e w' => e = .returned (.bool (isB s.data.toList rs l)) ∧ Below w.heap.size w w' := by
  have HN := Lib.hid hn
  have HM := Lib.hid hm
  have HL := Lib.hid hl
  clear hn hm hl
  go_enter Try.func11, Try.ntmps11
  go_wp2_with fail
  refine (refStr_any A2 m c2 l _ ((hl2.alloc (Nat.le_refl _) _).mono (by simp)) HM.out hm2).mono ?_
  rintro e w1 ⟨v, rfl, hown, hbe⟩
  obtain ⟨A', c', rfl, _, _, _⟩ := own_form hown
  generalize hqs : comp (l.map (·.2)) = qs at *
  have HQ := Lib.hid hqs
  clear hqs
  have hq2 : qs.length ≤ m := by rw [← HQ.out, ← HM.out]; have := comp_length_le (l.map (·.2)); simpa using this
  have hz := hbe.size
  simp only [World.size_alloc] at hz hbe hown
  have hx0 : w1.cell? ⟨w.heap.size, 0, none⟩ = some (.string s) := (hbe.cell (Nat.lt_succ_self _)).trans ((Whole.made w _ _).at_ 0)
  have hx1 : w1.cell? ⟨w.heap.size, 1, none⟩ = some (.slice A n c) := (hbe.cell (Nat.lt_succ_self _)).trans ((Whole.made w _ _).at_ 1)
  have hz' : w.heap.size < w1.heap.size := by omega
  have hin := hown.1
  rw [runCells_length] at hin
  by_cases ht : s.data.toList = l.map (·.1)
  · have ht' : (s.toList == l.map (·.1)) = true := by rw [beq_iff_eq, toList_data]; exact ht
    by_cases hnq : n = qs.length
    · have hnq1 : ((n : Int) != (qs.length : Int)) = false := by rw [bne_eq_false_iff_eq]; omega
      have HNQ := Lib.hid hnq
      have HT := Lib.hid ht
      clear hnq ht
      generalize hk : qs.length = z at *
      have HZ := Lib.hid hk
      clear hk
      go_wp2_with fail
      generalize hw3 : w1.alloc (Obj.cells #[Value.string { data := (List.map (fun x => x.fst) l).toArray }, Value.slice A' z c'] 24) = w3
      have y0 : w3.cell? ⟨w.heap.size, 1, none⟩ = some (.slice A n c) := by rw [← hw3]; exact (World.cell?_alloc_past _ _ _ hz').trans hx1
      have y1 : w3.cell? ⟨w1.heap.size, 1, none⟩ = some (.slice A' z c') := by rw [← hw3]; exact (Whole.made w1 _ _).at_ 1
      have y2 : w3.heap.size = w1.heap.size + 1 := by rw [← hw3]; simp
      have y3 : Lies w3 w3.heap.size A (runCells rs) := by rw [← hw3]; exact ((((HL.out.alloc (Nat.le_refl _) _).mono (Nat.le_succ _)).below hbe).mono (by omega)).alloc (Nat.le_refl _) _ |>.mono (by simp)
      have y4 : Lies w3 w3.heap.size A' (runCells qs) := by rw [← hw3]; exact ((Lies.own hown).alloc (Nat.le_refl _) _).mono (by simp)
      have Y0 := Lib.hid y0
      have Y1 := Lib.hid y1
      have Y2 := Lib.hid y2
      have HW3 := Lib.hid hw3
      clear y0 y1 y2 hw3
      go_loopw [6] (IsRel rs qs n w3) (fun i _ => n - (intOf i).toNat)
      case atStart => exact ⟨0, Nat.zero_le _, rfl, by simp, Below.refl _ _⟩
      case round =>
        obtain ⟨k, hk, rfl, heq, hb3⟩ := hrel
        have z0 : wr.cell? ⟨w.heap.size, 1, none⟩ = some (.slice A n c) := (hb3.cell (by rw [Y2.out]; show w.heap.size < _; omega)).trans Y0.out
        have z1 : wr.cell? ⟨w1.heap.size, 1, none⟩ = some (.slice A' z c') := (hb3.cell (by rw [Y2.out]; exact Nat.lt_succ_self _)).trans Y1.out
        have HE := Lib.hid heq
        clear heq
        by_cases hlt : k < n
        · obtain ⟨ad, a1, o1, rfl, hb, hc1, hc2, HR⟩ := (y3.below hb3).run (k := k) (by rw [HN.out]; exact hlt)
          obtain ⟨ad', a2, o2, rfl, hb', hc1', hc2', HR'⟩ := (y4.below hb3).run (k := k) (by rw [HZ.out, ← HNQ.out]; exact hlt)
          have hlt' : k < z := by rw [← HNQ.out]; exact hlt
          have hk0 : (0 : Int) ≤ (k : Int) := Int.natCast_nonneg _
          have hk1 : (k : Int) < (n : Int) := by omega
          have hk2 : (k : Int) < (z : Int) := by omega
          by_cases hae : a1 = a2 ∧ o1 = o2
          · obtain ⟨rfl, rfl⟩ := hae
            go_wp2_with fail
            go_quiet (fail)
            go_wp2_with fail
            go_roundw
            case rel => exact ⟨k + 1, by omega, by go_num, by rw [take_next HR.out, take_next HR'.out, HE.out], hb3.drewN _⟩
            case measure => simp [intOf]; omega
          · have HF : Hid (isB s.data.toList rs l = false) := by
              show isB s.data.toList rs l = false
              unfold isB
              rw [decide_eq_false_iff_not]
              rintro ⟨_, h⟩
              rw [HQ.out] at h
              subst h
              have h1 := HR.out
              rw [HR'.out] at h1
              injection h1 with h1
              injection h1 with h1 h2
              exact hae ⟨h1.symm, h2.symm⟩
            by_cases ha : a1 = a2
            · have ho : (o1 == o2) = false := by rw [beq_eq_false_iff_ne]; exact fun h => hae ⟨ha, h⟩
              subst ha
              clear hae
              go_wp2_with fail
              go_quiet (fail)
              go_wp2_with fail
              go_ret
              refine ⟨ret_bool HF.out.symm, ?_⟩
              have h := hb3.drewN nq
              rw [← HW3.out] at h
              exact (((Below.refl _ _).alloc (Nat.le_refl _) _).trans ((hbe.mono (Nat.le_succ _)).alloc (by omega) _)).trans (h.mono (by simp; omega))
            · have ho : (a1 == a2) = false := by rw [beq_eq_false_iff_ne]; exact ha
              clear hae
              go_wp2_with fail
              go_quiet (fail)
              go_wp2_with fail
              go_ret
              refine ⟨ret_bool HF.out.symm, ?_⟩
              have h := hb3.drewN nq
              rw [← HW3.out] at h
              exact (((Below.refl _ _).alloc (Nat.le_refl _) _).trans ((hbe.mono (Nat.le_succ _)).alloc (by omega) _)).trans (h.mono (by simp; omega))
        · have hE : isB s.data.toList rs l = true := by
            unfold isB
            rw [decide_eq_true_iff]
            refine ⟨HT.out, ?_⟩
            rw [HQ.out]
            have h1 := HE.out
            rw [List.take_of_length_le (by rw [HN.out]; omega), List.take_of_length_le (by rw [HZ.out, ← HNQ.out]; omega)] at h1
            exact h1
          have HEE := Lib.hid hE
          clear hE
          have hkz : ¬ k < z := by rw [← HNQ.out]; exact hlt
          go_wp2_with fail
          go_ret
          refine ⟨ret_bool HEE.out.symm, ?_⟩
          have h := hb3
          rw [← HW3.out] at h
          exact (((Below.refl _ _).alloc (Nat.le_refl _) _).trans ((hbe.mono (Nat.le_succ _)).alloc (by omega) _)).trans (h.mono (by simp; omega))
    · have hnq1 : ((n : Int) != (qs.length : Int)) = true := by rw [bne_iff_ne]; omega
      go_wp2_with fail
      go_ret
      refine ⟨?_, ?_⟩
      · have : isB s.data.toList rs l = false := by unfold isB; rw [decide_eq_false_iff_not]; rintro ⟨_, h⟩; rw [HQ.out] at h; rw [h] at HN; exact hnq HN.out.symm
        exact ret_bool this.symm
      · exact ((Below.refl _ _).alloc (Nat.le_refl _) _).trans ((hbe.mono (Nat.le_succ _)).alloc (by omega) _)
  · have ht' : (s.toList == l.map (·.1)) = false := by rw [beq_eq_false_iff_ne, toList_data]; exact ht
    go_wp2_with fail
    go_ret
    refine ⟨?_, ?_⟩
    · have : isB s.data.toList rs l = false := by unfold isB; rw [decide_eq_false_iff_not]; rintro ⟨h, _⟩; exact ht h
      exact ret_bool this.symm
    · exact ((Below.refl _ _).alloc (Nat.le_refl _) _).trans ((hbe.mono (Nat.le_succ _)).alloc (by omega) _)

end Go.Proofs.Ytdiifkmcbnhliaa.mk

namespace Go.Proofs.Ytdiifkmcbnhliaa.mk
open Go.RowKit

set_option maxHeartbeats 1000000 in
theorem hasPrefix2_any (t p : ByteArray) (w : World) :
    Calls Try.prog 89 #[.string t, .string p] w fun e w' => e = .returned (.bool (t.data.toList.take p.size == p.data.toList)) ∧ w = w' := by
  have htl : t.data.toList.length = t.size := by rw [Array.length_toList]; rfl
  have hpl : p.data.toList.length = p.size := by rw [Array.length_toList]; rfl
  by_cases h : p.size ≤ t.size
  · have h1 : (p.size : Int) ≤ (t.size : Int) := by omega
    have h0 : (0 : Int) ≤ (p.size : Int) := Int.natCast_nonneg _
    have HX : Hid ((t.extract 0 p.size).toList = t.data.toList.take p.size) := by
      show _ = _
      rw [ByteArray.toList_eq, ByteArray.data_extract, Array.toList_extract, List.extract_eq_take_drop]
      simp
    have HP : Hid (p.toList = p.data.toList) := ByteArray.toList_eq p
    clear htl hpl
    go_enter Try.func89, Try.ntmps89
    go_wp2_with fail
    all_goals
      go_ret
      refine ⟨ret_bool ?_, rfl⟩
      first | rw [HX.out, HP.out] | simp [HX.out, HP.out]
  · have h1 : ¬ (p.size : Int) ≤ (t.size : Int) := by omega
    have HF : Hid ((t.data.toList.take p.size == p.data.toList) = false) := by
      show _ = _
      rw [beq_eq_false_iff_ne]
      intro e
      have := congrArg List.length e
      rw [List.length_take, htl, hpl] at this
      omega
    clear htl hpl
    go_enter Try.func89, Try.ntmps89
    go_wp2_with fail
    all_goals
      go_ret
      refine ⟨ret_bool ?_, rfl⟩
      rw [HF.out]

set_option maxHeartbeats 400000 in
theorem hasPrefix_any (t p : ByteArray) (w : World) :
    Calls Try.prog 72 #[.string t, .string p] w fun e w' => e = .returned (.bool (t.data.toList.take p.size == p.data.toList)) ∧ w = w' := by
  go_enter Try.func72, Try.ntmps72
  go_wp2_with fail
  refine (hasPrefix2_any t p _).mono ?_
  rintro e w' ⟨rfl, rfl⟩
  go_wp2
  go_ret
  exact ⟨rfl, rfl⟩

set_option maxHeartbeats 1000000 in
theorem cut2_yes (t p : ByteArray) (h : (t.data.toList.take p.size == p.data.toList) = true) (w : World) :
    Calls Try.prog 82 #[.string t, .string p] w fun e w' => e = .returned (.tuple #[.string (t.extract p.size t.size), .bool true]) ∧ w = w' := by
  have hle : p.size ≤ t.size := by
    have := congrArg List.length (beq_iff_eq.1 h)
    rw [List.length_take, Array.length_toList, Array.length_toList] at this
    show p.data.size ≤ t.data.size
    omega
  have h1 : (p.size : Int) ≤ (t.size : Int) := by omega
  have h0 : (0 : Int) ≤ (p.size : Int) := Int.natCast_nonneg _
  go_enter Try.func82, Try.ntmps82
  go_wp2_with fail
  refine (hasPrefix2_any t p _).mono ?_
  rw [h]
  rintro e w' ⟨rfl, rfl⟩
  go_wp2_with fail
  go_ret2
  exact ⟨rfl, rfl⟩
set_option maxHeartbeats 1000000 in
theorem cut2_no (t p : ByteArray) (h : (t.data.toList.take p.size == p.data.toList) = false) (w : World) :
    Calls Try.prog 82 #[.string t, .string p] w fun e w' => e = .returned (.tuple #[.string t, .bool false]) ∧ w = w' := by
  go_enter Try.func82, Try.ntmps82
  go_wp2_with fail
  refine (hasPrefix2_any t p _).mono ?_
  rw [h]
  rintro e w' ⟨rfl, rfl⟩
  go_wp2_with fail
  go_ret2
  exact ⟨rfl, rfl⟩
theorem cut_yes (t p : ByteArray) (h : (t.data.toList.take p.size == p.data.toList) = true) (w : World) :
    Calls Try.prog 66 #[.string t, .string p] w fun e w' => e = .returned (.tuple #[.string (t.extract p.size t.size), .bool true]) ∧ w = w' := by
  go_enter Try.func66, Try.ntmps66
  go_wp2_with fail
  refine (cut2_yes t p h _).mono ?_
  rintro e w' ⟨rfl, rfl⟩
  go_wp2_with fail
  go_ret2
  exact ⟨rfl, rfl⟩
theorem cut_no (t p : ByteArray) (h : (t.data.toList.take p.size == p.data.toList) = false) (w : World) :
    Calls Try.prog 66 #[.string t, .string p] w fun e w' => e = .returned (.tuple #[.string t, .bool false]) ∧ w = w' := by
  go_enter Try.func66, Try.ntmps66
  go_wp2_with fail
  refine (cut2_no t p h _).mono ?_
  rintro e w' ⟨rfl, rfl⟩
  go_wp2_with fail
  go_ret2
  exact ⟨rfl, rfl⟩

end Go.Proofs.Ytdiifkmcbnhliaa.mk
