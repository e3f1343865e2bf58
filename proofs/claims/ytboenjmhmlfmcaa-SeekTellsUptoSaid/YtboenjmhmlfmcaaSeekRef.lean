/-
  Contracts of the reference's Fields and Index.
-/
import Derived.Test.YtboenjmhmlfmcaaSeekParts
import Derived.Test.YtboenjmhmlfmcaaMarkRefIs
namespace Go.Proofs.Ytboenjmhmlfmcaa.mk
open Go.RowKit

/-- a slice that lies somewhere -/
structure SL where
  A : Option Addr
  n : Nat
  c : Nat
def SL.v (x : SL) : Value := .slice x.A x.n x.c
/-- bytes with origins in memory of their own, below a block -/
def Field (w : World) (base B : Nat) (q : List (UInt8 × Int)) (x : SL) : Prop :=
  q.length = x.n ∧ w.ownsRow base 30 2 x.v x.n (chCells q) ∧ ∀ g, x.v.ownBlock = some g → g < B
def AllF (w : World) (base B : Nat) (qs : List (List (UInt8 × Int))) (xs : List SL) : Prop :=
  xs.length = qs.length ∧ ∀ (i : Nat) (q : List (UInt8 × Int)) (x : SL), qs[i]? = some q → xs[i]? = some x → Field w base B q x
theorem AllF.nil (w : World) (base B : Nat) : AllF w base B [] [] := ⟨rfl, fun i q t h => by simp at h⟩
theorem AllF.snoc {w : World} {base B : Nat} {qs : List (List (UInt8 × Int))} {xs : List SL} {q : List (UInt8 × Int)} {x : SL} (h : AllF w base B qs xs) (ht : Field w base B q x) : AllF w base B (qs ++ [q]) (xs ++ [x]) := by
  obtain ⟨h1, h2⟩ := h
  refine ⟨by simp [h1], fun i q' t' hq htt => ?_⟩
  rcases Nat.lt_or_ge i qs.length with hi | hi
  · rw [List.getElem?_append_left hi] at hq
    rw [List.getElem?_append_left (by omega)] at htt
    exact h2 i q' t' hq htt
  · rw [List.getElem?_append_right hi] at hq
    rw [List.getElem?_append_right (by omega), h1] at htt
    rcases Nat.eq_zero_or_pos (i - qs.length) with h0 | h0
    · rw [h0] at hq htt
      simp at hq htt
      subst hq htt
      exact ht
    · rw [List.getElem?_eq_none (by simp; omega)] at hq
      cases hq
theorem AllF.keep {w w' : World} {base B B' : Nat} {qs : List (List (UInt8 × Int))} {xs : List SL} (h : AllF w base B qs xs) (hB : B ≤ B') (hk : ∀ g c, g < B → w.heap[g]? = some (.cells c 30 (0, 0)) → w'.heap[g]? = w.heap[g]?) : AllF w' base B' qs xs := by
  refine ⟨h.1, fun i q t hq ht => ?_⟩
  obtain ⟨h1, h2, h3⟩ := h.2 i q t hq ht
  refine ⟨h1, own_same h2 fun g hg => ?_, fun g hg => Nat.lt_of_lt_of_le (h3 g hg) hB⟩
  obtain ⟨cur, hc⟩ := own_kind h2 hg
  exact hk g cur (h3 g hg) hc
theorem AllF.lies {w : World} {base B : Nat} {qs : List (List (UInt8 × Int))} {xs : List SL} (h : AllF w base B qs xs) {i : Nat} {q : List (UInt8 × Int)} {x : SL} (hq : qs[i]? = some q) (hx : xs[i]? = some x) : Lies w w.heap.size x.A (chCells q) ∧ q.length = x.n := by
  obtain ⟨h1, h2, _⟩ := h.2 i q x hq hx
  exact ⟨Lies.own h2, h1⟩
theorem chs_info : (Try.prog.info? 26).map (fun i => (i.zero, i.size, i.bytes)) = some (some (.slice none 0 0), 1, 24) := by kernel_rfl

/-- what the reference's Fields tells -/
def RefFieldsPost (qs : List (List (UInt8 × Int))) (w : World) (e : Ending) (w' : World) : Prop :=
  ∃ v xs B, e = .returned v ∧ w'.ownsRow w.heap.size 26 1 v xs.length (xs.map SL.v) ∧ AllF w' w.heap.size B qs xs ∧ Below w.heap.size w w'
def RefFRel (p : UInt8 × Int → Bool) (l : List (UInt8 × Int)) (w0 : World) (o f i : Value) (wr : World) : Prop :=
  ∃ (k B : Nat) (xs : List SL), k ≤ l.length ∧ i = .int .i64 (k : Int) ∧ wr.ownsRow w0.heap.size 26 1 o xs.length (xs.map SL.v) ∧ AllF wr w0.heap.size B (least 1 (doneTo p l k)) xs ∧
    wr.ownsRow B 30 2 f (lastAt p l k).length (chCells (lastAt p l k)) ∧ w0.heap.size ≤ B ∧ B ≤ wr.heap.size ∧ Below w0.heap.size w0 wr
theorem lastAt_zero {α : Type} (p : α → Bool) (l : List α) : lastAt p l 0 = [] := by unfold lastAt; simp [cutAll]
theorem lastAt_miss {α : Type} {p : α → Bool} {l : List α} {k : Nat} {x : α} (h : l[k]? = some x) (hp : p x = false) : lastAt p l (k + 1) = lastAt p l k ++ [x] := by
  have e : l.take (k + 1) = l.take k ++ [x] := by rw [List.take_add_one, h]; rfl
  unfold lastAt; rw [e, cutAll_miss hp]
theorem lastAt_hit {α : Type} {p : α → Bool} {l : List α} {k : Nat} {x : α} (h : l[k]? = some x) (hp : p x = true) : lastAt p l (k + 1) = [] := by
  have e : l.take (k + 1) = l.take k ++ [x] := by rw [List.take_add_one, h]; rfl
  unfold lastAt; rw [e, cutAll_hit hp]

/-- a byte behind the part in hand -/
theorem reff_miss {p : UInt8 × Int → Bool} {l : List (UInt8 × Int)} {k B : Nat} {xs : List SL} {w0 w w1 : World} {o f v' : Value} {x : UInt8 × Int} {ob : Obj} {z : Nat} (hx : l[k]? = some x) (hp : p x = false)
    (ho : w.ownsRow w0.heap.size 26 1 o xs.length (xs.map SL.v)) (hA : AllF w w0.heap.size B (least 1 (doneTo p l k)) xs) (hf : w.ownsRow B 30 2 f z (chCells (lastAt p l k))) (hz : (lastAt p l k).length = z) (h0 : w0.heap.size ≤ B) (hB : B ≤ w.heap.size) (hb : Below w0.heap.size w0 w)
    (hown : w1.ownsRow B 30 2 v' (z + 1) (chCells (lastAt p l k) ++ [.int .u8 x.1.toNat, .int .i64 x.2])) (hg : (w.alloc ob).grownBy w1 f.ownBlock) : RefFRel p l w0 o v' (.int .i64 ((k : Int) + 1)) w1 := by
  have hk : k < l.length := (List.getElem?_eq_some_iff.1 hx).1
  refine ⟨k + 1, B, xs, hk, by simp, own_same ho fun g hgo => ?_, ?_, ?_, h0, by have := hg.size; simp at this; omega, ((hb.alloc (by omega) ob).grown hg (by simp; omega) (fun y hy => by have := (hf.lt y hy).1; omega))⟩
  · have hlt := (ho.lt g hgo).2
    rw [hg.block g (by simp; omega) (fun e => ?_), Below.heap_alloc _ _ _ hlt]
    obtain ⟨c1, hc1⟩ := own_kind ho hgo
    obtain ⟨c2, hc2⟩ := own_kind hf e.symm
    rw [hc1] at hc2
    injection hc2 with hc2
    injection hc2 with _ h _
    exact absurd h (by decide)
  · rw [(step_miss hx hp).1]
    refine hA.keep (Nat.le_refl _) fun g c hlt hc => ?_
    have hlw := (Array.getElem?_eq_some_iff.1 hc).1
    rw [hg.block g (by simp; omega) (fun e => by have := (hf.lt g e.symm).1; omega), Below.heap_alloc _ _ _ hlw]
  · rw [lastAt_miss hx hp, chCells_snoc, List.length_append, hz]
    exact hown
/-- the part in hand is put behind the others -/
theorem reff_put {B : Nat} {xs : List SL} {w0 w w1 : World} {o v' : Value} {A : Option Addr} {n c : Nat} {ob : Obj} {q : List (UInt8 × Int)} {qs : List (List (UInt8 × Int))}
    (ho : w.ownsRow w0.heap.size 26 1 o xs.length (xs.map SL.v)) (hA : AllF w w0.heap.size B qs xs) (hf : w.ownsRow B 30 2 (.slice A n c) n (chCells q)) (hq : q.length = n) (h0 : w0.heap.size ≤ B) (hB : B ≤ w.heap.size) (hb : Below w0.heap.size w0 w)
    (hown : w1.ownsRow w0.heap.size 26 1 v' (xs.length + 1) (xs.map SL.v ++ [.slice A n c])) (hg : (w.alloc ob).grownBy w1 o.ownBlock) :
    w1.ownsRow w0.heap.size 26 1 v' (xs ++ [(⟨A, n, c⟩ : SL)]).length ((xs ++ [(⟨A, n, c⟩ : SL)]).map SL.v) ∧ AllF w1 w0.heap.size w1.heap.size (qs ++ [q]) (xs ++ [⟨A, n, c⟩]) ∧ w0.heap.size ≤ w1.heap.size ∧ Below w0.heap.size w0 w1 := by
  have hbl := ((hb.alloc (by omega) ob).grown hg (by simp; omega) (fun y hy => (ho.lt y hy).1))
  have hkeep : ∀ (g : Nat) (c : Array Value), w.heap[g]? = some (Obj.cells c 30 (0, 0)) → w1.heap[g]? = w.heap[g]? := by
    intro g c hc
    have hlt := (Array.getElem?_eq_some_iff.1 hc).1
    rw [hg.block g (by simp; omega) (fun e => ?_), Below.heap_alloc _ _ _ hlt]
    obtain ⟨c1, hc1⟩ := own_kind ho e.symm
    rw [hc] at hc1
    injection hc1 with hc1
    injection hc1 with _ h _
    exact absurd h (by decide)
  refine ⟨by rw [List.map_append, List.length_append]; exact hown, (hA.keep (B' := w1.heap.size) (by have := hg.size; simp at this; omega) fun g c _ hc => hkeep g c hc).snoc ⟨hq, ?_, ?_⟩, hbl.size, hbl⟩
  · refine own_mono (own_same hf fun g hgv => ?_) h0
    obtain ⟨cur, hc⟩ := own_kind hf hgv
    exact hkeep g cur hc
  · intro g hgv
    have := (hf.lt g hgv).2
    have h2 := hg.size
    simp at h2
    omega

set_option maxHeartbeats 1000000 in
set_option maxRecDepth 100000 in
theorem refFields_any (A : Option Addr) (n c : Nat) (l : List (UInt8 × Int)) (w : World) (hl : Lies w w.heap.size A (chCells l)) (hn : l.length = n) (hn2 : n ≤ 4294967296) :
    Calls Try.prog 10 #[.slice A n c] w (RefFieldsPost (least 1 (parts (onB (isIn blanksL)) l)) w) := by
  obtain ⟨i0, hi, hz0, hz1, hz2⟩ := info_parts ch_info
  obtain ⟨i1, hj, hy0, hy1, hy2⟩ := info_parts chs_info
  have HN := Lib.hid hn
  have HL := Lib.hid hl
  clear hn hl
  go_enter Try.func10, Try.ntmps10
  go_wp2_with fail
  go_loopw [3, 4, 5] (RefFRel (onB (isIn blanksL)) l w) (fun _ _ i _ => n - (intOf i).toNat)
  case atStart => exact ⟨0, w.heap.size, [], Nat.zero_le _, rfl, World.ownsRow_nil _ _ _ _, by rw [doneTo_zero]; exact AllF.nil _ _ _, by rw [lastAt_zero]; exact World.ownsRow_nil _ _ _ _, Nat.le_refl _, Nat.le_refl _, Below.refl _ _⟩
  case round =>
    obtain ⟨k, B, xs, hk, rfl, ho, hA, hf, h0, hB, hbl⟩ := hrel
    rw [HN.out] at hk
    have hws := hbl.size
    obtain ⟨A3, d3, rfl, _, _, _⟩ := own_form ho
    obtain ⟨A4, d4, rfl, _, _, _⟩ := own_form hf
    have hll := lastAt_le (onB (isIn blanksL)) l (k := k) (by rw [HN.out]; exact hk)
    have hdl := doneTo_length (onB (isIn blanksL)) l k (by rw [HN.out]; omega)
    have hxl : xs.length ≤ k := by rw [hA.1]; exact Nat.le_trans (least_length _ _) hdl
    have HO := Lib.hid ho
    have HA := Lib.hid hA
    have HF := Lib.hid hf
    have HBL := Lib.hid hbl
    clear ho hA hf hbl hdl
    by_cases hlt : k < n
    · obtain ⟨ad, b, o, rfl, hb, hc1, hc2, HR⟩ := (HL.out.below HBL.out).ch (k := k) (by rw [HN.out]; exact hlt)
      have hk0 : (0 : Int) ≤ (k : Int) := Int.natCast_nonneg _
      have hk1 : (k : Int) < (n : Int) := by omega
      go_wp2_with fail
      refine (refIn_any b ⟨#[9, 10, 12, 13, 32]⟩ _ (by show (5 : Nat) ≤ _; omega)).mono ?_
      rw [show isIn (ByteArray.mk #[9, 10, 12, 13, 32]).data.toList b = isIn blanksL b from rfl]
      rintro e w' ⟨rfl, rfl⟩
      cases hin : isIn blanksL b with
      | false =>
        have HIN := Lib.hid (show onB (isIn blanksL) (b, o) = false from hin)
        clear hin
        generalize hz : (lastAt (onB (isIn blanksL)) l k).length = z at *
        have HZ := Lib.hid hz
        clear hz
        go_wp2_with (at_builtin; refine wpList_append_own_at _ rfl _ _ 26 rfl B 30 i0 _ 2 16 Try.underlying26 hi hz0 hz1 hz2 rfl (by decide) (.slice A4 z d4) z _ rfl (HF.out.alloc _) ⟨wr.heap.size, 0, none⟩ 1 1 [.int .u8 b.toNat, .int .i64 o] rfl rfl (cells_new wr _ _) (by simp [Value.oneCell']) (by simp only [maxLen]; omega) (by omega) (by simp; omega) ?_)
        intro v' w1 hown1 hgrow _ _
        have HX := Lib.hid (reff_miss (x := (b, o)) HR.out HIN.out HO.out HA.out HF.out HZ.out h0 hB HBL.out hown1 hgrow)
        clear hgrow hown1
        go_wp2_with fail
        go_roundw
        case rel => exact HX.out
        case measure => simp [intOf]; omega
      | true =>
        have HIN := Lib.hid (show onB (isIn blanksL) (b, o) = true from hin)
        clear hin
        have HSH := Lib.hid (step_hit HR.out HIN.out)
        have HLH := Lib.hid (lastAt_hit HR.out HIN.out)
        generalize hz : (lastAt (onB (isIn blanksL)) l k).length = z at *
        have HZ := Lib.hid hz
        clear hz
        by_cases hz0' : 0 < z
        · generalize hxz : xs.length = y at *
          have HY := Lib.hid hxz
          clear hxz
          go_wp2_with (at_builtin; refine wpList_append_own_at _ rfl _ _ 32 rfl w.heap.size 26 i1 _ 1 24 Try.underlying32 hj hy0 hy1 hy2 rfl (by decide) (.slice A3 y d3) y _ rfl (HO.out.alloc _) ⟨wr.heap.size, 0, none⟩ 1 1 [.slice A4 z d4] rfl rfl (cells_new wr _ _) (by simp [Value.oneCell']) (by simp only [maxLen]; omega) (by omega) (by simp; omega) ?_)
          intro v' w1 hown1 hgrow _ _
          have HX := Lib.hid (reff_put (by rw [HY.out]; exact HO.out) HA.out HF.out HZ.out h0 hB HBL.out (by rw [HY.out]; exact hown1) hgrow)
          clear hgrow hown1
          go_wp2_with fail
          go_roundw
          case rel =>
            obtain ⟨x1, x2, x3, x4⟩ := HX.out
            exact ⟨k + 1, w1.heap.size, xs ++ [⟨A4, z, d4⟩], by rw [HN.out]; omega, by go_num, x1, by rw [HSH.out.1, least_keep (by rw [HZ.out]; omega)]; exact x2, by rw [HLH.out]; exact World.ownsRow_nil _ _ _ _, x3, Nat.le_refl _, x4⟩
          case measure => simp [intOf]; omega
        · go_wp2_with fail
          go_roundw
          case rel => exact ⟨k + 1, B, xs, by rw [HN.out]; omega, by go_num, HO.out, by rw [HSH.out.1, least_drop (by rw [HZ.out]; omega)]; exact HA.out, by rw [HLH.out]; exact World.ownsRow_nil _ _ _ _, h0, hB, HBL.out⟩
          case measure => simp [intOf]; omega
    · have hkn : k = l.length := by rw [HN.out]; omega
      have HPA : Hid (least 1 (parts (onB (isIn blanksL)) l) = least 1 (doneTo (onB (isIn blanksL)) l k ++ [lastAt (onB (isIn blanksL)) l k])) := by
        show _ = _
        rw [← (step_end (onB (isIn blanksL)) l hkn).1, doneTo_end _ _ (by omega)]
      generalize hz : (lastAt (onB (isIn blanksL)) l k).length = z at *
      have HZ := Lib.hid hz
      clear hz hkn
      by_cases hz0' : 0 < z
      · generalize hxz : xs.length = y at *
        have HY := Lib.hid hxz
        clear hxz
        go_wp2_with (at_builtin; refine wpList_append_own_at _ rfl _ _ 32 rfl w.heap.size 26 i1 _ 1 24 Try.underlying32 hj hy0 hy1 hy2 rfl (by decide) (.slice A3 y d3) y _ rfl (HO.out.alloc _) ⟨wr.heap.size, 0, none⟩ 1 1 [.slice A4 z d4] rfl rfl (cells_new wr _ _) (by simp [Value.oneCell']) (by simp only [maxLen]; omega) (by omega) (by simp; omega) ?_)
        intro v' w1 hown1 hgrow _ _
        have HX := Lib.hid (reff_put (by rw [HY.out]; exact HO.out) HA.out HF.out HZ.out h0 hB HBL.out (by rw [HY.out]; exact hown1) hgrow)
        clear hgrow hown1
        go_wp2_with fail
        go_ret
        obtain ⟨x1, x2, x3, x4⟩ := HX.out
        exact ⟨v', xs ++ [⟨A4, z, d4⟩], _, rfl, x1, by rw [HPA.out, least_keep (by rw [HZ.out]; omega)]; exact x2, x4⟩
      · go_wp2_with fail
        go_ret
        exact ⟨_, xs, B, rfl, HO.out, by rw [HPA.out, least_drop (by rw [HZ.out]; omega)]; exact HA.out, HBL.out⟩

end Go.Proofs.Ytboenjmhmlfmcaa.mk
