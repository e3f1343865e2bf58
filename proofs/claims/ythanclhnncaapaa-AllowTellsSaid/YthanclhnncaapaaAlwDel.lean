/-
  slices.IndexFunc at texts, whatever the function value; slices.DeleteFunc of the tags that are raw.
-/
import Derived.Test.YthanclhnncaapaaAlwIs
import Derived.Test.YthanclhnncaapaaApp
import Derived.Lib.SliceRun
import Derived.Laws.OwnMore
import Derived.WalkSpells
namespace Go.Proofs.Ythanclhnncaapaa.mk
open Go.RowKit

/-- the place of the first of these, counted from k; -1: none -/
def idxP (p : ByteArray → Bool) : List ByteArray → Nat → Int
  | [], _ => -1
  | x :: r, k => if p x then (k : Int) else idxP p r (k + 1)
theorem idxP_next {p : ByteArray → Bool} {ns : List ByteArray} {k : Nat} {y : ByteArray} (h : ns[k]? = some y) : idxP p (ns.drop k) k = if p y then (k : Int) else idxP p (ns.drop (k + 1)) (k + 1) := by
  obtain ⟨hk, rfl⟩ := List.getElem?_eq_some_iff.1 h
  rw [List.drop_eq_getElem_cons hk, idxP]
theorem idxP_end {p : ByteArray → Bool} {ns : List ByteArray} {k : Nat} (h : ns.length ≤ k) : idxP p (ns.drop k) k = -1 := by
  rw [List.drop_eq_nil_of_le h, idxP]

def IdxPRel (p : ByteArray → Bool) (ns : List ByteArray) (w0 : World) (i : Value) (wr : World) : Prop :=
  ∃ k : Nat, k ≤ ns.length ∧ i = .int .i64 (k : Int) ∧ idxP p ns 0 = idxP p (ns.drop k) k ∧ Below w0.heap.size w0 wr

set_option maxHeartbeats 1000000 in
set_option maxRecDepth 100000 in
theorem strIndexFunc_any (F : Nat) (caps : Array Value) (p : ByteArray → Bool) (A : Option Addr) (n c : Nat) (ns : List ByteArray) (w : World) (hl : Lies w w.heap.size A (txCells ns)) (hn : ns.length = n) (hn2 : n ≤ 4294967296)
    (hE : ∀ args w', Sem.run Try.prog (callFunc F args) w' = .ok (.enter F args) w')
    (hF : ∀ (x : ByteArray) w', Below w.heap.size w w' → Calls Try.prog F (#[.string x] ++ caps) w' fun e w'' => e = .returned (.bool (p x)) ∧ Below w'.heap.size w' w'') :
    Calls Try.prog 25 #[.slice A n c, .func (.func F) #[] caps] w fun e w' => e = .returned (.int .i64 (idxP p ns 0)) ∧ Below w.heap.size w w' := by
  have HN := Lib.hid hn
  have HE := Lib.hid hE
  have HF := Lib.hid hF
  have HL := Lib.hid hl
  clear hn hE hF hl
  go_enter Try.func25, Try.ntmps25
  go_wp2_with fail
  go_loopw [8] (IdxPRel p ns w) (fun i _ => n - (intOf i).toNat)
  case atStart => exact ⟨0, Nat.zero_le _, rfl, rfl, Below.refl _ _⟩
  case round =>
    obtain ⟨k, hk, rfl, hh, hb⟩ := hrel
    have HH := Lib.hid hh
    clear hh
    rw [HN.out] at hk
    by_cases hlt : k < n
    · obtain ⟨ad, y, rfl, hbA, d0, HR⟩ := (HL.out.below hb).tx (k := k) (by rw [HN.out]; exact hlt)
      have hk0 : (0 : Int) ≤ (k : Int) := Int.natCast_nonneg _
      have hk1 : (k : Int) < (n : Int) := by omega
      have HX := Lib.hid (idxP_next (p := p) HR.out)
      go_wp2_with fail
      rw [HE.out]
      refine (HF.out y _ hb).mono ?_
      rintro e w2 ⟨rfl, hb2⟩
      have hb3 := below_next hb (Nat.le_refl _) hb2
      cases he : p y with
      | true =>
        have HP : Hid (idxP p ns 0 = (k : Int)) := by show _ = _; rw [HH.out, HX.out, he]; rfl
        go_wp2_with fail
        go_ret
        exact ⟨by rw [HP.out]; rfl, hb3⟩
      | false =>
        have HP : Hid (idxP p ns 0 = idxP p (ns.drop (k + 1)) (k + 1)) := by show _ = _; rw [HH.out, HX.out, he]; rfl
        go_wp2_with fail
        go_roundw
        case rel => exact ⟨k + 1, by rw [HN.out]; omega, by go_num, HP.out, hb3⟩
        case measure => simp [intOf]; omega
    · have hk1 : ¬ (k : Int) < (n : Int) := by omega
      have HP : Hid (idxP p ns 0 = -1) := by show _ = _; rw [HH.out, idxP_end (by rw [HN.out]; omega)]
      go_wp2_with fail
      go_ret
      exact ⟨by rw [HP.out]; rfl, hb⟩

/-! a row of the call's own: a cell of it is written, a cell behind it is written, it is cut -/
theorem own_set1 {w : World} {base g n c k : Nat} {t : TypeId} {xs : List Value} (h : w.ownsRow base t 1 (.slice (some ⟨g, 0, none⟩) n c) n xs) (u : Value) : (w.setCell ⟨g, k, none⟩ u).ownsRow base t 1 (.slice (some ⟨g, 0, none⟩) n c) n (xs.set k u) := by
  obtain ⟨h0, ⟨hv, _⟩ | ⟨g', cap, cur, hv, hg, hh, h1, h2, h3, h4⟩⟩ := h
  · cases hv
  · cases hv
    refine ⟨by rw [List.length_set]; exact h0, .inr ⟨g, c, cur.setIfInBounds k u, rfl, hg, heap_setCell_same w g k cur t u hh, h1, h2, by rw [Array.size_setIfInBounds]; exact h3, ?_⟩⟩
    rw [Array.toList_setIfInBounds, ← h4, List.take_set]
theorem own_past1 {w : World} {base g n c k : Nat} {t : TypeId} {xs : List Value} (h : w.ownsRow base t 1 (.slice (some ⟨g, 0, none⟩) n c) n xs) (hk : n ≤ k) (u : Value) : (w.setCell ⟨g, k, none⟩ u).ownsRow base t 1 (.slice (some ⟨g, 0, none⟩) n c) n xs := by
  have h2 := own_set1 (k := k) h u
  rw [List.set_eq_of_length_le (by have := h.1; omega)] at h2
  exact h2
theorem own_cut1 {w : World} {base g n c m : Nat} {t : TypeId} {xs : List Value} (h : w.ownsRow base t 1 (.slice (some ⟨g, 0, none⟩) n c) n xs) (hm : m ≤ n) : w.ownsRow base t 1 (.slice (some ⟨g, 0, none⟩) m c) m (xs.take m) := by
  obtain ⟨h0, ⟨hv, _⟩ | ⟨g', cap, cur, hv, hg, hh, h1, h2, h3, h4⟩⟩ := h
  · cases hv
  · cases hv
    refine ⟨by rw [List.length_take]; omega, .inr ⟨g, c, cur, rfl, hg, hh, by omega, h2, h3, ?_⟩⟩
    rw [← h4, List.take_take, Nat.mul_one, Nat.mul_one, Nat.min_eq_left hm]
/-- a row of the call's own that is not empty: its block, and its cells that may be written -/
theorem own_block1 {w : World} {base n c : Nat} {A : Option Addr} {t : TypeId} {xs : List Value} (h : w.ownsRow base t 1 (.slice A n c) n xs) (hn : 0 < n) :
    ∃ g, A = some ⟨g, 0, none⟩ ∧ base ≤ g ∧ g < w.heap.size ∧ n ≤ c ∧ c ≤ maxLen ∧ (∀ k, k < n → (w.cell? ⟨g, k, none⟩).isSome = true) ∧ ∀ k, w.frozen? ⟨g, k, none⟩ = false := by
  obtain ⟨h0, ⟨hv, h1⟩ | ⟨g', cap, cur, hv, hg, hh, h1, h2, h3, h4⟩⟩ := h
  · omega
  · cases hv
    refine ⟨g', rfl, hg, Whole.lt hh, h1, h2, fun k hk => ?_, fun k => Whole.free hh k⟩
    rw [Whole.at_ hh k, Array.getElem?_eq_getElem (by omega)]; rfl

theorem raw_first : idxP (hasT rawL) tagL 0 = 15 := by decide +kernel
theorem raw_last : hasT rawL ⟨#[115, 116, 121, 108, 101]⟩ = true := by decide +kernel

/-- the block of a row -/
abbrev RowB (A : Option Addr) : Nat → Prop := fun b => ∃ a, A = some a ∧ a.block = b
def DelRel (A : Option Addr) (c base : Nat) (w0 : World) (u i : Value) (wr : World) : Prop :=
  ∃ k : Nat, (k = 16 ∨ k = 17) ∧ u = .int .i64 15 ∧ i = .int .i64 (k : Int) ∧ wr.ownsRow base 9 1 (.slice A 17 c) 17 (txCells tagL) ∧ Moved (RowB A) w0 wr

set_option maxHeartbeats 2000000 in
set_option maxRecDepth 100000 in
theorem delRaw_any (A : Option Addr) (c base : Nat) (w : World) (ho : w.ownsRow base 9 1 (.slice A 17 c) 17 (txCells tagL)) :
    Calls Try.prog 18 #[.slice A 17 c, .func (.func 13) #[] #[]] w fun e w' => e = .returned (.slice A 15 c) ∧ w'.ownsRow base 9 1 (.slice A 15 c) 15 (txCells (tagL.take 15)) ∧ Moved (RowB A) w w' := by
  have HIX := Lib.hid (strIndexFunc_any 13 #[] (hasT rawL) A 17 c tagL w (Lies.own ho) rfl (by decide) (fun _ _ => rfl) (fun x w' _ => rawIs_any x w'))
  have HO := Lib.hid ho
  clear ho
  go_enter Try.func18, Try.ntmps18
  go_wp2_with fail
  refine HIX.out.mono ?_
  rw [raw_first]
  rintro e w1 ⟨rfl, hb1⟩
  have HO1 := Lib.hid (own_keep HO.out hb1)
  have HB1 : Hid (Moved (RowB A) w w1) := Moved.of_below hb1
  clear hb1 HIX HO
  go_wp2_with fail
  go_loopw [5, 6] (DelRel A c base w) (fun _ i _ => 17 - (intOf i).toNat)
  case atStart => exact ⟨16, .inl rfl, rfl, rfl, HO1.out, HB1.out⟩
  case round =>
    obtain ⟨k, hk, rfl, rfl, hown, hb⟩ := hrel
    have HB2 := Lib.hid hb
    have HO2 := Lib.hid hown
    obtain ⟨g, rfl, hg1, hg2, hg3, hg4, hg5, hg6⟩ := own_block1 hown (by decide)
    clear hb hown
    obtain rfl | rfl := hk
    · have d16 : wr.cell? ⟨g, 16, none⟩ = some (.string ⟨#[115, 116, 121, 108, 101]⟩) := by
        obtain ⟨ad, e, _, hc⟩ := (Lies.own HO2.out) 16 (.string ⟨#[115, 116, 121, 108, 101]⟩) rfl
        cases e
        exact hc
      clear hg5 hg6
      go_wp2_with fail
      refine (rawIs_any ⟨#[115, 116, 121, 108, 101]⟩ _).mono ?_
      rw [raw_last]
      rintro e w2 ⟨rfl, hb2⟩
      have HO3 := Lib.hid (own_keep HO2.out hb2)
      have HB3 : Hid (Moved (RowB (some ⟨g, 0, none⟩)) w w2) := HB2.out.trans (Moved.of_below hb2)
      clear hb2
      go_wp2_with fail
      go_roundw
      case rel => exact ⟨17, .inr rfl, rfl, by go_num, HO3.out, HB3.out⟩
      case measure => simp [intOf]
    · have hcl : ∀ ty, (Builtin.clear_ #[22] ty #[.slice (some ⟨g, 15, none⟩) 2 (c - 15)]).run Try.prog wr = .ok (.tuple #[]) ((wr.setCell ⟨g, 15, none⟩ (.string ⟨#[]⟩)).setCell ⟨g, 16, none⟩ (.string ⟨#[]⟩)) :=
        fun ty => Lib.run_clear_slice wr 22 9 ty (.string ⟨#[]⟩) Try.underlying22 Try.zeroValue9 rfl rfl g 15 2 (c - 15) (by decide) (fun j hj => hg5 (15 + j) (by omega)) (fun j _ => hg6 (15 + j))
      have hc15 : (15 : Int) ≤ (c : Int) := by omega
      clear hg5 hg6
      go_wp2_with fail
      go_ret
      refine ⟨rfl, own_past1 (own_past1 (own_cut1 (m := 15) HO2.out (by decide)) (by decide) _) (by decide) _, (HB2.out.setCell (p := ⟨g, 15, none⟩) ⟨_, rfl, rfl⟩ _).setCell (p := ⟨g, 16, none⟩) ⟨_, rfl, rfl⟩ _⟩

end Go.Proofs.Ythanclhnncaapaa.mk
