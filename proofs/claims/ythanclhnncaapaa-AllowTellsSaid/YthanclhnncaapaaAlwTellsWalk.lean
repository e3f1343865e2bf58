/-
  The walk of AllowTells.
-/
import Derived.Test.YthanclhnncaapaaAlwCommon
import Derived.Test.YthanclhnncaapaaTexts
namespace Go.Proofs.Ythanclhnncaapaa.mk
open Go.RowKit

theorem Lies.pre {w : World} {B : Nat} {A : Option Addr} {xs ys : List Value} (h : Lies w B A (xs ++ ys)) : Lies w B A xs := fun j u hu => by
  have hj := (List.getElem?_eq_some_iff.1 hu).1
  exact h j u (by rw [List.getElem?_append_left hj]; exact hu)
theorem Lies.suf {w : World} {B : Nat} {a : Addr} {xs ys : List Value} (h : Lies w B (some a) (xs ++ ys)) : Lies w B (some (a.add xs.length)) ys := fun j u hu => by
  obtain ⟨ad, e, hb, hc⟩ := h (xs.length + j) u (by rw [List.getElem?_append_right (Nat.le_add_right _ _), Nat.add_sub_cancel_left]; exact hu)
  cases e
  exact ⟨_, rfl, by rw [addr_block]; exact hb, by rw [addr_add]; exact hc⟩

theorem iframe_no : hasT tagL ⟨#[105, 102, 114, 97, 109, 101]⟩ = false := by decide +kernel
theorem div_yes : hasT tagL ⟨#[100, 105, 118]⟩ = true := by decide +kernel

set_option maxHeartbeats 2000000 in
set_option maxRecDepth 100000 in
theorem alive16_any (w : World) : Calls Try.prog 15 #[] w fun e w' => e = .returned (.bool true) ∧ Below w.heap.size w w' := by
  go_enter Try.func15, Try.ntmps15
  go_wp2_with fail
  refine (tagIs_any _ _).mono ?_
  rw [iframe_no]
  rintro e w1 ⟨rfl, hb1⟩
  go_wp2_with fail
  refine (tagIs_any _ _).mono ?_
  rw [div_yes]
  rintro e w2 ⟨rfl, hb2⟩
  go_wp2_with fail
  refine (alwTags_any _).mono ?_
  rintro e w3 ⟨⟨A, c, rfl, ho⟩, hb3⟩
  have HB := Lib.hid (below_next (below_next hb1 (Nat.le_refl _) hb2) (Nat.le_refl _) hb3)
  clear ho hb1 hb2 hb3
  go_wp2_with fail
  go_ret
  exact ⟨rfl, HB.out⟩

theorem lies_made {X w' : World} {t : TypeId} {cs : List Value} (h : Below (X.alloc (.cells cs.toArray t)).heap.size (X.alloc (.cells cs.toArray t)) w') : Lies w' w'.heap.size (some ⟨X.heap.size, 0, none⟩) cs := by
  have h1 := lies_new X t cs
  have h2 := h.size
  rw [World.size_alloc] at h h2
  exact (h1.below h).mono h2
theorem lies_made0 {X : World} {t : TypeId} {cs : List Value} : Lies (X.alloc (.cells cs.toArray t)) (X.alloc (.cells cs.toArray t)).heap.size (some ⟨X.heap.size, 0, none⟩) cs := by
  have h1 := lies_new X t cs
  rw [World.size_alloc]
  exact h1
theorem tag_cut15 : txCells tagL = txCells (tagL.take 15) ++ txCells rawL := rfl
theorem tag_cut12 : txCells tagL = txCells (tagL.take 12) ++ (txCells voidL ++ txCells rawL) := rfl
theorem att_cut5 : txCells (attrL ++ addrL) = txCells attrL ++ txCells addrL := rfl

set_option maxHeartbeats 4000000 in
set_option maxRecDepth 100000 in
theorem allowTells_any (x : ByteArray) (w : World) : Calls Try.prog 3 #[.string x] w fun e w' => e = .returned (.bool true) ∧ Below w.heap.size w w' := by
  go_enter Try.func3, Try.ntmps3
  go_wp2_with fail
  generalize hW2 : (w.alloc (.cells #[.string ⟨#[100, 105, 118]⟩, .string ⟨#[115, 112, 97, 110]⟩, .string ⟨#[112]⟩, .string ⟨#[97]⟩, .string ⟨#[117, 108]⟩, .string ⟨#[108, 105]⟩, .string ⟨#[98]⟩, .string ⟨#[105]⟩, .string ⟨#[101, 109]⟩, .string ⟨#[115, 116, 114, 111, 110, 103]⟩, .string ⟨#[104, 49]⟩, .string ⟨#[104, 50]⟩, .string ⟨#[98, 114]⟩, .string ⟨#[104, 114]⟩, .string ⟨#[105, 109, 103]⟩, .string ⟨#[115, 99, 114, 105, 112, 116]⟩, .string ⟨#[115, 116, 121, 108, 101]⟩] 9)).alloc (.cells #[.string ⟨#[99, 108, 97, 115, 115]⟩, .string ⟨#[105, 100]⟩, .string ⟨#[116, 105, 116, 108, 101]⟩, .string ⟨#[97, 108, 116]⟩, .string ⟨#[110, 97, 109, 101]⟩, .string ⟨#[104, 114, 101, 102]⟩, .string ⟨#[115, 114, 99]⟩] 9) = W2
  have hb2 : Below w.heap.size w W2 := by rw [← hW2]; exact ((Below.refl _ _).alloc (Nat.le_refl _) _).alloc (by rw [World.size_alloc]; exact Nat.le_succ _) _
  have hlA : Lies W2 W2.heap.size (some ⟨w.heap.size, 0, none⟩) (txCells tagL) := by rw [← hW2]; exact lies_first (cs := txCells tagL)
  have hlB : Lies W2 W2.heap.size (some ⟨w.heap.size + 1, 0, none⟩) (txCells (attrL ++ addrL)) := by rw [← hW2]; exact lies_second (cs := txCells (attrL ++ addrL))
  have HA1 : Hid (∀ X, Below W2.heap.size W2 X → Lies X X.heap.size (some ⟨w.heap.size, 0, none⟩) (txCells tagL)) := fun X h => hlA.next h (Nat.le_refl _)
  have HA2 : Hid (∀ X, Below W2.heap.size W2 X → Lies X X.heap.size (some ⟨w.heap.size, 0, none⟩) (txCells (tagL.take 15))) := fun X h => by have h1 := hlA.next h (Nat.le_refl _); rw [tag_cut15] at h1; exact h1.pre
  have HA3 : Hid (∀ X, Below W2.heap.size W2 X → Lies X X.heap.size (some ⟨w.heap.size, 15, none⟩) (txCells rawL)) := fun X h => by have h1 := hlA.next h (Nat.le_refl _); rw [tag_cut15] at h1; exact h1.suf
  have HA4 : Hid (∀ X, Below W2.heap.size W2 X → Lies X X.heap.size (some ⟨w.heap.size, 12, none⟩) (txCells voidL)) := fun X h => by have h1 := hlA.next h (Nat.le_refl _); rw [tag_cut12] at h1; exact h1.suf.pre
  have HB1 : Hid (∀ X, Below W2.heap.size W2 X → Lies X X.heap.size (some ⟨w.heap.size + 1, 0, none⟩) (txCells (attrL ++ addrL))) := fun X h => hlB.next h (Nat.le_refl _)
  have HB2 : Hid (∀ X, Below W2.heap.size W2 X → Lies X X.heap.size (some ⟨w.heap.size + 1, 0, none⟩) (txCells attrL)) := fun X h => by have h1 := hlB.next h (Nat.le_refl _); rw [att_cut5] at h1; exact h1.pre
  have HB3 : Hid (∀ X, Below W2.heap.size W2 X → Lies X X.heap.size (some ⟨w.heap.size + 1, 5, none⟩) (txCells addrL)) := fun X h => by have h1 := hlB.next h (Nat.le_refl _); rw [att_cut5] at h1; exact h1.suf
  have HW2 := Lib.hid hb2
  clear hW2 hb2 hlA hlB
  refine (common_any W2).mono ?_
  rintro e w3 ⟨A, c, B, d, rfl, hoA, hoB, _, hb3⟩
  have HOA := Lib.hid (Lies.own hoA)
  have HOB := Lib.hid (Lies.own hoB)
  have HK3 := Lib.hid hb3
  clear hoA hoB hb3
  go_wp2_with fail
  refine (alwTags_any _).mono ?_
  rintro e w4 ⟨⟨C, k, rfl, hoC⟩, hb4⟩
  have HK4 : Hid (Below W2.heap.size W2 w4) := below_next HK3.out (Nat.le_refl _) hb4
  have HOA4 : Hid (Lies w4 w4.heap.size A (txCells (tagL.take 15))) := HOA.out.next hb4 (Nat.le_refl _)
  have HOB4 : Hid (Lies w4 w4.heap.size B (txCells (attrL ++ addrL))) := HOB.out.next hb4 (Nat.le_refl _)
  have HOC4 := Lib.hid (Lies.own hoC)
  clear hoC hb4
  go_wp2_with fail
  refine (texts_true C 17 k tagL _ 17 _ HOC4.out (HA1.out _ HK4.out) rfl (by decide)).mono ?_
  rintro e w5 ⟨rfl, hb5⟩
  have HK5 : Hid (Below W2.heap.size W2 w5) := below_next HK4.out (Nat.le_refl _) hb5
  have HOA5 : Hid (Lies w5 w5.heap.size A (txCells (tagL.take 15))) := HOA4.out.next hb5 (Nat.le_refl _)
  have HOB5 : Hid (Lies w5 w5.heap.size B (txCells (attrL ++ addrL))) := HOB4.out.next hb5 (Nat.le_refl _)
  clear hb5
  go_wp2_with fail
  refine (texts_true A 15 c (tagL.take 15) _ 17 _ HOA5.out (HA2.out _ HK5.out) rfl (by decide)).mono ?_
  rintro e w6 ⟨rfl, hb6⟩
  have HK6 : Hid (Below W2.heap.size W2 w6) := below_next HK5.out (Nat.le_refl _) hb6
  have HOB6 : Hid (Lies w6 w6.heap.size B (txCells (attrL ++ addrL))) := HOB5.out.next hb6 (Nat.le_refl _)
  clear hb6
  go_wp2_with fail
  refine (texts_true B 7 d (attrL ++ addrL) _ 7 _ HOB6.out (HB1.out _ HK6.out) rfl (by decide)).mono ?_
  rintro e w7 ⟨rfl, hb7⟩
  have HK7 : Hid (Below W2.heap.size W2 w7) := below_next HK6.out (Nat.le_refl _) hb7
  clear hb7
  go_upto_region 6 with fail
  clear HOA HOB HOC4 HOA4 HOB4 HOA5 HOB5 HOB6 HK3 HK4 HK5 HK6
  go_region_held3 (fun w' => Below W2.heap.size W2 w')
    (first
      | exact Below.drew HK7.out
      | exact below_next (by assumption) (Nat.le_refl _) hbC
      | exact Below.alloc (by assumption) (Below.size (by assumption)) _)
    (first
      | (go_at_call 8; refine (tagIs_any x _).mono ?_; rintro e wn ⟨rfl, hbC⟩)
      | (go_at_call 10; refine (attrIs_any x _).mono ?_; rintro e wn ⟨rfl, hbC⟩)
      | (go_at_call 11; refine (addrIs_any x _).mono ?_; rintro e wn ⟨rfl, hbC⟩)
      | (go_at_call 12; refine (handIs_any x _).mono ?_; rintro e wn ⟨rfl, hbC⟩)
      | (go_at_call 13; refine (rawIs_any x _).mono ?_; rintro e wn ⟨rfl, hbC⟩)
      | (go_at_call 14; refine (voidIs_any x _).mono ?_; rintro e wn ⟨rfl, hbC⟩)
      | (go_at_call 15; refine (alive16_any _).mono ?_; rintro e wn ⟨rfl, hbC⟩)
      | (go_at_call 9; refine (in16_any x _ _ _ _ _ (by first | exact HA1.out _ (by assumption) | exact HB2.out _ (by assumption) | exact HB3.out _ (by assumption) | exact HA3.out _ (by assumption) | exact HA4.out _ (by assumption) | exact lies_made (cs := txCells handL) hbC | exact lies_made0 (cs := txCells handL)) (by rfl) (by decide)).mono ?_; rintro e wn ⟨rfl, hbC⟩))
  all_goals
    have HE : Hid (Below w.heap.size w wn) := below_next HW2.out (Nat.le_refl _) (by assumption)
    go_wp2_with fail
    go_ret
    exact ⟨rfl, HE.out⟩

end Go.Proofs.Ythanclhnncaapaa.mk
