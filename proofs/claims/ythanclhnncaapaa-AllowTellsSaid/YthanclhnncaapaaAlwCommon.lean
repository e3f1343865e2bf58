/-
  The contract of Common: the tags that are not raw, and the attributes with the addresses behind them, in memory of their own.
-/
import Derived.Test.YthanclhnncaapaaAlwDel
import Derived.Test.YthanclhnncaapaaAlwTold
import Derived.Deep.RegionHeld3
import Derived.Deep.DeepCutAuto
namespace Go.Proofs.Ythanclhnncaapaa.mk
open Go.RowKit

theorem rowB_ge {w : World} {base n c : Nat} {A : Option Addr} {t : TypeId} {xs : List Value} (h : w.ownsRow base t 1 (.slice A n c) n xs) : ∀ b, RowB A b → base ≤ b ∧ b < w.heap.size := by
  rintro b ⟨a, rfl, rfl⟩
  exact h.lt a.block rfl
section
variable {w2 w3 w4 : World} {A : Option Addr} {c n : Nat} {t u : TypeId} {cs xs ys : List Value}
/-- the row of rows is made ahead of the tags -/
theorem com_i (hT : Below (w2.alloc (.cells cs.toArray u)).heap.size (w2.alloc (.cells cs.toArray u)) w3) (hoT : w3.ownsRow (w2.alloc (.cells cs.toArray u)).heap.size t 1 (.slice A 17 c) 17 xs) (hm : Moved (RowB A) w3 w4) (hoD : w4.ownsRow (w2.alloc (.cells cs.toArray u)).heap.size t 1 (.slice A n c) n ys) :
    Below w2.heap.size w2 w4 ∧ Lies w4 w4.heap.size (some ⟨w2.heap.size, 0, none⟩) cs ∧ w4.ownsRow w2.heap.size t 1 (.slice A n c) n ys := by
  have hs := rowB_ge hoT
  rw [World.size_alloc] at hT hoD hs
  have h1 : Below (w2.heap.size + 1) w3 w4 := hm.below (by have := hT.size; rw [World.size_alloc] at this; exact this) (fun k hk hS => by have := (hs k hS).1; omega)
  exact ⟨((Below.refl _ _).alloc (Nat.le_refl _) _).trans ((hT.trans h1).mono (Nat.le_succ _)), ((lies_new w2 u cs).below (hT.trans h1)).mono (by have := (hT.trans h1).size; rw [World.size_alloc] at this; exact this), own_mono hoD (Nat.le_succ _)⟩
/-- between the tags and what is struck out of them -/
theorem com_ii (hT : Below w2.heap.size w2 w3) (hoT : w3.ownsRow w2.heap.size t 1 (.slice A 17 c) 17 xs) (hm : Moved (RowB A) (w3.alloc (.cells cs.toArray u)) w4) (hoD : w4.ownsRow w2.heap.size t 1 (.slice A n c) n ys) :
    Below w2.heap.size w2 w4 ∧ Lies w4 w4.heap.size (some ⟨w3.heap.size, 0, none⟩) cs ∧ w4.ownsRow w2.heap.size t 1 (.slice A n c) n ys := by
  have hs := rowB_ge hoT
  have hz := hm.size
  rw [World.size_alloc] at hz
  have h1 : Below w2.heap.size (w3.alloc (.cells cs.toArray u)) w4 := hm.below (by have := hT.size; rw [World.size_alloc]; omega) (fun k hk hS => by have := (hs k hS).1; omega)
  have h2 : ∀ p : Addr, p.block = w3.heap.size → w4.cell? p = (w3.alloc (.cells cs.toArray u)).cell? p := fun p hp => by
    unfold World.cell?
    rw [hm.block p.block (by rw [World.size_alloc]; omega) (fun hS => by have := (hs _ hS).2; omega)]
  refine ⟨(hT.alloc hT.size _).trans h1, fun j x hx => ?_, hoD⟩
  obtain ⟨ad, e, hb, hc⟩ := lies_new w3 u cs j x hx
  cases e
  exact ⟨_, rfl, by show w3.heap.size < _; omega, (h2 _ (addr_block _ _)).trans hc⟩
/-- behind it -/
theorem com_iii (hT : Below w2.heap.size w2 w3) (hoT : w3.ownsRow w2.heap.size t 1 (.slice A 17 c) 17 xs) (hm : Moved (RowB A) w3 w4) (hoD : w4.ownsRow w2.heap.size t 1 (.slice A n c) n ys) :
    Below w2.heap.size w2 (w4.alloc (.cells cs.toArray u)) ∧ Lies (w4.alloc (.cells cs.toArray u)) (w4.alloc (.cells cs.toArray u)).heap.size (some ⟨w4.heap.size, 0, none⟩) cs ∧ (w4.alloc (.cells cs.toArray u)).ownsRow w2.heap.size t 1 (.slice A n c) n ys := by
  have hs := rowB_ge hoT
  have h1 : Below w2.heap.size w3 w4 := hm.below hT.size (fun k hk hS => by have := (hs k hS).1; omega)
  have h2 := hT.trans h1
  exact ⟨h2.alloc h2.size _, (lies_new w4 u cs).mono (by rw [World.size_alloc]; exact Nat.le_refl _), hoD.alloc _⟩
end

/-- what Common tells -/
def ComPost (w : World) (e : Ending) (w' : World) : Prop :=
  ∃ A c B d, e = .returned (.tuple #[.slice A 15 c, .slice B 7 d]) ∧ w'.ownsRow w.heap.size 9 1 (.slice A 15 c) 15 (txCells (tagL.take 15)) ∧ w'.ownsRow w.heap.size 9 1 (.slice B 7 d) 7 (txCells (attrL ++ addrL)) ∧
    (∀ b, RowB A b → ¬ RowB B b) ∧ Below w.heap.size w w'
theorem com_end {w W X w5 : World} {A B : Option Addr} {c d : Nat} (hw : Below w.heap.size w W) (h1 : Below W.heap.size W X) (h2 : X.ownsRow W.heap.size 9 1 (.slice A 15 c) 15 (txCells (tagL.take 15))) (h3 : w5.ownsRow X.heap.size 9 1 (.slice B 7 d) 7 (txCells (attrL ++ addrL))) (h4 : Below X.heap.size X w5) :
    ComPost w (.returned (.tuple #[.slice A 15 c, .slice B 7 d])) w5 :=
  ⟨A, c, B, d, rfl, own_mono (own_keep h2 h4) hw.size, own_mono h3 (Nat.le_trans hw.size h1.size), fun b ha hb => by have := (rowB_ge h2 b ha).2; have := (rowB_ge h3 b hb).1; omega, below_next (below_next hw (Nat.le_refl _) h1) (Nat.le_refl _) h4⟩

set_option maxHeartbeats 4000000 in
set_option maxRecDepth 100000 in
theorem common_any (w : World) : Calls Try.prog 5 #[] w (ComPost w) := by
  go_enter Try.func5, Try.ntmps5
  go_wp2_with fail
  refine (attrRow_any w).mono ?_
  rintro e w1 ⟨rfl, hb1⟩
  go_wp2_with fail
  refine (addrRow_any w1).mono ?_
  rintro e wa ⟨rfl, hba⟩
  have hb1a : Below w.heap.size w wa := below_next hb1 (Nat.le_refl _) hba
  go_upto_region 2 with fail
  obtain ⟨WS, hWS⟩ : ∃ WS : World, (wa.alloc (.cells (txCells attrL).toArray 30)).alloc (.cells (txCells addrL).toArray 32) = WS := ⟨_, rfl⟩
  have hbS : Below w.heap.size w WS := by rw [← hWS]; exact (hb1a.alloc hb1a.size _).alloc (by rw [World.size_alloc]; have := hb1a.size; omega) _
  have hlA : Lies WS WS.heap.size (some ⟨wa.heap.size, 0, none⟩) (txCells attrL) := by rw [← hWS]; exact lies_first
  have hlB : Lies WS WS.heap.size (some ⟨wa.heap.size + 1, 0, none⟩) (txCells addrL) := by rw [← hWS]; exact lies_second
  have HS := Lib.hid hbS
  have HT : Hid (∀ X g, Below WS.drew.heap.size WS.drew X → Lies X X.heap.size (some ⟨g, 0, none⟩) [.slice (some ⟨wa.heap.size, 0, none⟩) 5 5, .slice (some ⟨wa.heap.size + 1, 0, none⟩) 2 2] →
      Calls Try.prog 19 #[.slice (some ⟨g, 0, none⟩) 2 2] X fun e w' => (∃ A' c', e = .returned (.slice A' 7 c') ∧ w'.ownsRow X.heap.size 9 1 (.slice A' 7 c') 7 (txCells (attrL ++ addrL))) ∧ Below X.heap.size X w') := fun X g hb hl => by
    have h := told16_any _ 2 2 [(some ⟨wa.heap.size, 0, none⟩, 5, attrL), (some ⟨wa.heap.size + 1, 0, none⟩, 2, addrL)] X hl rfl (by decide) (fun r hr => by
      rcases List.mem_cons.1 hr with rfl | hr
      · exact hlA.drew.next hb (Nat.le_refl _)
      · rw [List.mem_singleton.1 hr]; exact hlB.drew.next hb (Nat.le_refl _)) (by rw [nms_two]; decide) (by rw [nms_two]; decide +kernel)
    rw [nms_two] at h
    exact h
  clear hlA hlB hbS hb1 hba hb1a
  have hWS' : (wa.alloc (.cells #[.string ⟨#[99, 108, 97, 115, 115]⟩, .string ⟨#[105, 100]⟩, .string ⟨#[116, 105, 116, 108, 101]⟩, .string ⟨#[97, 108, 116]⟩, .string ⟨#[110, 97, 109, 101]⟩] 30)).alloc (.cells #[.string ⟨#[104, 114, 101, 102]⟩, .string ⟨#[115, 114, 99]⟩] 32) = WS := hWS
  rw [hWS']
  clear hWS hWS'
  go_region_held3 (fun _ => True) (trivial)
    (first
      | (go_at_call 7; refine (alwTags_any _).mono ?_; rintro e w3 ⟨⟨A, c, rfl, hoT⟩, hbT⟩)
      | (go_at_call 18; refine (delRaw_any A c _ _ hoT).mono ?_; rintro e w4 ⟨rfl, hoD, hmD⟩)
      | (go_at_call 18; refine (delRaw_any A c _ _ (hoT.alloc _)).mono ?_; rintro e w4 ⟨rfl, hoD, hmD⟩)
      | (go_at_call 19; have hX := com_i (w2 := WS.drew) (u := 22) (cs := [.slice (some ⟨wa.heap.size, 0, none⟩) 5 5, .slice (some ⟨wa.heap.size + 1, 0, none⟩) 2 2]) hbT hoT hmD hoD; refine (HT.out _ _ hX.1 hX.2.1).mono ?_; rintro e w5 ⟨⟨B, d, rfl, hoB⟩, hbB⟩)
      | (go_at_call 19; have hX := com_ii (w2 := WS.drew) (u := 22) (cs := [.slice (some ⟨wa.heap.size, 0, none⟩) 5 5, .slice (some ⟨wa.heap.size + 1, 0, none⟩) 2 2]) hbT hoT hmD hoD; refine (HT.out _ _ hX.1 hX.2.1).mono ?_; rintro e w5 ⟨⟨B, d, rfl, hoB⟩, hbB⟩)
      | (go_at_call 19; have hX := com_iii (w2 := WS.drew) (u := 22) (cs := [.slice (some ⟨wa.heap.size, 0, none⟩) 5 5, .slice (some ⟨wa.heap.size + 1, 0, none⟩) 2 2]) hbT hoT hmD hoD; refine (HT.out _ _ hX.1 hX.2.1).mono ?_; rintro e w5 ⟨⟨B, d, rfl, hoB⟩, hbB⟩))
  all_goals
    have HE := Lib.hid (com_end HS.out.drew hX.1 hX.2.2 hoB hbB)
    clear hX hoB hbB hoD hmD hoT hbT
    go_wp2_with fail
    go_ret2
    exact HE.out

end Go.Proofs.Ythanclhnncaapaa.mk
