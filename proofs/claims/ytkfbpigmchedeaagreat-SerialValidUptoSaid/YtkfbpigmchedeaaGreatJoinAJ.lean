/-
  The walk of the statement SerialValid.
-/
import Derived.Test.YtkfbpigmchedeaaGreatJoinAH
import Derived.Test.YtkfbpigmchedeaaGreatJoinAF
import Derived.Test.YtkfbpigmchedeaaGreatJoinU
namespace Go.Proofs.YtkfbpigmchedeaaGreat.mk
open Go.RowKit

set_option maxHeartbeats 2000000 in
set_option maxRecDepth 100000 in
theorem serialValid_any (A : Option Addr) (n c : Nat) (ts : List TT) (w : World) (h : TreesIn0 w A n ts) (hsz : szL (chL ts) ≤ 1048576) :
    Calls Tryz.prog 3 #[.slice A n c] w fun e w' => e = .returned (.bool true) ∧ Below w.heap.size w w' := by
  have HI := Lib.hid h
  have HSZ := Lib.hid hsz
  have HS : Hid (∀ w', Below w.heap.size w w' → Calls Tryz.prog 5 #[.slice A n c] w' fun e w'' => e = .returned (.int .i64 (wtL (mergeP (chL ts)) : Int)) ∧ Below w'.heap.size w' w'') := fun w' hb => by
    have h2 := h.next hb
    exact size_any A n c ts w' h2.lies h2.all h2.len (fun _ h => h) h2.bulk
  have HH : Hid (∀ w', Below w.heap.size w w' → Calls Tryz.prog 6 #[.slice A n c] w' (HtmlPost (chL ts) w')) := fun w' hb => html_any A n c ts w' (h.next hb) hsz
  clear h hsz
  go_enter Tryz.func3, Tryz.ntmps3
  go_wp2_with fail
  refine (alive12_any w).mono ?_
  rintro e w1 ⟨rfl, hb1⟩
  have HB1 := Lib.hid hb1
  clear hb1
  go_wp2_with fail
  refine (HS.out w1 HB1.out).mono ?_
  generalize wtL (mergeP (chL ts)) = sz at *
  rintro e w2 ⟨rfl, hb2⟩
  have HB2 : Hid (Below w.heap.size w w2) := below_next HB1.out (Nat.le_refl _) hb2
  clear hb2 HS
  by_cases hbig : (200 : Int) < (sz : Int)
  · go_wp2_with fail
    go_ret
    exact ⟨rfl, HB2.out⟩
  · go_wp2_with fail
    refine (HH.out w2 HB2.out).mono ?_
    rintro e w3 ⟨hb3, h⟩
    have HB3 : Hid (Below w.heap.size w w3) := below_next HB2.out (Nat.le_refl _) hb3
    clear hb3 HH
    rcases h with ⟨hf, ht, t, rfl, hch⟩ | ⟨_, rfl⟩ | ⟨_, rfl⟩
    · have HV : Hid (validB t.s.data.toList = true) := by
        have h1 := html_valid hf
        rw [← hch.out.1, LT.ch_fst] at h1
        exact h1
      have HZ : Hid (t.s.size ≤ 65536) := by
        have h1 : t.ch.length = totL (putL (chL ts) false) := by rw [hch.out.1]; rfl
        rw [LT.ch_length] at h1
        show _ ≤ _
        omega
      clear hf ht hch
      generalize hw4 : w3.alloc (.cells #[.string t.s, .slice t.A t.n t.c] 27) = w4
      have y4 : Whole w4 w3.heap.size 27 #[.string t.s, .slice t.A t.n t.c] := by rw [← hw4]; exact Whole.made _ _ _
      have hb4 : Below w3.heap.size w3 w4 := by rw [← hw4]; exact (Below.refl _ _).alloc (Nat.le_refl _) _
      have c0 : w4.cell? ⟨w3.heap.size, 0, none⟩ = some (.string t.s) := y4.at_ 0
      have HB4 : Hid (Below w.heap.size w w4) := below_next HB3.out (Nat.le_refl _) hb4
      clear y4 hb4
      go_wp2_with fail
      refine (refValid_any t.s w4 (by have := HZ.out; omega)).mono ?_
      rw [HV.out]
      rintro e w5 ⟨rfl, hb5⟩
      go_wp2_with fail
      go_ret
      exact ⟨rfl, below_next HB4.out (Nat.le_refl _) hb5⟩
    · go_wp2_with fail
      go_ret
      exact ⟨rfl, HB3.out.alloc HB3.out.size _⟩
    · go_wp2_with fail
      go_ret
      exact ⟨rfl, HB3.out.alloc HB3.out.size _⟩

end Go.Proofs.YtkfbpigmchedeaaGreat.mk
