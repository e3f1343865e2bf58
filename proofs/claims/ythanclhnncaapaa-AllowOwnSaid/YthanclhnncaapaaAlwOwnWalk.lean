/-
  The walk of AllowOwn.
-/
import Derived.Test.YthanclhnncaapaaAlwTellsWalk
namespace Go.Proofs.Ythanclhnncaapaa.mk
open Go.RowKit

/-- three rows of the call's own, in blocks of their own, whatever stands in them -/
def Own3 (g1 c1 g2 c2 g3 c3 : Nat) (w0 wr : World) : Prop :=
  (∃ xs, wr.ownsRow w0.heap.size 9 1 (.slice (some ⟨g1, 0, none⟩) 17 c1) 17 xs) ∧ (∃ xs, wr.ownsRow w0.heap.size 9 1 (.slice (some ⟨g2, 0, none⟩) 15 c2) 15 xs) ∧
    (∃ xs, wr.ownsRow w0.heap.size 9 1 (.slice (some ⟨g3, 0, none⟩) 7 c3) 7 xs) ∧ (g1 ≠ g2 ∧ g1 ≠ g3 ∧ g2 ≠ g3) ∧ Below w0.heap.size w0 wr
theorem own_other {w : World} {base g n c g' k : Nat} {t : TypeId} {xs : List Value} (h : w.ownsRow base t 1 (.slice (some ⟨g, 0, none⟩) n c) n xs) (hg : g ≠ g') (u : Value) : (w.setCell ⟨g', k, none⟩ u).ownsRow base t 1 (.slice (some ⟨g, 0, none⟩) n c) n xs :=
  own_far h _ (fun e => hg (by simpa [Value.ownBlock] using e)) u
section
variable {g1 c1 g2 c2 g3 c3 k : Nat} {w0 wr : World}
theorem Own3.set1 (h : Own3 g1 c1 g2 c2 g3 c3 w0 wr) (u : Value) : Own3 g1 c1 g2 c2 g3 c3 w0 (wr.setCell ⟨g1, k, none⟩ u) := by
  obtain ⟨⟨x1, h1⟩, ⟨x2, h2⟩, ⟨x3, h3⟩, ⟨n1, n2, n3⟩, hb⟩ := h
  exact ⟨⟨_, own_set1 h1 u⟩, ⟨_, own_other h2 (Ne.symm n1) u⟩, ⟨_, own_other h3 (Ne.symm n2) u⟩, ⟨n1, n2, n3⟩, hb.setCell (p := ⟨g1, k, none⟩) (h1.lt g1 rfl).1 u⟩
theorem Own3.set2 (h : Own3 g1 c1 g2 c2 g3 c3 w0 wr) (u : Value) : Own3 g1 c1 g2 c2 g3 c3 w0 (wr.setCell ⟨g2, k, none⟩ u) := by
  obtain ⟨⟨x1, h1⟩, ⟨x2, h2⟩, ⟨x3, h3⟩, ⟨n1, n2, n3⟩, hb⟩ := h
  exact ⟨⟨_, own_other h1 n1 u⟩, ⟨_, own_set1 h2 u⟩, ⟨_, own_other h3 (Ne.symm n3) u⟩, ⟨n1, n2, n3⟩, hb.setCell (p := ⟨g2, k, none⟩) (h2.lt g2 rfl).1 u⟩
theorem Own3.set3 (h : Own3 g1 c1 g2 c2 g3 c3 w0 wr) (u : Value) : Own3 g1 c1 g2 c2 g3 c3 w0 (wr.setCell ⟨g3, k, none⟩ u) := by
  obtain ⟨⟨x1, h1⟩, ⟨x2, h2⟩, ⟨x3, h3⟩, ⟨n1, n2, n3⟩, hb⟩ := h
  exact ⟨⟨_, own_other h1 n2 u⟩, ⟨_, own_other h2 n3 u⟩, ⟨_, own_set1 h3 u⟩, ⟨n1, n2, n3⟩, hb.setCell (p := ⟨g3, k, none⟩) (h3.lt g3 rfl).1 u⟩
theorem own_at {base g n c : Nat} {t : TypeId} {xs : List Value} (h : wr.ownsRow base t 1 (.slice (some ⟨g, 0, none⟩) n c) n xs) (hn : 0 < n) (hk : k < n) : (∃ u, wr.cell? ⟨g, k, none⟩ = some u) ∧ wr.frozen? ⟨g, k, none⟩ = false := by
  obtain ⟨g', e, _, _, _, _, h5, h6⟩ := own_block1 h hn
  cases e
  exact ⟨Option.isSome_iff_exists.1 (h5 k hk), h6 k⟩
end
def Own3Rel (n g1 c1 g2 c2 g3 c3 : Nat) (w0 : World) (i : Value) (wr : World) : Prop :=
  ∃ k : Nat, k ≤ n ∧ i = .int .i64 (k : Int) ∧ Own3 g1 c1 g2 c2 g3 c3 w0 wr
theorem div_no : hasT attrL ⟨#[100, 105, 118]⟩ = false := by decide +kernel

set_option maxHeartbeats 4000000 in
set_option maxRecDepth 100000 in
theorem allowOwn_any (x : ByteArray) (w : World) : Calls Try.prog 4 #[.string x] w fun e w' => e = .returned (.bool true) ∧ Below w.heap.size w w' := by
  go_enter Try.func4, Try.ntmps4
  go_wp2_with fail
  refine (alive16_any w).mono ?_
  rintro e w1 ⟨rfl, hb1⟩
  go_wp2_with fail
  refine (alwTags_any w1).mono ?_
  rintro e w2 ⟨⟨L, c1, rfl, ho2⟩, hb2⟩
  have HB2 := Lib.hid (below_next hb1 (Nat.le_refl _) hb2)
  have HO2 := Lib.hid ho2
  have HZ1 := Lib.hid hb1.size
  clear ho2 hb2 hb1
  go_wp2_with fail
  refine (common_any w2).mono ?_
  rintro e w3 ⟨A, c2, B, c3, rfl, hoA, hoB, hne, hb3⟩
  have hoL := own_keep HO2.out hb3
  obtain ⟨g1, rfl, p1, p2, _, _, _, _⟩ := own_block1 HO2.out (by decide)
  obtain ⟨g2, rfl, p3, p4, _, _, _, _⟩ := own_block1 hoA (by decide)
  obtain ⟨g3, rfl, p5, p6, _, _, _, _⟩ := own_block1 hoB (by decide)
  have H3 : Hid (Own3 g1 c1 g2 c2 g3 c3 w w3) :=
    ⟨⟨_, own_mono hoL HZ1.out⟩, ⟨_, own_mono hoA HB2.out.size⟩, ⟨_, own_mono hoB HB2.out.size⟩, ⟨by omega, by omega, fun e => hne g2 ⟨_, rfl, rfl⟩ (by rw [e]; exact ⟨_, rfl, rfl⟩)⟩, below_next HB2.out (Nat.le_refl _) hb3⟩
  clear hoL hoA hoB hne hb3 HO2 HB2 HZ1 p1 p2 p3 p4 p5 p6
  go_wp2_with fail
  go_loopw [6] (Own3Rel 17 g1 c1 g2 c2 g3 c3 w) (fun i _ => 17 - (intOf i).toNat)
  case atStart => exact ⟨0, Nat.zero_le _, rfl, H3.out⟩
  case round =>
    obtain ⟨k, hk, rfl, h⟩ := hrel
    have HR := Lib.hid h
    clear h
    by_cases hlt : k < 17
    · obtain ⟨xs, hx⟩ := HR.out.1
      obtain ⟨⟨u, hu⟩, hf⟩ := own_at hx (by decide) hlt
      have hk0 : (0 : Int) ≤ (k : Int) := Int.natCast_nonneg _
      have hk1 : (k : Int) < 17 := by omega
      clear hx
      go_wp2_with fail
      go_roundw
      case rel => exact ⟨k + 1, by omega, by go_num, HR.out.set1 _⟩
      case measure => simp [intOf]; omega
    · have hk1 : ¬ (k : Int) < 17 := by omega
      go_wp2_with fail
      obtain ⟨wa, rfl⟩ : ∃ wa : World, wa = wr := ⟨_, rfl⟩
      go_loopw [7] (Own3Rel 15 g1 c1 g2 c2 g3 c3 w) (fun i _ => 15 - (intOf i).toNat)
      case atStart => exact ⟨0, Nat.zero_le _, rfl, HR.out⟩
      case round =>
        obtain ⟨k2, hk2, rfl, h⟩ := hrel
        have HR2 := Lib.hid h
        clear h
        by_cases hlt2 : k2 < 15
        · obtain ⟨xs, hx⟩ := HR2.out.2.1
          obtain ⟨⟨u, hu⟩, hf⟩ := own_at hx (by decide) hlt2
          have hk20 : (0 : Int) ≤ (k2 : Int) := Int.natCast_nonneg _
          have hk21 : (k2 : Int) < 15 := by omega
          clear hx
          go_wp2_with fail
          go_roundw
          case rel => exact ⟨k2 + 1, by omega, by go_num, HR2.out.set2 _⟩
          case measure => simp [intOf]; omega
        · have hk21 : ¬ (k2 : Int) < 15 := by omega
          go_wp2_with fail
          obtain ⟨wb, rfl⟩ : ∃ wb : World, wb = wr := ⟨_, rfl⟩
          go_loopw [8] (Own3Rel 7 g1 c1 g2 c2 g3 c3 w) (fun i _ => 7 - (intOf i).toNat)
          case atStart => exact ⟨0, Nat.zero_le _, rfl, HR2.out⟩
          case round =>
            obtain ⟨k3, hk3, rfl, h⟩ := hrel
            have HR3 := Lib.hid h
            clear h
            by_cases hlt3 : k3 < 7
            · obtain ⟨xs, hx⟩ := HR3.out.2.2.1
              obtain ⟨⟨u, hu⟩, hf⟩ := own_at hx (by decide) hlt3
              have hk30 : (0 : Int) ≤ (k3 : Int) := Int.natCast_nonneg _
              have hk31 : (k3 : Int) < 7 := by omega
              clear hx
              go_wp2_with fail
              go_roundw
              case rel => exact ⟨k3 + 1, by omega, by go_num, HR3.out.set3 _⟩
              case measure => simp [intOf]; omega
            · have hk31 : ¬ (k3 : Int) < 7 := by omega
              have HBE := Lib.hid HR3.out.2.2.2.2
              clear HR HR2 HR3 H3
              go_wp2_with fail
              refine (tagIs_any _ _).mono ?_
              rw [div_yes]
              rintro e w5 ⟨rfl, hb5⟩
              have HB5 : Hid (Below w.heap.size w w5) := below_next HBE.out (Nat.le_refl _) hb5
              clear hb5
              go_wp2_with fail
              refine (alwTags_any _).mono ?_
              rintro e w6 ⟨⟨C, d, rfl, _⟩, hb6⟩
              have HB6 : Hid (Below w.heap.size w w6) := below_next HB5.out (Nat.le_refl _) hb6
              clear hb6
              go_wp2_with fail
              refine (alwTags_any _).mono ?_
              rintro e w7 ⟨⟨D, d2, rfl, ho7⟩, hb7⟩
              have HB7 : Hid (Below w.heap.size w w7) := below_next HB6.out (Nat.le_refl _) hb7
              obtain ⟨g7, rfl, _, _, _, _, _, _⟩ := own_block1 ho7 (by decide)
              have d0 : w7.cell? ⟨g7, 0, none⟩ = some (.string ⟨#[100, 105, 118]⟩) := by
                obtain ⟨ad, e, _, hc⟩ := (Lies.own ho7) 0 (.string ⟨#[100, 105, 118]⟩) rfl
                cases e
                exact hc
              clear hb7 ho7
              go_wp2_with fail
              refine (attrIs_any _ _).mono ?_
              rw [div_no]
              rintro e w8 ⟨rfl, hb8⟩
              have HB8 : Hid (Below w.heap.size w w8) := below_next HB7.out (Nat.le_refl _) hb8
              clear hb8
              go_wp2_with fail
              go_ret
              exact ⟨rfl, HB8.out⟩

end Go.Proofs.Ythanclhnncaapaa.mk
