/-
  The contract of scheme's Names.
-/
import Derived.Test.YtpbpnffbaelcaaaSchKnown
import Derived.Test.YtpbpnffbaelcaaaMarkFix
import Derived.Laws.OwnMore
namespace Go.Proofs.Ytpbpnffbaelcaaa.mk
open Go.RowKit

def namesL : List Value := [.string httpT, .string httpsT, .string mailtoT]
theorem name_at (k : Nat) (h : k < 3) : ∃ x : ByteArray, x.size ≤ 6 ∧ namesL[k]? = some (.string x) ∧ ∀ w : World, (Instr.index 47 (.agg #[.string httpT, .string httpsT, .string mailtoT]) (.int .i64 (k : Int))).run Try.prog w = .ok (.string x) w := by
  obtain rfl | rfl | rfl : k = 0 ∨ k = 1 ∨ k = 2 := by omega
  · exact ⟨httpT, by decide, rfl, fun w => index_http _ _ _ w⟩
  · exact ⟨httpsT, by decide, rfl, fun w => index_https _ _ _ w⟩
  · exact ⟨mailtoT, by decide, rfl, fun w => index_mailto _ _ _ w⟩

theorem string_info : (Try.prog.info? 9).map (fun i => (i.zero, i.size, i.bytes)) = some (some (.string .empty), 1, 16) := by kernel_rfl
theorem cells_made (w : World) (t : TypeId) (x : Value) : ∀ j u, [x][j]? = some u → (w.alloc (.cells #[x] t)).cell? ((⟨w.heap.size, 0, none⟩ : Addr).add j) = some u := cells_new w t [x]

def NamesRel (w0 : World) (v i : Value) (wr : World) : Prop :=
  ∃ k : Nat, k ≤ 3 ∧ i = .int .i64 (k : Int) ∧ wr.ownsRow w0.heap.size 9 1 v k (namesL.take k) ∧ Below w0.heap.size w0 wr

set_option maxHeartbeats 400000 in
set_option maxRecDepth 100000 in
theorem names_any (w : World) : Calls Try.prog 16 #[] w fun e w' => (∃ A c, e = .returned (.slice A 3 c) ∧ w'.ownsRow w.heap.size 9 1 (.slice A 3 c) 3 namesL) ∧ Below w.heap.size w w' := by
  obtain ⟨i0, hi, hz0, hz1, hz2⟩ := info_parts string_info
  go_enter Try.func16, Try.ntmps16
  go_wp2_with fail
  refine (schemes_any w).mono ?_
  rintro e w1 ⟨rfl, hb1⟩
  go_wp2_with fail
  obtain ⟨wo, rfl⟩ : ∃ wo : World, wo = w1 := ⟨_, rfl⟩
  go_loopw [1, 5] (NamesRel w) (fun _ i _ => 3 - (intOf i).toNat)
  case atStart => exact ⟨0, by omega, rfl, World.ownsRow_nil _ _ _ _, hb1⟩
  case round =>
    obtain ⟨k, hk, rfl, hown, hbl⟩ := hrel
    have hws := hbl.size
    obtain ⟨A3, d3, rfl, _, _, _⟩ := own_form hown
    by_cases hlt : k < 3
    · obtain ⟨x, hx, hat, ft⟩ := name_at k hlt
      have hk3 : (k : Int) < 3 := by omega
      have HAT := Lib.hid hat
      have HOWN := Lib.hid hown
      clear hat hown
      go_wp2_with fail
      refine (clone_any x _ (by omega)).mono ?_
      rintro e w2 ⟨rfl, hb2⟩
      have hbl2 : Below w.heap.size w w2 := below_next hbl (Nat.le_refl _) hb2
      have hz2' := hb2.size
      have HOWN2 := Lib.hid (own_keep HOWN.out hb2)
      go_wp2_with (at_builtin; refine wpList_append_own_at _ rfl _ _ 36 rfl w.heap.size 9 i0 _ 1 16 Try.underlying36 hi hz0 hz1 hz2 rfl (by decide) (.slice A3 k d3) k (namesL.take k) rfl (HOWN2.out.alloc _) ⟨w2.heap.size, 0, none⟩ 1 1 [.string x] rfl rfl (cells_made w2 _ _) (by simp [Value.oneCell']) (by simp only [maxLen]; omega) (by omega) (by simp; omega) ?_)
      intro v' w3 h1 h2 _ h3
      have hbl3 : Below w.heap.size w w3 := ((hbl2.alloc (by omega) _).grown h2 (by simp; omega) (fun y hy => (HOWN2.out.lt y hy).1))
      go_wp2
      go_roundw
      case rel => exact ⟨k + 1, by omega, by go_num, by rw [take_next HAT.out]; exact h1, hbl3⟩
      case measure => simp [intOf]; omega
    · obtain rfl : k = 3 := by omega
      go_wp2_with fail
      go_ret
      exact ⟨⟨A3, d3, rfl, hown⟩, hbl⟩

end Go.Proofs.Ytpbpnffbaelcaaa.mk
