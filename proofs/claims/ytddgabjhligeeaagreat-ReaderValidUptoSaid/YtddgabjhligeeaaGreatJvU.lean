/-
  Contracts of the reference's All, and of Ints.
-/
import Derived.Test.YtddgabjhligeeaaGreatJvO
import Derived.Test.YtddgabjhligeeaaGreatJvS
namespace Go.Proofs.YtddgabjhligeeaaGreat.mk
open Go.RowKit

/-- bytes of one origin -/
def allCh (bs : List UInt8) (o : Int) : List (UInt8 × Int) := bs.map fun b => (b, nearO o)
theorem allCh_fst (bs : List UInt8) (o : Int) : (allCh bs o).map (·.1) = bs := by unfold allCh; rw [List.map_map]; exact List.map_id' _
def AllRel (s : ByteArray) (o : Int) (w0 : World) (v i : Value) (wr : World) : Prop :=
  ∃ k : Nat, k ≤ s.size ∧ i = .int .i64 k ∧ wr.ownsRow w0.heap.size 135 2 v k (chCells ((allCh s.data.toList o).take k)) ∧ Below w0.heap.size w0 wr

set_option maxHeartbeats 1000000 in
set_option maxRecDepth 100000 in
theorem all_any (s : ByteArray) (o : Int) (w : World) (hs : s.size ≤ 4294967296) :
    Calls Tryz.prog 101 #[.string s, .int .i64 o] w fun e w' => ∃ v, e = .returned v ∧ w'.ownsRow w.heap.size 135 2 v s.size (chCells (allCh s.data.toList o)) ∧ Below w.heap.size w w' := by
  obtain ⟨i0, hi, hz0, hz1, hz2⟩ := info_parts ch_info
  have hsl : s.data.toList.length = s.size := by rw [Array.length_toList]; rfl
  have HSL := Lib.hid hsl
  clear hsl
  go_enter Tryz.func101, Tryz.ntmps101
  go_wp2_with fail
  go_loopw [5, 6] (AllRel s o w) (fun _ i _ => s.size - (intOf i).toNat)
  case atStart => exact ⟨0, Nat.zero_le _, rfl, by simpa [chCells] using World.ownsRow_nil _ _ _ _, Below.refl _ _⟩
  case round =>
    obtain ⟨k, hk, rfl, hown, hbl⟩ := hrel
    have hws := hbl.size
    obtain ⟨A3, d3, rfl, _, _, _⟩ := own_form hown
    by_cases hlt : k < s.size
    · have HNX : Hid ((allCh s.data.toList o).take (k + 1) = (allCh s.data.toList o).take k ++ [(s[k]'hlt, nearO o)]) := by
        show _ = _
        refine take_next ?_
        unfold allCh
        rw [List.getElem?_map, List.getElem?_eq_getElem (by rw [HSL.out]; exact hlt)]
        rfl
      have hk0 : (0 : Int) ≤ (k : Int) := Int.natCast_nonneg _
      have hk1 : (k : Int) < (s.size : Int) := by omega
      go_wp2_with fail
      go_region_held3 (fun _ => True)
        (first | exact trivial | go_keep)
        (first
          | (go_at_call 117; refine (near_any _ _).mono ?_; rintro e w' ⟨rfl, rfl⟩)
          | (refine step_append_lies _ (by rfl) _ _ _ (by rfl) w.heap.size 135 i0 _ 2 16 Tryz.underlying112 hi hz0 hz1 hz2 rfl (by omega) (.slice A3 k d3) k _ (by rfl) ((hown.alloc _).drew)
              ⟨wr.heap.size, 0, none⟩ 1 1 [.int .u8 (s[k]'hlt).toNat, .int .i64 (nearO o)] (by rfl) (by rfl) (World.news_of_block (cs := #[.int .u8 (s[k]'hlt).toNat, .int .i64 (nearO o)]) (t := 135) (fr := (0, 0)) (heap_alloc_new wr _)) (by simp [Value.oneCell'])
              (by omega) (by simp only [maxLen]; omega) (by omega) (by simp; omega) (wr.heap.size + 1) (by simp) ?_; intro gg cap w1 hown1 hgrow hat hlt'))
      all_goals
        have hbl1 : Below w.heap.size w w1 := (((hbl.alloc (by omega) _).drew).grown hgrow (by simp; omega) (fun x hx => (hown.lt x hx).1))
        clear hgrow hat hlt'
        go_wp2
        go_roundw
        case rel => exact ⟨k + 1, by omega, by go_num, by rw [HNX.out, chCells_snoc]; exact hown1, hbl1⟩
        case measure => simp [intOf]; omega
    · obtain rfl : k = s.size := by omega
      have hfull : (allCh s.data.toList o).take s.size = allCh s.data.toList o := List.take_of_length_le (by unfold allCh; rw [List.length_map, HSL.out]; exact Nat.le_refl _)
      rw [hfull] at hown
      clear hfull
      go_wp2_with fail
      go_ret
      exact ⟨_, rfl, hown, hbl⟩

end Go.Proofs.YtddgabjhligeeaaGreat.mk
