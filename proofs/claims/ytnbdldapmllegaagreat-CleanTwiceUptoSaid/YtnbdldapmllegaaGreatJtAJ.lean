/-
  Contracts of seek's Index, Begins and Span.
-/
import Derived.Test.YtnbdldapmllegaaGreatJtC
import Derived.Test.YtnbdldapmllegaaGreatJtF
import Derived.Test.YtnbdldapmllegaaGreatJtAD
import Derived.Test.YtnbdldapmllegaaGreatJtW
import Derived.Test.YtnbdldapmllegaaGreatJtAA
import Derived.Outline
namespace Go.Proofs.YtnbdldapmllegaaGreat.mk
open Go.RowKit

theorem block_zero (g i : Nat) (w : World) {v : Value} (h : w.cell? ⟨g, i, none⟩ = some v) : g < w.heap.size := by
  have := World.block_lt_of_cell? w _ h
  simpa using this

set_option maxHeartbeats 1000000 in
set_option maxRecDepth 100000 in
theorem index_any (s : ByteArray) (A : Option Addr) (n c : Nat) (p : ByteArray) (f m : Int) (w : World) (hs : s.size ≤ 4294967280) (hm : w.cell? ⟨0, 0, none⟩ = some (.int .i64 m)) :
    Calls Tryz.prog 66 #[.agg #[.string s, .slice A n c], .string p, .int .i64 f] w fun e w' => e = .returned (.int .i64 (findI s.data.toList p.data.toList f)) ∧ Below w.heap.size w w' := by
  have hsl : s.data.toList.length = s.size := by rw [Array.length_toList]; rfl
  have hx := atN_eq s.size f
  have hal := atN_le s.size f
  have hb1 := (Below.refl w.heap.size w).alloc (Nat.le_refl _) (.cells #[.string s, .slice A n c] 28)
  have hm1 := (hb1.cell (block_zero _ _ _ hm)).trans hm
  have HF : Hid (findI s.data.toList p.data.toList f = if Lib.index (s.data.toList.drop (atN s.size f)) p.data.toList < 0 then -1 else (atN s.size f : Int) + Lib.index (s.data.toList.drop (atN s.size f)) p.data.toList) := by
    show _ = _
    unfold findI
    rw [hsl]
  have hi0 := Lib.index_ge (s.data.toList.drop (atN s.size f)) p.data.toList
  have hi1 := index_le (s.data.toList.drop (atN s.size f)) p.data.toList
  rw [List.length_drop, hsl] at hi1
  have HEX : Hid ((s.extract (atN s.size f) s.size).data.toList = s.data.toList.drop (atN s.size f)) := by
    show _ = _
    rw [extract_list, List.take_of_length_le (by omega)]
  clear hsl
  go_enter Tryz.func66, Tryz.ntmps66
  go_wp2_with fail
  refine (Tryz.strings_Index (s.extract (atN s.size f) s.size) p m _ (by rw [ByteArray.size_extract]; omega) hm1).mono ?_
  rintro e w' ⟨rfl, rfl⟩
  rw [HEX.out]
  clear hx
  generalize Lib.index (s.data.toList.drop (atN s.size f)) p.data.toList = k at *
  generalize atN s.size f = a at *
  by_cases hk : k < 0
  · go_wp2_with fail
    go_ret
    exact ⟨by rw [HF.out, if_pos hk]; rfl, hb1⟩
  · go_wp2_with fail
    go_ret
    exact ⟨by rw [HF.out, if_neg (by omega)]; rfl, hb1⟩

end Go.Proofs.YtnbdldapmllegaaGreat.mk
