/-
  Data, of tokens that come in (whatever their kinds).
-/
import Derived.Test.YtdiifkmcbnhliaaJoinAM
import Derived.Test.YtdiifkmcbnhliaaJoinW
import Derived.Deep.DeepCutAuto
import Derived.Deep.CutBlock
import Derived.Test.YtdiifkmcbnhliaaJoinAI
namespace Go.Proofs.Ytdiifkmcbnhliaa.mk
open Go.RowKit

set_option maxRecDepth 100000 in
theorem str_infoK : (Try.prog.info? 24).map (fun i => (i.zero, i.size, i.bytes)) = some (some (.agg #[.string ⟨#[]⟩, .slice none 0 0]), 2, 40) := by kernel_rfl
theorem ltCells_snocK (us : List LT) (u : LT) : ltCells (us ++ [u]) = ltCells us ++ [.string u.s, .slice u.A u.n u.c] := by simp [ltCells]
/-- the texts of the data among tokens -/
def dataKx (ts : List KT) : List LT := (ts.filter fun t => t.kind == 3).map KT.tx
theorem dataKx_next {ts : List KT} {k : Nat} {t : KT} (h : ts[k]? = some t) : dataKx (ts.take (k + 1)) = dataKx (ts.take k) ++ (if t.kind = 3 then [t.tx] else []) := by
  rw [take_next h]
  unfold dataKx
  rw [List.filter_append, List.map_append]
  congr 1
  by_cases hk : t.kind = 3
  · rw [if_pos hk, List.filter_cons_of_pos (by simpa using hk)]; rfl
  · rw [if_neg hk, List.filter_cons_of_neg (by simpa using hk)]; rfl
theorem dataKx_len (ts : List KT) : (dataKx ts).length ≤ ts.length := by unfold dataKx; rw [List.length_map]; exact List.length_filter_le _ _
theorem dataKx_mem {ts : List KT} {u : LT} (h : u ∈ dataKx ts) : ∃ t ∈ ts, u = t.tx := by
  unfold dataKx at h
  obtain ⟨t, ht, rfl⟩ := List.mem_map.1 h
  exact ⟨t, (List.mem_filter.1 ht).1, rfl⟩
def DataKRel (ts : List KT) (n : Nat) (w0 : World) (v i : Value) (wr : World) : Prop :=
  ∃ (k m : Nat), k ≤ n ∧ i = .int .i64 (k : Int) ∧ (dataKx (ts.take k)).length = m ∧ m ≤ k ∧ wr.ownsRow (w0.heap.size + 1) 24 2 v m (ltCells (dataKx (ts.take k))) ∧ Below w0.heap.size w0 wr ∧ Whole wr w0.heap.size 24 #[.string ⟨#[]⟩, .slice none 0 0]

set_option maxHeartbeats 4000000 in
set_option maxRecDepth 100000 in
theorem dataK_any (A : Option Addr) (n c : Nat) (ts : List KT) (w : World) (hl : Lies w w.heap.size A (ktCells ts)) (hn : ts.length = n) (hn2 : n ≤ 1073741824) (hok : ∀ t ∈ ts, t.tx.ok w w.heap.size) (hz : (catCh (dataKx ts)).length ≤ 4294967296) :
    Calls Try.prog 24 #[.slice A n c] w (ToldO (catCh (dataKx ts)) w) := by
  obtain ⟨i0, hi, hz0, hz1, hz2⟩ := info_parts str_infoK
  have HN := Lib.hid hn
  have HL := Lib.hid hl
  have HOK := Lib.hid hok
  have HZ := Lib.hid hz
  clear hl hn hok hz
  go_enter Try.func24, Try.ntmps24
  go_wp2_with fail
  generalize hw1 : w.alloc (.cells #[.string ⟨#[]⟩, .slice none 0 0] 24) = w1
  have y1 : Whole w1 w.heap.size 24 #[.string ⟨#[]⟩, .slice none 0 0] := by rw [← hw1]; exact Whole.made w _ _
  have hb1 : Below w.heap.size w w1 := by rw [← hw1]; exact (Below.refl _ _).alloc (Nat.le_refl _) _
  clear hw1
  go_loopw [3, 8] (DataKRel ts n w) (fun _ i _ => n - (intOf i).toNat)
  case atStart => exact ⟨0, 0, Nat.zero_le _, rfl, rfl, Nat.le_refl _, World.ownsRow_nil _ _ _ _, hb1, y1⟩
  case round =>
    obtain ⟨k, m, hk, rfl, hm, hmk, hown, hb, hW⟩ := hrel
    have HM := Lib.hid hm
    have HO := Lib.hid hown
    have HW := Lib.hid hW
    have HB := Lib.hid hb
    have hzw := hW.lt
    have hk0 : (0 : Int) ≤ (k : Int) := Int.natCast_nonneg _
    obtain ⟨A4, c4, rfl, _, _, _⟩ := own_form hown
    by_cases hlt : k < n
    · obtain ⟨ad, t, rfl, hbA, d0, d1, d2, d3, d4, d5, d6, HR⟩ := (HL.out.below hb).kt (k := k) (by rw [HN.out]; exact hlt)
      have hk1 : (k : Int) < (n : Int) := by omega
      have HNX := Lib.hid (dataKx_next HR.out)
      have hb2 : Below wr.heap.size wr (wr.alloc (.cells #[.int .i64 t.kind, .string t.nm.s, .slice t.nm.A t.nm.n t.nm.c, .slice t.A t.n t.c, .bool t.close, .string t.tx.s, .slice t.tx.A t.tx.n t.tx.c] 34)) := (Below.refl _ _).alloc (Nat.le_refl _) _
      clear hm hown hW hb
      by_cases h3 : t.kind = 3
      · have q3 : (t.kind == 3) = true := by rw [h3]; rfl
        rw [if_pos h3] at HNX
        clear h3
        go_upto_region 5 with fail
        have d50 := (Whole.made wr 34 #[.int .i64 t.kind, .string t.nm.s, .slice t.nm.A t.nm.n t.nm.c, .slice t.A t.n t.c, .bool t.close, .string t.tx.s, .slice t.tx.A t.tx.n t.tx.c])
        generalize hw2 : wr.alloc (.cells #[.int .i64 t.kind, .string t.nm.s, .slice t.nm.A t.nm.n t.nm.c, .slice t.A t.n t.c, .bool t.close, .string t.tx.s, .slice t.tx.A t.tx.n t.tx.c] 34) = w2 at *
        have HO2 := Lib.hid (own_keep HO.out hb2)
        have hz2' := hb2.size
        have HB2 := Lib.hid hb2
        have g0 := d50.at_ 0
        have g5 := d50.at_ 5
        have g6 := d50.at_ 6
        clear hb2 hw2 d0 d1 d2 d3 d4 d5 d6 d50
        go_wp2_with (at_builtin; refine wpList_append_own_at _ rfl _ _ 66 rfl (w.heap.size + 1) 24 i0 _ 2 40 Try.underlying66 hi hz0 hz1 hz2 rfl (by decide) (.slice A4 m c4) m _ rfl (HO2.out.alloc _) ⟨w2.heap.size, 0, none⟩ 1 1 [.string t.tx.s, .slice t.tx.A t.tx.n t.tx.c] rfl rfl (cells_new w2 _ _) (by simp [Value.oneCell']) (by simp only [maxLen]; omega) (by omega) (by simp; omega) ?_)
        intro v' w3 hown3 hgrow _ _
        have hb3 : Below w.heap.size w2 w3 := (((Below.refl w2.heap.size w2).alloc (Nat.le_refl _) _).mono (Nat.le_trans HB.out.size hz2')).grown hgrow (by have := HB.out.size; simp; omega) (fun k hk => by have := (HO2.out.lt k hk).1; omega)
        have HREL : Hid (DataKRel ts n w v' (.int .i64 ((k : Int) + 1)) w3) := by
          refine ⟨k + 1, m + 1, by omega, by go_num, by rw [HNX.out, List.length_append, HM.out]; rfl, by omega, ?_, HB.out.trans ((HB2.out.mono HB.out.size).trans hb3), ?_⟩
          · rw [HNX.out, show ltCells (dataKx (ts.take k) ++ [t.tx]) = ltCells (dataKx (ts.take k)) ++ [.string t.tx.s, .slice t.tx.A t.tx.n t.tx.c] from ltCells_snocK _ _]
            exact hown3
          · exact ((HW.out.below HB2.out HW.out.lt).alloc _).grown hgrow (fun e => by have := (HO2.out.lt _ e.symm).1; omega)
        clear hown3 hgrow hb3
        go_wp2_with fail
        go_roundw
        case rel => exact HREL.out
        case measure => simp [intOf]; omega
      · have q3 : (t.kind == 3) = false := by rw [beq_eq_false_iff_ne]; omega
        rw [if_neg h3, List.append_nil] at HNX
        clear h3
        go_wp2_with fail
        go_roundw
        case rel => exact ⟨k + 1, m, by omega, by go_num, by rw [HNX.out]; exact HM.out, by omega, by rw [HNX.out]; exact own_keep HO.out hb2, HB.out.trans (hb2.mono HB.out.size), HW.out.below hb2 HW.out.lt⟩
        case measure => simp [intOf]; omega
    · obtain rfl : k = n := by omega
      have HT : Hid (ts.take k = ts) := List.take_of_length_le (by rw [HN.out]; exact Nat.le_refl _)
      have hk1 : ¬ (k : Int) < (k : Int) := by omega
      have HC : Hid (Calls Try.prog 44 #[.slice A4 m c4] wr (ToldO (catCh (dataKx ts)) wr)) := by
        have h1 := HO.out
        rw [HT.out] at h1
        have h2 := HM.out
        rw [HT.out] at h2
        exact cat13_any (dataKx ts) A4 m c4 wr (Lies.own h1) h2 (by omega) (fun u hu => by obtain ⟨t, ht, rfl⟩ := dataKx_mem hu; exact (HOK.out t ht).next hb (Nat.le_refl _)) HZ.out
      have hzb := hb.size
      clear hm hown hW hb
      go_wp2_with fail
      refine HC.out.mono ?_
      rintro e w3 ⟨u, rfl, hu, hb3⟩
      have HU := Lib.hid hu.out
      have HB3 := Lib.hid (HB.out.trans (hb3.mono hzb))
      have y3 := HW.out.below hb3 HW.out.lt
      have s0 := y3.at_ 0
      have s1 := y3.at_ 1
      have sf0 := y3.free 0
      have sf1 := y3.free 1
      clear hu hb3 y3 HC
      go_wp2_with fail
      refine bodyPost_ret (v := .agg #[.string u.s, .slice u.A u.n u.c]) ?_ rfl ?_
      · simp [results, Try.results24, go_sem, s0, s1]
      · refine ⟨u, rfl, ⟨HU.out.1, ((HU.out.2.far hzw _).far hzw _).mono hzb⟩, (HB3.out.setCell (p := ⟨w.heap.size, 0, none⟩) (Nat.le_refl _) _).setCell (p := ⟨w.heap.size, 1, none⟩) (Nat.le_refl _) _⟩

end Go.Proofs.Ytdiifkmcbnhliaa.mk
