/-
  The contract of the reference's Of: a labelled text's bytes with their origins.
-/
import Derived.Test.YtnbdldapmllegaaGreatJtR
import Derived.Test.YtnbdldapmllegaaGreatJtG
import Derived.Deep.RegionHeld3
import Derived.Deep.AppendLies
import Derived.StillTactics
import Derived.WalkSpells
namespace Go.Proofs.YtnbdldapmllegaaGreat.mk
open Go.RowKit

theorem ch_info : (Tryz.prog.info? 107).map (fun i => (i.zero, i.size, i.bytes)) = some (some (.agg #[.int .u8 0, .int .i64 0]), 2, 16) := by kernel_rfl

def RefOuter (s : ByteArray) (rs : List (Int × Int)) (n B : Nat) (w0 : World) (out i : Value) (wr : World) : Prop :=
  ∃ k : Nat, k ≤ n ∧ i = .int .i64 k ∧ wr.ownsRow B 107 2 out (pre s.size (rs.take k)).length (chCells (s.data.toList.zip (pre s.size (rs.take k)))) ∧ Below B w0 wr
def RefInner (s : ByteArray) (os : List Int) (l o : Int) (B : Nat) (w0 : World) (out k : Value) (wr : World) : Prop :=
  ∃ j : Nat, os.length + j ≤ s.size ∧ (0 < j → j ≤ l) ∧ k = .int .i64 j ∧ wr.ownsRow B 107 2 out (os.length + j) (chCells (s.data.toList.zip (os ++ List.replicate j (nearO o)))) ∧ Below B w0 wr

theorem inner_end {n : Nat} {rs : List (Int × Int)} {k j : Nat} {l o : Int} {os : List Int} (hr : rs[k]? = some (l, o)) (hos : pre n (rs.take k) = os) (h1 : os.length + j ≤ n) (h2 : 0 < j → (j : Int) ≤ l) (h3 : ¬ (j : Int) < l ∨ ¬ os.length + j < n) :
    pre n (rs.take (k + 1)) = os ++ List.replicate j (nearO o) := by
  rw [take_next hr, pre_snoc, hos]
  have : min l.toNat (n - os.length) = j := by
    rcases Nat.eq_zero_or_pos j with h0 | h0
    · omega
    · have := h2 h0; omega
  simp only [this]
def sliceLen : Value → Nat
  | .slice _ n _ => n
  | _ => 0
def RefFill (s : ByteArray) (os : List Int) (B : Nat) (w0 : World) (out : Value) (wr : World) : Prop :=
  ∃ j : Nat, os.length + j ≤ s.size ∧ wr.ownsRow B 107 2 out (os.length + j) (chCells (s.data.toList.zip (os ++ List.replicate j 65536))) ∧ Below B w0 wr

set_option maxHeartbeats 1000000 in
set_option maxRecDepth 100000 in
theorem refOf_any (s : ByteArray) (A : Option Addr) (n c : Nat) (rs : List (Int × Int)) (w : World) (hl : Lies w w.heap.size A (runCells rs)) (hn : rs.length = n) (hs : s.size ≤ 4294967296) (hn2 : n ≤ 4294967296) :
    Calls Tryz.prog 57 #[.agg #[.string s, .slice A n c]] w fun e w' => ∃ v, e = .returned v ∧ w'.ownsRow w.heap.size 107 2 v s.size (chCells (chars s.data.toList rs)) ∧ Below w.heap.size w w' := by
  have HN := Lib.hid hn
  clear hn
  obtain ⟨i0, hi, hz0, hz1, hz2⟩ := info_parts ch_info
  go_enter Tryz.func57, Tryz.ntmps57
  go_wp2_with fail
  generalize hw0 : w.alloc (.cells #[.string s, .slice A n c] 28) = w0
  have hx0 : w0.cell? ⟨w.heap.size, 0, none⟩ = some (.string s) := by rw [← hw0, World.cell?_alloc_at _ _ _ _ rfl]; rfl
  have hx1 : w0.cell? ⟨w.heap.size, 1, none⟩ = some (.slice A n c) := by rw [← hw0, World.cell?_alloc_at _ _ _ _ rfl]; rfl
  have hl0 : Lies w0 (w.heap.size + 1) A (runCells rs) := by rw [← hw0]; exact (hl.alloc (Nat.le_refl _) _).mono (Nat.le_succ _)
  have hz0' : w0.heap.size = w.heap.size + 1 := by rw [← hw0]; simp
  have HW0 := Lib.hid hw0
  have HZ0 := Lib.hid hz0'
  have hx0' := Lib.hid hx0
  have hx1' := Lib.hid hx1
  clear hw0 hz0' hl hx0 hx1
  go_loopw [3, 4] (RefOuter s rs n (w.heap.size + 1) w0) (fun _ i _ => n - (intOf i).toNat)
  case atStart => exact ⟨0, Nat.zero_le _, rfl, by simpa [pre, chCells] using World.ownsRow_nil _ _ _ _, Below.refl _ _⟩
  case round =>
    obtain ⟨k, hk, rfl, hown, hbl⟩ := hrel
    have hsz := hbl.size
    rw [HZ0.out] at hsz
    have hb0 : wr.cell? ⟨w.heap.size, 0, none⟩ = some (.string s) := (hbl.cell (Nat.lt_succ_self _)).trans hx0'.out
    have hb1 : wr.cell? ⟨w.heap.size, 1, none⟩ = some (.slice A n c) := (hbl.cell (Nat.lt_succ_self _)).trans hx1'.out
    by_cases hlt : k < n
    · obtain ⟨ad, l, o, rfl, hb, hc1, hc2, HR⟩ := hl0.run (k := k) (by rw [HN.out]; exact hlt)
      have hc1' := Lib.hid hc1
      have hc2' := Lib.hid hc2
      have HL := Lib.hid hl0
      clear hc1 hc2 hl0
      go_wp2_with fail
      obtain ⟨wo, rfl⟩ : ∃ wo : World, wo = wr := ⟨_, rfl⟩
      generalize hos : pre s.size (rs.take k) = os at *
      have hol : os.length ≤ s.size := by rw [← hos]; exact pre_length_le _ _
      have HOS := Lib.hid hos
      clear hos
      go_loopw [3, 5] (RefInner s os l o (w.heap.size + 1) w0) (fun _ i _ => s.size - (intOf i).toNat)
      case atStart => exact ⟨0, by omega, by omega, rfl, by simpa using hown, hbl⟩
      case round =>
        obtain ⟨j, hj1, hj2, rfl, hown', hbl'⟩ := hrel
        have hsz' := hbl'.size
        rw [HZ0.out] at hsz'
        obtain ⟨A', c', rfl, _, _, _⟩ := own_form hown'
        have hb0' : wr.cell? ⟨w.heap.size, 0, none⟩ = some (.string s) := (hbl'.cell (Nat.lt_succ_self _)).trans hx0'.out
        have hb1' : wr.cell? ⟨w.heap.size, 1, none⟩ = some (.slice (some ad) n c) := (hbl'.cell (Nat.lt_succ_self _)).trans hx1'.out
        have hd1 : wr.cell? (ad.add (k * 2)) = some (.int .i64 l) := (hbl'.cell (by rw [addr_block]; exact hb)).trans hc1'.out
        have hd2 : wr.cell? ⟨(ad.add (k * 2)).block, (ad.add (k * 2)).off + 1, none⟩ = some (.int .i64 o) := (hbl'.cell (by show (ad.add (k * 2)).block < _; rw [addr_block]; exact hb)).trans hc2'.out
        by_cases hjl : (j : Int) < l
        · by_cases hjs : os.length + j < s.size
          · have hbm : s.data.toList[os.length + j]? = some (s[os.length + j]'hjs) := by rw [List.getElem?_eq_getElem (by simpa using hjs)]; rfl
            have HST := Lib.hid (zip_snoc s.data.toList (os ++ List.replicate j (nearO o)) (s[os.length + j]'hjs) (nearO o) (by simpa using hbm))
            clear hbm
            have hfar : ∀ x, x < w.heap.size + 1 → some x ≠ (Value.slice A' (os.length + j) c').ownBlock := fun x hx e => by have := hown'.lt x e.symm; omega
            generalize hm : os.length + j = m at *
            have hjm : j ≤ m := by omega
            have HM := Lib.hid hm
            clear hm
            have hbA : (ad.add (k * 2)).block < w.heap.size + 1 := by rw [addr_block]; exact hb
            have hm0 : (0 : Int) ≤ (m : Int) := Int.natCast_nonneg _
            have hm1 : (m : Int) < (s.size : Int) := by omega
            have hk0 : (0 : Int) ≤ (k : Int) := Int.natCast_nonneg _
            have hk1 : (k : Int) < (n : Int) := by omega
            go_wp2_with fail
            go_region_held3 (fun w' => w'.cell? ⟨w.heap.size, 0, none⟩ = some (.string s) ∧ w'.cell? ⟨w.heap.size, 1, none⟩ = some (.slice (some ad) n c) ∧ w'.cell? ⟨(ad.add (k * 2)).block, (ad.add (k * 2)).off + 1, none⟩ = some (.int .i64 o))
              (first
                | go_keep
                | (go_split_ands
                   refine ⟨?_, ?_, ?_⟩
                   · (rw [hgrow.cell_far _ (by simp; omega) (hfar _ (Nat.lt_succ_self _))]; assumption)
                   · (rw [hgrow.cell_far _ (by simp; omega) (hfar _ (Nat.lt_succ_self _))]; assumption)
                   · (rw [hgrow.cell_far ⟨(ad.add (k * 2)).block, (ad.add (k * 2)).off + 1, none⟩ (by simp; omega) (hfar _ hbA)]; assumption)))
              (first
                | (go_at_call 76; refine (near_any _ _).mono ?_; rintro e w' ⟨rfl, rfl⟩)
                | (refine step_append_lies _ (by rfl) _ _ _ (by rfl) (w.heap.size + 1) 107 i0 _ 2 16 Tryz.underlying91 hi hz0 hz1 hz2 rfl (by omega) (.slice A' m c') m _ (by rfl) ((hown'.alloc _).drew)
                    ⟨wr.heap.size, 0, none⟩ 1 1 [.int .u8 (s[m]'hjs).toNat, .int .i64 (nearO o)] (by rfl) (by rfl) (World.news_of_block (cs := #[.int .u8 (s[m]'hjs).toNat, .int .i64 (nearO o)]) (t := 107) (fr := (0, 0)) (heap_alloc_new wr _)) (by simp [Value.oneCell'])
                    (by omega) (by simp only [maxLen]; omega) (by omega) (by simp; omega) (wr.heap.size + 1) (by simp) ?_; intro gg cap w1 hown1 hgrow hat hlt))
            all_goals
              have hbl1 : Below (w.heap.size + 1) w0 w1 := (((hbl'.alloc (by omega) _).drew).grown hgrow (by simp; omega) (fun x hx => (hown'.lt x hx).1))
              clear hgrow hat hlt hfar
              go_wp2
              go_roundw
              case rel => exact ⟨j + 1, by have := HM.out; omega, fun _ => by omega, by go_num, by have h := hown1; rw [← chCells_snoc, ← HST.out, List.append_assoc, ← List.replicate_succ'] at h; rw [← Nat.add_assoc, HM.out]; exact h, hbl1⟩
              case measure => simp [intOf]; have := HM.out; omega
          · have HP := Lib.hid (inner_end HR.out HOS.out hj1 hj2 (.inr hjs))
            go_wp2
            go_roundw
            case rel => exact ⟨k + 1, by omega, by go_num, by rw [HP.out]; simpa using hown', hbl'⟩
            case measure => simp [intOf]; omega
        · have HP := Lib.hid (inner_end HR.out HOS.out hj1 hj2 (.inl hjl))
          go_wp2
          go_roundw
          case rel => exact ⟨k + 1, by omega, by go_num, by rw [HP.out]; simpa using hown', hbl'⟩
          case measure => simp [intOf]; omega
    · have HT := Lib.hid (show rs.take k = rs from List.take_of_length_le (by have := HN.out; omega))
      rw [HT.out] at hown
      obtain ⟨wo, rfl⟩ : ∃ wo : World, wo = wr := ⟨_, rfl⟩
      generalize hos : pre s.size rs = os at *
      have hol : os.length ≤ s.size := by rw [← hos]; exact pre_length_le _ _
      have HOS := Lib.hid hos
      clear hos
      go_wp2_with fail
      go_loopw [3] (RefFill s os (w.heap.size + 1) w0) (fun out _ => s.size - sliceLen out)
      case atStart => exact ⟨0, by omega, by simpa using hown, hbl⟩
      case round =>
        obtain ⟨j, hj1, hown', hbl'⟩ := hrel
        have hsz' := hbl'.size
        rw [HZ0.out] at hsz'
        obtain ⟨A', c', rfl, _, _, _⟩ := own_form hown'
        have hb0' : wr.cell? ⟨w.heap.size, 0, none⟩ = some (.string s) := (hbl'.cell (Nat.lt_succ_self _)).trans hx0'.out
        by_cases hjs : os.length + j < s.size
        · have hbm : s.data.toList[os.length + j]? = some (s[os.length + j]'hjs) := by rw [List.getElem?_eq_getElem (by simpa using hjs)]; rfl
          have HST := Lib.hid (zip_snoc s.data.toList (os ++ List.replicate j 65536) (s[os.length + j]'hjs) 65536 (by simpa using hbm))
          clear hbm
          generalize hm : os.length + j = m at *
          have HM := Lib.hid hm
          clear hm
          go_wp2_with (at_builtin; refine wpList_append_own_at _ rfl _ _ 91 rfl (w.heap.size + 1) 107 i0 _ 2 16 Tryz.underlying91 hi hz0 hz1 hz2 rfl (by decide) (.slice A' m c') m _ rfl (hown'.alloc _) ⟨wr.heap.size, 0, none⟩ 1 1 [.int .u8 (s[m]'hjs).toNat, .int .i64 65536] rfl rfl (cells_new wr _ _) (by simp [Value.oneCell']) (by simp only [maxLen]; omega) (by omega) (by simp; omega) ?_)
          intro v' w1 hown1 hgrow _ _
          have hbl1 : Below (w.heap.size + 1) w0 w1 := ((hbl'.alloc (by omega) _).grown hgrow (by simp; omega) (fun x hx => (hown'.lt x hx).1))
          obtain ⟨A1, c1, rfl, _, _, _⟩ := own_form hown1
          clear hgrow
          go_wp2
          go_roundw
          case rel => exact ⟨j + 1, by have := HM.out; omega, by have h := hown1; rw [← chCells_snoc, ← HST.out, List.append_assoc, ← List.replicate_succ'] at h; rw [← Nat.add_assoc, HM.out]; exact h, hbl1⟩
          case measure => simp [sliceLen]; omega
        · have HE : Hid (chCells (s.data.toList.zip (os ++ List.replicate j 65536)) = chCells (chars s.data.toList rs)) := by
            have e : j = s.data.toList.length - (pre s.data.toList.length rs).length := by
              have := congrArg List.length HOS.out
              simp only [Array.length_toList] at this ⊢
              show j = s.size - (pre s.size rs).length
              omega
            unfold chars origins
            rw [← e, show pre s.data.toList.length rs = os from HOS.out]
            exact rfl
          have hjs' : os.length + j = s.size := by omega
          rw [HE.out, hjs'] at hown'
          have HJ := Lib.hid hjs'
          generalize hm : os.length + j = m at *
          clear hm
          obtain rfl : m = s.size := HJ.out
          go_wp2
          go_ret
          exact ⟨_, rfl, own_mono hown' (Nat.le_succ _), by have h := hbl'; rw [← HW0.out] at h; exact ((Below.refl _ _).alloc (Nat.le_refl _) _).trans (h.mono (Nat.le_succ _))⟩

end Go.Proofs.YtnbdldapmllegaaGreat.mk
