/-
  Contracts of fold's Lower and IsLower.
-/
import Derived.Test.YtnbdldapmllegaaGreatJtAA
import Derived.Lib.ConvBytes
import Derived.Lib.BufferMore
namespace Go.Proofs.YtnbdldapmllegaaGreat.mk
open Go.RowKit

/-- the first n cells of block g are these bytes, free to be written -/
def BytesAt (w : World) (g n : Nat) (l : List UInt8) : Prop :=
  ∃ cs : Array Value, w.heap[g]? = some (.cells cs 5 (cs.size, cs.size + 1)) ∧ n ≤ cs.size ∧ ∀ j, j < n → cs[j]? = some (.int .u8 (l.getD j 0).toNat)
theorem BytesAt.cell {w : World} {g n : Nat} {l : List UInt8} (h : BytesAt w g n l) {j : Nat} (hj : j < n) : w.cell? ⟨g, j, none⟩ = some (.int .u8 (l.getD j 0).toNat) := by
  obtain ⟨cs, h1, h2, h3⟩ := h
  rw [cell_of_row w g j cs _ _ h1]
  exact h3 j hj
theorem BytesAt.free {w : World} {g n : Nat} {l : List UInt8} (h : BytesAt w g n l) {j : Nat} (hj : j < n) : w.frozen? ⟨g, j, none⟩ = false := by
  obtain ⟨cs, h1, h2, h3⟩ := h
  unfold World.frozen?
  simp only [h1]
  simp
  omega
theorem BytesAt.put {w : World} {g n : Nat} {l : List UInt8} (h : BytesAt w g n l) {k : Nat} (hk : k < n) (hl : n ≤ l.length) (x : UInt8) : BytesAt (w.setCell ⟨g, k, none⟩ (.int .u8 x.toNat)) g n (l.set k x) := by
  obtain ⟨cs, h1, h2, h3⟩ := h
  refine ⟨cs.setIfInBounds k (.int .u8 x.toNat), ?_, by simpa using h2, fun j hj => ?_⟩
  · rw [Lib.heap_setCell_same h1]; simp
  · by_cases e : j = k
    · subst e
      rw [Array.getElem?_setIfInBounds_self_of_lt (by omega)]
      simp [List.getD, List.getElem?_set_self (show j < l.length by omega)]
    · rw [Array.getElem?_setIfInBounds_ne (by omega), h3 j hj]
      simp [List.getD, List.getElem?_set_ne (Ne.symm e)]
theorem BytesAt.lt {w : World} {g n : Nat} {l : List UInt8} (h : BytesAt w g n l) : g < w.heap.size := by
  obtain ⟨cs, h1, _⟩ := h
  exact (Array.getElem?_eq_some_iff.1 h1).1
theorem BytesAt.made (w : World) (s : ByteArray) : BytesAt (Lib.bytesWorld w 5 s) w.heap.size s.size s.data.toList := by
  refine ⟨_, Lib.bytesWorld_at_new w _ s, by simp [Lib.bytesCells], fun j hj => ?_⟩
  have h := Lib.bytesWorld_cell w 5 s j hj
  rw [cell_of_row _ _ _ _ _ _ (Lib.bytesWorld_at_new w _ s)] at h
  exact h
theorem bytes_below (w : World) (s : ByteArray) : Below w.heap.size w (Lib.bytesWorld w 5 s) := by
  refine ⟨?_, ?_, ?_, by rw [Lib.bytesWorld_size]; omega, fun k hk => Lib.bytesWorld_at_old w _ s k hk⟩
  all_goals simp [Lib.bytesWorld, World.freeze, World.alloc, World.drew, -World.alloc_eq, -World.drew_eq]

/-- lower, so far -/
def lowTo (l : List UInt8) (k : Nat) : List UInt8 := (l.take k).map lowB ++ l.drop k
theorem lowTo_length (l : List UInt8) (k : Nat) : (lowTo l k).length = l.length := by
  unfold lowTo
  rw [List.length_append, List.length_map, List.length_take, List.length_drop]
  omega
theorem lowTo_at {l : List UInt8} {k : Nat} {b : UInt8} (h : l[k]? = some b) : (lowTo l k).getD k 0 = b := by
  have hk := (List.getElem?_eq_some_iff.1 h).1
  unfold lowTo
  rw [List.getD, List.getElem?_append_right (by rw [List.length_map, List.length_take]; omega), List.length_map, List.length_take, List.getElem?_drop, show k + (k - min k l.length) = k by omega, h]
  rfl
theorem lowTo_next {l : List UInt8} {k : Nat} {b : UInt8} (h : l[k]? = some b) : (lowTo l k).set k (lowB b) = lowTo l (k + 1) := by
  obtain ⟨hk, hb⟩ := List.getElem?_eq_some_iff.1 h
  unfold lowTo
  rw [List.set_append_right _ _ (by rw [List.length_map, List.length_take]; omega), List.length_map, List.length_take, show k - min k l.length = 0 by omega, List.drop_eq_getElem_cons hk, hb, take_next h, List.map_append, List.append_assoc]
  rfl
theorem lowTo_same {l : List UInt8} {k : Nat} {b : UInt8} (h : l[k]? = some b) (hb : lowB b = b) : lowTo l (k + 1) = lowTo l k := by
  rw [← lowTo_next h, hb]
  apply List.ext_getElem?
  intro j
  by_cases e : j = k
  · subst e
    have hk := (List.getElem?_eq_some_iff.1 h).1
    have := lowTo_at h
    rw [List.getElem?_set_self (by rw [lowTo_length]; exact hk)]
    rw [List.getD, List.getElem?_eq_getElem (by rw [lowTo_length]; exact hk)] at this
    rw [List.getElem?_eq_getElem (by rw [lowTo_length]; exact hk)]
    simp at this
    rw [this]
  · rw [List.getElem?_set_ne (Ne.symm e)]
theorem lowB_up {b : UInt8} (h : upperB b = true) : (lowB b).toNat = b.toNat + 32 ∧ b.toNat ≤ 90 := by
  have h2 := h
  unfold upperB at h2
  simp at h2
  refine ⟨?_, h2.2⟩
  unfold lowB
  rw [if_pos h, UInt8.toNat_add]
  show (b.toNat + 32) % 256 = _
  omega
theorem lowB_no {b : UInt8} (h : upperB b = false) : lowB b = b := by unfold lowB; rw [h]; rfl
theorem lowB_low (b : UInt8) : upperB (lowB b) = false := by
  cases hu : upperB b with
  | false => rw [lowB_no hu]; exact hu
  | true =>
    have h1 := lowB_up hu
    unfold upperB at hu ⊢
    simp at hu ⊢
    omega

def LowRel (l : List UInt8) (g n : Nat) (w0 : World) (i : Value) (wr : World) : Prop :=
  ∃ k : Nat, k ≤ n ∧ i = .int .i64 (k : Int) ∧ BytesAt wr g n (lowTo l k) ∧ Below g w0 wr

set_option maxHeartbeats 1000000 in
set_option maxRecDepth 100000 in
theorem lower_any (s : ByteArray) (A : Option Addr) (n c : Nat) (rs : List (Int × Int)) (w : World) (hl : Lies w w.heap.size A (runCells rs)) (hn : rs.length = n) (hs : s.size ≤ 4294967296) (hn2 : n ≤ 4294967296) :
    Calls Tryz.prog 19 #[.agg #[.string s, .slice A n c]] w (Tells ⟨(s.data.toList.map lowB).toArray⟩ (taken s.size rs) w) := by
  have HN := Lib.hid hn
  clear hn
  have hsl : s.data.toList.length = s.size := by rw [Array.length_toList]; rfl
  have HSL := Lib.hid hsl
  clear hsl
  go_enter Tryz.func19, Tryz.ntmps19
  go_wp2_with fail
  generalize hwE : (w.alloc (.cells #[.string s, .slice A n c] 28)).alloc (.cells #[.string ⟨#[]⟩, .slice none 0 0] 28) = wE
  have y0 : Whole wE w.heap.size 28 #[.string s, .slice A n c] := by rw [← hwE]; exact (Whole.made w _ _).alloc _
  have y3 : Whole wE (w.heap.size + 1) 28 #[.string ⟨#[]⟩, .slice none 0 0] := by
    rw [← hwE]
    have h := Whole.made (w.alloc (.cells #[.string s, .slice A n c] 28)) 28 #[.string ⟨#[]⟩, .slice none 0 0]
    simp only [World.size_alloc] at h
    exact h
  have hzE : w.heap.size + 2 ≤ wE.heap.size := by rw [← hwE]; simp
  have hbE : Below w.heap.size w wE := by rw [← hwE]; exact ((Below.refl _ _).alloc (Nat.le_refl _) _).alloc (by simp) _
  have hlE : Lies wE wE.heap.size A (runCells rs) := hl.next hbE (Nat.le_refl _)
  clear hwE
  rw [Lib.run_convert_string_bytes (P := Tryz.prog) wE 9 64 5 s Tryz.underlying9 Tryz.underlying64 Tryz.underlying5]
  simp only [Result.andThen]
  rw [Oper.upon_value]
  have hB1 := BytesAt.made wE s
  have hb1 := bytes_below wE s
  generalize Lib.bytesWorld wE 5 s = w1 at *
  generalize grownCap wE s.size 0 5 = cap at *
  have HB1 := Lib.hid hB1
  clear hB1
  obtain ⟨g, hg⟩ : ∃ g, g = wE.heap.size := ⟨_, rfl⟩
  rw [← hg] at HB1 hlE hzE hb1 ⊢
  clear hg
  go_wp2_with fail
  go_loopw [10] (LowRel s.data.toList g s.size w1) (fun i _ => s.size - (intOf i).toNat)
  case atStart => exact ⟨0, Nat.zero_le _, rfl, by simpa [lowTo] using HB1.out, Below.refl _ _⟩
  case round =>
    obtain ⟨k, hk, rfl, hBA, hbl⟩ := hrel
    have HBA := Lib.hid hBA
    have HBL := Lib.hid hbl
    clear hBA hbl
    by_cases hlt : k < s.size
    · have hk0 : (0 : Int) ≤ (k : Int) := Int.natCast_nonneg _
      have hk1 : (k : Int) < (s.size : Int) := by omega
      have HSK : Hid (s.data.toList[k]? = some (s[k]'hlt)) := by
        show _ = _
        rw [List.getElem?_eq_getElem (by rw [HSL.out]; exact hlt)]
        rfl
      generalize hx : s[k]'hlt = x at *
      clear hx
      have hc0 : wr.cell? ⟨g, k, none⟩ = some (.int .u8 x.toNat) := by rw [HBA.out.cell hlt, lowTo_at HSK.out]
      have hf0 := HBA.out.free hlt
      go_wp2_with fail
      refine (upper_any x _).mono ?_
      rintro e w' ⟨rfl, rfl⟩
      cases hu : upperB x with
      | true =>
        have hup := lowB_up hu
        have hup2 := hup.2
        have HLB : Hid ((lowB x).toNat = x.toNat + 32) := hup.1
        have hwr : IntKind.u8.wrap ((x.toNat : Int) + 32) = (x.toNat : Int) + 32 := IntWalk.u8_in _ (by omega)
        clear hu hup
        go_wp2_with fail
        go_roundw
        case rel =>
          refine ⟨k + 1, by omega, by go_num, ?_, HBL.out.setCell (p := ⟨g, k, none⟩) (Nat.le_refl _) _⟩
          have h := HBA.out.put hlt (by rw [lowTo_length, HSL.out]; exact Nat.le_refl _) (lowB x)
          rw [lowTo_next HSK.out, HLB.out] at h
          simpa using h
        case measure => simp [intOf]; omega
      | false =>
        have HLS := Lib.hid (lowTo_same HSK.out (lowB_no hu))
        clear hu
        go_wp2_with fail
        go_roundw
        case rel => exact ⟨k + 1, by omega, by go_num, by rw [HLS.out]; exact HBA.out, HBL.out⟩
        case measure => simp [intOf]; omega
    · obtain rfl : k = s.size := by omega
      have HFU : Hid (lowTo s.data.toList s.size = s.data.toList.map lowB) := by
        show _ = _
        unfold lowTo
        rw [List.take_of_length_le (by rw [HSL.out]; exact Nat.le_refl _), List.drop_of_length_le (by rw [HSL.out]; exact Nat.le_refl _), List.append_nil]
      have HML : Hid ((s.data.toList.map lowB).length = s.size) := by show _ = _; rw [List.length_map, HSL.out]
      have hcv : (convert 64 9 (.slice (some ⟨g, 0, none⟩) s.size cap)).run Tryz.prog wr = .ok (.string ⟨(s.data.toList.map lowB).toArray⟩) wr := by
        have h := run_convert_bytes_back (P := Tryz.prog) wr 64 9 5 ⟨g, 0, none⟩ cap (s.data.toList.map lowB) Tryz.underlying64 Tryz.underlying5 Tryz.underlying9 (fun j hj => ?_)
        · rw [HML.out] at h; exact h
        · have hadd : (⟨g, 0, none⟩ : Addr).add j = ⟨g, j, none⟩ := by unfold Addr.add; split <;> simp_all
          rw [hadd, HBA.out.cell (by rw [← HML.out]; exact hj), HFU.out]
          simp [List.getD, List.getElem?_eq_getElem hj]
      have hbr : Below g wE wr := hb1.trans HBL.out
      have y0r := y0.below hbr (by omega)
      have c1 : wr.cell? ⟨w.heap.size, 1, none⟩ = some (.slice A n c) := y0r.at_ 1
      have hzr := hbr.size
      have hgr := HBA.out.lt
      have HM2 : Hid ((ByteArray.mk (s.data.toList.map lowB).toArray).size = s.size) := by show (s.data.toList.map lowB).toArray.size = s.size; rw [List.size_toArray, HML.out]
      have hlr : Lies wr wr.heap.size A (runCells rs) := (hlE.below hbr).mono (by omega)
      have hbwr : Below w.heap.size w wr := hbE.trans (hbr.mono (by omega))
      generalize hst : s.data.toList.map lowB = st at *
      have HST := Lib.hid hst
      clear hst
      go_wp2_with fail
      refine (fix_any ⟨st.toArray⟩ A n c rs _ hlr HN.out (by rw [HM2.out]; omega) hn2).mono ?_
      rw [HM2.out]
      rintro e w2 ⟨v, rfl, hown, hb2⟩
      obtain ⟨A2, c2, rfl, _, _, _⟩ := own_form hown
      have hW := (y3.below hbr (by omega)).below hb2 (by omega)
      have f0 := hW.free 0
      have f1 := hW.free 1
      have d0 : w2.cell? ⟨w.heap.size + 1, 0, none⟩ = some (.string ⟨#[]⟩) := hW.at_ 0
      have d1 : w2.cell? ⟨w.heap.size + 1, 1, none⟩ = some (.slice none 0 0) := hW.at_ 1
      have HO := Lib.hid hown
      clear hown
      generalize hq : taken s.size rs = q at *
      have HQ := Lib.hid hq
      clear hq
      go_wp2
      refine bodyPost_ret (v := .agg #[.string ⟨st.toArray⟩, .slice A2 q.length c2]) ?_ rfl ?_
      · simp [results, Tryz.results19, go_sem, d0, d1]
      · exact tells_end (g := w.heap.size + 1) (by omega) (own_mono HO.out (by omega)) (below_next hbwr (Nat.le_refl _) hb2)

end Go.Proofs.YtnbdldapmllegaaGreat.mk
