/-
  The contract of told (names of rows, one row behind the other), and of Tags.
-/
import Derived.Test.YthanclhnncaapaaAlwRows
import Derived.Test.YthanclhnncaapaaMarkBuf
import Derived.Laws.OwnMore
import Derived.WalkSpells
namespace Go.Proofs.Ythanclhnncaapaa.mk
open Go.RowKit

/-- a row of names in memory: where, how much room, the names -/
abbrev Nms := Option Addr × Nat × List ByteArray
def nmsCells (rs : List Nms) : List Value := rs.map fun r => .slice r.1 r.2.2.length r.2.1
def nmsAll (rs : List Nms) : List ByteArray := rs.flatMap fun r => r.2.2
theorem nmsAll_next {rs : List Nms} {k : Nat} {r : Nms} (h : rs[k]? = some r) : nmsAll (rs.take (k + 1)) = nmsAll (rs.take k) ++ r.2.2 := by
  unfold nmsAll
  rw [take_next h, List.flatMap_append]
  simp
theorem nmsAll_length (rs : List Nms) : (nmsAll rs).length = (rs.map fun r => r.2.2.length).sum := by
  unfold nmsAll
  rw [List.length_flatMap]
theorem txCells_snoc (ns : List ByteArray) (x : ByteArray) : txCells (ns ++ [x]) = txCells ns ++ [.string x] := by unfold txCells; simp
theorem txCells_length (ns : List ByteArray) : (txCells ns).length = ns.length := by unfold txCells; simp
theorem two_below {w w1 w2 : World} {o1 o2 : Obj} (hb1 : Below w.heap.size w w1) (hb2 : Below ((w1.alloc o1).alloc o2).heap.size ((w1.alloc o1).alloc o2) w2) : Below w.heap.size w w2 :=
  below_next ((hb1.alloc hb1.size o1).alloc (by rw [World.size_alloc]; have := hb1.size; omega) o2) (Nat.le_refl _) hb2
theorem two_size {w w1 : World} {o1 o2 : Obj} (hb1 : Below w.heap.size w w1) : w.heap.size ≤ ((w1.alloc o1).alloc o2).heap.size := by
  rw [World.size_alloc, World.size_alloc]; have := hb1.size; omega
theorem lies_first {w1 : World} {t : TypeId} {cs : List Value} {o2 : Obj} : Lies ((w1.alloc (.cells cs.toArray t)).alloc o2) ((w1.alloc (.cells cs.toArray t)).alloc o2).heap.size (some ⟨w1.heap.size, 0, none⟩) cs :=
  ((lies_new w1 t cs).alloc (by rw [World.size_alloc]; omega) o2).mono (by rw [World.size_alloc, World.size_alloc]; omega)
theorem lies_second {w1 : World} {o1 : Obj} {t : TypeId} {cs : List Value} : Lies ((w1.alloc o1).alloc (.cells cs.toArray t)) ((w1.alloc o1).alloc (.cells cs.toArray t)).heap.size (some ⟨w1.heap.size + 1, 0, none⟩) cs := by
  have h := lies_new (w1.alloc o1) t cs
  rw [World.size_alloc] at h
  exact h.mono (by rw [World.size_alloc, World.size_alloc]; omega)
theorem cells_one (w : World) (t : TypeId) (x : Value) : ∀ j u, [x][j]? = some u → (w.alloc (.cells #[x] t)).cell? ((⟨w.heap.size, 0, none⟩ : Addr).add j) = some u := cells_new w t [x]

theorem nms_small {rs : List Nms} {k : Nat} {r : Nms} (h : rs[k]? = some r) {m : Nat} (hm : m ≤ r.2.2.length) (hs : (nmsAll rs).length ≤ 1000) : (nmsAll (rs.take k)).length + m ≤ 1000 := by
  have h1 : nmsAll rs = nmsAll (rs.take (k + 1)) ++ nmsAll (rs.drop (k + 1)) := by unfold nmsAll; rw [← List.flatMap_append, List.take_append_drop]
  have h2 := congrArg List.length h1
  rw [nmsAll_next h, List.length_append, List.length_append] at h2
  omega
theorem nms_mem {rs : List Nms} {r : Nms} (h : r ∈ rs) {x : ByteArray} (hx : x ∈ r.2.2) : x ∈ nmsAll rs := List.mem_flatMap.2 ⟨r, h, hx⟩

def ToldRel (rs : List Nms) (w0 : World) (v i : Value) (wr : World) : Prop :=
  ∃ k : Nat, k ≤ rs.length ∧ i = .int .i64 (k : Int) ∧ wr.ownsRow w0.heap.size 9 1 v (nmsAll (rs.take k)).length (txCells (nmsAll (rs.take k))) ∧ Below w0.heap.size w0 wr
def ToldRel2 (pre ns : List ByteArray) (w0 : World) (v i : Value) (wr : World) : Prop :=
  ∃ j : Nat, j ≤ ns.length ∧ i = .int .i64 (j : Int) ∧ wr.ownsRow w0.heap.size 9 1 v (pre.length + j) (txCells (pre ++ ns.take j)) ∧ Below w0.heap.size w0 wr

set_option maxHeartbeats 2000000 in
set_option maxRecDepth 100000 in
theorem told16_any (A : Option Addr) (n c : Nat) (rs : List Nms) (w : World) (hl : Lies w w.heap.size A (nmsCells rs)) (hn : rs.length = n) (hn2 : n ≤ 1000)
    (hrs : ∀ r ∈ rs, Lies w w.heap.size r.1 (txCells r.2.2)) (hsm : (nmsAll rs).length ≤ 1000) (hsz : ∀ x ∈ nmsAll rs, x.size ≤ 1000) :
    Calls Try.prog 19 #[.slice A n c] w fun e w' => (∃ A' c', e = .returned (.slice A' (nmsAll rs).length c') ∧ w'.ownsRow w.heap.size 9 1 (.slice A' (nmsAll rs).length c') (nmsAll rs).length (txCells (nmsAll rs))) ∧ Below w.heap.size w w' := by
  obtain ⟨i0, hi, hz0, hz1, hz2⟩ := info_parts string_info
  have HN := Lib.hid hn
  have HL := Lib.hid hl
  have HRS := Lib.hid hrs
  have HSM := Lib.hid hsm
  have HSZ := Lib.hid hsz
  clear hn hl hrs hsm hsz
  go_enter Try.func19, Try.ntmps19
  go_wp2_with fail
  go_loopw [3, 10] (ToldRel rs w) (fun _ i _ => n - (intOf i).toNat)
  case atStart => exact ⟨0, by omega, rfl, World.ownsRow_nil _ _ _ _, Below.refl _ _⟩
  case round =>
    obtain ⟨k, hk, rfl, hown, hb⟩ := hrel
    obtain ⟨pre, HPRE⟩ : ∃ pre, Hid (nmsAll (rs.take k) = pre) := ⟨_, rfl⟩
    rw [HPRE.out] at hown
    obtain ⟨A3, d3, rfl, _, _, _⟩ := own_form hown
    obtain ⟨wq, rfl⟩ : ∃ wq : World, wq = wr := ⟨_, rfl⟩
    rw [HN.out] at hk
    have HB := Lib.hid hb
    have HOWN := Lib.hid hown
    clear hb hown
    by_cases hlt : k < n
    · obtain ⟨r, HR⟩ : ∃ r : Nms, Hid (rs[k]? = some r) := ⟨_, List.getElem?_eq_getElem (by rw [HN.out]; exact hlt)⟩
      obtain ⟨ad, rfl, hbA, d0⟩ := (HL.out.below HB.out) k (.slice r.1 r.2.2.length r.2.1) (by unfold nmsCells; rw [List.getElem?_map, HR.out]; rfl)
      have hk0 : (0 : Int) ≤ (k : Int) := Int.natCast_nonneg _
      have hk1 : (k : Int) < (n : Int) := by omega
      have HMEM := Lib.hid (List.mem_of_getElem? HR.out)
      have HLR : Hid (Lies wq w.heap.size r.1 (txCells r.2.2)) := (HRS.out r HMEM.out).below HB.out
      have HSM2 : Hid (∀ m, m ≤ r.2.2.length → pre.length + m ≤ 1000) := fun m hm => by rw [← HPRE.out]; exact nms_small HR.out hm HSM.out
      have HSZ2 : Hid (∀ x ∈ r.2.2, x.size ≤ 1000) := fun x hx => HSZ.out x (nms_mem HMEM.out hx)
      have HNX : Hid (nmsAll (rs.take (k + 1)) = pre ++ r.2.2) := by rw [← HPRE.out]; exact nmsAll_next HR.out
      have hrm : r.2.2.length ≤ 1000 := by have := HSM2.out _ (Nat.le_refl _); omega
      go_wp2_with fail
      go_loopw [3, 16] (ToldRel2 pre r.2.2 w) (fun _ i _ => r.2.2.length - (intOf i).toNat)
      case atStart => exact ⟨0, by omega, rfl, by simpa using HOWN.out, HB.out⟩
      case round =>
        obtain ⟨j, hj, rfl, hown2, hb2⟩ := hrel
        obtain ⟨A4, d4, rfl, _, _, _⟩ := own_form hown2
        have HB2 := Lib.hid hb2
        have HOWN2 := Lib.hid hown2
        clear hb2 hown2
        by_cases hlt2 : j < r.2.2.length
        · obtain ⟨ad2, x, had2, hbA2, e0, HX⟩ := (((HRS.out r HMEM.out).below HB2.out)).tx (k := j) hlt2
          have hj0 : (0 : Int) ≤ (j : Int) := Int.natCast_nonneg _
          have hj1 : (j : Int) < (r.2.2.length : Int) := by omega
          have HXS := Lib.hid (HSZ2.out x (List.mem_of_getElem? HX.out))
          have hsmj := HSM2.out (j + 1) (by omega)
          rw [had2]
          go_wp2_with fail
          refine (clone_any x _ (by have := HXS.out; omega)).mono ?_
          rintro e w2 ⟨rfl, hb3⟩
          have HB3 := Lib.hid (below_next HB2.out (Nat.le_refl _) hb3)
          have HOWN3 := Lib.hid (own_keep HOWN2.out hb3)
          clear hb3
          go_wp2_with (at_builtin; go_loud (refine wpList_append_own_at _ rfl _ _ 22 rfl w.heap.size 9 i0 _ 1 16 Try.underlying22 hi hz0 hz1 hz2 rfl (by decide) (.slice A4 (pre.length + j) d4) (pre.length + j) (txCells (pre ++ r.2.2.take j)) rfl (HOWN3.out.alloc _) ⟨w2.heap.size, 0, none⟩ 1 1 [.string x] rfl rfl (cells_one w2 _ _) (by simp [Value.oneCell']) (by simp only [maxLen]; omega) (by omega) (by have := HB3.out.size; simp; omega) ?_))
          intro v' w3 h1 h2 _ h3
          have HB4 : Hid (Below w.heap.size w w3) := ((HB3.out.alloc HB3.out.size _).grown h2 (by have := HB3.out.size; simp; omega) (fun y hy => (HOWN3.out.lt y hy).1))
          have HOWN4 : Hid (w3.ownsRow w.heap.size 9 1 v' (pre.length + (j + 1)) (txCells (pre ++ r.2.2.take (j + 1)))) := by
            rw [take_next HX.out, ← List.append_assoc, txCells_snoc]; exact h1
          clear h1 h2 h3
          go_wp2
          go_roundw
          case rel => exact ⟨j + 1, by omega, by go_num, HOWN4.out, HB4.out⟩
          case measure => simp [intOf]; omega
        · obtain rfl : j = r.2.2.length := by omega
          have hj1 : ¬ ((r.2.2.length : Nat) : Int) < (r.2.2.length : Int) := by omega
          have HOWN5 : Hid (wr.ownsRow w.heap.size 9 1 (.slice A4 (pre.length + r.2.2.length) d4) (nmsAll (rs.take (k + 1))).length (txCells (nmsAll (rs.take (k + 1))))) := by
            rw [HNX.out, List.length_append]
            have h := HOWN2.out
            rw [List.take_length] at h
            exact h
          go_wp2_with fail
          go_roundw
          case rel => exact ⟨k + 1, by rw [HN.out]; omega, by go_num, HOWN5.out, HB2.out⟩
          case measure => simp [intOf]; omega
    · obtain rfl : k = n := by omega
      have hk1 : ¬ (k : Int) < (k : Int) := by omega
      have HE : Hid (pre = nmsAll rs) := by
        show _ = _
        rw [← HPRE.out, List.take_of_length_le (by rw [HN.out]; exact Nat.le_refl _)]
      go_wp2_with fail
      go_ret
      have ho := HOWN.out
      have he := HE.out
      subst he
      exact ⟨⟨A3, d3, rfl, ho⟩, HB.out⟩

theorem nms_one (a : Option Addr) (c : Nat) (ns : List ByteArray) : nmsAll [(a, c, ns)] = ns := by unfold nmsAll; simp
theorem nms_two (a b : Option Addr) (c d : Nat) (ns ms : List ByteArray) : nmsAll [(a, c, ns), (b, d, ms)] = ns ++ ms := by unfold nmsAll; simp
set_option maxHeartbeats 1000000 in
set_option maxRecDepth 100000 in
theorem alwTags_any (w : World) : Calls Try.prog 7 #[] w fun e w' => (∃ A c, e = .returned (.slice A 17 c) ∧ w'.ownsRow w.heap.size 9 1 (.slice A 17 c) 17 (txCells tagL)) ∧ Below w.heap.size w w' := by
  go_enter Try.func7, Try.ntmps7
  go_wp2_with fail
  refine (tagRow_any w).mono ?_
  rintro e w1 ⟨rfl, hb1⟩
  go_wp2_with fail
  refine (told16_any _ 1 1 [(some ⟨w1.heap.size, 0, none⟩, 17, tagL)] _ (lies_second (cs := [.slice (some ⟨w1.heap.size, 0, none⟩) 17 17])) rfl (by decide) ?_ (by rw [nms_one]; decide) (by rw [nms_one]; decide +kernel)).mono ?_
  · intro r hr
    rw [List.mem_singleton] at hr
    subst hr
    exact lies_first (cs := txCells tagL)
  rw [nms_one]
  rintro e w2 ⟨⟨A, c, rfl, ho⟩, hb2⟩
  have HB2 := Lib.hid (two_below hb1 hb2)
  have HO := Lib.hid (own_mono ho (two_size hb1))
  clear hb2 ho
  go_wp2_with fail
  go_ret
  exact ⟨⟨A, c, rfl, HO.out⟩, HB2.out⟩

end Go.Proofs.Ythanclhnncaapaa.mk
