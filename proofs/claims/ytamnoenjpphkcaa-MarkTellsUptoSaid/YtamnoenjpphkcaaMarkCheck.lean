/-
  The contract of mark's Check.
-/
import Derived.Test.YtamnoenjpphkcaaMarkTold
namespace Go.Proofs.Ytamnoenjpphkcaa.mk
open Go.RowKit

def toldB (n : Nat) (rs : List (Int × Int)) : Bool := decide (rs = taken n rs)

/-- neighbours are of unlike origins -/
theorem comp_unlike (q : List Int) : ∀ (j : Nat) (a b : Int × Int), (comp q)[j]? = some a → (comp q)[j + 1]? = some b → a.2 ≠ b.2 := by
  induction q using snocInd with
  | nil => intro j a b h; simp [comp] at h
  | append_singleton q o ih =>
    rw [comp_snoc]
    rcases snoc_cases (comp q) with h | ⟨r, ⟨m, p⟩, h⟩
    · rw [h, joinR_nil (by omega)]
      intro j a b h1 h2
      rw [List.getElem?_eq_none (by simp)] at h2
      cases h2
    · by_cases hp : p = o
      · subst hp
        rw [h, joinR_same (by omega)]
        rw [h] at ih
        intro j a b h1 h2
        have hj1 : j + 1 < r.length + 1 := by have := (List.getElem?_eq_some_iff.1 h2).1; simpa using this
        have hj : j < r.length := by omega
        rw [List.getElem?_append_left hj] at h1
        by_cases hjl : j + 1 < r.length
        · rw [List.getElem?_append_left hjl] at h2
          exact ih j a b (by rw [List.getElem?_append_left hj]; exact h1) (by rw [List.getElem?_append_left hjl]; exact h2)
        · have hje : j + 1 = r.length := by omega
          rw [List.getElem?_append_right (by omega)] at h2
          have hz : j + 1 - r.length = 0 := by omega
          rw [hz] at h2
          simp at h2
          subst h2
          have := ih j a (m, p) (by rw [List.getElem?_append_left hj]; exact h1) (by rw [List.getElem?_append_right (by omega), hz]; rfl)
          exact this
      · rw [h, joinR_other (by omega) hp]
        rw [h] at ih
        intro j a b h1 h2
        have hj1 : j + 1 < r.length + 2 := by have := (List.getElem?_eq_some_iff.1 h2).1; simp at this; omega
        by_cases hjl : j + 1 < r.length + 1
        · rw [List.getElem?_append_left (by simp; omega)] at h1 h2
          exact ih j a b h1 h2
        · rw [List.getElem?_append_left (by simp; omega)] at h1
          rw [List.getElem?_append_right (by simp; omega)] at h2
          have hz : j + 1 - (r ++ [(m, p)]).length = 0 := by simp; omega
          rw [hz] at h2
          simp at h2
          subst h2
          have hje : j = r.length := by omega
          subst hje
          simp at h1
          subst h1
          exact hp

/-- so far they are as told -/
def Good (n : Nat) (rs : List (Int × Int)) (left : Nat) : Prop := ∃ e : List Int, rs = comp e ∧ (∀ o ∈ e, 0 ≤ o ∧ o ≤ 65536) ∧ e.length + left = n
theorem good_nil (n : Nat) : Good n [] n := ⟨[], rfl, by simp, by simp⟩
theorem good_next {n left : Nat} {rs : List (Int × Int)} {l o : Int} (h : Good n rs left) (h1 : 1 ≤ l) (h2 : l ≤ left) (h3 : o = nearO o) (h4 : ∀ x, rs.getLast? = some x → x.2 ≠ o) : Good n (rs ++ [(l, o)]) (left - l.toNat) := by
  obtain ⟨e, rfl, hin, hl⟩ := h
  refine ⟨e ++ List.replicate l.toNat o, ?_, ?_, ?_⟩
  · rw [← joinR_comp]
    rcases snoc_cases (comp e) with hc | ⟨r, ⟨m, p⟩, hc⟩
    · rw [hc, joinR_nil (by omega)]; rfl
    · have := h4 (m, p) (by rw [hc]; simp)
      rw [hc, joinR_other (by omega) this]
  · intro x hx
    rcases List.mem_append.1 hx with hx | hx
    · exact hin x hx
    · rw [(List.mem_replicate.1 hx).2, h3]; exact ⟨nearO_lo _, nearO_hi _⟩
  · rw [List.length_append, List.length_replicate]; omega
theorem good_end {n : Nat} {rs : List (Int × Int)} (h : Good n rs 0) : toldB n rs = true := by
  obtain ⟨e, rfl, hin, hl⟩ := h
  unfold toldB taken
  rw [decide_eq_true_iff]
  have : n = e.length := by omega
  rw [this, origins_told hin]
/-- what is as told is so all along -/
theorem told_facts {n : Nat} {rs : List (Int × Int)} (h : toldB n rs = true) {j : Nat} {l o : Int} (hr : rs[j]? = some (l, o)) {left : Nat} (hg : Good n (rs.take j) left) :
    1 ≤ l ∧ l ≤ left ∧ o = nearO o ∧ ∀ x, (rs.take j).getLast? = some x → x.2 ≠ o := by
  have ht : rs = taken n rs := by unfold toldB at h; exact of_decide_eq_true h
  have hq : rs = comp (origins n rs) := ht
  have hmem : (l, o) ∈ rs := List.mem_of_getElem? hr
  have hmem' : (l, o) ∈ comp (origins n rs) := by rw [← hq]; exact hmem
  have hp := comp_pos _ _ hmem'
  have ho := origins_in n rs o (mem_comp _ _ hmem')
  refine ⟨hp, ?_, (nearO_in ho.1 ho.2).symm, ?_⟩
  · obtain ⟨e, he, _, hl⟩ := hg
    have h1 : (expand (rs.take (j + 1))).length ≤ n := by
      have h2 := expand_take_le (origins n rs) (j + 1)
      rw [← hq, origins_length] at h2
      exact h2
    rw [take_next hr, expand_append, he, expand_comp, List.length_append] at h1
    simp [expand] at h1
    omega
  · intro x hx
    rcases Nat.eq_zero_or_pos j with rfl | hj
    · simp at hx
    · rw [List.getLast?_eq_getElem?] at hx
      have hjl : j < rs.length := (List.getElem?_eq_some_iff.1 hr).1
      have hlen : (rs.take j).length = j := by rw [List.length_take]; omega
      rw [hlen, List.getElem?_take, if_pos (by omega)] at hx
      have := comp_unlike (origins n rs) (j - 1) x (l, o) (by rw [← hq]; exact hx) (by rw [← hq, show j - 1 + 1 = j by omega]; exact hr)
      exact this
theorem told_end {n : Nat} {rs : List (Int × Int)} {left : Nat} (hg : Good n rs left) (h : 0 < left) : toldB n rs = false := by
  obtain ⟨e, he, hin, hl⟩ := hg
  unfold toldB
  rw [decide_eq_false_iff_not]
  intro ht
  have hq : rs = comp (origins n rs) := ht
  have h1 : (expand rs).length = n := by
    have h2 := congrArg (fun x => (expand x).length) hq
    simp only [expand_comp, origins_length] at h2
    exact h2
  rw [he, expand_comp] at h1
  omega

/-- what Check tells -/
def checkE (n : Nat) (rs : List (Int × Int)) : Int := if toldB n rs = true then 0 else 22
theorem nearest_quiet (o : Int) (w : World) : Calls Try.prog 30 #[.int .i64 o] w fun e w' => e = .returned (.int .i64 (nearO o)) ∧ w' = w := (nearest_any o w).mono fun _ _ ⟨h1, h2⟩ => ⟨h1, h2.symm⟩

def CheckRel (n m : Nat) (rs : List (Int × Int)) (B : Nat) (w0 : World) (l i : Value) (wr : World) : Prop :=
  ∃ j q : Nat, j ≤ m ∧ i = .int .i64 j ∧ l = .int .i64 q ∧ q ≤ n ∧ Good n (rs.take j) q ∧ Below B w0 wr

set_option maxHeartbeats 2000000 in
set_option maxRecDepth 100000 in
theorem check_any (s : ByteArray) (A : Option Addr) (n c : Nat) (rs : List (Int × Int)) (w : World) (hl : Lies w w.heap.size A (runCells rs)) (hn : rs.length = n) (hs : s.size ≤ 4294967296) (hn2 : n ≤ 4294967296) :
    Calls Try.prog 11 #[.agg #[.string s, .slice A n c]] w fun e w' => e = .returned (.int .i64 (checkE s.size rs)) ∧ Below w.heap.size w w' := by
  have HN := Lib.hid hn
  clear hn
  go_enter Try.func11, Try.ntmps11
  go_wp2_with fail
  go_loopw [3, 12] (CheckRel s.size n rs (w.heap.size + 1) (w.alloc (.cells #[.string s, .slice A n c] 24))) (fun _ i _ => n - (intOf i).toNat)
  case atStart => exact ⟨0, s.size, Nat.zero_le _, rfl, rfl, Nat.le_refl _, good_nil _, Below.refl _ _⟩
  case round =>
    obtain ⟨j, q, hj, rfl, rfl, hqs, hg, hbl⟩ := hrel
    have HG := Lib.hid hg
    clear hg
    have hz := hbl.size
    simp only [World.size_alloc] at hz
    have hBelow : Below w.heap.size w wr := below_made hbl
    by_cases hlt : j < n
    · obtain ⟨ad, l, o, rfl, hb, hc1, hc2, HR⟩ := (((hl.alloc (Nat.le_refl _) (.cells #[.string s, .slice A n c] 24)).mono (Nat.le_succ _)).below hbl).run (k := j) (by rw [HN.out]; exact hlt)
      by_cases hl1 : l < 1
      · have HE : Hid ((22 : Int) = checkE s.size rs) := by
          show _ = _
          unfold checkE
          rw [if_neg (fun h => by have := (told_facts h HR.out HG.out).1; omega)]
        have hd : decide (l < 1) = true := by simpa using hl1
        go_wp2_with fail
        go_quiet (fail)
        go_wp2_with fail
        go_ret
        exact ⟨ret_int HE.out, (hBelow.alloc hBelow.size _).drewN _⟩
      · have hd : decide (l < 1) = false := by simpa using hl1
        by_cases hlq : (q : Int) < l
        · have HE : Hid ((22 : Int) = checkE s.size rs) := by
            show _ = _
            unfold checkE
            rw [if_neg (fun h => by have := (told_facts h HR.out HG.out).2.1; omega)]
          have hd2 : decide ((q : Int) < l) = true := by simpa using hlq
          go_wp2_with fail
          go_quiet (fail)
          go_wp2_with fail
          go_ret
          exact ⟨ret_int HE.out, (hBelow.alloc hBelow.size _).drewN _⟩
        · have hd2 : decide ((q : Int) < l) = false := by simpa using hlq
          by_cases hno : o = nearO o
          · have hd3 : (o != nearO o) = false := by rw [bne_eq_false_iff_eq]; exact hno
            have HNO := Lib.hid hno
            clear hno
            rcases Nat.eq_zero_or_pos j with hj0 | hj0
            · have HG2 := Lib.hid (good_next (l := l) (o := o) HG.out (by omega) (by omega) HNO.out (by rw [hj0]; simp))
              have hj1 : j ≤ 0 := by omega
              have hd5 : decide ((0 : Int) < (j : Int)) = false := by simp; omega
              have hd6 : decide (0 < j) = false := by simp; omega
              clear hj0
              go_wp2_with fail
              go_quiet ((go_at_call 30; exact Calls.quiet_of_same (nearest_quiet _ _)))
              go_wp2_with fail
              go_quiet (fail)
              go_wp2_with fail
              go_roundw
              case rel => exact ⟨j + 1, q - l.toNat, by omega, by go_num, by congr 1; omega, by omega, by rw [take_next HR.out]; exact HG2.out, (hbl.alloc (by omega) _).drewN _⟩
              case measure => simp [intOf]; omega
            · obtain ⟨m, rfl⟩ : ∃ m, j = m + 1 := ⟨j - 1, by omega⟩
              obtain ⟨ad2, l2, o2, hAD, _, _, hp2, HR2⟩ := (((hl.alloc (Nat.le_refl _) (.cells #[.string s, .slice (some ad) n c] 24)).mono (Nat.le_succ _)).below hbl).run (k := m) (by rw [HN.out]; omega)
              injection hAD with hAD
              subst hAD
              have hx1 : wr.cell? ⟨w.heap.size, 1, none⟩ = some (.slice (some ad) n c) := (hbl.cell (Nat.lt_succ_self _)).trans ((Whole.made w _ _).at_ 1)
              have hzl : w.heap.size < wr.heap.size := by omega
              have hbm : (ad.add (m * 2)).block < wr.heap.size := by rw [addr_block]; omega
              have hp3 : ∀ ob, (wr.alloc ob).cell? ⟨(ad.add (m * 2)).block, (ad.add (m * 2)).off + 1, none⟩ = some (.int .i64 o2) := fun ob => (World.cell?_alloc_lt wr ob (⟨(ad.add (m * 2)).block, (ad.add (m * 2)).off + 1, none⟩ : Addr) hbm).trans hp2
              have hm0 : (0 : Int) ≤ (m : Int) := Int.natCast_nonneg _
              have hm1 : (m : Int) < (n : Int) := by omega
              have HW1 := Lib.hid (IntWalk.i64_in (m : Int) (by omega))
              have HLAST : Hid (∀ x, (rs.take (m + 1)).getLast? = some x → x = (l2, o2)) := by
                intro x hx
                rw [take_next HR2.out] at hx
                simpa using hx.symm
              by_cases hoo : o2 = o
              · have HE : Hid ((22 : Int) = checkE s.size rs) := by
                  show _ = _
                  unfold checkE
                  rw [if_neg (fun h => by
                    have h4 := (told_facts h HR.out HG.out).2.2.2 (l2, o2) (by rw [take_next HR2.out]; simp)
                    exact h4 hoo)]
                have hd4 : (o2 == o) = true := by rw [beq_iff_eq]; exact hoo
                subst hoo
                go_wp2_with fail
                go_quiet ((go_at_call 30; exact Calls.quiet_of_same (nearest_quiet _ _)))
                go_wp2_with fail
                have hw1 := HW1.out
                go_quiet (fail)
                clear hw1
                go_wp2_with fail
                go_ret
                exact ⟨ret_int HE.out, ((hBelow.alloc hBelow.size _).drewN _).drewN _⟩
              · have hd4 : (o2 == o) = false := by rw [beq_eq_false_iff_ne]; exact hoo
                have HG2 := Lib.hid (good_next (l := l) (o := o) HG.out (by omega) (by omega) HNO.out (fun x hx => by rw [HLAST.out x hx]; exact hoo))
                clear hoo
                go_wp2_with fail
                go_quiet ((go_at_call 30; exact Calls.quiet_of_same (nearest_quiet _ _)))
                go_wp2_with fail
                have hw1 := HW1.out
                go_quiet (fail)
                clear hw1
                go_wp2_with fail
                go_roundw
                case rel => exact ⟨m + 1 + 1, q - l.toNat, by omega, by go_num, by congr 1; omega, by omega, by rw [take_next HR.out]; exact HG2.out, (hbl.alloc (by omega) _).drewN _⟩
                case measure => simp [intOf]; omega
          · have HE : Hid ((22 : Int) = checkE s.size rs) := by
              show _ = _
              unfold checkE
              rw [if_neg (fun h => hno (told_facts h HR.out HG.out).2.2.1)]
            have hd3 : (o != nearO o) = true := by rw [bne_iff_ne]; exact hno
            clear hno
            go_wp2_with fail
            go_quiet ((go_at_call 30; exact Calls.quiet_of_same (nearest_quiet _ _)))
            go_wp2_with fail
            go_ret
            exact ⟨ret_int HE.out, (hBelow.alloc hBelow.size _).drewN _⟩
    · have HT := Lib.hid (show rs.take j = rs from List.take_of_length_le (by have := HN.out; omega))
      have hg := HG.out
      rw [HT.out] at hg
      by_cases hq0 : q = 0
      · have HE : Hid ((0 : Int) = checkE s.size rs) := by
          show _ = _
          unfold checkE
          rw [hq0] at hg
          rw [if_pos (good_end hg)]
        have HG3 := Lib.hid hg
        obtain rfl : q = 0 := hq0
        clear hg
        go_wp2_with fail
        go_ret
        exact ⟨ret_int HE.out, hBelow⟩
      · have HE : Hid ((22 : Int) = checkE s.size rs) := by
          show _ = _
          unfold checkE
          rw [told_end hg (by omega)]
          rfl
        have hq1 : 0 < q := by omega
        clear hg hq0
        go_wp2_with fail
        go_ret
        exact ⟨ret_int HE.out, hBelow⟩

end Go.Proofs.Ytamnoenjpphkcaa.mk
