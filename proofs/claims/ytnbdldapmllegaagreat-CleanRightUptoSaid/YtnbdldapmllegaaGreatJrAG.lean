/-
  The contract of url's Ready.
-/
import Derived.Test.YtnbdldapmllegaaGreatJrC
import Derived.Test.YtnbdldapmllegaaGreatJrAA
import Derived.Test.YtnbdldapmllegaaGreatJrAD
import Derived.Test.YtnbdldapmllegaaGreatJrW
import Derived.Lib.Bytealg
import Derived.Test.YtnbdldapmllegaaGreatJrU
namespace Go.Proofs.YtnbdldapmllegaaGreat.mk
open Go.RowKit

/-! ready -/
theorem dropWhile_first {α : Type} (p : α → Bool) (l : List α) : l.dropWhile p = [] ∨ ∃ x t, l.dropWhile p = x :: t ∧ p x = false := by
  induction l with
  | nil => exact .inl rfl
  | cons x l ih =>
    cases hx : p x with
    | true => rw [List.dropWhile_cons, if_pos hx]; exact ih
    | false => exact .inr ⟨x, l, dropWhile_stay hx, hx⟩
theorem trimL_mem {α : Type} {p : α → Bool} {l : List α} {x : α} (h : x ∈ trimL p l) : x ∈ l := by
  unfold trimL at h
  rw [List.mem_reverse] at h
  have h2 := (List.dropWhile_sublist p).subset h
  rw [List.mem_reverse] at h2
  exact (List.dropWhile_sublist p).subset h2
/-- what is left begins and ends with what stays -/
theorem trimL_ends {α : Type} (p : α → Bool) (l : List α) : trimL p l = [] ∨ ∃ x y, (trimL p l).head? = some x ∧ p x = false ∧ (trimL p l).getLast? = some y ∧ p y = false := by
  rcases dropWhile_first p (l.dropWhile p).reverse with h | ⟨y, t, h, hy⟩
  · left; unfold trimL; rw [h]; rfl
  · have e : trimL p l = (y :: t).reverse := by unfold trimL; rw [h]
    rcases dropWhile_first p l with h2 | ⟨x, t2, h2, hx⟩
    · rw [h2] at h; simp at h
    · refine .inr ⟨x, y, ?_, hx, ?_, hy⟩
      · rw [e, List.head?_reverse]
        obtain ⟨a, ha⟩ := List.dropWhile_suffix (l := (l.dropWhile p).reverse) p
        have h3 : ((l.dropWhile p).reverse).getLast? = some x := by rw [List.getLast?_reverse, h2]; rfl
        rw [← ha, h, List.getLast?_append] at h3
        cases hq : (y :: t).getLast? with
        | none => simp at hq
        | some q => rw [hq] at h3; simpa using h3
      · rw [e, List.getLast?_reverse]; rfl
theorem trimL_filter {α : Type} {p f : α → Bool} (hf : ∀ x, p x = false → f x = true) (l : List α) : trimL p ((trimL p l).filter f) = (trimL p l).filter f := by
  rcases trimL_ends p l with h | ⟨x, y, hx, hpx, hy, hpy⟩
  · rw [h]; rfl
  · have hh : ((trimL p l).filter f).head? = some x := by
      generalize trimL p l = m at *
      cases m with
      | nil => simp at hx
      | cons z m => simp at hx; subst hx; rw [List.filter_cons, if_pos (hf _ hpx)]; rfl
    have hl : ((trimL p l).filter f).getLast? = some y := by
      generalize trimL p l = m at *
      rw [← List.head?_reverse] at hy ⊢
      rw [← List.filter_reverse]
      cases hm : m.reverse with
      | nil => rw [hm] at hy; simp at hy
      | cons z m => rw [hm] at hy; simp at hy; subst hy; rw [List.filter_cons, if_pos (hf _ hpy)]; rfl
    have := trimL_mid (p := p) (a := []) (b := []) (m := (trimL p l).filter f) (by simp) (by simp) hh hpx hl hpy
    simpa using this

/-- what is taken off at the ends -/
def edgeC : UInt8 × Int → Bool := onB (fun b => decide (b.toNat ≤ 32))
/-- what an address that is ready has nowhere -/
def noneB : List UInt8 := [9, 10, 13]
def keepC (x : UInt8 × Int) : Bool := !isIn noneB x.1
/-- ready -/
def readyL (l : List (UInt8 × Int)) : List (UInt8 × Int) := (trimL edgeC l).filter keepC
theorem readyL_length (l : List (UInt8 × Int)) : (readyL l).length ≤ l.length := Nat.le_trans (List.length_filter_le _ _) (trimL_length _ _)
theorem readyL_in {l : List (UInt8 × Int)} (h : InR l) : InR (readyL l) := h.sub fun _ hx => trimL_mem (List.mem_filter.1 hx).1
theorem edge_keep (x : UInt8 × Int) (h : edgeC x = false) : keepC x = true := by
  unfold keepC isIn noneB
  have h1 : ¬ x.1.toNat ≤ 32 := by simpa [edgeC, onB] using h
  rw [Bool.not_eq_true', Bool.eq_false_iff]
  intro h2
  rw [List.contains_iff_mem] at h2
  simp only [List.mem_cons, List.not_mem_nil, or_false] at h2
  rcases h2 with h2 | h2 | h2 <;> (rw [h2] at h1; exact h1 (by decide))
theorem readyL_twice (l : List (UInt8 × Int)) : readyL (readyL l) = readyL l := by
  unfold readyL
  rw [trimL_filter edge_keep, List.filter_filter]
  congr 1
  funext x
  simp
/-! where the scheme ends -/
def letterB (b : UInt8) : Bool := (decide (65 ≤ b.toNat) && decide (b.toNat ≤ 90)) || (decide (97 ≤ b.toNat) && decide (b.toNat ≤ 122))
def signB : List UInt8 := [43, 45, 46]
def digitC (b : UInt8) : Bool := decide (48 ≤ b.toNat) && decide (b.toNat ≤ 57)
def laterB (b : UInt8) : Bool := digitC b || isIn signB b
/-- the colon that ends the scheme, the first byte being the k-th -/
def colonF : List UInt8 → Nat → Int
  | [], _ => -1
  | b :: l, k => if b = 58 ∧ 0 < k then (k : Int) else if letterB b || (decide (0 < k) && laterB b) then colonF l (k + 1) else -1
theorem colonF_next {l : List UInt8} {k : Nat} {b : UInt8} (h : l[k]? = some b) :
    colonF (l.drop k) k = if b = 58 ∧ 0 < k then (k : Int) else if letterB b || (decide (0 < k) && laterB b) then colonF (l.drop (k + 1)) (k + 1) else -1 := by
  obtain ⟨hk, hb⟩ := List.getElem?_eq_some_iff.1 h
  rw [List.drop_eq_getElem_cons hk, hb]
  rfl
theorem colonF_end {l : List UInt8} {k : Nat} (h : l.length ≤ k) : colonF (l.drop k) k = -1 := by
  rw [List.drop_of_length_le h]; rfl
theorem colonF_bd (l : List UInt8) (k : Nat) : colonF l k = -1 ∨ (k : Int) ≤ colonF l k ∧ colonF l k < (k : Int) + l.length := by
  induction l generalizing k with
  | nil => exact .inl rfl
  | cons b l ih =>
    unfold colonF
    split
    · right; simp only [List.length_cons]; omega
    · split
      · rcases ih (k + 1) with h | h
        · exact .inl h
        · right; simp only [List.length_cons]; omega
      · exact .inl rfl
def colonI (l : List (UInt8 × Int)) : Int := colonF (l.map (·.1)) 0
theorem colonI_bd (l : List (UInt8 × Int)) : colonI l = -1 ∨ 0 ≤ colonI l ∧ colonI l < l.length := by
  have := colonF_bd (l.map (·.1)) 0
  unfold colonI
  rw [List.length_map] at this
  omega

/-! the scheme, and what is behind it -/
def schemeL (r : List (UInt8 × Int)) : List (UInt8 × Int) := (r.take (colonI r).toNat).map fun x => (lowB x.1, x.2)
theorem schemeL_none {r : List (UInt8 × Int)} (h : colonI r = -1) : schemeL r = [] := by unfold schemeL; rw [h]; rfl
end Go.Proofs.YtnbdldapmllegaaGreat.mk

namespace Go.Proofs.YtnbdldapmllegaaGreat.mk
open Go.RowKit

theorem colon_not : letterB 58 = false ∧ laterB 58 = false := by decide
theorem colonF_first (l : List UInt8) (k : Nat) (h : 0 ≤ colonF l k) :
    ∃ i : Nat, colonF l k = ((k + i : Nat) : Int) ∧ l[i]? = some 58 ∧ ∀ j, j < i → l[j]? ≠ some 58 := by
  induction l generalizing k with
  | nil => exact absurd h (by show ¬ (0 : Int) ≤ -1; decide)
  | cons b l ih =>
    unfold colonF at h ⊢
    split
    · rename_i hb
      exact ⟨0, rfl, by simp [hb.1], fun j hj => absurd hj (Nat.not_lt_zero _)⟩
    · rename_i hb
      rw [if_neg hb] at h
      split
      · rename_i hl
        rw [if_pos hl] at h
        obtain ⟨i, hi, hat, hno⟩ := ih (k + 1) h
        refine ⟨i + 1, by rw [hi]; congr 1; omega, by simpa using hat, fun j hj => ?_⟩
        rcases j with _ | j
        · intro e
          simp only [List.getElem?_cons_zero, Option.some.injEq] at e
          subst e
          rw [colon_not.1, colon_not.2] at hl
          simp at hl
        · simpa using hno j (by omega)
      · rename_i hl
        rw [if_neg hl] at h
        exact absurd h (by decide)
/-- of an address with a scheme the first colon is the scheme's -/
theorem findI_colon {R : List (UInt8 × Int)} (h : 0 ≤ colonI R) : findI (R.map (·.1)) [58] 0 = colonI R := by
  obtain ⟨i, hi, hat, hno⟩ := colonF_first (R.map fun x : UInt8 × Int => x.1) 0 h
  unfold colonI
  rw [hi, Nat.zero_add]
  have hlt : i < (R.map (·.1)).length := (List.getElem?_eq_some_iff.1 hat).1
  refine findI_first (a := 0) (by unfold atN; omega) (Nat.zero_le _) (Nat.le_of_lt hlt) (by rw [occ_one, hat]; simp) (fun j _ hj => ?_)
  rw [occ_one, beq_eq_false_iff_ne]
  exact hno j hj

/-- whether the scheme and its colon are trusted -/
def trustB (R : List (UInt8 × Int)) : Bool := worstO ((R.take (colonI R + 1).toNat).map (·.2)) == 0
/-- whether what is ready is safe -/
def safeB (R : List (UInt8 × Int)) : Bool := if colonI R < 0 then true else knownB (txtOf (schemeL R)) && trustB R
theorem safeB_none {R : List (UInt8 × Int)} (h : colonI R < 0) : safeB R = true := by unfold safeB; rw [if_pos h]
theorem safeB_some {R : List (UInt8 × Int)} (h : 0 ≤ colonI R) : safeB R = (knownB (txtOf (schemeL R)) && trustB R) := by unfold safeB; rw [if_neg (by omega)]
/-- what is told: ready, if it is safe -/
def filterL (R : List (UInt8 × Int)) : List (UInt8 × Int) := if safeB R then R else []
theorem filterL_length (R : List (UInt8 × Int)) : (filterL R).length ≤ R.length := by
  unfold filterL; split
  · exact Nat.le_refl _
  · exact Nat.zero_le _
theorem filterL_true {R : List (UInt8 × Int)} (h : safeB R = true) : filterL R = R := by unfold filterL; rw [if_pos h]
theorem filterL_false {R : List (UInt8 × Int)} (h : safeB R = false) : filterL R = [] := by unfold filterL; rw [if_neg (by simp [h])]

end Go.Proofs.YtnbdldapmllegaaGreat.mk

namespace Go.Proofs.YtnbdldapmllegaaGreat.mk
open Go.RowKit

theorem ends_t (a : LT) (w : World) (ha : a.ok w w.heap.size) :
    Calls Tryz.prog 75 #[a.v] w (Tells (txtOf (trimL edgeC a.ch)) (comp ((trimL edgeC a.ch).map (·.2))) w) := ends_any a.s a.A a.n a.c a.rs w ha.1 ha.2.1 ha.2.2.2 ha.2.2.1
theorem without_t (a : LT) (w : World) (ha : a.ok w w.heap.size) :
    Calls Tryz.prog 74 #[a.v, .string ⟨#[9, 10, 13]⟩] w (Tells (txtOf (a.ch.filter keepC)) (comp ((a.ch.filter keepC).map (·.2))) w) := by
  have h := without_any a.s ⟨#[9, 10, 13]⟩ a.A a.n a.c a.rs w ha.1 ha.2.1 ha.2.2.2 ha.2.2.1 (by decide)
  have e : replL (fun b => (ByteArray.mk #[9, 10, 13]).data.toList.contains b) [] (chars a.s.data.toList a.rs) = a.ch.filter keepC := replL_filter _ _
  rw [e] at h
  exact h

set_option maxHeartbeats 1000000 in
set_option maxRecDepth 100000 in
theorem ready_any (a : LT) (w : World) (ha : a.ok w w.heap.size) :
    Calls Tryz.prog 54 #[a.v] w (Tells (txtOf (readyL a.ch)) (comp ((readyL a.ch).map (·.2))) w) := by
  have hsz := ha.2.2.2
  obtain ⟨l1, hl1⟩ : ∃ l, l = trimL edgeC a.ch := ⟨_, rfl⟩
  obtain ⟨R, hR⟩ : ∃ R, R = readyL a.ch := ⟨_, rfl⟩
  have hlen1 : l1.length ≤ 4294967296 := by rw [hl1]; exact Nat.le_trans (trimL_length _ _) (by rw [LT.ch_length]; exact hsz)
  have hin1 : InR l1 := by rw [hl1]; exact a.ch_in.sub fun _ hx => trimL_mem hx
  have HE : Hid (∀ W, Below w.heap.size w W → Calls Tryz.prog 75 #[.agg #[.string a.s, .slice a.A a.n a.c]] W (Tells (txtOf l1) (comp (l1.map (·.2))) W)) := fun W hb => by
    rw [hl1]
    exact ends_t a W (ha.next hb (Nat.le_refl _))
  have HW : Hid (∀ W D k, Lies W W.heap.size D (runCells (comp (l1.map (·.2)))) → Calls Tryz.prog 74 #[.agg #[.string (txtOf l1), .slice D (comp (l1.map (·.2))).length k], .string ⟨#[9, 10, 13]⟩] W (Tells (txtOf R) (comp (R.map (·.2))) W)) := fun W D k h => by
    have h2 := without_t (toldT l1 D k) W (toldT_ok k h hlen1)
    rw [toldT_ch hin1] at h2
    rw [hR]
    unfold readyL
    rw [← hl1]
    exact h2
  rw [← hR]
  clear hR hl1 hlen1 hin1 hsz ha
  generalize comp (l1.map (·.2)) = q1 at *
  generalize hq2 : comp (R.map (·.2)) = q2 at *
  clear hq2
  generalize txtOf l1 = t1 at *
  generalize txtOf R = t2 at *
  obtain ⟨s, A, n, c, rs⟩ := a
  simp only at HE
  show Calls Tryz.prog 54 #[.agg #[.string s, .slice A n c]] w _
  go_enter Tryz.func54, Tryz.ntmps54
  go_wp2_with fail
  generalize hwE : (w.alloc (.cells #[.string s, .slice A n c] 28)).alloc (.cells #[.string ⟨#[]⟩, .slice none 0 0] 28) = wE
  have y3 : Whole wE (w.heap.size + 1) 28 #[.string ⟨#[]⟩, .slice none 0 0] := by
    rw [← hwE]
    have h := Whole.made (w.alloc (.cells #[.string s, .slice A n c] 28)) 28 #[.string ⟨#[]⟩, .slice none 0 0]
    simp only [World.size_alloc] at h
    exact h
  have hzE : w.heap.size + 2 ≤ wE.heap.size := by rw [← hwE]; simp
  have hbE : Below w.heap.size w wE := by rw [← hwE]; exact ((Below.refl _ _).alloc (Nat.le_refl _) _).alloc (by simp) _
  clear hwE
  refine (HE.out _ hbE).mono ?_
  rintro e w1 ⟨v1, rfl, ho1, hb1⟩
  obtain ⟨A1, c1, rfl, _, _, _⟩ := own_form ho1
  have hz1 := hb1.size
  go_wp2_with fail
  refine (HW.out _ A1 c1 (Lies.own ho1)).mono ?_
  rintro e w2 ⟨v2, rfl, ho2, hb2⟩
  obtain ⟨A2, c2, rfl, _, _, _⟩ := own_form ho2
  have hb12 : Below wE.heap.size wE w2 := below_next hb1 (Nat.le_refl _) hb2
  have hW := y3.below hb12 y3.lt
  have f0 := hW.free 0
  have f1 := hW.free 1
  have d0 : w2.cell? ⟨w.heap.size + 1, 0, none⟩ = some (.string ⟨#[]⟩) := hW.at_ 0
  have d1 : w2.cell? ⟨w.heap.size + 1, 1, none⟩ = some (.slice none 0 0) := hW.at_ 1
  have HO := Lib.hid ho2
  clear ho2 ho1
  go_wp2
  refine bodyPost_ret (v := .agg #[.string t2, .slice A2 q2.length c2]) ?_ rfl ?_
  · simp [results, Tryz.results54, go_sem, d0, d1]
  · exact tells_end (g := w.heap.size + 1) (by omega) (own_mono HO.out (by omega)) (below_next hbE (Nat.le_refl _) hb12)

end Go.Proofs.YtnbdldapmllegaaGreat.mk
