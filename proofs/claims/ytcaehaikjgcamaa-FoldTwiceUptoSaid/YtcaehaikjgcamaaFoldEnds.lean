/-
  What the last sentence of FoldTells calls, in the words of one labelled text.
-/
import Derived.Test.YtcaehaikjgcamaaFoldReplace
import Derived.Test.YtcaehaikjgcamaaFoldLower
import Derived.Test.YtcaehaikjgcamaaFoldAlive
import Derived.Test.YtcaehaikjgcamaaFoldRef
import Derived.Test.YtcaehaikjgcamaaMarkAll
import Derived.Test.YtcaehaikjgcamaaMarkRefIs
namespace Go.Proofs.Ytcaehaikjgcamaa.mk
open Go.RowKit

def txtOf (l : List (UInt8 × Int)) : ByteArray := ⟨(l.map (·.1)).toArray⟩
def runN (l : List (UInt8 × Int)) : Nat := (comp (l.map (·.2))).length
def TellsL (l : List (UInt8 × Int)) (W : World) (e : Ending) (w' : World) : Prop :=
  ∃ D k, e = .returned (.agg #[.string (txtOf l), .slice D (runN l) k]) ∧ Lies w' w'.heap.size D (runCells (comp (l.map (·.2)))) ∧ Below W.heap.size W w'
def RowL (l : List (UInt8 × Int)) (n : Nat) (W : World) (e : Ending) (w' : World) : Prop :=
  ∃ D k, e = .returned (.slice D n k) ∧ Lies w' w'.heap.size D (chCells l) ∧ Below W.heap.size W w'
def SaysB (V : Value) (W : World) (e : Ending) (w' : World) : Prop := e = .returned V ∧ Below W.heap.size W w'
theorem tellsL_of {l : List (UInt8 × Int)} {W : World} {e : Ending} {w' : World} (h : Tells ⟨(l.map (·.1)).toArray⟩ (comp (l.map (·.2))) W e w') : TellsL l W e w' := by
  obtain ⟨v, rfl, ho, hb⟩ := h
  obtain ⟨D, k, rfl, _, _, _⟩ := own_form ho
  exact ⟨D, k, rfl, Lies.own ho, hb⟩
theorem rowL_of {l : List (UInt8 × Int)} {W : World} {e : Ending} {w' : World} (h : ∃ v, e = .returned v ∧ w'.ownsRow W.heap.size 30 2 v l.length (chCells l) ∧ Below W.heap.size W w') : RowL l l.length W e w' := by
  obtain ⟨v, rfl, ho, hb⟩ := h
  obtain ⟨D, k, rfl, _, _, _⟩ := own_form ho
  exact ⟨D, k, rfl, Lies.own ho, hb⟩

structure FEnds (s : ByteArray) (A : Option Addr) (m c : Nat) (x : UInt8) (y z en : ByteArray) (A2 : Option Addr) (c2 : Nat) (A5 : Option Addr) (c5 : Nat) (vb : Bool) (wk : World) (l1 l2 l3 l4 l5 : List (UInt8 × Int)) (n1 n2 n3 n4 n5 : Nat) : Prop where
  lower : ∀ W, Below wk.heap.size wk W → Calls Try.prog 11 #[.agg #[.string s, .slice A m c]] W (TellsL l1 W)
  rlower : ∀ W, Below wk.heap.size wk W → Calls Try.prog 12 #[.slice A2 s.size c2] W (RowL l1 n1 W)
  is1 : ∀ W D k E d, Lies W W.heap.size D (runCells (comp (l1.map (·.2)))) → Lies W W.heap.size E (chCells l1) → Calls Try.prog 10 #[.agg #[.string (txtOf l1), .slice D (runN l1) k], .slice E n1 d] W (SaysB (.bool true) W)
  ends : ∀ W, Below wk.heap.size wk W → Calls Try.prog 13 #[.agg #[.string s, .slice A m c]] W (TellsL l2 W)
  rends : ∀ W, Below wk.heap.size wk W → Calls Try.prog 14 #[.slice A2 s.size c2, .string en] W (RowL l2 n2 W)
  is2 : ∀ W D k E d, Lies W W.heap.size D (runCells (comp (l2.map (·.2)))) → Lies W W.heap.size E (chCells l2) → Calls Try.prog 10 #[.agg #[.string (txtOf l2), .slice D (runN l2) k], .slice E n2 d] W (SaysB (.bool true) W)
  trim : ∀ W, Below wk.heap.size wk W → Calls Try.prog 15 #[.agg #[.string s, .slice A m c]] W (TellsL l3 W)
  rtrim : ∀ W, Below wk.heap.size wk W → Calls Try.prog 14 #[.slice A2 s.size c2, .string ⟨#[9, 10, 12, 13, 32]⟩] W (RowL l3 n3 W)
  is3 : ∀ W D k E d, Lies W W.heap.size D (runCells (comp (l3.map (·.2)))) → Lies W W.heap.size E (chCells l3) → Calls Try.prog 10 #[.agg #[.string (txtOf l3), .slice D (runN l3) k], .slice E n3 d] W (SaysB (.bool true) W)
  without : ∀ W, Below wk.heap.size wk W → Calls Try.prog 16 #[.agg #[.string s, .slice A m c], .string y] W (TellsL l4 W)
  rwithout : ∀ W, Below wk.heap.size wk W → Calls Try.prog 17 #[.slice A2 s.size c2, .string y] W (RowL l4 n4 W)
  is4 : ∀ W D k E d, Lies W W.heap.size D (runCells (comp (l4.map (·.2)))) → Lies W W.heap.size E (chCells l4) → Calls Try.prog 10 #[.agg #[.string (txtOf l4), .slice D (runN l4) k], .slice E n4 d] W (SaysB (.bool true) W)
  swap : ∀ W, Below wk.heap.size wk W → Calls Try.prog 18 #[.agg #[.string s, .slice A m c], .int .u8 x.toNat, .string z] W (TellsL l5 W)
  is5 : ∀ W D k, Below wk.heap.size wk W → Lies W W.heap.size D (runCells (comp (l5.map (·.2)))) → Calls Try.prog 10 #[.agg #[.string (txtOf l5), .slice D (runN l5) k], .slice A5 n5 c5] W (SaysB (.bool true) W)
  isl : ∀ W, Calls Try.prog 19 #[.string s] W (SaysB (.bool vb) W)

theorem isL_true (l : List (UInt8 × Int)) (hr : runN l ≤ 4294967296) (hn : l.length ≤ 1099511627776) (W : World) (D : Option Addr) (k : Nat) (E : Option Addr) (d : Nat) (h1 : Lies W W.heap.size D (runCells (comp (l.map (·.2))))) (h2 : Lies W W.heap.size E (chCells l)) :
    Calls Try.prog 10 #[.agg #[.string (txtOf l), .slice D (runN l) k], .slice E l.length d] W (SaysB (.bool true) W) := by
  refine (refIs_any (txtOf l) D (runN l) k (comp (l.map (·.2))) E l.length d l W h1 rfl hr h2 rfl hn).mono ?_
  rintro e w' ⟨rfl, hb⟩
  refine ⟨ret_bool ?_, hb⟩
  unfold isB
  rw [decide_eq_true_iff]
  exact ⟨rfl, rfl⟩
theorem runN_le (l : List (UInt8 × Int)) : runN l ≤ l.length := by
  have := comp_length_le (l.map (·.2))
  rw [List.length_map] at this
  exact this
theorem replL_filter (f : UInt8 → Bool) (l : List (UInt8 × Int)) : replL f [] l = l.filter (fun x => !f x.1) := by
  induction l with
  | nil => rfl
  | cons x l ih =>
    have e : replL f [] (x :: l) = (if f x.1 then [] else [x]) ++ replL f [] l := by simp [replL]
    rw [e, ih, List.filter_cons]
    cases f x.1 <;> rfl
theorem trimL_length {α : Type} (p : α → Bool) (l : List α) : (trimL p l).length ≤ l.length := by
  unfold trimL
  rw [List.length_reverse]
  refine Nat.le_trans (List.dropWhile_sublist _).length_le ?_
  rw [List.length_reverse]
  exact (List.dropWhile_sublist _).length_le
/-- the number of runs of what is put for bytes is at most the number of bytes -/
theorem replL_runs (f : UInt8 → Bool) (by_ : List UInt8) (l : List (UInt8 × Int)) : runN (replL f by_ l) ≤ l.length := by
  induction l using snocInd with
  | nil => exact Nat.le_refl _
  | append_singleton l x ih =>
    unfold runN at ih ⊢
    have e : replL f by_ (l ++ [x]) = replL f by_ l ++ (if f x.1 then by_ else [x.1]).map (fun y => (y, x.2)) := by
      unfold replL
      rw [List.flatMap_append, List.flatMap_singleton]
      congr 1
      split <;> rfl
    rw [e, List.map_append, List.map_map]
    have e2 : ((if f x.1 then by_ else [x.1]).map ((fun z : UInt8 × Int => z.2) ∘ fun y => (y, x.2))) = List.replicate (if f x.1 then by_ else [x.1]).length x.2 := List.map_const'
    rw [e2, comp_replicate, List.length_append]
    have := joinR_len (comp ((replL f by_ l).map (·.2))) ((if f x.1 then by_ else [x.1]).length : Nat) x.2
    simp only [List.length_singleton]
    omega
theorem endsB_eq (b : UInt8) : isIn ((List.range 33).map UInt8.ofNat) b = decide (b.toNat ≤ 32) := by
  unfold isIn
  rw [Bool.eq_iff_iff, List.contains_iff_mem, decide_eq_true_iff, List.mem_map]
  constructor
  · rintro ⟨n, hn, rfl⟩
    rw [List.mem_range] at hn
    simp
    omega
  · intro h
    exact ⟨b.toNat, List.mem_range.2 (by omega), by simp⟩
theorem noUp_all (l : List (UInt8 × Int)) (s : List UInt8) (h : l.map (·.1) = s) : noUp s = l.all (fun x => x.1 == lowB x.1) := by
  subst h
  unfold noUp
  rw [List.any_map]
  induction l with
  | nil => rfl
  | cons x l ih =>
    rw [List.any_cons, List.all_cons, Bool.not_or, ih]
    congr 1
    show (!upperB x.1) = (x.1 == lowB x.1)
    cases hu : upperB x.1 with
    | true =>
      have h1 := (lowB_up hu).1
      have : (x.1 == lowB x.1) = false := by
        rw [beq_eq_false_iff_ne]
        intro e
        rw [← e] at h1
        omega
      rw [this]; rfl
    | false => rw [lowB_no hu]; simp

theorem fends (s : ByteArray) (A : Option Addr) (m c : Nat) (rs : List (Int × Int)) (x : UInt8) (y z ends : ByteArray) (A2 : Option Addr) (c2 : Nat) (A5 : Option Addr) (c5 : Nat) (vb : Bool) (wk : World) (l5 : List (UInt8 × Int))
    (hl : Lies wk wk.heap.size A (runCells rs)) (hm : rs.length = m) (hm2 : m ≤ 4294967296) (hs : s.size ≤ 1048573) (hy : y.size ≤ 1048573) (hz : z.size ≤ 1048573)
    (h2 : Lies wk wk.heap.size A2 (chCells (chars s.data.toList rs))) (hc2 : s.size ≤ c2) (h5 : Lies wk wk.heap.size A5 (chCells l5)) (he5 : l5 = replL (fun b => b == x) z.data.toList (chars s.data.toList rs))
    (hends : ends.data.toList = (List.range 33).map UInt8.ofNat) (hvb : vb = noUp s.data.toList) :
    ∃ l1 l2 l3 l4 n1 n2 n3 n4, FEnds s A m c x y z ends A2 c2 A5 c5 vb wk l1 l2 l3 l4 l5 n1 n2 n3 n4 l5.length := by
  have hsl : s.data.toList.length = s.size := by rw [Array.length_toList]; rfl
  have hzl : z.data.toList.length = z.size := by rw [Array.length_toList]; rfl
  have hLn : (chars s.data.toList rs).length = s.size := by rw [chars_length, hsl]
  have hpr : s.size * (z.size + 1) ≤ 1048573 * 1048574 := Nat.mul_le_mul hs (by omega)
  have h5n : l5.length ≤ 1099511627776 := by
    rw [he5]
    refine Nat.le_trans (replL_length _ _ _) ?_
    rw [hLn, hzl]
    omega
  have h5r : runN l5 ≤ 4294967296 := by
    rw [he5]
    refine Nat.le_trans (replL_runs _ _ _) ?_
    rw [hLn]
    omega
  have hle : ∀ q : List (UInt8 × Int), q.length ≤ s.size → runN q ≤ 4294967296 ∧ q.length ≤ 1099511627776 := fun q hq => ⟨Nat.le_trans (runN_le q) (by omega), by omega⟩
  have q1 : (lowCh (chars s.data.toList rs)).length ≤ s.size := by unfold lowCh; rw [List.length_map, hLn]; exact Nat.le_refl _
  have q2 : ∀ p, (trimL p (chars s.data.toList rs)).length ≤ s.size := fun p => by rw [← hLn]; exact trimL_length _ _
  have q4 : (replL (fun b => y.data.toList.contains b) [] (chars s.data.toList rs)).length ≤ s.size := by rw [replL_filter, ← hLn]; exact List.length_filter_le _ _
  have hon : onB (isIn ends.data.toList) = onB (fun b => decide (b.toNat ≤ 32)) := by
    funext v
    show isIn ends.data.toList v.1 = _
    rw [hends, endsB_eq]
    rfl
  have e11 : (lowCh (chars s.data.toList rs)).map (·.1) = s.data.toList.map lowB := by
    unfold lowCh
    rw [List.map_map]
    conv => rhs; rw [← chars_fst s.data.toList rs, List.map_map]
    rfl
  have e12 : comp ((lowCh (chars s.data.toList rs)).map (·.2)) = taken s.size rs := by
    unfold lowCh taken
    rw [List.map_map]
    show comp ((chars s.data.toList rs).map (·.2)) = _
    rw [chars_snd, hsl]
  refine ⟨lowCh (chars s.data.toList rs), trimL (onB (fun b => decide (b.toNat ≤ 32))) (chars s.data.toList rs), trimL (onB blanksB) (chars s.data.toList rs), replL (fun b => y.data.toList.contains b) [] (chars s.data.toList rs), (lowCh (chars s.data.toList rs)).length, (trimL (onB (fun b => decide (b.toNat ≤ 32))) (chars s.data.toList rs)).length, (trimL (onB blanksB) (chars s.data.toList rs)).length, (replL (fun b => y.data.toList.contains b) [] (chars s.data.toList rs)).length, ?_⟩
  constructor
  · intro W hb
    refine (lower_any s A m c rs W (hl.next hb (Nat.le_refl _)) hm (by omega) hm2).mono fun e w' h => ?_
    refine tellsL_of ?_
    rw [e11, e12]
    exact h
  · exact fun W hb => (refLower_any A2 s.size c2 _ W (h2.next hb (Nat.le_refl _)) hLn (by omega)).mono fun e w' h => rowL_of h
  · exact fun W D k E d h1 h2 => isL_true _ (hle _ q1).1 (hle _ q1).2 W D k E d h1 h2
  · exact fun W hb => (ends_any s A m c rs W (hl.next hb (Nat.le_refl _)) hm (by omega) hm2).mono fun e w' h => tellsL_of h
  · intro W hb
    refine (refTrim_any A2 s.size c2 _ ends W (h2.next hb (Nat.le_refl _)) hLn hc2 (by omega) ?_).mono fun e w' h => ?_
    · have := congrArg List.length hends
      rw [List.length_map, List.length_range, Array.length_toList] at this
      show ends.data.size ≤ _
      omega
    · obtain ⟨A', n', c', rfl, hl', hn', rfl⟩ := h
      rw [hon] at hl' hn'
      subst hn'
      exact ⟨A', c', rfl, hl', Below.refl _ _⟩
  · exact fun W D k E d h1 h2 => isL_true _ (hle _ (q2 _)).1 (hle _ (q2 _)).2 W D k E d h1 h2
  · exact fun W hb => (trim_any s A m c rs W (hl.next hb (Nat.le_refl _)) hm (by omega) hm2).mono fun e w' h => tellsL_of h
  · intro W hb
    refine (refTrim_any A2 s.size c2 _ ⟨#[9, 10, 12, 13, 32]⟩ W (h2.next hb (Nat.le_refl _)) hLn hc2 (by omega) (by show (5 : Nat) ≤ _; omega)).mono fun e w' h => ?_
    obtain ⟨A', n', c', rfl, hl', hn', rfl⟩ := h
    subst hn'
    exact ⟨A', c', rfl, hl', Below.refl _ _⟩
  · exact fun W D k E d h1 h2 => isL_true _ (hle _ (q2 _)).1 (hle _ (q2 _)).2 W D k E d h1 h2
  · exact fun W hb => (without_any s y A m c rs W (hl.next hb (Nat.le_refl _)) hm (by omega) hm2 (by omega)).mono fun e w' h => tellsL_of h
  · intro W hb
    refine (refWithout_any A2 s.size c2 _ y W (h2.next hb (Nat.le_refl _)) hLn (by omega) (by omega)).mono fun e w' h => ?_
    have e4 : (chars s.data.toList rs).filter (fun x => !isIn y.data.toList x.1) = replL (fun b => y.data.toList.contains b) [] (chars s.data.toList rs) := (replL_filter _ _).symm
    rw [e4] at h
    exact rowL_of h
  · exact fun W D k E d h1 h2 => isL_true _ (hle _ q4).1 (hle _ q4).2 W D k E d h1 h2
  · intro W hb
    refine (swap_any s z x A m c rs W (hl.next hb (Nat.le_refl _)) hm (by omega) hm2 (by omega)).mono fun e w' h => ?_
    rw [← he5] at h
    exact tellsL_of h
  · exact fun W D k hb h1 => isL_true _ h5r h5n W D k A5 c5 h1 (h5.next hb (Nat.le_refl _))
  · intro W
    refine (isLower_any s W (by omega)).mono ?_
    rintro e w' ⟨rfl, rfl⟩
    exact ⟨by rw [hvb], Below.refl _ _⟩

end Go.Proofs.Ytcaehaikjgcamaa.mk
