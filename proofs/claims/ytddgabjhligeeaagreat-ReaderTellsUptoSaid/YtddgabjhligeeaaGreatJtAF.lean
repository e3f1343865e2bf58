/-
  What is decoded, from the first byte on; a text that is one reference.
-/
import Derived.Test.YtddgabjhligeeaaGreatJtS
import Derived.Test.YtddgabjhligeeaaGreatJtV
import Derived.Test.YtddgabjhligeeaaGreatJtT
namespace Go.Proofs.YtddgabjhligeeaaGreat.mk
open Go.RowKit

/-! numbers -/
def winL : List Int := [8364, 129, 8218, 402, 8222, 8230, 8224, 8225, 710, 8240, 352, 8249, 338, 141, 381, 143, 144, 8216, 8217, 8220, 8221, 8226, 8211, 8212, 732, 8482, 353, 8250, 339, 157, 382, 376]
def winN (n : Int) : Int := if 128 ≤ n ∧ n ≤ 159 then winL.getD (n - 128).toNat 0 else n
/-- what a number stands for -/
def numB (n : Int) : ByteArray := runeB (winN n)
theorem numB_pos (n : Int) : 1 ≤ (numB n).size := by
  have h := List.length_pos_iff.2 (runeB_ne (winN n))
  rw [Array.length_toList] at h
  exact h
theorem numB_le (n : Int) : (numB n).size ≤ 4 := runeB_le4 _
theorem numB_big {n m : Int} (h : 1114112 ≤ n) (hm : 1114112 ≤ m) : numB n = numB m := by
  have e : ∀ x : Int, 1114112 ≤ x → numB x = Utf8.encode 65533 := by
    intro x hx
    unfold numB winN runeB runeN
    have h1 : ¬ (128 ≤ x ∧ x ≤ 159) := by omega
    have h2 : ¬ (1 ≤ x ∧ x ≤ 1114111 ∧ ¬ (55296 ≤ x ∧ x ≤ 57343)) := by omega
    simp only [if_neg h1, if_neg h2]
  rw [e n h, e m hm]

/-! digits -/
def digV (base : Int) (b : UInt8) : Bool := decide (0 ≤ hexB b) && decide (hexB b < base)
def valD (base : Int) (l : List UInt8) : Int := l.foldl (fun n b => n * base + hexB b) 0
def valC (top base : Int) (l : List UInt8) : Int := l.foldl (fun n b => min (n * base + hexB b) top) 0
theorem valD_snoc (base : Int) (l : List UInt8) (b : UInt8) : valD base (l ++ [b]) = valD base l * base + hexB b := by simp [valD, List.foldl_append]
theorem valC_snoc (top base : Int) (l : List UInt8) (b : UInt8) : valC top base (l ++ [b]) = min (valC top base l * base + hexB b) top := by simp [valC, List.foldl_append]
theorem digV_bd {base : Int} {b : UInt8} (h : digV base b = true) : 0 ≤ hexB b ∧ hexB b < base := by
  unfold digV at h
  simpa using h
theorem valC_eq {top base : Int} (ht : 0 ≤ top) (hb : 1 ≤ base) (l : List UInt8) (h : ∀ b ∈ l, digV base b = true) : 0 ≤ valD base l ∧ valC top base l = min (valD base l) top := by
  induction l using snocInd with
  | nil => exact ⟨Int.le_refl _, by show (0 : Int) = min 0 top; omega⟩
  | append_singleton l b ih =>
    obtain ⟨h0, h1⟩ := ih fun x hx => h x (by simp [hx])
    have hv := digV_bd (h b (by simp))
    have h2 : 0 ≤ valD base l * base := Int.mul_nonneg h0 (by omega)
    rw [valD_snoc, valC_snoc, h1]
    refine ⟨by omega, ?_⟩
    by_cases hc : valD base l ≤ top
    · rw [show min (valD base l) top = valD base l by omega]
    · rw [show min (valD base l) top = top by omega]
      have h3 : top * 1 ≤ top * base := Int.mul_le_mul_of_nonneg_left hb ht
      have h4 : top * base ≤ valD base l * base := Int.mul_le_mul_of_nonneg_right (by omega) (by omega)
      omega
theorem numB_val {top base : Int} (ht : 1114112 ≤ top) (hb : 1 ≤ base) (l : List UInt8) (h : ∀ b ∈ l, digV base b = true) : numB (valC top base l) = numB (valD base l) := by
  rw [(valC_eq (by omega) hb l h).2]
  by_cases hc : valD base l ≤ top
  · rw [Int.min_eq_left hc]
  · rw [Int.min_eq_right (by omega)]
    exact numB_big ht (by omega)

/-! names -/
def nameL : List (List UInt8 × Int) := [([97, 109, 112], 38), ([108, 116], 60), ([103, 116], 62), ([113, 117, 111, 116], 34), ([97, 112, 111, 115], 39), ([110, 98, 115, 112], 160)]
def nameN (b : List UInt8) : Option Int := (nameL.find? fun x => x.1 == b).map (·.2)
theorem nameN_at {k : Nat} {nm : List UInt8} {c : Int} (h : nameL[k]? = some (nm, c)) : nameN nm = some c := by
  match k, h with
  | 0, h => cases h; decide
  | 1, h => cases h; decide
  | 2, h => cases h; decide
  | 3, h => cases h; decide
  | 4, h => cases h; decide
  | 5, h => cases h; decide
  | k + 6, h => simp [nameL] at h
theorem nameN_some {b : List UInt8} {n : Int} (h : nameN b = some n) : ∃ k, k < 6 ∧ nameL[k]? = some (b, n) := by
  unfold nameN at h
  obtain ⟨x, hx, hn⟩ := Option.map_eq_some_iff.1 h
  have h1 := List.find?_some hx
  have h2 := List.mem_of_find?_eq_some hx
  obtain ⟨k, hk⟩ := List.mem_iff_getElem?.1 h2
  have e : x.1 = b := by simpa using h1
  exact ⟨k, (List.getElem?_eq_some_iff.1 hk).1, by rw [hk, ← e, ← hn]⟩
theorem nameL_no {k : Nat} {nm : List UInt8} {c : Int} (h : nameL[k]? = some (nm, c)) : (∀ b ∈ nm, (b != 59) = true) ∧ 2 ≤ nm.length ∧ nm.length ≤ 4 := by
  match k, h with
  | 0, h => cases h; decide
  | 1, h => cases h; decide
  | 2, h => cases h; decide
  | 3, h => cases h; decide
  | 4, h => cases h; decide
  | 5, h => cases h; decide
  | k + 6, h => simp [nameL] at h

/-! what stands between & and a semicolon -/
def digs (base : Int) (u : List UInt8) : Option Int := if u ≠ [] ∧ u.all (digV base) = true then some (valD base u) else none
def numS (b : List UInt8) : Option Int :=
  match b with
  | c :: t => if c = 35 then (match t with | x :: u => if x = 120 ∨ x = 88 then digs 16 u else digs 10 (x :: u) | [] => none) else none
  | [] => none
def standsN (b : List UInt8) : Option Int := match nameN b with | some n => some n | none => numS b
theorem digs_some {base : Int} {u : List UInt8} {n : Int} (h : digs base u = some n) : u ≠ [] ∧ (∀ b ∈ u, digV base b = true) ∧ n = valD base u := by
  unfold digs at h
  by_cases hc : u ≠ [] ∧ u.all (digV base) = true
  · rw [if_pos hc] at h
    exact ⟨hc.1, List.all_eq_true.1 hc.2, by injection h with h; exact h.symm⟩
  · rw [if_neg hc] at h; cases h
theorem digs_of {base : Int} {u : List UInt8} (h1 : u ≠ []) (h2 : ∀ b ∈ u, digV base b = true) : digs base u = some (valD base u) := by
  unfold digs; rw [if_pos ⟨h1, List.all_eq_true.2 h2⟩]
theorem numS_dec {u : List UInt8} (h1 : u ≠ []) (h2 : ∀ b ∈ u, digV 10 b = true) : numS (35 :: u) = some (valD 10 u) := by
  cases u with
  | nil => exact absurd rfl h1
  | cons x u =>
    have hx := h2 x (by simp)
    have hx2 : ¬ (x = 120 ∨ x = 88) := by
      rintro (e | e) <;> subst e <;> revert hx <;> decide
    show (if (35 : UInt8) = 35 then (if x = 120 ∨ x = 88 then digs 16 u else digs 10 (x :: u)) else none) = _
    rw [if_pos rfl, if_neg hx2]
    exact digs_of h1 h2
theorem numS_hex {x : UInt8} {u : List UInt8} (hx : x = 120 ∨ x = 88) (h1 : u ≠ []) (h2 : ∀ b ∈ u, digV 16 b = true) : numS (35 :: x :: u) = some (valD 16 u) := by
  show (if (35 : UInt8) = 35 then (if x = 120 ∨ x = 88 then digs 16 u else digs 10 (x :: u)) else none) = _
  rw [if_pos rfl, if_pos hx]
  exact digs_of h1 h2
theorem numS_some {b : List UInt8} {n : Int} (h : numS b = some n) : ∃ (bg u : List UInt8) (base : Int), ((bg, base) = ([35], 10) ∨ (bg, base) = ([35, 120], 16) ∨ (bg, base) = ([35, 88], 16)) ∧ b = bg ++ u ∧ u ≠ [] ∧ (∀ y ∈ u, digV base y = true) ∧ n = valD base u := by
  unfold numS at h
  match b with
  | [] => cases h
  | c :: t =>
    simp only at h
    by_cases hc : c = 35
    · subst hc
      rw [if_pos rfl] at h
      match t with
      | [] => cases h
      | x :: u =>
        simp only at h
        by_cases hx : x = 120 ∨ x = 88
        · rw [if_pos hx] at h
          have hd := digs_some h
          rcases hx with rfl | rfl
          · exact ⟨[35, 120], u, 16, .inr (.inl rfl), rfl, hd.1, hd.2⟩
          · exact ⟨[35, 88], u, 16, .inr (.inr rfl), rfl, hd.1, hd.2⟩
        · rw [if_neg hx] at h
          have hd := digs_some h
          exact ⟨[35], x :: u, 10, .inl rfl, rfl, hd.1, hd.2⟩
    · rw [if_neg hc] at h; cases h
theorem nameN_hash (u : List UInt8) : nameN (35 :: u) = none := by
  cases h : nameN (35 :: u) with
  | none => rfl
  | some n =>
    obtain ⟨k, hk, hn⟩ := nameN_some h
    match k, hn with
    | 0, h => cases h
    | 1, h => cases h
    | 2, h => cases h
    | 3, h => cases h
    | 4, h => cases h
    | 5, h => cases h
    | k + 6, h => simp [nameL] at h
theorem standsN_name {k : Nat} {nm : List UInt8} {c : Int} (h : nameL[k]? = some (nm, c)) : standsN nm = some c := by unfold standsN; rw [nameN_at h]
theorem standsN_hash (u : List UInt8) : standsN (35 :: u) = numS (35 :: u) := by unfold standsN; rw [nameN_hash]
theorem standsN_len {b : List UInt8} {n : Int} (h : standsN b = some n) : 2 ≤ b.length := by
  unfold standsN at h
  cases hn : nameN b with
  | some m =>
    obtain ⟨k, _, hk⟩ := nameN_some hn
    exact (nameL_no hk).2.1
  | none =>
    rw [hn] at h
    obtain ⟨bg, u, base, hb, rfl, hu, _⟩ := numS_some h
    have := List.length_pos_iff.2 hu
    rw [List.length_append]
    rcases hb with hb | hb | hb <;> (injection hb with hb _; subst hb; simp only [List.length_cons, List.length_nil]; omega)

/-! a reference -/
def bodyE (l : List UInt8) : List UInt8 := l.takeWhile (· != 59)
theorem bodyE_no (l : List UInt8) : ∀ b ∈ bodyE l, (b != 59) = true := by
  unfold bodyE
  induction l with
  | nil => intro b hb; cases hb
  | cons x l ih =>
    intro b hb
    rw [List.takeWhile_cons] at hb
    cases hx : x != 59 with
    | true => rw [hx] at hb; simp only [if_true] at hb; rcases List.mem_cons.1 hb with rfl | hb; exact hx; exact ih b hb
    | false => rw [hx] at hb; simp at hb
theorem bodyE_of {b r : List UInt8} (h : ∀ x ∈ b, (x != 59) = true) : bodyE (b ++ 59 :: r) = b := by
  unfold bodyE
  rw [List.takeWhile_append_of_pos h]
  simp
theorem bodyE_split {l : List UInt8} (h : (bodyE l).length < l.length) : ∃ r, l = bodyE l ++ 59 :: r := by
  induction l with
  | nil => simp at h
  | cons x l ih =>
    unfold bodyE at h ih ⊢
    rw [List.takeWhile_cons] at h ⊢
    cases hx : x != 59 with
    | true =>
      rw [hx] at h
      simp only [if_true, List.length_cons] at h ⊢
      obtain ⟨r, hr⟩ := ih (by omega)
      exact ⟨r, by rw [List.cons_append, ← hr]⟩
    | false =>
      have e : x = 59 := by simpa using hx
      subst e
      exact ⟨l, by simp⟩
def refer (l : List UInt8) : Option (Int × Nat) :=
  match l with
  | c :: t => if c = 38 ∧ (bodyE t).length < t.length then (standsN (bodyE t)).map fun n => (n, (bodyE t).length + 2) else none
  | [] => none
theorem refer_not {c : UInt8} {t : List UInt8} (h : c ≠ 38) : refer (c :: t) = none := by
  show (if c = 38 ∧ _ then _ else none) = none
  rw [if_neg (fun e => h e.1)]
theorem refer_open {t : List UInt8} (h : ¬ (bodyE t).length < t.length) : refer (38 :: t) = none := by
  show (if (38 : UInt8) = 38 ∧ (bodyE t).length < t.length then _ else none) = none
  rw [if_neg (fun e => h e.2)]
theorem refer_amp {t : List UInt8} (h : (bodyE t).length < t.length) : refer (38 :: t) = (standsN (bodyE t)).map fun n => (n, (bodyE t).length + 2) := by
  show (if (38 : UInt8) = 38 ∧ (bodyE t).length < t.length then _ else none) = _
  rw [if_pos ⟨rfl, h⟩]
theorem refer_of {b r : List UInt8} {n : Int} (hb : ∀ x ∈ b, (x != 59) = true) (h : standsN b = some n) : refer (38 :: (b ++ 59 :: r)) = some (n, b.length + 2) := by
  rw [refer_amp (by rw [bodyE_of hb]; simp), bodyE_of hb, h]
  rfl
theorem refer_some {l : List UInt8} {n : Int} {k : Nat} (h : refer l = some (n, k)) : ∃ b r, l = 38 :: (b ++ 59 :: r) ∧ (∀ x ∈ b, (x != 59) = true) ∧ standsN b = some n ∧ k = b.length + 2 := by
  match l with
  | [] => cases h
  | c :: t =>
    by_cases hc : c = 38
    · subst hc
      by_cases hl : (bodyE t).length < t.length
      · rw [refer_amp hl] at h
        obtain ⟨m, hm, e⟩ := Option.map_eq_some_iff.1 h
        injection e with e1 e2
        subst e1 e2
        obtain ⟨r, hr⟩ := bodyE_split hl
        exact ⟨bodyE t, r, by rw [← hr], bodyE_no t, hm, rfl⟩
      · rw [refer_open hl] at h; cases h
    · rw [refer_not hc] at h; cases h
theorem refer_bd {l : List UInt8} {n : Int} {k : Nat} (h : refer l = some (n, k)) : 4 ≤ k ∧ k ≤ l.length := by
  obtain ⟨b, r, rfl, _, hs, rfl⟩ := refer_some h
  have := standsN_len hs
  simp
  omega

/-! what is told of the beginning -/
def takeE (l : List UInt8) : ByteArray × Nat := match refer l with | some (n, k) => (numB n, k) | none => (⟨#[]⟩, 0)
def nextE (l : List UInt8) : List UInt8 × Nat := match refer l with | some (n, k) => ((numB n).data.toList, k) | none => (l.take 1, 1)
theorem takeE_some {l : List UInt8} {n : Int} {k : Nat} (h : refer l = some (n, k)) : takeE l = (numB n, k) := by unfold takeE; rw [h]
theorem takeE_none {l : List UInt8} (h : refer l = none) : takeE l = (⟨#[]⟩, 0) := by unfold takeE; rw [h]
theorem nextE_some {l : List UInt8} {n : Int} {k : Nat} (h : refer l = some (n, k)) : nextE l = ((numB n).data.toList, k) := by unfold nextE; rw [h]
theorem nextE_none {l : List UInt8} (h : refer l = none) : nextE l = (l.take 1, 1) := by unfold nextE; rw [h]
theorem nextE_bd {l : List UInt8} (h : l ≠ []) : 1 ≤ (nextE l).2 ∧ (nextE l).2 ≤ l.length ∧ 1 ≤ (nextE l).1.length ∧ (nextE l).1.length ≤ (nextE l).2 ∧ (nextE l).1.length ≤ 4 := by
  have h0 : 0 < l.length := List.length_pos_iff.2 h
  cases hr : refer l with
  | none => rw [nextE_none hr]; simp only [List.length_take]; omega
  | some p =>
    obtain ⟨n, k⟩ := p
    have hb := refer_bd hr
    have h1 := numB_pos n
    have h2 := numB_le n
    have hs : (numB n).data.toList.length = (numB n).size := by rw [Array.length_toList]; rfl
    rw [nextE_some hr]
    simp only [hs]
    omega
def nxE (l : List (UInt8 × Int)) : List UInt8 × Nat := nextE (l.map (·.1))
theorem nxE_bd {l : List (UInt8 × Int)} (h : l ≠ []) : 1 ≤ (nxE l).2 ∧ (nxE l).2 ≤ l.length ∧ 1 ≤ (nxE l).1.length ∧ (nxE l).1.length ≤ (nxE l).2 ∧ (nxE l).1.length ≤ 4 := by
  have := nextE_bd (l := l.map (·.1)) (by simpa using h)
  unfold nxE
  simpa using this
def decE (l : List (UInt8 × Int)) : List (UInt8 × Int) :=
  if _h : l = [] then [] else putE (nxE l).1 (worT l (nxE l).2) ++ decE (l.drop (nxE l).2)
termination_by l.length
decreasing_by (have := nxE_bd _h; have : 0 < l.length := List.length_pos_iff.2 _h; rw [List.length_drop]; omega)
theorem decE_nil : decE [] = [] := by rw [decE]; rfl
theorem decE_next {l : List (UInt8 × Int)} (h : l ≠ []) : decE l = putE (nxE l).1 (worT l (nxE l).2) ++ decE (l.drop (nxE l).2) := by
  conv => lhs; rw [decE, dif_neg h]
theorem decEInd {p : List (UInt8 × Int) → Prop} (nil : p []) (next : ∀ l, l ≠ [] → p (l.drop (nxE l).2) → p l) (l : List (UInt8 × Int)) : p l := by
  have h : ∀ n, ∀ l : List (UInt8 × Int), l.length ≤ n → p l := by
    intro n
    induction n with
    | zero => intro l hl; have e : l = [] := List.eq_nil_of_length_eq_zero (by omega); subst e; exact nil
    | succ n ih =>
      intro l hl
      by_cases e : l = []
      · subst e; exact nil
      · exact next l e (ih _ (by have := nxE_bd e; rw [List.length_drop]; omega))
  exact h l.length l (Nat.le_refl _)
theorem decE_len (l : List (UInt8 × Int)) : (decE l).length ≤ l.length := by
  induction l using decEInd with
  | nil => rw [decE_nil]; exact Nat.le_refl _
  | next l h ih => have := nxE_bd h; rw [List.length_drop] at ih; rw [decE_next h, List.length_append, putE_len]; omega
theorem InR.decE {l : List (UInt8 × Int)} (h : InR l) : InR (mk.decE l) := by
  induction l using decEInd with
  | nil => rw [decE_nil]; exact h
  | next l hl ih =>
    rw [decE_next hl]
    refine InR.append ?_ (ih (h.drop _))
    intro o ho
    rw [putE_snd] at ho
    rw [(List.mem_replicate.1 ho).2]
    exact worstO_in (h.take _)

end Go.Proofs.YtddgabjhligeeaaGreat.mk

namespace Go.Proofs.YtddgabjhligeeaaGreat.mk
open Go.RowKit

theorem decE_one {l : List (UInt8 × Int)} {b : UInt8} {o : Int} (hl : l[0]? = some (b, o)) (ho : 0 ≤ o) (hr : refer (l.map (·.1)) = none) : decE l = [(b, o)] ++ decE (l.drop 1) := by
  cases l with
  | nil => cases hl
  | cons x r =>
    injection hl with hl
    subst hl
    rw [decE_next (by simp)]
    have h : nxE ((b, o) :: r) = ([b], 1) := nextE_none hr
    rw [h]
    show putE [b] (worT ((b, o) :: r) (0 + 1)) ++ _ = _
    rw [worT_next (l := (b, o) :: r) (n := 0) (c := (b, o)) rfl, worT_zero, show max (0 : Int) (b, o).2 = o from Int.max_eq_right ho]
    rfl
theorem decE_ref {l : List (UInt8 × Int)} {n : Int} {k : Nat} (hr : refer (l.map (·.1)) = some (n, k)) : decE l = putE (numB n).data.toList (worstO ((l.take k).map (·.2))) ++ decE (l.drop k) := by
  have hne : l ≠ [] := by
    intro e
    subst e
    cases hr
  rw [decE_next hne]
  have h : nxE l = ((numB n).data.toList, k) := nextE_some hr
  rw [h]
  rfl

end Go.Proofs.YtddgabjhligeeaaGreat.mk
