/-
  The reference's small functions of tokens: letter, space, next.
-/
import Derived.Test.YtddgabjhligeeaaGreatJvR
import Derived.Test.YtddgabjhligeeaaGreatJvV
import Derived.Test.YtddgabjhligeeaaGreatJvS
import Derived.Test.YtddgabjhligeeaaGreatJvY
import Derived.Test.YtddgabjhligeeaaGreatJvA
import Derived.Test.YtddgabjhligeeaaGreatJvD
import Derived.Test.YtddgabjhligeeaaGreatJvP
import Derived.OwnWalk
namespace Go.Proofs.YtddgabjhligeeaaGreat.mk
open Go.RowKit

/-! numbers -/
def winL : List Int := [8364, 129, 8218, 402, 8222, 8230, 8224, 8225, 710, 8240, 352, 8249, 338, 141, 381, 143, 144, 8216, 8217, 8220, 8221, 8226, 8211, 8212, 732, 8482, 353, 8250, 339, 157, 382, 376]
def winN (n : Int) : Int := if 128 ≤ n ∧ n ≤ 159 then winL.getD (n - 128).toNat 0 else n
/-- what a number stands for -/
def numB (n : Int) : ByteArray := runeB (winN n)
theorem numB_pos (n : Int) : 1 ≤ (numB n).size := by
  have h := List.length_pos_iff.2 (runeB_ne (winN n))
  rw [Array.length_toList] at h
  exact h
theorem numB_le (n : Int) : (numB n).size ≤ 4 := runeB_le4 _
theorem numB_big {n m : Int} (h : 1114112 ≤ n) (hm : 1114112 ≤ m) : numB n = numB m := by
  have e : ∀ x : Int, 1114112 ≤ x → numB x = Utf8.encode 65533 := by
    intro x hx
    unfold numB winN runeB runeN
    have h1 : ¬ (128 ≤ x ∧ x ≤ 159) := by omega
    have h2 : ¬ (1 ≤ x ∧ x ≤ 1114111 ∧ ¬ (55296 ≤ x ∧ x ≤ 57343)) := by omega
    simp only [if_neg h1, if_neg h2]
  rw [e n h, e m hm]

/-! digits -/
def digV (base : Int) (b : UInt8) : Bool := decide (0 ≤ hexB b) && decide (hexB b < base)
def valD (base : Int) (l : List UInt8) : Int := l.foldl (fun n b => n * base + hexB b) 0
def valC (top base : Int) (l : List UInt8) : Int := l.foldl (fun n b => min (n * base + hexB b) top) 0
theorem valD_snoc (base : Int) (l : List UInt8) (b : UInt8) : valD base (l ++ [b]) = valD base l * base + hexB b := by simp [valD, List.foldl_append]
theorem valC_snoc (top base : Int) (l : List UInt8) (b : UInt8) : valC top base (l ++ [b]) = min (valC top base l * base + hexB b) top := by simp [valC, List.foldl_append]
theorem digV_bd {base : Int} {b : UInt8} (h : digV base b = true) : 0 ≤ hexB b ∧ hexB b < base := by
  unfold digV at h
  simpa using h
theorem valC_eq {top base : Int} (ht : 0 ≤ top) (hb : 1 ≤ base) (l : List UInt8) (h : ∀ b ∈ l, digV base b = true) : 0 ≤ valD base l ∧ valC top base l = min (valD base l) top := by
  induction l using snocInd with
  | nil => exact ⟨Int.le_refl _, by show (0 : Int) = min 0 top; omega⟩
  | append_singleton l b ih =>
    obtain ⟨h0, h1⟩ := ih fun x hx => h x (by simp [hx])
    have hv := digV_bd (h b (by simp))
    have h2 : 0 ≤ valD base l * base := Int.mul_nonneg h0 (by omega)
    rw [valD_snoc, valC_snoc, h1]
    refine ⟨by omega, ?_⟩
    by_cases hc : valD base l ≤ top
    · rw [show min (valD base l) top = valD base l by omega]
    · rw [show min (valD base l) top = top by omega]
      have h3 : top * 1 ≤ top * base := Int.mul_le_mul_of_nonneg_left hb ht
      have h4 : top * base ≤ valD base l * base := Int.mul_le_mul_of_nonneg_right (by omega) (by omega)
      omega
theorem numB_val {top base : Int} (ht : 1114112 ≤ top) (hb : 1 ≤ base) (l : List UInt8) (h : ∀ b ∈ l, digV base b = true) : numB (valC top base l) = numB (valD base l) := by
  rw [(valC_eq (by omega) hb l h).2]
  by_cases hc : valD base l ≤ top
  · rw [Int.min_eq_left hc]
  · rw [Int.min_eq_right (by omega)]
    exact numB_big ht (by omega)

/-! names -/
def nameL : List (List UInt8 × Int) := [([97, 109, 112], 38), ([108, 116], 60), ([103, 116], 62), ([113, 117, 111, 116], 34), ([97, 112, 111, 115], 39), ([110, 98, 115, 112], 160)]
def nameN (b : List UInt8) : Option Int := (nameL.find? fun x => x.1 == b).map (·.2)
theorem nameN_at {k : Nat} {nm : List UInt8} {c : Int} (h : nameL[k]? = some (nm, c)) : nameN nm = some c := by
  match k, h with
  | 0, h => cases h; decide
  | 1, h => cases h; decide
  | 2, h => cases h; decide
  | 3, h => cases h; decide
  | 4, h => cases h; decide
  | 5, h => cases h; decide
  | k + 6, h => simp [nameL] at h
theorem nameN_some {b : List UInt8} {n : Int} (h : nameN b = some n) : ∃ k, k < 6 ∧ nameL[k]? = some (b, n) := by
  unfold nameN at h
  obtain ⟨x, hx, hn⟩ := Option.map_eq_some_iff.1 h
  have h1 := List.find?_some hx
  have h2 := List.mem_of_find?_eq_some hx
  obtain ⟨k, hk⟩ := List.mem_iff_getElem?.1 h2
  have e : x.1 = b := by simpa using h1
  exact ⟨k, (List.getElem?_eq_some_iff.1 hk).1, by rw [hk, ← e, ← hn]⟩
theorem nameL_no {k : Nat} {nm : List UInt8} {c : Int} (h : nameL[k]? = some (nm, c)) : (∀ b ∈ nm, (b != 59) = true) ∧ 2 ≤ nm.length ∧ nm.length ≤ 4 := by
  match k, h with
  | 0, h => cases h; decide
  | 1, h => cases h; decide
  | 2, h => cases h; decide
  | 3, h => cases h; decide
  | 4, h => cases h; decide
  | 5, h => cases h; decide
  | k + 6, h => simp [nameL] at h

/-! what stands between & and a semicolon -/
def digs (base : Int) (u : List UInt8) : Option Int := if u ≠ [] ∧ u.all (digV base) = true then some (valD base u) else none
def numS (b : List UInt8) : Option Int :=
  match b with
  | c :: t => if c = 35 then (match t with | x :: u => if x = 120 ∨ x = 88 then digs 16 u else digs 10 (x :: u) | [] => none) else none
  | [] => none
def standsN (b : List UInt8) : Option Int := match nameN b with | some n => some n | none => numS b
theorem digs_some {base : Int} {u : List UInt8} {n : Int} (h : digs base u = some n) : u ≠ [] ∧ (∀ b ∈ u, digV base b = true) ∧ n = valD base u := by
  unfold digs at h
  by_cases hc : u ≠ [] ∧ u.all (digV base) = true
  · rw [if_pos hc] at h
    exact ⟨hc.1, List.all_eq_true.1 hc.2, by injection h with h; exact h.symm⟩
  · rw [if_neg hc] at h; cases h
theorem digs_of {base : Int} {u : List UInt8} (h1 : u ≠ []) (h2 : ∀ b ∈ u, digV base b = true) : digs base u = some (valD base u) := by
  unfold digs; rw [if_pos ⟨h1, List.all_eq_true.2 h2⟩]
theorem numS_dec {u : List UInt8} (h1 : u ≠ []) (h2 : ∀ b ∈ u, digV 10 b = true) : numS (35 :: u) = some (valD 10 u) := by
  cases u with
  | nil => exact absurd rfl h1
  | cons x u =>
    have hx := h2 x (by simp)
    have hx2 : ¬ (x = 120 ∨ x = 88) := by
      rintro (e | e) <;> subst e <;> revert hx <;> decide
    show (if (35 : UInt8) = 35 then (if x = 120 ∨ x = 88 then digs 16 u else digs 10 (x :: u)) else none) = _
    rw [if_pos rfl, if_neg hx2]
    exact digs_of h1 h2
theorem numS_hex {x : UInt8} {u : List UInt8} (hx : x = 120 ∨ x = 88) (h1 : u ≠ []) (h2 : ∀ b ∈ u, digV 16 b = true) : numS (35 :: x :: u) = some (valD 16 u) := by
  show (if (35 : UInt8) = 35 then (if x = 120 ∨ x = 88 then digs 16 u else digs 10 (x :: u)) else none) = _
  rw [if_pos rfl, if_pos hx]
  exact digs_of h1 h2
theorem numS_some {b : List UInt8} {n : Int} (h : numS b = some n) : ∃ (bg u : List UInt8) (base : Int), ((bg, base) = ([35], 10) ∨ (bg, base) = ([35, 120], 16) ∨ (bg, base) = ([35, 88], 16)) ∧ b = bg ++ u ∧ u ≠ [] ∧ (∀ y ∈ u, digV base y = true) ∧ n = valD base u := by
  unfold numS at h
  match b with
  | [] => cases h
  | c :: t =>
    simp only at h
    by_cases hc : c = 35
    · subst hc
      rw [if_pos rfl] at h
      match t with
      | [] => cases h
      | x :: u =>
        simp only at h
        by_cases hx : x = 120 ∨ x = 88
        · rw [if_pos hx] at h
          have hd := digs_some h
          rcases hx with rfl | rfl
          · exact ⟨[35, 120], u, 16, .inr (.inl rfl), rfl, hd.1, hd.2⟩
          · exact ⟨[35, 88], u, 16, .inr (.inr rfl), rfl, hd.1, hd.2⟩
        · rw [if_neg hx] at h
          have hd := digs_some h
          exact ⟨[35], x :: u, 10, .inl rfl, rfl, hd.1, hd.2⟩
    · rw [if_neg hc] at h; cases h
theorem nameN_hash (u : List UInt8) : nameN (35 :: u) = none := by
  cases h : nameN (35 :: u) with
  | none => rfl
  | some n =>
    obtain ⟨k, hk, hn⟩ := nameN_some h
    match k, hn with
    | 0, h => cases h
    | 1, h => cases h
    | 2, h => cases h
    | 3, h => cases h
    | 4, h => cases h
    | 5, h => cases h
    | k + 6, h => simp [nameL] at h
theorem standsN_name {k : Nat} {nm : List UInt8} {c : Int} (h : nameL[k]? = some (nm, c)) : standsN nm = some c := by unfold standsN; rw [nameN_at h]
theorem standsN_hash (u : List UInt8) : standsN (35 :: u) = numS (35 :: u) := by unfold standsN; rw [nameN_hash]
theorem standsN_len {b : List UInt8} {n : Int} (h : standsN b = some n) : 2 ≤ b.length := by
  unfold standsN at h
  cases hn : nameN b with
  | some m =>
    obtain ⟨k, _, hk⟩ := nameN_some hn
    exact (nameL_no hk).2.1
  | none =>
    rw [hn] at h
    obtain ⟨bg, u, base, hb, rfl, hu, _⟩ := numS_some h
    have := List.length_pos_iff.2 hu
    rw [List.length_append]
    rcases hb with hb | hb | hb <;> (injection hb with hb _; subst hb; simp only [List.length_cons, List.length_nil]; omega)

/-! a reference -/
def bodyE (l : List UInt8) : List UInt8 := l.takeWhile (· != 59)
theorem bodyE_no (l : List UInt8) : ∀ b ∈ bodyE l, (b != 59) = true := by
  unfold bodyE
  induction l with
  | nil => intro b hb; cases hb
  | cons x l ih =>
    intro b hb
    rw [List.takeWhile_cons] at hb
    cases hx : x != 59 with
    | true => rw [hx] at hb; simp only [if_true] at hb; rcases List.mem_cons.1 hb with rfl | hb; exact hx; exact ih b hb
    | false => rw [hx] at hb; simp at hb
theorem bodyE_of {b r : List UInt8} (h : ∀ x ∈ b, (x != 59) = true) : bodyE (b ++ 59 :: r) = b := by
  unfold bodyE
  rw [List.takeWhile_append_of_pos h]
  simp
theorem bodyE_split {l : List UInt8} (h : (bodyE l).length < l.length) : ∃ r, l = bodyE l ++ 59 :: r := by
  induction l with
  | nil => simp at h
  | cons x l ih =>
    unfold bodyE at h ih ⊢
    rw [List.takeWhile_cons] at h ⊢
    cases hx : x != 59 with
    | true =>
      rw [hx] at h
      simp only [if_true, List.length_cons] at h ⊢
      obtain ⟨r, hr⟩ := ih (by omega)
      exact ⟨r, by rw [List.cons_append, ← hr]⟩
    | false =>
      have e : x = 59 := by simpa using hx
      subst e
      exact ⟨l, by simp⟩
def refer (l : List UInt8) : Option (Int × Nat) :=
  match l with
  | c :: t => if c = 38 ∧ (bodyE t).length < t.length then (standsN (bodyE t)).map fun n => (n, (bodyE t).length + 2) else none
  | [] => none
theorem refer_not {c : UInt8} {t : List UInt8} (h : c ≠ 38) : refer (c :: t) = none := by
  show (if c = 38 ∧ _ then _ else none) = none
  rw [if_neg (fun e => h e.1)]
theorem refer_open {t : List UInt8} (h : ¬ (bodyE t).length < t.length) : refer (38 :: t) = none := by
  show (if (38 : UInt8) = 38 ∧ (bodyE t).length < t.length then _ else none) = none
  rw [if_neg (fun e => h e.2)]
theorem refer_amp {t : List UInt8} (h : (bodyE t).length < t.length) : refer (38 :: t) = (standsN (bodyE t)).map fun n => (n, (bodyE t).length + 2) := by
  show (if (38 : UInt8) = 38 ∧ (bodyE t).length < t.length then _ else none) = _
  rw [if_pos ⟨rfl, h⟩]
theorem refer_of {b r : List UInt8} {n : Int} (hb : ∀ x ∈ b, (x != 59) = true) (h : standsN b = some n) : refer (38 :: (b ++ 59 :: r)) = some (n, b.length + 2) := by
  rw [refer_amp (by rw [bodyE_of hb]; simp), bodyE_of hb, h]
  rfl
theorem refer_some {l : List UInt8} {n : Int} {k : Nat} (h : refer l = some (n, k)) : ∃ b r, l = 38 :: (b ++ 59 :: r) ∧ (∀ x ∈ b, (x != 59) = true) ∧ standsN b = some n ∧ k = b.length + 2 := by
  match l with
  | [] => cases h
  | c :: t =>
    by_cases hc : c = 38
    · subst hc
      by_cases hl : (bodyE t).length < t.length
      · rw [refer_amp hl] at h
        obtain ⟨m, hm, e⟩ := Option.map_eq_some_iff.1 h
        injection e with e1 e2
        subst e1 e2
        obtain ⟨r, hr⟩ := bodyE_split hl
        exact ⟨bodyE t, r, by rw [← hr], bodyE_no t, hm, rfl⟩
      · rw [refer_open hl] at h; cases h
    · rw [refer_not hc] at h; cases h
theorem refer_bd {l : List UInt8} {n : Int} {k : Nat} (h : refer l = some (n, k)) : 4 ≤ k ∧ k ≤ l.length := by
  obtain ⟨b, r, rfl, _, hs, rfl⟩ := refer_some h
  have := standsN_len hs
  simp
  omega

/-! what is told of the beginning -/
def takeE (l : List UInt8) : ByteArray × Nat := match refer l with | some (n, k) => (numB n, k) | none => (⟨#[]⟩, 0)
def nextE (l : List UInt8) : List UInt8 × Nat := match refer l with | some (n, k) => ((numB n).data.toList, k) | none => (l.take 1, 1)
theorem takeE_some {l : List UInt8} {n : Int} {k : Nat} (h : refer l = some (n, k)) : takeE l = (numB n, k) := by unfold takeE; rw [h]
theorem takeE_none {l : List UInt8} (h : refer l = none) : takeE l = (⟨#[]⟩, 0) := by unfold takeE; rw [h]
theorem nextE_some {l : List UInt8} {n : Int} {k : Nat} (h : refer l = some (n, k)) : nextE l = ((numB n).data.toList, k) := by unfold nextE; rw [h]
theorem nextE_none {l : List UInt8} (h : refer l = none) : nextE l = (l.take 1, 1) := by unfold nextE; rw [h]
theorem nextE_bd {l : List UInt8} (h : l ≠ []) : 1 ≤ (nextE l).2 ∧ (nextE l).2 ≤ l.length ∧ 1 ≤ (nextE l).1.length ∧ (nextE l).1.length ≤ (nextE l).2 ∧ (nextE l).1.length ≤ 4 := by
  have h0 : 0 < l.length := List.length_pos_iff.2 h
  cases hr : refer l with
  | none => rw [nextE_none hr]; simp only [List.length_take]; omega
  | some p =>
    obtain ⟨n, k⟩ := p
    have hb := refer_bd hr
    have h1 := numB_pos n
    have h2 := numB_le n
    have hs : (numB n).data.toList.length = (numB n).size := by rw [Array.length_toList]; rfl
    rw [nextE_some hr]
    simp only [hs]
    omega
def nxE (l : List (UInt8 × Int)) : List UInt8 × Nat := nextE (l.map (·.1))
theorem nxE_bd {l : List (UInt8 × Int)} (h : l ≠ []) : 1 ≤ (nxE l).2 ∧ (nxE l).2 ≤ l.length ∧ 1 ≤ (nxE l).1.length ∧ (nxE l).1.length ≤ (nxE l).2 ∧ (nxE l).1.length ≤ 4 := by
  have := nextE_bd (l := l.map (·.1)) (by simpa using h)
  unfold nxE
  simpa using this
def decE (l : List (UInt8 × Int)) : List (UInt8 × Int) :=
  if _h : l = [] then [] else putE (nxE l).1 (worT l (nxE l).2) ++ decE (l.drop (nxE l).2)
termination_by l.length
decreasing_by (have := nxE_bd _h; have : 0 < l.length := List.length_pos_iff.2 _h; rw [List.length_drop]; omega)
theorem decE_nil : decE [] = [] := by rw [decE]; rfl
theorem decE_next {l : List (UInt8 × Int)} (h : l ≠ []) : decE l = putE (nxE l).1 (worT l (nxE l).2) ++ decE (l.drop (nxE l).2) := by
  conv => lhs; rw [decE, dif_neg h]
theorem decEInd {p : List (UInt8 × Int) → Prop} (nil : p []) (next : ∀ l, l ≠ [] → p (l.drop (nxE l).2) → p l) (l : List (UInt8 × Int)) : p l := by
  have h : ∀ n, ∀ l : List (UInt8 × Int), l.length ≤ n → p l := by
    intro n
    induction n with
    | zero => intro l hl; have e : l = [] := List.eq_nil_of_length_eq_zero (by omega); subst e; exact nil
    | succ n ih =>
      intro l hl
      by_cases e : l = []
      · subst e; exact nil
      · exact next l e (ih _ (by have := nxE_bd e; rw [List.length_drop]; omega))
  exact h l.length l (Nat.le_refl _)
theorem decE_len (l : List (UInt8 × Int)) : (decE l).length ≤ l.length := by
  induction l using decEInd with
  | nil => rw [decE_nil]; exact Nat.le_refl _
  | next l h ih => have := nxE_bd h; rw [List.length_drop] at ih; rw [decE_next h, List.length_append, putE_len]; omega
theorem InR.decE {l : List (UInt8 × Int)} (h : InR l) : InR (mk.decE l) := by
  induction l using decEInd with
  | nil => rw [decE_nil]; exact h
  | next l hl ih =>
    rw [decE_next hl]
    refine InR.append ?_ (ih (h.drop _))
    intro o ho
    rw [putE_snd] at ho
    rw [(List.mem_replicate.1 ho).2]
    exact worstO_in (h.take _)

end Go.Proofs.YtddgabjhligeeaaGreat.mk

namespace Go.Proofs.YtddgabjhligeeaaGreat.mk
open Go.RowKit

def letB (b : UInt8) : Bool := (decide (97 ≤ b.toNat) && decide (b.toNat ≤ 122)) || (decide (65 ≤ b.toNat) && decide (b.toNat ≤ 90))
def spcB (b : UInt8) : Bool := [9, 10, 12, 32].contains b
def lowL (l : Ch) : Ch := l.map fun x => (lowB x.1, x.2)
theorem lowL_length (l : Ch) : (lowL l).length = l.length := by unfold lowL; rw [List.length_map]
/-- a state's next one (99: the tag ends), whether the byte is read, whether it is looked at again -/
def nextT (st : Nat) (c : UInt8) (begun : Bool) : Nat × Bool × Bool :=
  if st = 1 then
    (if begun && (spcB c || (c == 47 || c == 62)) then (2, false, true) else if begun && c == 61 then (3, false, false) else (1, true, false))
  else if st = 2 then (if spcB c then (2, false, false) else if c == 61 then (3, false, false) else (0, false, true))
  else if st = 3 then (if spcB c then (3, false, false) else if c == 34 then (4, false, false) else if c == 39 then (5, false, false) else (6, false, true))
  else if st = 4 ∨ st = 5 then (if (st = 4 ∧ c = 34) ∨ (st = 5 ∧ c = 39) then (0, false, false) else (st, true, false))
  else if st = 6 then (if spcB c || c == 62 then (0, false, true) else (6, true, false))
  else (if c == 62 then (99, false, false) else if spcB c || c == 47 then (0, false, false) else (1, false, true))

/-- an attribute more, unless its name is there -/
def putT (l : List PA) (a : PA) : List PA := if l.any fun p => nmB p == nmB a then l else l ++ [a]
/-- an attribute, as it is told -/
def doneT (l : List PA) (a : PA) : List PA := if a.1 = [] then l else putT l (lowL a.1, decE a.2)

structure TkS where
  st : Nat
  nm : Ch
  vl : Ch
  al : List PA
/-- what a byte does to a state that is not the end -/
def stepT (s : TkS) (c : UInt8 × Int) (n : Nat × Bool × Bool) : TkS :=
  let nm := if n.1 = 1 ∧ s.st = 0 then [] else s.nm
  let vl := if n.1 = 1 ∧ s.st = 0 then [] else s.vl
  ⟨n.1, if n.2.1 = true ∧ n.1 = 1 then nm ++ [c] else nm, if n.2.1 = true ∧ n.1 ≠ 1 then vl ++ [c] else vl, if n.1 = 1 ∧ s.st = 0 then doneT s.al (s.nm, s.vl) else s.al⟩
def nextS (s : TkS) (c : UInt8 × Int) : Nat × Bool × Bool := nextT s.st c.1 (!s.nm.isEmpty)
/-- from a place on, by at most so many steps: where the tag ends, and what was read -/
def runT (l : Ch) : Nat → Nat → TkS → Option (Nat × TkS)
  | 0, _, _ => none
  | f + 1, i, s =>
    match l[i]? with
    | none => none
    | some c => if (nextS s c).1 = 99 then some (i, s) else runT l f (if (nextS s c).2.2 then i else i + 1) (stepT s c (nextS s c))

structure PTok where
  kind : Nat
  name : Ch
  attrs : List PA
  close : Bool
  text : Ch
/-- how far a tag's name goes on -/
def nameT (l : Ch) : Nat := (l.takeWhile fun c => !(spcB c.1) && (!(c.1 == 47) && !(c.1 == 62))).length
/-- where a tag's name begins -/
def fromT (l : Ch) : Nat := if (l.map (·.1)).take 2 = [60, 47] then 2 else 1
/-- the tag that bytes begin with, and how many they are -/
def tagP (l : Ch) : Option (PTok × Nat) :=
  match l[fromT l]? with
  | none => none
  | some b =>
    if (l.map (·.1)).take 1 = [60] ∧ letB b.1 = true then
      match runT l (4 * l.length + 9) (fromT l + nameT (l.drop (fromT l))) ⟨0, [], [], []⟩ with
      | none => none
      | some (j, s) => some (⟨fromT l, lowL ((l.drop (fromT l)).take (nameT (l.drop (fromT l)))), if fromT l = 1 then doneT s.al (s.nm, s.vl) else [], decide (fromT l = 1) && ((l[j - 1]?).map (·.1) == some 47), []⟩, j + 1)
    else none

/-- data, joined with what is ahead of it -/
def dataT (out : List PTok) (l : Ch) : List PTok :=
  if l = [] then out else
    match out.getLast? with
    | some x => if x.kind = 3 then out.dropLast ++ [⟨3, [], [], false, x.text ++ l⟩] else out ++ [⟨3, [], [], false, l⟩]
    | none => [⟨3, [], [], false, l⟩]
/-- does a raw element's end stand here -/
def endsT (l : Ch) (name : List UInt8) : Bool :=
  match l[name.length + 2]? with
  | none => false
  | some c => (spcB c.1 || (c.1 == 47 || c.1 == 62)) && ((lowL (l.take (name.length + 2))).map (·.1) == [60, 47] ++ name)
/-- how far raw data goes -/
def rawT (name : List UInt8) : Ch → Nat
  | [] => 0
  | c :: l => if endsT (c :: l) name then 0 else rawT name l + 1
/-- what is up to an end, from a place on, and how many bytes that is, with it -/
def commT (l : Ch) (skip : Nat) (e : List UInt8) : Ch × Nat :=
  if findI (l.map (·.1)) e (skip : Int) < 0 then (l.drop skip, l.length)
  else ((l.take (findI (l.map (·.1)) e (skip : Int)).toNat).drop skip, (findI (l.map (·.1)) e (skip : Int)).toNat + e.length)
/-- bytes up to the next < -/
def ltT (l : Ch) : Nat := (l.takeWhile fun c => !(c.1 == 60)).length
def byteT (l : Ch) (i : Nat) : UInt8 := ((l[i]?).map (·.1)).getD 0

/-- behind data: what a < begins; none: it is over -/
def markT (out : List PTok) (l : Ch) : Option (List PTok × Ch) :=
  if letB (byteT l 1) || (byteT l 1 == 47 && letB (byteT l 2)) then
    match tagP l with
    | none => none
    | some (t, k) =>
      if t.kind = 1 ∧ (t.name.map (·.1) = [115, 99, 114, 105, 112, 116] ∨ t.name.map (·.1) = [115, 116, 121, 108, 101]) then
        some (dataT (out ++ [t]) ((l.drop k).take (rawT (t.name.map (·.1)) (l.drop k))), (l.drop k).drop (rawT (t.name.map (·.1)) (l.drop k)))
      else some (out ++ [t], l.drop k)
  else if byteT l 1 = 47 ∧ byteT l 2 = 62 then some (out, l.drop 3)
  else if 3 < l.length ∧ byteT l 1 = 33 ∧ byteT l 2 = 45 ∧ byteT l 3 = 45 then some (out ++ [⟨4, [], [], false, (commT l 4 [45, 45, 62]).1⟩], l.drop (commT l 4 [45, 45, 62]).2)
  else if (byteT l 1 = 47 ∧ 2 < l.length) ∨ byteT l 1 = 33 ∨ byteT l 1 = 63 then some (out ++ [⟨4, [], [], false, (commT l 2 [62]).1⟩], l.drop (commT l 2 [62]).2)
  else some (dataT out (l.take 1), l.drop 1)
/-- all tokens, by at most so many rounds -/
def tokR : Nat → List PTok → Ch → List PTok
  | 0, out, _ => out
  | f + 1, out, l =>
    if l = [] then out
    else if l.drop (ltT l) = [] then dataT out (decE (l.take (ltT l)))
    else match markT (dataT out (decE (l.take (ltT l)))) (l.drop (ltT l)) with
      | none => dataT out (decE (l.take (ltT l)))
      | some (out', l') => tokR f out' l'
def toksP (l : Ch) : List PTok := tokR (l.length + 1) [] l

end Go.Proofs.YtddgabjhligeeaaGreat.mk

namespace Go.Proofs.YtddgabjhligeeaaGreat.mk
open Go.RowKit

theorem decE_one {l : List (UInt8 × Int)} {b : UInt8} {o : Int} (hl : l[0]? = some (b, o)) (ho : 0 ≤ o) (hr : refer (l.map (·.1)) = none) : decE l = [(b, o)] ++ decE (l.drop 1) := by
  cases l with
  | nil => cases hl
  | cons x r =>
    injection hl with hl
    subst hl
    rw [decE_next (by simp)]
    have h : nxE ((b, o) :: r) = ([b], 1) := nextE_none hr
    rw [h]
    show putE [b] (worT ((b, o) :: r) (0 + 1)) ++ _ = _
    rw [worT_next (l := (b, o) :: r) (n := 0) (c := (b, o)) rfl, worT_zero, show max (0 : Int) (b, o).2 = o from Int.max_eq_right ho]
    rfl
theorem decE_ref {l : List (UInt8 × Int)} {n : Int} {k : Nat} (hr : refer (l.map (·.1)) = some (n, k)) : decE l = putE (numB n).data.toList (worstO ((l.take k).map (·.2))) ++ decE (l.drop k) := by
  have hne : l ≠ [] := by
    intro e
    subst e
    cases hr
  rw [decE_next hne]
  have h : nxE l = ((numB n).data.toList, k) := nextE_some hr
  rw [h]
  rfl

end Go.Proofs.YtddgabjhligeeaaGreat.mk

namespace Go.Proofs.YtddgabjhligeeaaGreat.mk
open Go.RowKit

end Go.Proofs.YtddgabjhligeeaaGreat.mk

namespace Go.Proofs.YtddgabjhligeeaaGreat.mk
open Go.RowKit

/-! digits -/
def NumRel (base : Int) (l : List UInt8) (v d : Value) : Prop :=
  ∃ k : Nat, k ≤ l.length ∧ v = .int .i64 (valC 1114112 base (l.take k)) ∧ d = .int .i64 (k : Int) ∧ ∀ y ∈ l.take k, digV base y = true
theorem valC_bd {base : Int} (hb : 1 ≤ base) {l : List UInt8} (h : ∀ b ∈ l, digV base b = true) : 0 ≤ valC 1114112 base l ∧ valC 1114112 base l ≤ 1114112 := by
  have := valC_eq (top := 1114112) (by omega) hb l h
  omega

set_option maxHeartbeats 1000000 in
set_option maxRecDepth 100000 in
theorem numDig_any (s : ByteArray) (base : Int) (hb : base = 10 ∨ base = 16) (hs : s.size ≤ 4294967296) (w : World) :
    Calls Tryz.prog 195 #[.string s, .int .i64 base] w fun e w' => e = .returned (.tuple #[.int .i64 (valC 1114112 base (s.data.toList.take (spanN s.data.toList (digV base)))), .int .i64 (spanN s.data.toList (digV base))]) ∧ w = w' := by
  have hsl : s.data.toList.length = s.size := by rw [Array.length_toList]; rfl
  have HSL := Lib.hid hsl
  clear hsl
  have hb1 : 1 ≤ base := by omega
  have hb2 : base ≤ 16 := by omega
  have HB1 := Lib.hid hb1
  have HB2 := Lib.hid hb2
  clear hb
  go_enter Tryz.func195, Tryz.ntmps195
  go_wp2_with fail
  go_loop [4, 5] (NumRel base s.data.toList) (fun _ i => s.size - (intOf i).toNat)
  case atStart => exact ⟨0, Nat.zero_le _, rfl, rfl, by simp⟩
  case round =>
    obtain ⟨k, hk, rfl, rfl, hall⟩ := hrel
    rw [HSL.out] at hk
    have hvb := valC_bd HB1.out hall
    have HALL := Lib.hid hall
    clear hall
    have hk0 : (0 : Int) ≤ (k : Int) := Int.natCast_nonneg _
    by_cases hlt : k < s.size
    · have hk1 : (k : Int) < (s.size : Int) := by omega
      have HSK : Hid (s.data.toList[k]? = some (s[k]'hlt)) := by
        show _ = _
        rw [List.getElem?_eq_getElem (by rw [HSL.out]; exact hlt)]
        rfl
      have HNX : Hid (s.data.toList.take (k + 1) = s.data.toList.take k ++ [s[k]'hlt]) := take_next HSK.out
      generalize hsk : s[k]'hlt = x at *
      have hxb := hexB_bd x
      cases hq : digV base x with
      | true =>
        have hv := digV_bd hq
        have HV : Hid (valC 1114112 base (s.data.toList.take (k + 1)) = min (valC 1114112 base (s.data.toList.take k) * base + hexB x) 1114112) := by show _ = _; rw [HNX.out, valC_snoc]
        have HA2 : Hid (∀ y ∈ s.data.toList.take (k + 1), digV base y = true) := by
          intro y hy
          rw [HNX.out] at hy
          rcases List.mem_append.1 hy with hy | hy
          · exact HALL.out y hy
          · simp at hy; subst hy; exact hq
        generalize valC 1114112 base (s.data.toList.take k) = n at *
        obtain ⟨hn0, hn1⟩ := hvb
        have hm0 : 0 ≤ n * base := Int.mul_nonneg hn0 (by omega)
        have hm1 : n * base ≤ 1114112 * base := Int.mul_le_mul_of_nonneg_right hn1 (by omega)
        have hm2 : n * base ≤ 17825792 := by omega
        clear hm1 hq
        obtain ⟨hv0, hv1⟩ := hv
        have hv2 : ¬ hexB x < 0 := by omega
        have hv3 : ¬ base ≤ hexB x := by omega
        go_wp2_with fail
        refine (hex_any x _).mono ?_
        rintro e w' ⟨rfl, rfl⟩
        generalize hexB x = v at *
        go_wp2_with fail
        go_round
        case rel => exact ⟨k + 1, by rw [HSL.out]; omega, by rw [HV.out], by go_num, HA2.out⟩
        case measure => simp [intOf]; omega
      | false =>
        have HR : Hid (spanN s.data.toList (digV base) = k) := spanN_stop HALL.out HSK.out hq
        have hv : hexB x < 0 ∨ base ≤ hexB x := by
          unfold digV at hq
          rcases Int.lt_or_le (hexB x) 0 with h | h
          · exact .inl h
          · right
            rw [decide_eq_true h, Bool.true_and, decide_eq_false_iff_not] at hq
            omega
        generalize hvc : valC 1114112 base (s.data.toList.take k) = n at *
        have HVC := Lib.hid hvc
        clear hvc hq
        go_wp2_with fail
        refine (hex_any x _).mono ?_
        rintro e w' ⟨rfl, rfl⟩
        generalize hexB x = v at *
        rcases hv with hv | hv
        · go_wp2_with fail
          go_ret2
          exact ⟨by rw [HR.out, HVC.out]; rfl, rfl⟩
        · by_cases hv0 : v < 0
          · omega
          · go_wp2_with fail
            go_ret2
            exact ⟨by rw [HR.out, HVC.out]; rfl, rfl⟩
    · obtain rfl : k = s.size := by omega
      have HR : Hid (spanN s.data.toList (digV base) = s.size) := by
        show _ = _
        rw [← HSL.out]
        refine spanN_all (fun y hy => HALL.out y ?_)
        rw [List.take_of_length_le (by rw [HSL.out]; exact Nat.le_refl _)]
        exact hy
      generalize hvc : valC 1114112 base (s.data.toList.take s.size) = n at *
      have HVC := Lib.hid hvc
      clear hvc
      go_wp2_with fail
      go_ret2
      exact ⟨by rw [HR.out, HVC.out]; rfl, rfl⟩

/-! the reference -/
end Go.Proofs.YtddgabjhligeeaaGreat.mk

namespace Go.Proofs.YtddgabjhligeeaaGreat.mk
open Go.RowKit

/-- a name stands ahead, with its semicolon -/
def nmC (inner nm : List UInt8) : Bool := inner.take (nm.length + 1) == nm ++ [59]
def formL : List (List UInt8 × Int) := [([35], 10), ([35, 120], 16), ([35, 88], 16)]
def rsF (inner bg : List UInt8) : List UInt8 := inner.drop bg.length
def dgF (inner bg : List UInt8) (base : Int) : Nat := spanN (rsF inner bg) (digV base)
/-- digits of that form stand ahead, with their semicolon -/
def fmC (inner bg : List UInt8) (base : Int) : Bool := (inner.take bg.length == bg) && decide (0 < dgF inner bg base) && (((rsF inner bg).drop (dgF inner bg base)).take 1 == [59])

theorem spanN_le (l : List UInt8) (p : UInt8 → Bool) : spanN l p ≤ l.length := by
  unfold spanN
  conv => rhs; rw [← List.takeWhile_append_dropWhile (p := p) (l := l)]
  rw [List.length_append]
  omega
theorem spanN_take (l : List UInt8) (p : UInt8 → Bool) : ∀ b ∈ l.take (spanN l p), p b = true := by
  unfold spanN
  induction l with
  | nil => intro b hb; cases hb
  | cons x l ih =>
    intro b hb
    rw [List.takeWhile_cons] at hb
    cases hx : p x with
    | true =>
      rw [hx] at hb
      simp only [if_true, List.length_cons, List.take_succ_cons] at hb
      rcases List.mem_cons.1 hb with rfl | hb
      · exact hx
      · exact ih b hb
    | false => rw [hx] at hb; simp at hb
theorem digV_semi (base : Int) : digV base 59 = false := by
  unfold digV
  rw [show hexB 59 = -1 from by decide]
  rfl
theorem digV_no {base : Int} {b : UInt8} (h : digV base b = true) : (b != 59) = true := by
  rw [bne_iff_ne]
  intro e
  subst e
  rw [digV_semi] at h
  cases h
theorem take_one {l : List UInt8} (h : (l.take 1 == [59]) = true) : ∃ r, l = 59 :: r := by
  cases l with
  | nil => simp at h
  | cons x r => simp at h; subst h; exact ⟨r, rfl⟩

theorem name_hit {inner nm : List UInt8} {k : Nat} {c : Int} (hk : nameL[k]? = some (nm, c)) (h : nmC inner nm = true) : refer (38 :: inner) = some (c, nm.length + 2) := by
  unfold nmC at h
  have e : inner = nm ++ 59 :: inner.drop (nm.length + 1) := by
    conv => lhs; rw [← List.take_append_drop (nm.length + 1) inner]
    rw [beq_iff_eq.1 h, List.append_assoc]
    rfl
  rw [e]
  exact refer_of (nameL_no hk).1 (standsN_name hk)
theorem formL_no {k : Nat} {bg : List UInt8} {base : Int} (hk : formL[k]? = some (bg, base)) : (∀ x ∈ bg, (x != 59) = true) ∧ (base = 10 ∨ base = 16) ∧ bg.length ≤ 2 := by
  match k, hk with
  | 0, h => cases h; decide
  | 1, h => cases h; decide
  | 2, h => cases h; decide
  | k + 3, h => simp [formL] at h
theorem formL_stands {k : Nat} {bg u : List UInt8} {base : Int} (hk : formL[k]? = some (bg, base)) (h1 : u ≠ []) (h2 : ∀ b ∈ u, digV base b = true) : standsN (bg ++ u) = some (valD base u) := by
  match k, hk with
  | 0, h => cases h; exact (standsN_hash u).trans (numS_dec h1 h2)
  | 1, h => cases h; exact (standsN_hash (120 :: u)).trans (numS_hex (.inl rfl) h1 h2)
  | 2, h => cases h; exact (standsN_hash (88 :: u)).trans (numS_hex (.inr rfl) h1 h2)
  | k + 3, h => simp [formL] at h
theorem form_hit {inner bg : List UInt8} {k : Nat} {base : Int} (hk : formL[k]? = some (bg, base)) (h : fmC inner bg base = true) :
    refer (38 :: inner) = some (valD base ((rsF inner bg).take (dgF inner bg base)), bg.length + dgF inner bg base + 2) ∧ (∀ b ∈ (rsF inner bg).take (dgF inner bg base), digV base b = true) := by
  unfold fmC at h
  simp only [Bool.and_eq_true, decide_eq_true_eq] at h
  obtain ⟨⟨h1, h2⟩, h3⟩ := h
  have hd := spanN_take (rsF inner bg) (digV base)
  have hle := spanN_le (rsF inner bg) (digV base)
  have e1 : inner = bg ++ rsF inner bg := by
    conv => lhs; rw [← List.take_append_drop bg.length inner]
    rw [beq_iff_eq.1 h1]
    rfl
  obtain ⟨r, hr⟩ := take_one h3
  have e2 : rsF inner bg = (rsF inner bg).take (dgF inner bg base) ++ 59 :: r := by
    conv => lhs; rw [← List.take_append_drop (dgF inner bg base) (rsF inner bg)]
    rw [hr]
  unfold dgF at h2 e2 ⊢
  refine ⟨?_, hd⟩
  clear h1 h3 hr
  generalize rsF inner bg = rs at *
  have hul : (rs.take (spanN rs (digV base))).length = spanN rs (digV base) := by rw [List.length_take]; omega
  have hne : rs.take (spanN rs (digV base)) ≠ [] := by intro e; rw [e] at hul; simp at hul; omega
  have hno : ∀ x ∈ bg ++ rs.take (spanN rs (digV base)), (x != 59) = true := by
    intro x hx
    rcases List.mem_append.1 hx with hx | hx
    · exact (formL_no hk).1 x hx
    · exact digV_no (hd x hx)
  have hR := refer_of (r := r) hno (formL_stands hk hne hd)
  rw [List.append_assoc, ← e2, ← e1, List.length_append, hul] at hR
  exact hR

theorem refer_miss {inner : List UInt8} (h1 : ∀ (k : Nat) (nm : List UInt8) (c : Int), nameL[k]? = some (nm, c) → nmC inner nm = false) (h2 : ∀ (k : Nat) (bg : List UInt8) (base : Int), formL[k]? = some (bg, base) → fmC inner bg base = false) : refer (38 :: inner) = none := by
  cases hr : refer (38 :: inner) with
  | none => rfl
  | some p =>
    exfalso
    obtain ⟨n, z⟩ := p
    obtain ⟨b, r, e, hno, hs, _⟩ := refer_some hr
    injection e with _ e
    cases hn : nameN b with
    | some m =>
      obtain ⟨k, _, hk⟩ := nameN_some hn
      have h := h1 k b m hk
      unfold nmC at h
      rw [beq_eq_false_iff_ne] at h
      refine h ?_
      rw [e, show b ++ 59 :: r = (b ++ [59]) ++ r by simp, List.take_left' (by simp)]
    | none =>
      unfold standsN at hs
      rw [hn] at hs
      obtain ⟨bg, u, base, hb, eb, hu, hd, _⟩ := numS_some hs
      have hk : ∃ k : Nat, formL[k]? = some (bg, base) := by
        rcases hb with hb | hb | hb
        · exact ⟨0, by rw [hb]; rfl⟩
        · exact ⟨1, by rw [hb]; rfl⟩
        · exact ⟨2, by rw [hb]; rfl⟩
      obtain ⟨k, hk⟩ := hk
      have h := h2 k bg base hk
      have ei : inner = bg ++ (u ++ 59 :: r) := by rw [e, eb, List.append_assoc]
      have e3 : rsF inner bg = u ++ 59 :: r := by unfold rsF; rw [ei, List.drop_left' rfl]
      have e4 : dgF inner bg base = u.length := by
        unfold dgF
        rw [e3]
        refine spanN_stop (x := 59) (fun y hy => ?_) ?_ (digV_semi base)
        · rw [List.take_left' rfl] at hy; exact hd y hy
        · rw [List.getElem?_append_right (Nat.le_refl _)]; simp
      unfold fmC at h
      rw [e4, e3, List.drop_left' rfl, ei, List.take_left' rfl, beq_self_eq_true, decide_eq_true (List.length_pos_iff.2 hu)] at h
      simp at h

end Go.Proofs.YtddgabjhligeeaaGreat.mk

namespace Go.Proofs.YtddgabjhligeeaaGreat.mk
open Go.RowKit

def charV : Array Value := #[.string ⟨#[97, 109, 112]⟩, .int .i64 38, .string ⟨#[108, 116]⟩, .int .i64 60, .string ⟨#[103, 116]⟩, .int .i64 62, .string ⟨#[113, 117, 111, 116]⟩, .int .i64 34, .string ⟨#[97, 112, 111, 115]⟩, .int .i64 39, .string ⟨#[110, 98, 115, 112]⟩, .int .i64 160]
def formV : Array Value := #[.string ⟨#[35]⟩, .int .i64 10, .string ⟨#[35, 120]⟩, .int .i64 16, .string ⟨#[35, 88]⟩, .int .i64 16]

set_option maxHeartbeats 400000 in
set_option maxRecDepth 100000 in
theorem characters_any (w : World) : Calls Tryz.prog 192 #[] w fun e w' => e = .returned (.agg charV) ∧ Below w.heap.size w w' := by
  go_enter Tryz.func192, Tryz.ntmps192
  go_wp2_with fail
  exact bodyPost_ret (results_cell_row Tryz.results192 _ _ w.heap.size 195 charV (0, 0) _ rfl (Whole.made w _ charV) Tryz.underlying195 rfl (by as_aux_lemma => kernel_rfl)) rfl ⟨rfl, (Below.refl _ _).alloc (Nat.le_refl _) _⟩
set_option maxHeartbeats 400000 in
set_option maxRecDepth 100000 in
theorem forms_any (w : World) : Calls Tryz.prog 194 #[] w fun e w' => e = .returned (.agg formV) ∧ Below w.heap.size w w' := by
  go_enter Tryz.func194, Tryz.ntmps194
  go_wp2_with fail
  exact bodyPost_ret (results_cell_row Tryz.results194 _ _ w.heap.size 200 formV (0, 0) _ rfl (Whole.made w _ formV) Tryz.underlying200 rfl (by as_aux_lemma => kernel_rfl)) rfl ⟨rfl, (Below.refl _ _).alloc (Nat.le_refl _) _⟩

theorem char_0 (w : World) : (Instr.index 195 (.agg charV) (.int .i64 0)).run Tryz.prog w = .ok (.agg #[.string ⟨#[97, 109, 112]⟩, .int .i64 38]) w := by kernel_rfl
theorem char_1 (w : World) : (Instr.index 195 (.agg charV) (.int .i64 1)).run Tryz.prog w = .ok (.agg #[.string ⟨#[108, 116]⟩, .int .i64 60]) w := by kernel_rfl
theorem char_2 (w : World) : (Instr.index 195 (.agg charV) (.int .i64 2)).run Tryz.prog w = .ok (.agg #[.string ⟨#[103, 116]⟩, .int .i64 62]) w := by kernel_rfl
theorem char_3 (w : World) : (Instr.index 195 (.agg charV) (.int .i64 3)).run Tryz.prog w = .ok (.agg #[.string ⟨#[113, 117, 111, 116]⟩, .int .i64 34]) w := by kernel_rfl
theorem char_4 (w : World) : (Instr.index 195 (.agg charV) (.int .i64 4)).run Tryz.prog w = .ok (.agg #[.string ⟨#[97, 112, 111, 115]⟩, .int .i64 39]) w := by kernel_rfl
theorem char_5 (w : World) : (Instr.index 195 (.agg charV) (.int .i64 5)).run Tryz.prog w = .ok (.agg #[.string ⟨#[110, 98, 115, 112]⟩, .int .i64 160]) w := by kernel_rfl
theorem form_0 (w : World) : (Instr.index 200 (.agg formV) (.int .i64 0)).run Tryz.prog w = .ok (.agg #[.string ⟨#[35]⟩, .int .i64 10]) w := by kernel_rfl
theorem form_1 (w : World) : (Instr.index 200 (.agg formV) (.int .i64 1)).run Tryz.prog w = .ok (.agg #[.string ⟨#[35, 120]⟩, .int .i64 16]) w := by kernel_rfl
theorem form_2 (w : World) : (Instr.index 200 (.agg formV) (.int .i64 2)).run Tryz.prog w = .ok (.agg #[.string ⟨#[35, 88]⟩, .int .i64 16]) w := by kernel_rfl

theorem char_at (k : Nat) (h : k < 6) : ∃ (nb : ByteArray) (c : Int), nameL[k]? = some (nb.data.toList, c) ∧ nb.size ≤ 4 ∧ ∀ w : World, (Instr.index 195 (.agg charV) (.int .i64 (k : Int))).run Tryz.prog w = .ok (.agg #[.string nb, .int .i64 c]) w := by
  obtain rfl | rfl | rfl | rfl | rfl | rfl : k = 0 ∨ k = 1 ∨ k = 2 ∨ k = 3 ∨ k = 4 ∨ k = 5 := by omega
  · exact ⟨_, _, rfl, by decide, char_0⟩
  · exact ⟨_, _, rfl, by decide, char_1⟩
  · exact ⟨_, _, rfl, by decide, char_2⟩
  · exact ⟨_, _, rfl, by decide, char_3⟩
  · exact ⟨_, _, rfl, by decide, char_4⟩
  · exact ⟨_, _, rfl, by decide, char_5⟩
theorem form_at (k : Nat) (h : k < 3) : ∃ (nb : ByteArray) (c : Int), formL[k]? = some (nb.data.toList, c) ∧ nb.size ≤ 2 ∧ ∀ w : World, (Instr.index 200 (.agg formV) (.int .i64 (k : Int))).run Tryz.prog w = .ok (.agg #[.string nb, .int .i64 c]) w := by
  obtain rfl | rfl | rfl : k = 0 ∨ k = 1 ∨ k = 2 := by omega
  · exact ⟨_, _, rfl, by decide, form_0⟩
  · exact ⟨_, _, rfl, by decide, form_1⟩
  · exact ⟨_, _, rfl, by decide, form_2⟩

end Go.Proofs.YtddgabjhligeeaaGreat.mk

namespace Go.Proofs.YtddgabjhligeeaaGreat.mk
open Go.RowKit

end Go.Proofs.YtddgabjhligeeaaGreat.mk
