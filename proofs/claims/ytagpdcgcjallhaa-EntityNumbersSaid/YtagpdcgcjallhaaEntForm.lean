/-
  References as the program looks for them: names one by one, then the forms of numbers.
-/
import Derived.Test.YtagpdcgcjallhaaEntPure
import Derived.Test.YtagpdcgcjallhaaSeekPure
namespace Go.Proofs.Ytagpdcgcjallhaa.mk
open Go.RowKit

/-- a name stands ahead, with its semicolon -/
def nmC (inner nm : List UInt8) : Bool := inner.take (nm.length + 1) == nm ++ [59]
def formL : List (List UInt8 × Int) := [([35], 10), ([35, 120], 16), ([35, 88], 16)]
def rsF (inner bg : List UInt8) : List UInt8 := inner.drop bg.length
def dgF (inner bg : List UInt8) (base : Int) : Nat := spanN (rsF inner bg) (digV base)
/-- digits of that form stand ahead, with their semicolon -/
def fmC (inner bg : List UInt8) (base : Int) : Bool := (inner.take bg.length == bg) && decide (0 < dgF inner bg base) && (((rsF inner bg).drop (dgF inner bg base)).take 1 == [59])

theorem spanN_le (l : List UInt8) (p : UInt8 → Bool) : spanN l p ≤ l.length := by
  unfold spanN
  conv => rhs; rw [← List.takeWhile_append_dropWhile (p := p) (l := l)]
  rw [List.length_append]
  omega
theorem spanN_take (l : List UInt8) (p : UInt8 → Bool) : ∀ b ∈ l.take (spanN l p), p b = true := by
  unfold spanN
  induction l with
  | nil => intro b hb; cases hb
  | cons x l ih =>
    intro b hb
    rw [List.takeWhile_cons] at hb
    cases hx : p x with
    | true =>
      rw [hx] at hb
      simp only [if_true, List.length_cons, List.take_succ_cons] at hb
      rcases List.mem_cons.1 hb with rfl | hb
      · exact hx
      · exact ih b hb
    | false => rw [hx] at hb; simp at hb
theorem digV_semi (base : Int) : digV base 59 = false := by
  unfold digV
  rw [show hexB 59 = -1 from by decide]
  rfl
theorem digV_no {base : Int} {b : UInt8} (h : digV base b = true) : (b != 59) = true := by
  rw [bne_iff_ne]
  intro e
  subst e
  rw [digV_semi] at h
  cases h
theorem take_one {l : List UInt8} (h : (l.take 1 == [59]) = true) : ∃ r, l = 59 :: r := by
  cases l with
  | nil => simp at h
  | cons x r => simp at h; subst h; exact ⟨r, rfl⟩

theorem name_hit {inner nm : List UInt8} {k : Nat} {c : Int} (hk : nameL[k]? = some (nm, c)) (h : nmC inner nm = true) : refer (38 :: inner) = some (c, nm.length + 2) := by
  unfold nmC at h
  have e : inner = nm ++ 59 :: inner.drop (nm.length + 1) := by
    conv => lhs; rw [← List.take_append_drop (nm.length + 1) inner]
    rw [beq_iff_eq.1 h, List.append_assoc]
    rfl
  rw [e]
  exact refer_of (nameL_no hk).1 (standsN_name hk)
theorem formL_no {k : Nat} {bg : List UInt8} {base : Int} (hk : formL[k]? = some (bg, base)) : (∀ x ∈ bg, (x != 59) = true) ∧ (base = 10 ∨ base = 16) ∧ bg.length ≤ 2 := by
  match k, hk with
  | 0, h => cases h; decide
  | 1, h => cases h; decide
  | 2, h => cases h; decide
  | k + 3, h => simp [formL] at h
theorem formL_stands {k : Nat} {bg u : List UInt8} {base : Int} (hk : formL[k]? = some (bg, base)) (h1 : u ≠ []) (h2 : ∀ b ∈ u, digV base b = true) : standsN (bg ++ u) = some (valD base u) := by
  match k, hk with
  | 0, h => cases h; exact (standsN_hash u).trans (numS_dec h1 h2)
  | 1, h => cases h; exact (standsN_hash (120 :: u)).trans (numS_hex (.inl rfl) h1 h2)
  | 2, h => cases h; exact (standsN_hash (88 :: u)).trans (numS_hex (.inr rfl) h1 h2)
  | k + 3, h => simp [formL] at h
theorem form_hit {inner bg : List UInt8} {k : Nat} {base : Int} (hk : formL[k]? = some (bg, base)) (h : fmC inner bg base = true) :
    refer (38 :: inner) = some (valD base ((rsF inner bg).take (dgF inner bg base)), bg.length + dgF inner bg base + 2) ∧ (∀ b ∈ (rsF inner bg).take (dgF inner bg base), digV base b = true) := by
  unfold fmC at h
  simp only [Bool.and_eq_true, decide_eq_true_eq] at h
  obtain ⟨⟨h1, h2⟩, h3⟩ := h
  have hd := spanN_take (rsF inner bg) (digV base)
  have hle := spanN_le (rsF inner bg) (digV base)
  have e1 : inner = bg ++ rsF inner bg := by
    conv => lhs; rw [← List.take_append_drop bg.length inner]
    rw [beq_iff_eq.1 h1]
    rfl
  obtain ⟨r, hr⟩ := take_one h3
  have e2 : rsF inner bg = (rsF inner bg).take (dgF inner bg base) ++ 59 :: r := by
    conv => lhs; rw [← List.take_append_drop (dgF inner bg base) (rsF inner bg)]
    rw [hr]
  unfold dgF at h2 e2 ⊢
  refine ⟨?_, hd⟩
  clear h1 h3 hr
  generalize rsF inner bg = rs at *
  have hul : (rs.take (spanN rs (digV base))).length = spanN rs (digV base) := by rw [List.length_take]; omega
  have hne : rs.take (spanN rs (digV base)) ≠ [] := by intro e; rw [e] at hul; simp at hul; omega
  have hno : ∀ x ∈ bg ++ rs.take (spanN rs (digV base)), (x != 59) = true := by
    intro x hx
    rcases List.mem_append.1 hx with hx | hx
    · exact (formL_no hk).1 x hx
    · exact digV_no (hd x hx)
  have hR := refer_of (r := r) hno (formL_stands hk hne hd)
  rw [List.append_assoc, ← e2, ← e1, List.length_append, hul] at hR
  exact hR

theorem refer_miss {inner : List UInt8} (h1 : ∀ (k : Nat) (nm : List UInt8) (c : Int), nameL[k]? = some (nm, c) → nmC inner nm = false) (h2 : ∀ (k : Nat) (bg : List UInt8) (base : Int), formL[k]? = some (bg, base) → fmC inner bg base = false) : refer (38 :: inner) = none := by
  cases hr : refer (38 :: inner) with
  | none => rfl
  | some p =>
    exfalso
    obtain ⟨n, z⟩ := p
    obtain ⟨b, r, e, hno, hs, _⟩ := refer_some hr
    injection e with _ e
    cases hn : nameN b with
    | some m =>
      obtain ⟨k, _, hk⟩ := nameN_some hn
      have h := h1 k b m hk
      unfold nmC at h
      rw [beq_eq_false_iff_ne] at h
      refine h ?_
      rw [e, show b ++ 59 :: r = (b ++ [59]) ++ r by simp, List.take_left' (by simp)]
    | none =>
      unfold standsN at hs
      rw [hn] at hs
      obtain ⟨bg, u, base, hb, eb, hu, hd, _⟩ := numS_some hs
      have hk : ∃ k : Nat, formL[k]? = some (bg, base) := by
        rcases hb with hb | hb | hb
        · exact ⟨0, by rw [hb]; rfl⟩
        · exact ⟨1, by rw [hb]; rfl⟩
        · exact ⟨2, by rw [hb]; rfl⟩
      obtain ⟨k, hk⟩ := hk
      have h := h2 k bg base hk
      have ei : inner = bg ++ (u ++ 59 :: r) := by rw [e, eb, List.append_assoc]
      have e3 : rsF inner bg = u ++ 59 :: r := by unfold rsF; rw [ei, List.drop_left' rfl]
      have e4 : dgF inner bg base = u.length := by
        unfold dgF
        rw [e3]
        refine spanN_stop (x := 59) (fun y hy => ?_) ?_ (digV_semi base)
        · rw [List.take_left' rfl] at hy; exact hd y hy
        · rw [List.getElem?_append_right (Nat.le_refl _)]; simp
      unfold fmC at h
      rw [e4, e3, List.drop_left' rfl, ei, List.take_left' rfl, beq_self_eq_true, decide_eq_true (List.length_pos_iff.2 hu)] at h
      simp at h

end Go.Proofs.Ytagpdcgcjallhaa.mk
