/-
  Plain mathematics of bytes as hexadecimal digits: what is plain, what is encoded, what is decoded.
-/
import Derived.Test.YtpjbhjebjebbjaaUtfRep
import Derived.Test.YtpjbhjebjebbjaaMarkTold
import Derived.Lib.Bytealg
namespace Go.Proofs.Ytpjbhjebjebbjaa.mk
open Go.RowKit

theorem byteAll {p : UInt8 → Bool} (h : ((List.range 256).all fun n => p (UInt8.ofNat n)) = true) (b : UInt8) : p b = true := by
  have h1 := List.all_eq_true.1 h b.toNat (List.mem_range.2 b.toNat_lt)
  simpa using h1

/-! what is plain -/
def marksB : List UInt8 := [45, 46, 95, 126, 33, 36, 38, 39, 40, 41, 42, 43, 44, 59, 61, 58, 64, 47, 63, 35, 91, 93]
def letB (b : UInt8) : Bool := (decide (65 ≤ b.toNat) && decide (b.toNat ≤ 90)) || (decide (97 ≤ b.toNat) && decide (b.toNat ≤ 122))
def digB (b : UInt8) : Bool := decide (48 ≤ b.toNat) && decide (b.toNat ≤ 57)
def plainB (b : UInt8) : Bool := letB b || digB b || marksB.contains b
/-- a digit's value -/
def hexB (b : UInt8) : Int :=
  if 48 ≤ b.toNat ∧ b.toNat ≤ 57 then (b.toNat : Int) - 48 else if 65 ≤ b.toNat ∧ b.toNat ≤ 70 then (b.toNat : Int) - 55 else if 97 ≤ b.toNat ∧ b.toNat ≤ 102 then (b.toNat : Int) - 87 else -1
theorem hexB_bd (b : UInt8) : -1 ≤ hexB b ∧ hexB b ≤ 15 := by unfold hexB; split <;> (try split) <;> (try split) <;> omega
def digitL : List UInt8 := [48, 49, 50, 51, 52, 53, 54, 55, 56, 57, 65, 66, 67, 68, 69, 70]
def digitB (n : Nat) : UInt8 := digitL.getD n 0
theorem index_marks (b : UInt8) : decide (0 ≤ Lib.indexByte marksB b) = marksB.contains b := by
  have h := byteAll (p := fun b => decide (0 ≤ Lib.indexByte marksB b) == marksB.contains b) (by decide +kernel) b
  simpa using h

/-! what is encoded -/
def encB (b : UInt8) : List UInt8 := if plainB b then [b] else [37, digitB (b.toNat / 16), digitB (b.toNat % 16)]
theorem encB_plain {b : UInt8} (h : plainB b = true) : encB b = [b] := by unfold encB; rw [if_pos h]
theorem encB_not {b : UInt8} (h : plainB b = false) : encB b = [37, digitB (b.toNat / 16), digitB (b.toNat % 16)] := by unfold encB; rw [if_neg (by rw [h]; decide)]
theorem encB_len (b : UInt8) : 1 ≤ (encB b).length ∧ (encB b).length ≤ 3 := by
  unfold encB
  split <;> simp
def encC (c : UInt8 × Int) : List (UInt8 × Int) := (encB c.1).map fun x => (x, c.2)
theorem encC_fst (c : UInt8 × Int) : (encC c).map (·.1) = encB c.1 := by unfold encC; rw [List.map_map]; exact List.map_id' _
theorem encC_snd (c : UInt8 × Int) : (encC c).map (·.2) = List.replicate (encB c.1).length c.2 := by
  unfold encC
  rw [List.map_map]
  exact List.map_const'
def encL (l : List (UInt8 × Int)) : List (UInt8 × Int) := l.flatMap encC
theorem encL_nil : encL [] = [] := rfl
theorem encL_append (a b : List (UInt8 × Int)) : encL (a ++ b) = encL a ++ encL b := by simp [encL]
theorem encL_one (c : UInt8 × Int) : encL [c] = encC c := by simp [encL]
theorem encL_cons (c : UInt8 × Int) (l : List (UInt8 × Int)) : encL (c :: l) = encC c ++ encL l := by simp [encL]
theorem encC_len (c : UInt8 × Int) : (encC c).length = (encB c.1).length := by unfold encC; rw [List.length_map]
theorem chars_told {l : List (UInt8 × Int)} (h : InR l) : chars (l.map (·.1)) (comp (l.map (·.2))) = l := by
  refine chars_ext ?_ ?_
  · rw [chars_fst]
  · rw [chars_snd, List.length_map]
    have := origins_told h
    rw [List.length_map] at this
    exact this
theorem InR.chars (s : List UInt8) (rs : List (Int × Int)) : InR (mk.chars s rs) := by
  intro o ho
  rw [chars_snd] at ho
  exact origins_in _ _ o ho
theorem encL_len (l : List (UInt8 × Int)) : l.length ≤ (encL l).length ∧ (encL l).length ≤ 3 * l.length := by
  induction l with
  | nil => simp [encL]
  | cons c l ih => have := encB_len c.1; rw [encL_cons, List.length_append, encC_len, List.length_cons]; omega
theorem encL_next {l : List (UInt8 × Int)} {k : Nat} {c : UInt8 × Int} (h : l[k]? = some c) : encL (l.take (k + 1)) = encL (l.take k) ++ encC c := by rw [take_next h, encL_append, encL_one]
theorem encL_same (l : List (UInt8 × Int)) (o : Int) (h : ∀ c ∈ l, c.2 = o) : (encL l).map (·.2) = List.replicate (encL l).length o := by
  induction l with
  | nil => rfl
  | cons c l ih =>
    rw [encL_cons, List.map_append, encC_snd, ih (fun x hx => h x (by simp [hx])), h c (by simp), List.replicate_append_replicate, List.length_append, encC_len]
theorem InR.enc {l : List (UInt8 × Int)} (h : InR l) : InR (encL l) := by
  intro o ho
  simp only [encL, List.map_flatMap, List.mem_flatMap] at ho
  obtain ⟨c, hc, ho⟩ := ho
  rw [encC_snd] at ho
  rw [(List.mem_replicate.1 ho).2]
  exact h c.2 (List.mem_map.2 ⟨c, hc, rfl⟩)
def okB (x : UInt8) : Bool := plainB x || x == 37
theorem encB_ok (b : UInt8) : (encB b).all okB = true := byteAll (p := fun b => (encB b).all okB) (by decide +kernel) b
theorem encL_ok (l : List (UInt8 × Int)) : ∀ x ∈ (encL l).map (·.1), okB x = true := by
  intro x hx
  simp only [encL, List.map_flatMap, List.mem_flatMap] at hx
  obtain ⟨c, _, hx⟩ := hx
  rw [encC_fst] at hx
  exact List.all_eq_true.1 (encB_ok c.1) x hx

/-! what is decoded -/
/-- the byte that comes first, and how many bytes stand for it -/
def frst : List UInt8 → UInt8 × Nat
  | b :: x :: y :: _ => if b = 37 ∧ 0 ≤ hexB x ∧ 0 ≤ hexB y then (UInt8.ofNat ((hexB x).toNat * 16 + (hexB y).toNat), 3) else (b, 1)
  | b :: _ => (b, 1)
  | [] => (0, 1)
theorem frst3 (b x y : UInt8) (t : List UInt8) : frst (b :: x :: y :: t) = if b = 37 ∧ 0 ≤ hexB x ∧ 0 ≤ hexB y then (UInt8.ofNat ((hexB x).toNat * 16 + (hexB y).toNat), 3) else (b, 1) := rfl
theorem frst_size (l : List UInt8) : (frst l).2 = 1 ∨ (frst l).2 = 3 ∧ 3 ≤ l.length := by
  match l with
  | [] => exact .inl rfl
  | [_] => exact .inl rfl
  | [_, _] => exact .inl rfl
  | b :: x :: y :: t =>
    rw [frst3]
    split
    · exact .inr ⟨rfl, by simp⟩
    · exact .inl rfl
theorem frst_bd {l : List UInt8} (h : l ≠ []) : 1 ≤ (frst l).2 ∧ (frst l).2 ≤ l.length ∧ (frst l).2 ≤ 3 := by
  have h0 : 0 < l.length := List.length_pos_iff.2 h
  rcases frst_size l with h1 | ⟨h1, h2⟩ <;> omega
def frC (l : List (UInt8 × Int)) : UInt8 × Nat := frst (l.map (·.1))
theorem frC_bd {l : List (UInt8 × Int)} (h : l ≠ []) : 1 ≤ (frC l).2 ∧ (frC l).2 ≤ l.length ∧ (frC l).2 ≤ 3 := by
  have := frst_bd (l := l.map (·.1)) (by simpa using h)
  unfold frC
  simpa using this
def worT (l : List (UInt8 × Int)) (n : Nat) : Int := worC (l.take n)
def dec (l : List (UInt8 × Int)) : List (UInt8 × Int) :=
  if _h : l = [] then [] else ((frC l).1, worT l (frC l).2) :: dec (l.drop (frC l).2)
termination_by l.length
decreasing_by (have := frC_bd _h; have : 0 < l.length := List.length_pos_iff.2 _h; rw [List.length_drop]; omega)
theorem dec_nil : dec [] = [] := by rw [dec]; rfl
theorem dec_next {l : List (UInt8 × Int)} (h : l ≠ []) : dec l = ((frC l).1, worT l (frC l).2) :: dec (l.drop (frC l).2) := by
  conv => lhs; rw [dec, dif_neg h]
theorem decInd {p : List (UInt8 × Int) → Prop} (nil : p []) (next : ∀ l, l ≠ [] → p (l.drop (frC l).2) → p l) (l : List (UInt8 × Int)) : p l := by
  have h : ∀ n, ∀ l : List (UInt8 × Int), l.length ≤ n → p l := by
    intro n
    induction n with
    | zero => intro l hl; have e : l = [] := List.eq_nil_of_length_eq_zero (by omega); subst e; exact nil
    | succ n ih =>
      intro l hl
      by_cases e : l = []
      · subst e; exact nil
      · exact next l e (ih _ (by have := frC_bd e; rw [List.length_drop]; omega))
  exact h l.length l (Nat.le_refl _)
theorem dec_len (l : List (UInt8 × Int)) : (dec l).length ≤ l.length := by
  induction l using decInd with
  | nil => rw [dec_nil]; exact Nat.le_refl _
  | next l h ih => have := frC_bd h; rw [List.length_drop] at ih; rw [dec_next h, List.length_cons]; omega
theorem InR.dec {l : List (UInt8 × Int)} (h : InR l) : InR (mk.dec l) := by
  induction l using decInd with
  | nil => rw [dec_nil]; exact h
  | next l hl ih =>
    rw [dec_next hl]
    intro o ho
    rw [List.map_cons] at ho
    rcases List.mem_cons.1 ho with ho | ho
    · rw [ho]; exact worstO_in (h.take _)
    · exact ih (h.drop _) o ho
theorem foldl_max_acc (l : List Int) (a : Int) (ha : 0 ≤ a) : l.foldl max a = max a (worstO l) := by
  unfold worstO
  have key : ∀ (l : List Int) (a b : Int), l.foldl max (max a b) = max a (l.foldl max b) := by
    intro l
    induction l with
    | nil => intro a b; rfl
    | cons x l ih => intro a b; rw [List.foldl_cons, List.foldl_cons, show max (max a b) x = max a (max b x) by omega, ih]
  have h := key l a 0
  rw [show max a 0 = a by omega] at h
  exact h
theorem worstO_nn (l : List Int) : 0 ≤ worstO l := by
  have key : ∀ (l : List Int) (a : Int), 0 ≤ a → 0 ≤ l.foldl max a := by
    intro l
    induction l with
    | nil => intro a h; exact h
    | cons x l ih => intro a h; rw [List.foldl_cons]; exact ih _ (by omega)
  exact key l 0 (by omega)
theorem dec_worst (l : List (UInt8 × Int)) : worstO ((dec l).map (·.2)) = worstO (l.map (·.2)) := by
  induction l using decInd with
  | nil => rw [dec_nil]
  | next l h ih =>
    rw [dec_next h, List.map_cons]
    have e : worstO (l.map (·.2)) = max (worT l (frC l).2) (worstO ((l.drop (frC l).2).map (·.2))) := by
      conv => lhs; rw [← List.take_append_drop (frC l).2 l]
      rw [List.map_append, worstO_append, foldl_max_acc _ _ (worstO_nn _)]
      rfl
    rw [e, ← ih]
    have hn : 0 ≤ worT l (frC l).2 := worstO_nn _
    show List.foldl max 0 (worT l (frC l).2 :: _) = _
    rw [List.foldl_cons, show max 0 (worT l (frC l).2) = worT l (frC l).2 by omega, foldl_max_acc _ _ hn]

theorem frst_not (b : UInt8) (t : List UInt8) (h : b ≠ 37) : frst (b :: t) = (b, 1) := by
  match t with
  | [] => rfl
  | [_] => rfl
  | x :: y :: t => rw [frst3, if_neg (fun e => h e.1)]
theorem digit_back (b : UInt8) : (decide (0 ≤ hexB (digitB (b.toNat / 16))) && decide (0 ≤ hexB (digitB (b.toNat % 16))) && decide (UInt8.ofNat ((hexB (digitB (b.toNat / 16))).toNat * 16 + (hexB (digitB (b.toNat % 16))).toNat) = b)) = true :=
  byteAll (p := fun b => decide (0 ≤ hexB (digitB (b.toNat / 16))) && decide (0 ≤ hexB (digitB (b.toNat % 16))) && decide (UInt8.ofNat ((hexB (digitB (b.toNat / 16))).toNat * 16 + (hexB (digitB (b.toNat % 16))).toNat) = b)) (by decide +kernel) b
theorem plain_sign : plainB 37 = false := by decide +kernel
theorem dec_enc_one (c : UInt8 × Int) (u : List (UInt8 × Int)) (hc : 0 ≤ c.2) : dec (encC c ++ u) = c :: dec u := by
  obtain ⟨b, o⟩ := c
  simp only at hc
  cases hp : plainB b with
  | true =>
    have h37 : b ≠ 37 := by intro e; subst e; rw [plain_sign] at hp; cases hp
    have e : encC (b, o) = [(b, o)] := by unfold encC; rw [encB_plain hp]; rfl
    rw [e, dec_next (by simp)]
    have ef : frC ([(b, o)] ++ u) = (b, 1) := frst_not b _ h37
    rw [ef]
    have ew : worT ([(b, o)] ++ u) 1 = o := by show max 0 o = o; omega
    rw [ew]
    rfl
  | false =>
    have e : encC (b, o) = [(37, o), (digitB (b.toNat / 16), o), (digitB (b.toNat % 16), o)] := by unfold encC; rw [encB_not hp]; rfl
    have hd := digit_back b
    simp only [Bool.and_eq_true, decide_eq_true_eq] at hd
    obtain ⟨⟨h1, h2⟩, h3⟩ := hd
    rw [e, dec_next (by simp)]
    have ef : frC ([(37, o), (digitB (b.toNat / 16), o), (digitB (b.toNat % 16), o)] ++ u) = (b, 3) := by
      show frst (37 :: digitB (b.toNat / 16) :: digitB (b.toNat % 16) :: _) = _
      rw [frst3, if_pos ⟨rfl, h1, h2⟩, h3]
    rw [ef]
    have ew : worT ([(37, o), (digitB (b.toNat / 16), o), (digitB (b.toNat % 16), o)] ++ u) 3 = o := by show max (max (max 0 o) o) o = o; omega
    rw [ew]
    rfl
theorem dec_enc {l : List (UInt8 × Int)} (h : InR l) : dec (encL l) = l := by
  induction l with
  | nil => exact dec_nil
  | cons c l ih =>
    rw [encL_cons, dec_enc_one c _ (h c.2 (by simp)).1, ih (fun o ho => h o (by rw [List.map_cons]; exact List.mem_cons_of_mem _ ho))]

/-! runs of what is encoded, run by run -/
def ApartO (os : List Int) : Prop := ∀ j x y, os[j]? = some x → os[j + 1]? = some y → x ≠ y
theorem comp_last (l : List Int) (p : Int) : ∃ r n, comp (l ++ [p]) = r ++ [(n, p)] := by
  rw [comp_snoc]
  rcases snoc_cases (comp l) with h | ⟨r, ⟨m, q⟩, h⟩
  · rw [h, joinR_nil (by omega)]; exact ⟨[], 1, rfl⟩
  · by_cases hq : q = p
    · subst hq; rw [h, joinR_same (by omega)]; exact ⟨r, m + 1, rfl⟩
    · rw [h, joinR_other (by omega) hq]; exact ⟨_, 1, rfl⟩
theorem comp_apart (l : List Int) : ApartO ((comp l).map (·.2)) := by
  induction l using snocInd with
  | nil => intro j x y h; simp [comp] at h
  | append_singleton l o ih =>
    rw [comp_snoc]
    rcases snoc_cases (comp l) with h | ⟨r, ⟨m, p⟩, h⟩
    · rw [h, joinR_nil (by omega)]
      intro j x y _ hy
      simp at hy
    · rw [h] at ih
      by_cases hp : p = o
      · subst hp; rw [h, joinR_same (by omega)]
        simpa using ih
      · rw [h, joinR_other (by omega) hp]
        simp only [List.map_append, List.map_cons, List.map_nil] at ih ⊢
        intro j x y hx hy
        have hlen := (List.getElem?_eq_some_iff.1 hy).1
        simp only [List.length_append, List.length_cons, List.length_nil, List.length_map] at hlen
        by_cases hj : j + 1 < (List.map (·.2) r ++ [p]).length
        · rw [List.getElem?_append_left (by omega)] at hx
          rw [List.getElem?_append_left hj] at hy
          exact ih j x y hx hy
        · simp only [List.length_append, List.length_cons, List.length_nil, List.length_map] at hj
          have ej : j = r.length := by omega
          subst ej
          rw [List.getElem?_append_left (by simp)] at hx
          rw [List.getElem?_append_right (by simp)] at hx hy
          simp at hx hy
          subst hx
          subst hy
          exact hp
theorem comp_put {os : List Int} {n : Nat} {o : Int} (hn : 1 ≤ n) (h : os = [] ∨ ∃ a p, os = a ++ [p] ∧ p ≠ o) : comp (os ++ List.replicate n o) = comp os ++ [((n : Int), o)] := by
  rw [comp_replicate]
  rcases h with rfl | ⟨a, p, rfl, hp⟩
  · exact joinR_nil (by omega)
  · obtain ⟨r, m, e⟩ := comp_last a p
    rw [e, joinR_other (by omega) hp]
theorem encL_last {l : List (UInt8 × Int)} {a : List Int} {p : Int} (h : l.map (·.2) = a ++ [p]) : ∃ b, (encL l).map (·.2) = b ++ [p] := by
  rcases snoc_cases l with rfl | ⟨r, c, rfl⟩
  · simp at h
  · rw [List.map_append] at h
    have h2 : c.2 = p := by
      have := congrArg List.getLast? h
      simpa using this
    have hl := (encB_len c.1).1
    rw [encL_append, encL_one, List.map_append, encC_snd, h2]
    obtain ⟨n, hn⟩ : ∃ n, (encB c.1).length = n + 1 := ⟨(encB c.1).length - 1, by omega⟩
    rw [hn, List.replicate_succ', ← List.append_assoc]
    exact ⟨_, rfl⟩
/-- the runs of what is encoded of the first runs, and one more -/
theorem enc_run {L : List (UInt8 × Int)} {j : Nat} {l o : Int} {d : Nat} (hj : (comp (L.map (·.2)))[j]? = some (l, o)) (hd : (expand ((comp (L.map (·.2))).take j)).length = d) :
    comp ((encL (L.take (d + l.toNat))).map (·.2)) = comp ((encL (L.take d)).map (·.2)) ++ [(((encL (L.take (d + l.toNat))).length : Int) - ((encL (L.take d)).length : Int), o)] := by
  generalize hq : comp (L.map (·.2)) = qs at *
  have hex : expand qs = L.map (·.2) := by rw [← hq, expand_comp]
  have hpos : 1 ≤ l := by have := comp_pos (L.map (·.2)) (l, o) (by rw [hq]; exact List.mem_of_getElem? hj); exact this
  have hap : ApartO (qs.map (·.2)) := by rw [← hq]; exact comp_apart _
  have e : qs = qs.take j ++ (l, o) :: qs.drop (j + 1) := by
    obtain ⟨hj1, h2⟩ := List.getElem?_eq_some_iff.1 hj
    rw [← h2, ← List.drop_eq_getElem_cons hj1, List.take_append_drop]
  have e2 : L.map (·.2) = expand (qs.take j) ++ (List.replicate l.toNat o ++ expand (qs.drop (j + 1))) := by
    rw [← hex]
    conv => lhs; rw [e]
    rw [expand_append]
    simp [expand]
  have hA : (L.take d).map (·.2) = expand (qs.take j) := by rw [List.map_take, e2, List.take_left' hd]
  have hB : ((L.drop d).take l.toNat).map (·.2) = List.replicate l.toNat o := by
    rw [List.map_take, List.map_drop, e2, List.drop_left' hd, List.take_left' (by simp)]
  rw [List.take_add, encL_append]
  have hS := encL_same ((L.drop d).take l.toNat) o (fun c hc => by
    have : c.2 ∈ List.replicate l.toNat o := by rw [← hB]; exact List.mem_map.2 ⟨c, hc, rfl⟩
    exact (List.mem_replicate.1 this).2)
  have hn : ((L.drop d).take l.toNat).length = l.toNat := by have := congrArg List.length hB; simpa using this
  have hE := (encL_len ((L.drop d).take l.toNat)).1
  rw [List.map_append, hS, comp_put (by omega), List.length_append]
  · congr 3
    omega
  · by_cases hj0 : j = 0
    · left
      subst hj0
      have : L.take d = [] := by
        have h1 := congrArg List.length hA
        simp [expand] at h1
        simpa using h1
      rw [this]; rfl
    · right
      obtain ⟨i, rfl⟩ : ∃ i, j = i + 1 := ⟨j - 1, by omega⟩
      have hi : i < qs.length := by have := (List.getElem?_eq_some_iff.1 hj).1; omega
      have hr : qs[i]? = some qs[i] := List.getElem?_eq_getElem hi
      have hne : (qs[i]).2 ≠ o := hap i _ _ (by rw [List.getElem?_map, hr]; rfl) (by rw [List.getElem?_map, hj]; rfl)
      have hp1 : 1 ≤ (qs[i]).1 := by have := comp_pos (L.map (·.2)) qs[i] (by rw [hq]; exact List.getElem_mem hi); exact this
      have hz : ∃ a, (L.take d).map (·.2) = a ++ [(qs[i]).2] := by
        rw [hA, take_next hr, expand_append]
        obtain ⟨n, hn⟩ : ∃ n, (qs[i]).1.toNat = n + 1 := ⟨(qs[i]).1.toNat - 1, by omega⟩
        refine ⟨expand (qs.take i) ++ List.replicate n (qs[i]).2, ?_⟩
        rw [List.append_assoc, ← List.replicate_succ', ← hn]
        simp [expand]
      obtain ⟨a, ha⟩ := hz
      obtain ⟨b, hb⟩ := encL_last ha
      exact ⟨b, _, hb, hne⟩

end Go.Proofs.Ytpjbhjebjebbjaa.mk
