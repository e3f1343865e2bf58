/-
  What the program's Views and Attrs tell, and the law's alive, as the walks of stage 17 want it.
-/
import Derived.Test.YtnbdldapmllegaaGreatJtAM
import Derived.Test.YtnbdldapmllegaaGreatJtI
import Derived.Test.YtnbdldapmllegaaGreatJtAG
import Derived.Test.YtnbdldapmllegaaGreatJtAD
namespace Go.Proofs.YtnbdldapmllegaaGreat.mk
open Go.RowKit

/-- bytes lower; the greatest origin; whether these bytes are a name of a row -/
def lowC (c : Ch) : Ch := c.map fun x => (lowB x.1, x.2)
def wor (c : Ch) : Int := worstO (c.map (·.2))
def byC (c : Ch) : List UInt8 := c.map (·.1)
def isT (L : List ByteArray) (l : List UInt8) : Bool := L.any fun y => l == y.data.toList
theorem hasT_isT (L : List ByteArray) (s : ByteArray) : hasT L s = isT L s.data.toList := by
  unfold hasT isT
  congr 1
  funext y
  rw [ByteArray.toList_eq, ByteArray.toList_eq]

/-- what is left of an attribute -/
def cleanA (a : PA) : Option PA :=
  if wor (lowC a.1) ≠ 0 then none
  else if isT attrL (byC (lowC a.1)) then some (lowC a.1, rep a.2)
  else if isT addrL (byC (lowC a.1)) then (if safeB (readyL (rep a.2)) then some (lowC a.1, readyL (rep a.2)) else none)
  else if isT handL (byC (lowC a.1)) then (if wor (rep a.2) = 0 then some (lowC a.1, rep a.2) else none)
  else none
def cleanAs (l : List PA) : List PA := onceA (l.filterMap cleanA)
def hookOk (h : PH) : Bool := decide (1 ≤ h.1) && decide (h.1 ≤ 8) && decide (0 ≤ h.2.2)
/-- words that may stand raw, trusted -/
def rawKid (v : PV) : Bool := decide (v.kind = 2) && decide (wor v.text = 0) && rawB (byC v.text)
def kidsV (t : Ch) (ks : List PV) : List PV := if isT voidL (byC t) then [] else ks
def fitV (t : Ch) (al : List PA) (ks : List PV) : Bool := !isT rawL (byC t) || (ks.all rawKid && al.all fun a => decide (wor a.2 = 0))
/-- what is left of an element, its kids cleaned -/
def elV (tag : Ch) (key : List UInt8) (attrs : List PA) (hooks : List PH) (ks : List PV) : List PV :=
  if wor (lowC tag) ≠ 0 ∨ isT tagL (byC (lowC tag)) = false then []
  else if fitV (lowC tag) (cleanAs attrs) (kidsV (lowC tag) ks) then [⟨1, lowC tag, key, cleanAs attrs, hooks.filter hookOk, kidsV (lowC tag) ks, [], 0⟩] else []
def oneV (kind : Int) (tag : Ch) (key : List UInt8) (attrs : List PA) (hooks : List PH) (ks : List PV) (text : Ch) (slot : Int) : List PV :=
  if kind = 2 then (if text = [] then [] else [⟨2, [], key, [], [], [], rep text, 0⟩])
  else if kind = 3 then (if 1 ≤ slot ∧ slot ≤ 3 then [⟨3, [], key, [], [], [], [], slot⟩] else [])
  else if kind = 1 then elV tag key attrs hooks ks
  else []
mutual
def PV.left : PV → List PV
  | ⟨kind, tag, key, attrs, hooks, kids, text, slot⟩ => oneV kind tag key attrs hooks (leftV kids) text slot
def leftV : List PV → List PV
  | [] => []
  | v :: vs => v.left ++ leftV vs
end
theorem PV.left_eq (v : PV) : v.left = oneV v.kind v.tag v.key v.attrs v.hooks (leftV v.kids) v.text v.slot := by cases v; rw [PV.left]
theorem leftV_append (a b : List PV) : leftV (a ++ b) = leftV a ++ leftV b := by
  induction a with
  | nil => rw [leftV]; rfl
  | cons x a ih => rw [List.cons_append, leftV, leftV, ih, List.append_assoc]
theorem leftV_one (v : PV) : leftV [v] = v.left := by rw [leftV, leftV, List.append_nil]
theorem leftV_next {L : List PV} {k : Nat} {v : PV} (h : L[k]? = some v) : leftV (L.take (k + 1)) = leftV (L.take k) ++ v.left := by rw [take_next h, leftV_append, leftV_one]

/-! ### cleaned twice -/
theorem lowC_twice (c : Ch) : lowC (lowC c) = lowC c := by
  unfold lowC
  rw [List.map_map]
  refine List.map_congr_left fun x _ => ?_
  show (lowB (lowB x.1), x.2) = (lowB x.1, x.2)
  rw [lowB_no (lowB_low x.1)]
theorem rep_twice (c : Ch) : rep (rep c) = rep c := rep_same _ (rep_valid c)
theorem rep_some {c : Ch} (h : c ≠ []) : rep c ≠ [] := by
  intro e
  cases hs : soughtB (c.map (·.1)) with
  | true =>
    rw [rep_bad h hs] at e
    have := congrArg List.length e
    rw [List.length_append] at this
    have h3 : (badCh (worstO ((c.take (nx (c.map (·.1))).1).map (·.2)))).length = 3 := rfl
    rw [h3] at this
    simp at this
  | false =>
    rw [rep_right h hs] at e
    have h1 := (List.append_eq_nil_iff.1 e).1
    have hm : c.map (·.1) ≠ [] := fun e => h (List.map_eq_nil_iff.1 e)
    have hb := nx_bd hm
    have h2 := congrArg List.length h1
    rw [List.length_take, List.length_nil] at h2
    have : 0 < c.length := List.length_pos_iff.2 h
    omega
/-- bytes of one byte may go -/
theorem vC_filter (f : UInt8 × Int → Bool) (hf : ∀ x, f x = false → x.1.toNat < 128) : ∀ (n : Nat) (c : Ch), c.length ≤ n → ∀ a : Ch, (∀ x ∈ a, f x = true) → vC (a ++ c) → vC (a ++ c.filter f) := by
  intro n
  induction n with
  | zero =>
    intro c hc a _ h
    have e : c = [] := List.eq_nil_of_length_eq_zero (by omega)
    rw [e] at h ⊢
    exact h
  | succ n ih =>
    intro c hc a ha h
    cases c with
    | nil => exact h
    | cons x c =>
      rw [List.length_cons] at hc
      cases hx : f x with
      | true =>
        rw [List.filter_cons_of_pos (by simpa using hx)]
        have h2 := ih c (by omega) (a ++ [x]) (fun y hy => by
          rcases List.mem_append.1 hy with hy | hy
          · exact ha y hy
          · rw [List.mem_singleton.1 hy]; exact hx) (by rw [List.append_assoc]; exact h)
        rw [List.append_assoc] at h2
        exact h2
      | false =>
        rw [List.filter_cons_of_neg (by simp [hx])]
        have hl : LowC (x :: c) := fun y r e => by injection e with e _; rw [← e]; exact hf x hx
        have h1 : vC a := by unfold vC at *; rw [List.map_append] at h; exact valid_cut h hl.map
        have h2 : vC (x :: c) := by unfold vC at *; rw [List.map_append] at h; exact valid_rest h hl.map
        have h3 : vC c := valid_tail h2 (hf x hx)
        exact vC_both h1 (ih c (by omega) [] (fun _ hy => by cases hy) h3)
theorem vC_drop (p : UInt8 × Int → Bool) (hp : ∀ x, p x = true → x.1.toNat < 128) (c : Ch) (h : vC c) : vC (c.dropWhile p) := by
  induction c with
  | nil => exact h
  | cons x c ih =>
    rw [List.dropWhile_cons]
    split
    · rename_i hx
      exact ih (valid_tail h (hp x hx))
    · exact h
theorem vC_dropEnd (p : UInt8 × Int → Bool) (hp : ∀ x, p x = true → x.1.toNat < 128) : ∀ (n : Nat) (c : Ch), c.length ≤ n → vC c → vC (c.reverse.dropWhile p).reverse := by
  intro n
  induction n with
  | zero =>
    intro c hc h
    have e : c = [] := List.eq_nil_of_length_eq_zero (by omega)
    rw [e] at h ⊢
    exact h
  | succ n ih =>
    intro c hc h
    rcases c.eq_nil_or_concat with e | ⟨xs, x, e⟩
    · rw [e] at h ⊢; exact h
    · rw [List.concat_eq_append] at e
      subst e
      rw [List.reverse_append, List.reverse_singleton, List.singleton_append, List.dropWhile_cons]
      split
      · rename_i hx
        refine ih xs (by rw [List.length_append] at hc; simp at hc; omega) ?_
        unfold vC at *
        rw [List.map_append] at h
        exact valid_cut h (fun c r e => by
          rw [List.map_cons] at e
          injection e with e _
          rw [← e]
          exact hp x hx)
      · rw [List.reverse_cons, List.reverse_reverse]
        exact h
theorem edge_low (x : UInt8 × Int) (h : edgeC x = true) : x.1.toNat < 128 := by
  unfold edgeC onB at h
  simp only [decide_eq_true_eq] at h
  omega
theorem keep_low (x : UInt8 × Int) (h : keepC x = false) : x.1.toNat < 128 := by
  unfold keepC at h
  rw [Bool.not_eq_false'] at h
  have h2 : x.1 ∈ noneB := by
    unfold isIn at h
    simpa using h
  unfold noneB at h2
  simp only [List.mem_cons, List.not_mem_nil, or_false] at h2
  rcases h2 with e | e | e <;> rw [e] <;> decide
theorem vC_ready {c : Ch} (h : vC c) : vC (readyL c) := by
  have h1 := vC_dropEnd edgeC edge_low _ c (Nat.le_refl _) h
  have h2 := vC_drop edgeC edge_low _ h
  have h3 : vC (trimL edgeC c) := by
    unfold trimL
    first
      | exact vC_dropEnd edgeC edge_low _ _ (Nat.le_refl _) h2
      | exact vC_drop edgeC edge_low _ h1
  exact vC_filter keepC keep_low _ _ (Nat.le_refl _) [] (fun _ hx => by cases hx) h3
theorem vC_rep (c : Ch) : vC (rep c) := rep_valid c
theorem rep_ready (c : Ch) : rep (readyL (rep c)) = readyL (rep c) := rep_same _ (vC_ready (vC_rep c))

theorem cleanA_name {a b : PA} (h : cleanA a = some b) : b.1 = lowC a.1 ∧ wor b.1 = 0 := by
  unfold cleanA at h
  split at h
  · cases h
  · rename_i hw
    have hw0 : wor (lowC a.1) = 0 := Decidable.not_not.1 hw
    split at h
    · injection h with h; subst h; exact ⟨rfl, hw0⟩
    · split at h
      · split at h
        · injection h with h; subst h; exact ⟨rfl, hw0⟩
        · cases h
      · split at h
        · split at h
          · injection h with h; subst h; exact ⟨rfl, hw0⟩
          · cases h
        · cases h
theorem cleanA_twice {a b : PA} (h : cleanA a = some b) : cleanA b = some b := by
  unfold cleanA at h
  split at h
  · cases h
  · rename_i hw
    have hw0 : wor (lowC a.1) = 0 := Decidable.not_not.1 hw
    split at h
    · rename_i h1
      injection h with h; subst h
      unfold cleanA
      simp only [lowC_twice, rep_twice]
      rw [if_neg hw, if_pos h1]
    · rename_i h1
      split at h
      · rename_i h2
        split at h
        · rename_i h3
          injection h with h; subst h
          unfold cleanA
          simp only [lowC_twice, rep_ready, readyL_twice]
          rw [if_neg hw, if_neg h1, if_pos h2, if_pos h3]
        · cases h
      · rename_i h2
        split at h
        · rename_i h3
          split at h
          · rename_i h4
            injection h with h; subst h
            unfold cleanA
            simp only [lowC_twice, rep_twice]
            rw [if_neg hw, if_neg h1, if_neg h2, if_pos h3, if_pos h4]
          · cases h
        · cases h
theorem filterMap_same {L : List PA} (h : ∀ x ∈ L, cleanA x = some x) : L.filterMap cleanA = L := by
  induction L with
  | nil => rfl
  | cons x L ih => rw [List.filterMap_cons_some (h x (List.mem_cons_self ..)), ih fun y hy => h y (List.mem_cons_of_mem _ hy)]
theorem cleanAs_mem {l : List PA} {x : PA} (h : x ∈ cleanAs l) : ∃ a ∈ l, cleanA a = some x := List.mem_filterMap.1 (onceA_sub h)
theorem cleanAs_twice (l : List PA) : cleanAs (cleanAs l) = cleanAs l := by
  have h1 : (cleanAs l).filterMap cleanA = cleanAs l := filterMap_same fun x hx => by
    obtain ⟨a, _, ha⟩ := cleanAs_mem hx
    exact cleanA_twice ha
  show onceA ((cleanAs l).filterMap cleanA) = cleanAs l
  rw [h1]
  exact once_once _
theorem hooks_twice (l : List PH) : (l.filter hookOk).filter hookOk = l.filter hookOk := by rw [List.filter_filter]; congr 1; funext x; rw [Bool.and_self]

theorem elV_twice (tag : Ch) (key : List UInt8) (attrs : List PA) (hooks : List PH) (ks : List PV) (hk : leftV ks = ks) : leftV (elV tag key attrs hooks ks) = elV tag key attrs hooks ks := by
  unfold elV
  split
  · rw [leftV]
  · rename_i h1
    split
    · rename_i h2
      rw [leftV_one, PV.left_eq]
      have hkk : leftV (kidsV (lowC tag) ks) = kidsV (lowC tag) ks := by
        unfold kidsV
        split
        · rw [leftV]
        · exact hk
      have hk2 : kidsV (lowC tag) (kidsV (lowC tag) ks) = kidsV (lowC tag) ks := by
        unfold kidsV
        split
        · rfl
        · rfl
      show oneV 1 (lowC tag) key (cleanAs attrs) (hooks.filter hookOk) (leftV (kidsV (lowC tag) ks)) [] 0 = _
      unfold oneV
      rw [if_neg (by decide), if_neg (by decide), if_pos rfl, hkk]
      unfold elV
      rw [lowC_twice, cleanAs_twice, hooks_twice, hk2, if_neg h1, if_pos h2]
    · rw [leftV]
theorem left_twice : ∀ L : List PV, leftV (leftV L) = leftV L := by
  apply PV.ind
  intro L hk
  induction L with
  | nil => rw [leftV, leftV]
  | cons v L ih =>
    rw [leftV, leftV_append, ih fun t ht => hk t (List.mem_cons_of_mem _ ht)]
    congr 1
    have h1 := hk v (List.mem_cons_self ..)
    rw [PV.left_eq]
    unfold oneV
    split
    · split
      · rw [leftV]
      · rename_i ht
        rw [leftV_one, PV.left_eq]
        show oneV 2 [] v.key [] [] (leftV []) (rep v.text) 0 = _
        unfold oneV
        rw [if_pos rfl, if_neg (rep_some ht), rep_twice]
    · split
      · split
        · rename_i hs
          rw [leftV_one, PV.left_eq]
          show oneV 3 [] v.key [] [] (leftV []) [] v.slot = _
          unfold oneV
          rw [if_neg (by decide), if_pos rfl, if_pos hs]
        · rw [leftV]
      · split
        · exact elV_twice _ _ _ _ _ h1
        · rw [leftV]

/-! ### nothing strange -/
/-- may this attribute be, within an element that is raw? -/
def rightA (raw : Bool) (a : PA) : Bool :=
  decide (wor a.1 = 0) && (isT attrL (byC a.1) || isT addrL (byC a.1) || isT handL (byC a.1)) && (!isT addrL (byC a.1) || safeB (readyL a.2)) && (!isT handL (byC a.1) || decide (wor a.2 = 0)) && (!raw || decide (wor a.2 = 0))
mutual
def PV.right : PV → Bool → Bool
  | ⟨kind, tag, _, attrs, _, kids, text, _⟩, raw =>
    if kind = 2 then !text.isEmpty && validB (byC text) && (!raw || decide (wor text = 0))
    else if kind ≠ 1 then true
    else !raw && isT tagL (byC tag) && decide (wor tag = 0) && rightV kids (isT rawL (byC tag)) && attrs.all (rightA (isT rawL (byC tag)))
def rightV : List PV → Bool → Bool
  | [], _ => true
  | v :: vs, raw => v.right raw && rightV vs raw
end
theorem PV.right_eq (v : PV) (raw : Bool) : v.right raw = if v.kind = 2 then !v.text.isEmpty && validB (byC v.text) && (!raw || decide (wor v.text = 0))
    else if v.kind ≠ 1 then true
    else !raw && isT tagL (byC v.tag) && decide (wor v.tag = 0) && rightV v.kids (isT rawL (byC v.tag)) && v.attrs.all (rightA (isT rawL (byC v.tag))) := by cases v; rw [PV.right]
theorem rightV_all (L : List PV) (raw : Bool) : rightV L raw = L.all fun v => v.right raw := by
  induction L with
  | nil => rw [rightV]; rfl
  | cons v L ih => rw [rightV, ih]; rfl
/-- no attribute that is a handler's is an address: the rows have no name in common -/
theorem attr_apart {l : List UInt8} : (isT attrL l = true → isT addrL l = false ∧ isT handL l = false) ∧ (isT addrL l = true → isT attrL l = false ∧ isT handL l = false) ∧ (isT handL l = true → isT attrL l = false ∧ isT addrL l = false) := by
  have key : ∀ L M : List ByteArray, (L.all fun y => !isT M y.data.toList) = true → isT L l = true → isT M l = false := fun L M h hl => by
    unfold isT at hl
    obtain ⟨y, hy, e⟩ := List.any_eq_true.1 hl
    have h2 := List.all_eq_true.1 h y hy
    rw [beq_iff_eq.1 e]
    simpa using h2
  exact ⟨fun h => ⟨key attrL addrL (by decide +kernel) h, key attrL handL (by decide +kernel) h⟩, fun h => ⟨key addrL attrL (by decide +kernel) h, key addrL handL (by decide +kernel) h⟩, fun h => ⟨key handL attrL (by decide +kernel) h, key handL addrL (by decide +kernel) h⟩⟩
theorem cleanA_right {a b : PA} (h : cleanA a = some b) {raw : Bool} (hr : raw = true → wor b.2 = 0) : rightA raw b = true := by
  have hn := cleanA_name h
  have hrr : (!raw || decide (wor b.2 = 0)) = true := by
    cases raw with
    | false => rfl
    | true => rw [decide_eq_true (hr rfl)]; rfl
  unfold cleanA at h
  split at h
  · cases h
  · split at h
    · rename_i h1
      injection h with h; subst h
      obtain ⟨h2, h3⟩ := attr_apart.1 h1
      unfold rightA
      rw [decide_eq_true hn.2, h1, h2, h3, hrr]; rfl
    · rename_i h1
      split at h
      · rename_i h2
        split at h
        · rename_i h4
          injection h with h; subst h
          obtain ⟨_, h3⟩ := attr_apart.2.1 h2
          unfold rightA
          rw [decide_eq_true hn.2, h2, h3, hrr, readyL_twice, h4, Bool.or_true]; rfl
        · cases h
      · rename_i h2
        split at h
        · rename_i h3
          split at h
          · rename_i h4
            injection h with h; subst h
            unfold rightA
            rw [decide_eq_true hn.2, h3, Bool.or_true, decide_eq_true h4, (attr_apart.2.2 h3).2]; cases raw <;> rfl
          · cases h
        · cases h
theorem left_right : ∀ L : List PV, rightV (leftV L) false = true := by
  apply PV.ind
  intro L hk
  induction L with
  | nil => rw [leftV, rightV]
  | cons v L ih =>
    have ih2 := ih fun t ht => hk t (List.mem_cons_of_mem _ ht)
    have h1 := hk v (List.mem_cons_self ..)
    rw [rightV_all] at ih2 h1 ⊢
    rw [leftV, List.all_append, ih2, Bool.and_true, PV.left_eq]
    unfold oneV
    split
    · split
      · rfl
      · rename_i ht
        rw [List.all_cons, List.all_nil, Bool.and_true, PV.right_eq, if_pos rfl]
        show (!(rep v.text).isEmpty && validB (byC (rep v.text)) && (!false || _)) = true
        rw [show (rep v.text).isEmpty = false by rw [List.isEmpty_eq_false_iff]; exact rep_some ht, show validB (byC (rep v.text)) = true from vC_rep _]
        rfl
    · split
      · split
        · rw [List.all_cons, List.all_nil, Bool.and_true, PV.right_eq]
          show (if (3 : Int) = 2 then _ else if (3 : Int) ≠ 1 then true else _) = true
          rw [if_neg (by decide), if_pos (by decide)]
        · rfl
      · split
        · unfold elV
          split
          · rfl
          · rename_i hw
            split
            · rename_i hf
              have hw0 : wor (lowC v.tag) = 0 := Decidable.byContradiction fun e => hw (.inl e)
              have ht0 : isT tagL (byC (lowC v.tag)) = true := by
                cases hq : isT tagL (byC (lowC v.tag)) with
                | true => rfl
                | false => exact absurd (.inr hq) hw
              rw [List.all_cons, List.all_nil, Bool.and_true, PV.right_eq]
              show (if (1 : Int) = 2 then _ else if (1 : Int) ≠ 1 then true else _) = true
              rw [if_neg (by decide), if_neg (by decide)]
              show (!false && isT tagL (byC (lowC v.tag)) && decide (wor (lowC v.tag) = 0) && rightV (kidsV (lowC v.tag) (leftV v.kids)) (isT rawL (byC (lowC v.tag))) && (cleanAs v.attrs).all (rightA (isT rawL (byC (lowC v.tag))))) = true
              rw [ht0, decide_eq_true hw0]
              have hkids : rightV (kidsV (lowC v.tag) (leftV v.kids)) (isT rawL (byC (lowC v.tag))) = true := by
                rw [rightV_all]
                cases hr : isT rawL (byC (lowC v.tag)) with
                | false =>
                  unfold kidsV
                  split
                  · rfl
                  · exact h1
                | true =>
                  unfold fitV at hf
                  rw [hr, Bool.not_true, Bool.false_or, Bool.and_eq_true] at hf
                  have h2 : (kidsV (lowC v.tag) (leftV v.kids)).all (fun v => v.right false) = true := by
                    unfold kidsV
                    split
                    · rfl
                    · exact h1
                  refine List.all_eq_true.2 fun k hk2 => ?_
                  have h3 := List.all_eq_true.1 hf.1 k hk2
                  have h4 := List.all_eq_true.1 h2 k hk2
                  unfold rawKid at h3
                  rw [Bool.and_eq_true, Bool.and_eq_true, decide_eq_true_eq, decide_eq_true_eq] at h3
                  rw [PV.right_eq, if_pos h3.1.1] at h4 ⊢
                  rw [decide_eq_true h3.1.2]
                  simpa using h4
              have hat : (cleanAs v.attrs).all (rightA (isT rawL (byC (lowC v.tag)))) = true := by
                refine List.all_eq_true.2 fun x hx => ?_
                obtain ⟨a, _, ha⟩ := cleanAs_mem hx
                refine cleanA_right ha fun hr => ?_
                unfold fitV at hf
                rw [hr, Bool.not_true, Bool.false_or, Bool.and_eq_true] at hf
                have := List.all_eq_true.1 hf.2 x hx
                simpa using this
              rw [hkids, hat]; rfl
            · rfl
        · rfl

/-! ### no larger than three times -/
theorem cleanA_size {a b : PA} (h : cleanA a = some b) : b.1.length = a.1.length ∧ b.2.length ≤ 3 * a.2.length := by
  have h1 := rep_length a.2
  have h2 := readyL_length (rep a.2)
  have h0 : (lowC a.1).length = a.1.length := by unfold lowC; rw [List.length_map]
  unfold cleanA at h
  split at h
  · cases h
  · split at h
    · injection h with h; subst h; exact ⟨h0, h1⟩
    · split at h
      · split at h
        · injection h with h; subst h; exact ⟨h0, Nat.le_trans h2 h1⟩
        · cases h
      · split at h
        · split at h
          · injection h with h; subst h; exact ⟨h0, h1⟩
          · cases h
        · cases h
theorem cleanAs_size (l : List PA) : atWs (cleanAs l) ≤ 3 * atWs l := by
  refine Nat.le_trans (onceW _) ?_
  induction l with
  | nil => exact Nat.zero_le _
  | cons a l ih =>
    cases hc : cleanA a with
    | none => rw [List.filterMap_cons_none hc, atWs_cons]; omega
    | some b =>
      rw [List.filterMap_cons_some hc, atWs_cons, atWs_cons]
      have := cleanA_size hc
      omega
theorem left_size : ∀ L : List PV, bkV (leftV L) ≤ 3 * bkV L := by
  apply PV.ind
  intro L hk
  induction L with
  | nil => rw [leftV]; exact Nat.zero_le _
  | cons v L ih =>
    have ih2 := ih fun t ht => hk t (List.mem_cons_of_mem _ ht)
    have h1 := hk v (List.mem_cons_self ..)
    have hb := v.bk_eq
    rw [leftV, bkV_append, bkV, PV.left_eq]
    have h2 : bkV (oneV v.kind v.tag v.key v.attrs v.hooks (leftV v.kids) v.text v.slot) ≤ 3 * v.bk := by
      have hr := rep_length v.text
      have ha := cleanAs_size v.attrs
      have hh := List.length_filter_le hookOk v.hooks
      have hl : (lowC v.tag).length = v.tag.length := by unfold lowC; rw [List.length_map]
      have hkk : bkV (kidsV (lowC v.tag) (leftV v.kids)) ≤ bkV (leftV v.kids) := by
        unfold kidsV
        split
        · rw [bkV]; exact Nat.zero_le _
        · exact Nat.le_refl _
      have hz : atWs ([] : List PA) = 0 := rfl
      unfold oneV
      split
      · split
        · rw [bkV]; exact Nat.zero_le _
        · rw [bkV_one, PV.bk_eq]
          simp only [List.length_nil, bkV, hz]
          omega
      · split
        · split
          · rw [bkV_one, PV.bk_eq]
            simp only [List.length_nil, bkV, hz]
            omega
          · rw [bkV]; exact Nat.zero_le _
        · split
          · unfold elV
            split
            · rw [bkV]; exact Nat.zero_le _
            · split
              · rw [bkV_one, PV.bk_eq]
                simp only [List.length_nil]
                omega
              · rw [bkV]; exact Nat.zero_le _
          · rw [bkV]; exact Nat.zero_le _
    omega

end Go.Proofs.YtnbdldapmllegaaGreat.mk

namespace Go.Proofs.YtnbdldapmllegaaGreat.mk
open Go.RowKit

/-- what the program's Views tells -/
def ViewsSays (mx : Int) : Prop := ∀ (A : Option Addr) (n c : Nat) (ts : List VT) (W : World), W.cell? ⟨0, 0, none⟩ = some (.int .i64 mx) → ViewsIn W A n ts → bkV (chV ts) ≤ 3145728 →
  Calls Tryz.prog 10 #[.slice A n c] W fun e w' => (∃ A' n' c', e = .returned (.slice A' n' c') ∧ VRow w' W.heap.size (leftV (chV ts)) (.slice A' n' c')) ∧ Below W.heap.size W w'
def AliveSays (mx : Int) : Prop := ∀ W : World, W.cell? ⟨0, 0, none⟩ = some (.int .i64 mx) → Calls Tryz.prog 6 #[] W fun e w' => e = .returned (.bool true) ∧ Below W.heap.size W w'

end Go.Proofs.YtnbdldapmllegaaGreat.mk
