/-
  What the program's Views and Attrs tell, and the law's alive, as the walks of stage 17 want it.
-/
import Derived.Test.YtnbdldapmllegaaGreatJsAM
import Derived.Test.YtnbdldapmllegaaGreatJsI
import Derived.Test.YtnbdldapmllegaaGreatJsAG
import Derived.Test.YtnbdldapmllegaaGreatJsAD
namespace Go.Proofs.YtnbdldapmllegaaGreat.mk
open Go.RowKit

/-- bytes lower; the greatest origin; whether these bytes are a name of a row -/
def lowC (c : Ch) : Ch := c.map fun x => (lowB x.1, x.2)
def wor (c : Ch) : Int := worstO (c.map (·.2))
def byC (c : Ch) : List UInt8 := c.map (·.1)
def isT (L : List ByteArray) (l : List UInt8) : Bool := L.any fun y => l == y.data.toList
theorem hasT_isT (L : List ByteArray) (s : ByteArray) : hasT L s = isT L s.data.toList := by
  unfold hasT isT
  congr 1
  funext y
  rw [ByteArray.toList_eq, ByteArray.toList_eq]

/-- what is left of an attribute -/
def cleanA (a : PA) : Option PA :=
  if wor (lowC a.1) ≠ 0 then none
  else if isT attrL (byC (lowC a.1)) then some (lowC a.1, rep a.2)
  else if isT addrL (byC (lowC a.1)) then (if safeB (readyL (rep a.2)) then some (lowC a.1, readyL (rep a.2)) else none)
  else if isT handL (byC (lowC a.1)) then (if wor (rep a.2) = 0 then some (lowC a.1, rep a.2) else none)
  else none
def cleanAs (l : List PA) : List PA := onceA (l.filterMap cleanA)
def hookOk (h : PH) : Bool := decide (1 ≤ h.1) && decide (h.1 ≤ 8) && decide (0 ≤ h.2.2)
/-- words that may stand raw, trusted -/
def rawKid (v : PV) : Bool := decide (v.kind = 2) && decide (wor v.text = 0) && rawB (byC v.text)
def kidsV (t : Ch) (ks : List PV) : List PV := if isT voidL (byC t) then [] else ks
def fitV (t : Ch) (al : List PA) (ks : List PV) : Bool := !isT rawL (byC t) || (ks.all rawKid && al.all fun a => decide (wor a.2 = 0))
/-- what is left of an element, its kids cleaned -/
def elV (tag : Ch) (key : List UInt8) (attrs : List PA) (hooks : List PH) (ks : List PV) : List PV :=
  if wor (lowC tag) ≠ 0 ∨ isT tagL (byC (lowC tag)) = false then []
  else if fitV (lowC tag) (cleanAs attrs) (kidsV (lowC tag) ks) then [⟨1, lowC tag, key, cleanAs attrs, hooks.filter hookOk, kidsV (lowC tag) ks, [], 0⟩] else []
def oneV (kind : Int) (tag : Ch) (key : List UInt8) (attrs : List PA) (hooks : List PH) (ks : List PV) (text : Ch) (slot : Int) : List PV :=
  if kind = 2 then (if text = [] then [] else [⟨2, [], key, [], [], [], rep text, 0⟩])
  else if kind = 3 then (if 1 ≤ slot ∧ slot ≤ 3 then [⟨3, [], key, [], [], [], [], slot⟩] else [])
  else if kind = 1 then elV tag key attrs hooks ks
  else []
mutual
def PV.left : PV → List PV
  | ⟨kind, tag, key, attrs, hooks, kids, text, slot⟩ => oneV kind tag key attrs hooks (leftV kids) text slot
def leftV : List PV → List PV
  | [] => []
  | v :: vs => v.left ++ leftV vs
end
theorem PV.left_eq (v : PV) : v.left = oneV v.kind v.tag v.key v.attrs v.hooks (leftV v.kids) v.text v.slot := by cases v; rw [PV.left]
theorem leftV_append (a b : List PV) : leftV (a ++ b) = leftV a ++ leftV b := by
  induction a with
  | nil => rw [leftV]; rfl
  | cons x a ih => rw [List.cons_append, leftV, leftV, ih, List.append_assoc]
theorem leftV_one (v : PV) : leftV [v] = v.left := by rw [leftV, leftV, List.append_nil]
theorem leftV_next {L : List PV} {k : Nat} {v : PV} (h : L[k]? = some v) : leftV (L.take (k + 1)) = leftV (L.take k) ++ v.left := by rw [take_next h, leftV_append, leftV_one]

/-! ### cleaned twice -/
theorem rep_some {c : Ch} (h : c ≠ []) : rep c ≠ [] := by
  intro e
  cases hs : soughtB (c.map (·.1)) with
  | true =>
    rw [rep_bad h hs] at e
    have := congrArg List.length e
    rw [List.length_append] at this
    have h3 : (badCh (worstO ((c.take (nx (c.map (·.1))).1).map (·.2)))).length = 3 := rfl
    rw [h3] at this
    simp at this
  | false =>
    rw [rep_right h hs] at e
    have h1 := (List.append_eq_nil_iff.1 e).1
    have hm : c.map (·.1) ≠ [] := fun e => h (List.map_eq_nil_iff.1 e)
    have hb := nx_bd hm
    have h2 := congrArg List.length h1
    rw [List.length_take, List.length_nil] at h2
    have : 0 < c.length := List.length_pos_iff.2 h
    omega
/-! ### nothing strange -/
/-! ### no larger than three times -/
theorem cleanA_size {a b : PA} (h : cleanA a = some b) : b.1.length = a.1.length ∧ b.2.length ≤ 3 * a.2.length := by
  have h1 := rep_length a.2
  have h2 := readyL_length (rep a.2)
  have h0 : (lowC a.1).length = a.1.length := by unfold lowC; rw [List.length_map]
  unfold cleanA at h
  split at h
  · cases h
  · split at h
    · injection h with h; subst h; exact ⟨h0, h1⟩
    · split at h
      · split at h
        · injection h with h; subst h; exact ⟨h0, Nat.le_trans h2 h1⟩
        · cases h
      · split at h
        · split at h
          · injection h with h; subst h; exact ⟨h0, h1⟩
          · cases h
        · cases h
theorem cleanAs_size (l : List PA) : atWs (cleanAs l) ≤ 3 * atWs l := by
  refine Nat.le_trans (onceW _) ?_
  induction l with
  | nil => exact Nat.zero_le _
  | cons a l ih =>
    cases hc : cleanA a with
    | none => rw [List.filterMap_cons_none hc, atWs_cons]; omega
    | some b =>
      rw [List.filterMap_cons_some hc, atWs_cons, atWs_cons]
      have := cleanA_size hc
      omega
theorem left_size : ∀ L : List PV, bkV (leftV L) ≤ 3 * bkV L := by
  apply PV.ind
  intro L hk
  induction L with
  | nil => rw [leftV]; exact Nat.zero_le _
  | cons v L ih =>
    have ih2 := ih fun t ht => hk t (List.mem_cons_of_mem _ ht)
    have h1 := hk v (List.mem_cons_self ..)
    have hb := v.bk_eq
    rw [leftV, bkV_append, bkV, PV.left_eq]
    have h2 : bkV (oneV v.kind v.tag v.key v.attrs v.hooks (leftV v.kids) v.text v.slot) ≤ 3 * v.bk := by
      have hr := rep_length v.text
      have ha := cleanAs_size v.attrs
      have hh := List.length_filter_le hookOk v.hooks
      have hl : (lowC v.tag).length = v.tag.length := by unfold lowC; rw [List.length_map]
      have hkk : bkV (kidsV (lowC v.tag) (leftV v.kids)) ≤ bkV (leftV v.kids) := by
        unfold kidsV
        split
        · rw [bkV]; exact Nat.zero_le _
        · exact Nat.le_refl _
      have hz : atWs ([] : List PA) = 0 := rfl
      unfold oneV
      split
      · split
        · rw [bkV]; exact Nat.zero_le _
        · rw [bkV_one, PV.bk_eq]
          simp only [List.length_nil, bkV, hz]
          omega
      · split
        · split
          · rw [bkV_one, PV.bk_eq]
            simp only [List.length_nil, bkV, hz]
            omega
          · rw [bkV]; exact Nat.zero_le _
        · split
          · unfold elV
            split
            · rw [bkV]; exact Nat.zero_le _
            · split
              · rw [bkV_one, PV.bk_eq]
                simp only [List.length_nil]
                omega
              · rw [bkV]; exact Nat.zero_le _
          · rw [bkV]; exact Nat.zero_le _
    omega

end Go.Proofs.YtnbdldapmllegaaGreat.mk

namespace Go.Proofs.YtnbdldapmllegaaGreat.mk
open Go.RowKit

/-- what the program's Views tells -/
def ViewsSays (mx : Int) : Prop := ∀ (A : Option Addr) (n c : Nat) (ts : List VT) (W : World), W.cell? ⟨0, 0, none⟩ = some (.int .i64 mx) → ViewsIn W A n ts → bkV (chV ts) ≤ 3145728 →
  Calls Tryz.prog 10 #[.slice A n c] W fun e w' => (∃ A' n' c', e = .returned (.slice A' n' c') ∧ VRow w' W.heap.size (leftV (chV ts)) (.slice A' n' c')) ∧ Below W.heap.size W w'
def AliveSays (mx : Int) : Prop := ∀ W : World, W.cell? ⟨0, 0, none⟩ = some (.int .i64 mx) → Calls Tryz.prog 6 #[] W fun e w' => e = .returned (.bool true) ∧ Below W.heap.size W w'

/-- what the program's Attrs tells -/
def AttrsSays (mx : Int) : Prop := ∀ (A : Option Addr) (n c : Nat) (ts : List AT) (W : World), W.cell? ⟨0, 0, none⟩ = some (.int .i64 mx) → Lies W W.heap.size A (atCells ts) → AllOk W W.heap.size ts → ts.length = n → n ≤ 1048576 → (∀ a ∈ ts, a.vl.s.size ≤ 16777216) →
  Calls Tryz.prog 13 #[.slice A n c] W (TellsA (cleanAs (ts.map AT.ch)) W)

end Go.Proofs.YtnbdldapmllegaaGreat.mk
