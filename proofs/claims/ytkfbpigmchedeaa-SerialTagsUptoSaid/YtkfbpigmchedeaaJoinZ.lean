/-
  Trees as HTML, purely: the parts that are put; what may be put; that what is put is valid.
-/
import Derived.Test.YtkfbpigmchedeaaJoinT
import Derived.Test.YtkfbpigmchedeaaJoinU
import Derived.Test.YtkfbpigmchedeaaJoinY
namespace Go.Proofs.Ytkfbpigmchedeaa.mk
open Go.RowKit

def voidH (l : List UInt8) : Bool := l == [98, 114] || (l == [104, 114] || l == [105, 109, 103])
def rawH (l : List UInt8) : Bool := l == [115, 99, 114, 105, 112, 116] || l == [115, 116, 121, 108, 101]
def loN (n : Nat) : Bool := decide (97 ≤ n) && decide (n ≤ 122)
def tagN (n : Nat) : Bool := loN n || (decide (48 ≤ n) && decide (n ≤ 57))
def nameN (n : Nat) : Bool := loN n || decide (n = 45)
def allN (W : Nat → Bool) (l : List UInt8) : Bool := l.all fun b => W b.toNat
def tagH (l : List UInt8) : Bool := !l.isEmpty && (loN (l.headD 0).toNat && allN tagN l)
def nameH (l : List UInt8) : Bool := !l.isEmpty && allN nameN l

/-- what stands ahead of an element's kids, and behind them; a text as it is put -/
def pairsH (al : List PA) : Ch := al.flatMap fun a => pairL a.1 a.2
def startH (tag : Ch) (al : List PA) : Ch := if tag = [] then [] else [(60, 0)] ++ tag ++ pairsH (onceA al) ++ [(62, 0)]
def endH (tag : Ch) : Ch := if tag = [] ∨ voidH (tag.map (·.1)) = true then [] else [(60, 0), (47, 0)] ++ tag ++ [(62, 0)]
def asH (raw : Bool) (c : Ch) : Ch := if raw then c else escL false c
mutual
def PT.putH : PT → Bool → List Ch
  | ⟨tag, attrs, kids, text⟩, raw => if tag = [] then [asH raw text] else startH tag attrs :: (putL kids (rawH (tag.map (·.1))) ++ [endH tag])
def putL : List PT → Bool → List Ch
  | [], _ => []
  | t :: ts, raw => t.putH raw ++ putL ts raw
end
def attrH (a : PA) : Bool := nameH (nmB a) && validB (a.2.map (·.1))
def rawK (t : PT) : Bool := decide (t.tag = []) && rawB (t.text.map (·.1))
mutual
def PT.fitH : PT → Bool
  | ⟨tag, attrs, kids, text⟩ => if tag = [] then validB (text.map (·.1)) else tagH (tag.map (·.1)) && (attrs.all attrH && (if voidH (tag.map (·.1)) then kids.isEmpty else if rawH (tag.map (·.1)) then kids.all rawK else fitL kids))
def fitL : List PT → Bool
  | [] => true
  | t :: ts => t.fitH && fitL ts
end
/-- how large: bytes of texts, tags, names and values, all together -/
def atW (a : PA) : Nat := a.1.length + a.2.length + 1
def atWs (al : List PA) : Nat := (al.map atW).sum
mutual
def PT.sz : PT → Nat
  | ⟨tag, attrs, kids, text⟩ => tag.length + atWs attrs + text.length + 1 + szL kids
def szL : List PT → Nat
  | [] => 0
  | t :: ts => t.sz + szL ts
end

theorem PT.putH_eq (t : PT) (raw : Bool) : t.putH raw = if t.tag = [] then [asH raw t.text] else startH t.tag t.attrs :: (putL t.kids (rawH (t.tag.map (·.1))) ++ [endH t.tag]) := by cases t; rw [PT.putH]
theorem PT.fitH_eq (t : PT) : t.fitH = if t.tag = [] then validB (t.text.map (·.1)) else tagH (t.tag.map (·.1)) && (t.attrs.all attrH && (if voidH (t.tag.map (·.1)) then t.kids.isEmpty else if rawH (t.tag.map (·.1)) then t.kids.all rawK else fitL t.kids)) := by cases t; rw [PT.fitH]
theorem PT.sz_eq (t : PT) : t.sz = t.tag.length + atWs t.attrs + t.text.length + 1 + szL t.kids := by cases t; rw [PT.sz]
theorem putL_append (ts us : List PT) (raw : Bool) : putL (ts ++ us) raw = putL ts raw ++ putL us raw := by
  induction ts with
  | nil => simp [putL]
  | cons t ts ih => rw [List.cons_append, putL, putL, ih, List.append_assoc]
theorem putL_one (t : PT) (raw : Bool) : putL [t] raw = t.putH raw := by rw [putL, putL, List.append_nil]
theorem putL_next {L : List PT} {k : Nat} {t : PT} (h : L[k]? = some t) (raw : Bool) : putL (L.take (k + 1)) raw = putL (L.take k) raw ++ t.putH raw := by rw [take_next h, putL_append, putL_one]
theorem fitL_all (L : List PT) : fitL L = L.all PT.fitH := by
  induction L with
  | nil => rw [fitL]; rfl
  | cons t L ih => rw [fitL, ih]; rfl
theorem szL_append (ts us : List PT) : szL (ts ++ us) = szL ts + szL us := by
  induction ts with
  | nil => simp [szL]
  | cons t ts ih => rw [List.cons_append, szL, szL, ih]; omega
theorem szL_one (t : PT) : szL [t] = t.sz := by rw [szL, szL]; omega
theorem szL_mem {L : List PT} {t : PT} (h : t ∈ L) : t.sz ≤ szL L := by
  induction L with
  | nil => cases h
  | cons x L ih =>
    rw [szL]
    rcases List.mem_cons.1 h with rfl | h
    · omega
    · have := ih h; omega
theorem szL_kids {L : List PT} {t : PT} (h : t ∈ L) : szL t.kids < szL L := by
  have := szL_mem h
  have := t.sz_eq
  omega
theorem atWs_cons (a : PA) (l : List PA) : atWs (a :: l) = a.1.length + a.2.length + 1 + atWs l := rfl
theorem atWs_len (al : List PA) : al.length ≤ atWs al := by
  induction al with
  | nil => exact Nat.zero_le _
  | cons a al ih => rw [atWs_cons, List.length_cons]; omega
theorem bk_sz : ∀ L : List PT, bkL L ≤ szL L := by
  apply PT.ind
  intro L hk
  induction L with
  | nil => rw [bkL]; exact Nat.zero_le _
  | cons x L ih =>
    have h1 := ih fun t ht => hk t (List.mem_cons_of_mem _ ht)
    have h2 := hk x (by simp)
    have h3 := atWs_len x.attrs
    rw [bkL, szL, PT.bk_eq, PT.sz_eq]
    omega
theorem atWs_append (a b : List PA) : atWs (a ++ b) = atWs a + atWs b := by simp [atWs]
theorem sel_mem_to {p : Nat → Bool} {L : List PA} {x : PA} : ∀ k, x ∈ selTo p L k → x ∈ L := by
  intro k
  induction k with
  | zero => intro h; cases h
  | succ k ih =>
    intro h
    rw [selTo] at h
    rcases List.mem_append.1 h with h | h
    · exact ih h
    · split at h
      · cases hk : L[k]? with
        | none => rw [hk] at h; cases h
        | some y =>
          rw [hk] at h
          have : x = y := by simpa using h
          subst this
          exact List.mem_of_getElem? hk
      · cases h
theorem onceA_sub {L : List PA} {x : PA} (h : x ∈ onceA L) : x ∈ L := sel_mem_to _ h
theorem selW_to (p : Nat → Bool) (L : List PA) : ∀ k, atWs (selTo p L k) ≤ atWs (L.take k) := by
  intro k
  induction k with
  | zero => simp [selTo, atWs]
  | succ k ih =>
    cases hk : L[k]? with
    | none =>
      have e : L.take (k + 1) = L.take k := by rw [List.take_add_one, hk]; simp
      have e2 : selTo p L (k + 1) = selTo p L k := by rw [selTo, hk]; split <;> simp
      rw [e, e2]; exact ih
    | some y =>
      rw [take_next hk, atWs_append, selTo, hk, atWs_append]
      split
      · simp only [Option.toList_some]; omega
      · have : atWs ([] : List PA) = 0 := rfl
        omega
theorem onceW (L : List PA) : atWs (onceA L) ≤ atWs L := by
  have h := selW_to (onceP L) L L.length
  rw [List.take_length] at h
  exact h
theorem pairsH_append (a b : List PA) : pairsH (a ++ b) = pairsH a ++ pairsH b := by simp [pairsH]
theorem pairsH_next {L : List PA} {k : Nat} {x : PA} (h : L[k]? = some x) : pairsH (L.take (k + 1)) = pairsH (L.take k) ++ pairL x.1 x.2 := by rw [take_next h, pairsH_append]; simp [pairsH]
theorem pairsH_len (al : List PA) : (pairsH al).length ≤ 6 * atWs al := by
  induction al with
  | nil => simp [pairsH]
  | cons a al ih =>
    have h1 := pairL_len a.1 a.2
    have e : pairsH (a :: al) = pairL a.1 a.2 ++ pairsH al := rfl
    rw [e, List.length_append, atWs_cons]
    omega
theorem startH_len (tag : Ch) (al : List PA) : (startH tag al).length ≤ tag.length + 6 * atWs al + 2 := by
  have h1 := pairsH_len (onceA al)
  have h2 := onceW al
  unfold startH
  split
  · simp
  · simp only [List.length_append, List.length_cons, List.length_nil]; omega
theorem endH_len (tag : Ch) : (endH tag).length ≤ tag.length + 3 := by
  unfold endH
  split
  · simp
  · simp only [List.length_append, List.length_cons, List.length_nil]; omega
theorem asH_len (raw : Bool) (c : Ch) : (asH raw c).length ≤ 6 * c.length := by
  unfold asH
  split
  · omega
  · exact (escL_len false c).2
theorem putL_count : ∀ (L : List PT) (raw : Bool), (putL L raw).length ≤ 2 * szL L := by
  have key : ∀ L : List PT, ∀ raw, (putL L raw).length ≤ 2 * szL L := by
    apply PT.ind
    intro L hk
    induction L with
    | nil => intro raw; rw [putL]; exact Nat.zero_le _
    | cons x L ih =>
      intro raw
      have h1 := ih (fun t ht => hk t (List.mem_cons_of_mem _ ht)) raw
      have h2 := hk x (by simp) (rawH (x.tag.map (·.1)))
      rw [putL, szL, PT.sz_eq, PT.putH_eq, List.length_append]
      split
      · simp only [List.length_cons, List.length_nil]; omega
      · simp only [List.length_cons, List.length_append, List.length_nil]; omega
  exact key

/-! ### What is valid -/
theorem valid_append {a : List UInt8} (h : validB a = true) (b : List UInt8) : validB (a ++ b) = validB b := by
  induction a using partInd with
  | nil => rfl
  | next l hl ih =>
    rw [validB_next hl, Bool.and_eq_true, Bool.not_eq_true'] at h
    have hr : (nx l).2 = true := by
      have := h.1
      unfold soughtB at this
      rw [Bool.or_eq_false_iff] at this
      simpa using this.1
    have hb := nx_bd hl
    have e : l ++ b = l.take (nx l).1 ++ (l.drop (nx l).1 ++ b) := by rw [← List.append_assoc, List.take_append_drop]
    have hn : nx (l ++ b) = nx l := by rw [e]; exact nx_right hr _
    have hs : soughtB (l ++ b) = false := by
      have := h.1
      unfold soughtB at this ⊢
      rw [hn]
      cases l with
      | nil => exact absurd rfl hl
      | cons x l => exact this
    have hd : (l ++ b).drop (nx l).1 = l.drop (nx l).1 ++ b := by rw [List.drop_append, show (nx l).1 - l.length = 0 by omega, List.drop_zero]
    rw [validB_next (by simp [hl]), hs, hn, hd, ih h.2]
    rfl
theorem valid_both {a b : List UInt8} (h : validB a = true) (h2 : validB b = true) : validB (a ++ b) = true := by rw [valid_append h, h2]
theorem valid_low {b : UInt8} (h0 : 1 ≤ b.toNat) (h1 : b.toNat < 128) (l : List UInt8) : validB (b :: l) = validB l := by
  have hn : nx (b :: l) = (1, true) := by
    have hs : shp b.toNat = (1, 0, 0) := by unfold shp; rw [if_pos h1]
    simp only [nx, hs]
    rfl
  have hs : soughtB (b :: l) = false := by
    unfold soughtB
    rw [hn]
    simp only [Bool.not_true, Bool.false_or, List.head?_cons]
    rw [beq_eq_false_iff_ne]
    intro h
    injection h with h
    subst h
    simp at h0
  rw [validB_next (by simp), hs, hn]
  rfl
theorem valid_lows {l : List UInt8} (h : ∀ b ∈ l, 1 ≤ b.toNat ∧ b.toNat < 128) : validB l = true := by
  induction l with
  | nil => exact validB_nil
  | cons b l ih =>
    have hb := h b (by simp)
    rw [valid_low hb.1 hb.2]
    exact ih fun c hc => h c (List.mem_cons_of_mem _ hc)
theorem fit_high {m lo hi : Nat} {t : List UInt8} (hlo : 128 ≤ lo) : ∀ c ∈ t.take (fit m lo hi t), 128 ≤ c.toNat := by
  induction t generalizing m lo hi with
  | nil => intro c hc; simp at hc
  | cons x t ih =>
    cases m with
    | zero => intro c hc; simp [fit] at hc
    | succ m =>
      unfold fit
      split
      · rename_i hx
        intro c hc
        rw [List.take_succ_cons] at hc
        rcases List.mem_cons.1 hc with rfl | hc
        · omega
        · exact ih (by omega) c hc
      · intro c hc; simp at hc
theorem shp_high {n : Nat} (h : 128 ≤ n) : (shp n).1 = 0 ∨ 128 ≤ (shp n).2.1 := by
  unfold shp
  rw [if_neg (by omega)]
  repeat' split
  all_goals first | (left; rfl) | (right; decide)
theorem nx_high {b : UInt8} {t : List UInt8} (hb : 128 ≤ b.toNat) (hr : (nx (b :: t)).2 = true) : ∀ c ∈ (b :: t).take (nx (b :: t)).1, 128 ≤ c.toNat := by
  simp only [nx, decide_eq_true_eq] at hr
  rcases shp_high hb with h | h
  · omega
  · intro c hc
    simp only [nx] at hc
    rw [List.take_succ_cons] at hc
    rcases List.mem_cons.1 hc with rfl | hc
    · exact hb
    · exact fit_high h c hc
theorem nx_low {b : UInt8} {t : List UInt8} (hb : b.toNat < 128) : nx (b :: t) = (1, true) := by
  have hs : shp b.toNat = (1, 0, 0) := by unfold shp; rw [if_pos hb]
  simp only [nx, hs]
  rfl
theorem escB_low {v : Bool} {b : UInt8} (h0 : 1 ≤ b.toNat) (h1 : b.toNat < 128) : ∀ c ∈ escB v b, 1 ≤ c.toNat ∧ c.toNat < 128 := by
  unfold escB
  repeat' split
  all_goals
    intro c hc
    simp only [List.mem_cons, List.not_mem_nil, or_false] at hc
    first
      | (rcases hc with rfl | rfl | rfl | rfl | rfl | rfl <;> decide)
      | (rcases hc with rfl | rfl | rfl | rfl | rfl <;> decide)
      | (rcases hc with rfl | rfl | rfl | rfl <;> decide)
      | (subst hc; exact ⟨h0, h1⟩)
theorem escB_high {v : Bool} {b : UInt8} (h : 128 ≤ b.toNat) : escB v b = [b] := by
  have hne : ∀ x : UInt8, x.toNat < 128 → b ≠ x := fun x hx e => by subst e; omega
  unfold escB
  rw [if_neg (hne 38 (by decide)), if_neg (hne 60 (by decide)), if_neg (hne 62 (by decide)), if_neg (hne 13 (by decide)), if_neg (fun e => hne 34 (by decide) e.1)]
theorem esc_highs {v : Bool} {l : List UInt8} (h : ∀ c ∈ l, 128 ≤ c.toNat) : l.flatMap (escB v) = l := by
  induction l with
  | nil => rfl
  | cons b l ih => rw [List.flatMap_cons, escB_high (h b (by simp)), ih fun c hc => h c (List.mem_cons_of_mem _ hc)]; rfl
theorem valid_esc (v : Bool) {l : List UInt8} (h : validB l = true) : validB (l.flatMap (escB v)) = true := by
  induction l using partInd with
  | nil => exact h
  | next l hl ih =>
    have hv := h
    rw [validB_next hl, Bool.and_eq_true, Bool.not_eq_true'] at h
    have hso := h.1
    have hr : (nx l).2 = true := by
      unfold soughtB at hso
      rw [Bool.or_eq_false_iff] at hso
      simpa using hso.1
    have hi := ih h.2
    cases l with
    | nil => exact absurd rfl hl
    | cons b t =>
      by_cases hb : b.toNat < 128
      · have h0 : 1 ≤ b.toNat := by
          rcases Nat.eq_zero_or_pos b.toNat with h0 | h0
          · have e : b = 0 := UInt8.toNat_inj.1 (by rw [h0]; rfl)
            subst e
            unfold soughtB at hso
            rw [Bool.or_eq_false_iff] at hso
            simp at hso
          · exact h0
        rw [nx_low hb] at hi
        rw [List.flatMap_cons]
        exact valid_both (valid_lows (escB_low h0 hb)) hi
      · have hh := nx_high (by omega) hr
        have hbd := nx_bd hl
        have e : (b :: t) = (b :: t).take (nx (b :: t)).1 ++ (b :: t).drop (nx (b :: t)).1 := (List.take_append_drop _ _).symm
        have hk : validB ((b :: t).take (nx (b :: t)).1) = true := by
          have h1 := nx_right hr []
          rw [List.append_nil] at h1
          have hne : (b :: t).take (nx (b :: t)).1 ≠ [] := by
            intro e2
            have := congrArg List.length e2
            rw [List.length_take] at this
            simp at this
            omega
          have hs2 : soughtB ((b :: t).take (nx (b :: t)).1) = false := by
            unfold soughtB at hso ⊢
            rw [h1, List.head?_take, if_neg (by omega)]
            exact hso
          rw [validB_next hne, hs2, h1, List.drop_eq_nil_of_le (by rw [List.length_take]; omega), validB_nil]
          rfl
        rw [e, List.flatMap_append, esc_highs hh]
        exact valid_both hk hi
theorem escL_fst (v : Bool) (l : Ch) : (escL v l).map (·.1) = (l.map (·.1)).flatMap (escB v) := by
  induction l with
  | nil => rfl
  | cons x l ih =>
    rw [escL_cons, List.map_append, ih, List.map_cons, List.flatMap_cons]
    congr 1
    unfold escC putE
    rw [List.map_map]
    exact List.map_id _
def okC (c : Ch) : Prop := validB (c.map (·.1)) = true
theorem okC.append {a b : Ch} (h : okC a) (h2 : okC b) : okC (a ++ b) := by
  unfold okC at *
  rw [List.map_append]
  exact valid_both h h2
theorem okC_nil : okC [] := validB_nil
theorem okC_lows {l : Ch} (h : ∀ b ∈ l.map (·.1), 1 ≤ b.toNat ∧ b.toNat < 128) : okC l := valid_lows h
theorem okC.esc {l : Ch} (v : Bool) (h : okC l) : okC (escL v l) := by
  unfold okC at *
  rw [escL_fst]
  exact valid_esc v h
theorem loN_low {n : Nat} (h : loN n = true) : 1 ≤ n ∧ n < 128 := by
  unfold loN at h
  rw [Bool.and_eq_true, decide_eq_true_eq, decide_eq_true_eq] at h
  omega
theorem tagN_low {n : Nat} (h : tagN n = true) : 1 ≤ n ∧ n < 128 := by
  unfold tagN at h
  rcases Bool.or_eq_true _ _ ▸ h with h | h
  · exact loN_low h
  · rw [Bool.and_eq_true, decide_eq_true_eq, decide_eq_true_eq] at h
    omega
theorem nameN_low {n : Nat} (h : nameN n = true) : 1 ≤ n ∧ n < 128 := by
  unfold nameN at h
  rcases Bool.or_eq_true _ _ ▸ h with h | h
  · exact loN_low h
  · rw [decide_eq_true_eq] at h
    omega
theorem okC_tag {l : Ch} (h : tagH (l.map (·.1)) = true) : okC l := by
  refine okC_lows fun b hb => ?_
  unfold tagH at h
  rw [Bool.and_eq_true, Bool.and_eq_true] at h
  exact tagN_low (List.all_eq_true.1 h.2.2 b hb)
theorem okC_name {l : Ch} (h : nameH (l.map (·.1)) = true) : okC l := by
  refine okC_lows fun b hb => ?_
  unfold nameH at h
  rw [Bool.and_eq_true] at h
  exact nameN_low (List.all_eq_true.1 h.2 b hb)
theorem okC_pair {a : PA} (h : attrH a = true) : okC (pairL a.1 a.2) := by
  unfold attrH at h
  rw [Bool.and_eq_true] at h
  unfold pairL quoL
  have h1 : okC a.1 := okC_name h.1
  have h2 : okC a.2 := h.2
  exact ((okC_lows (by decide)).append h1).append ((okC_lows (by decide)).append (((okC_lows (by decide)).append (h2.esc true)).append (okC_lows (by decide))))
theorem okC_pairs {al : List PA} (h : ∀ a ∈ al, attrH a = true) : okC (pairsH al) := by
  induction al with
  | nil => exact okC_nil
  | cons a al ih => exact (okC_pair (h a (by simp))).append (ih fun b hb => h b (List.mem_cons_of_mem _ hb))
theorem okC_start {tag : Ch} {al : List PA} (h : tagH (tag.map (·.1)) = true) (h2 : al.all attrH = true) : okC (startH tag al) := by
  unfold startH
  split
  · exact okC_nil
  · exact (((okC_lows (by decide)).append (okC_tag h)).append (okC_pairs fun a ha => List.all_eq_true.1 h2 a (onceA_sub ha))).append (okC_lows (by decide))
theorem okC_end {tag : Ch} (h : tagH (tag.map (·.1)) = true) : okC (endH tag) := by
  unfold endH
  split
  · exact okC_nil
  · exact ((okC_lows (by decide)).append (okC_tag h)).append (okC_lows (by decide))
theorem ok_raws {L : List PT} (h : L.all rawK = true) : ∀ c ∈ putL L true, okC c := by
  induction L with
  | nil => intro c hc; rw [putL] at hc; cases hc
  | cons t L ih =>
    rw [List.all_cons, Bool.and_eq_true] at h
    intro c hc
    rw [putL] at hc
    rcases List.mem_append.1 hc with hc | hc
    · have h1 := h.1
      unfold rawK at h1
      rw [Bool.and_eq_true, decide_eq_true_eq] at h1
      rw [PT.putH_eq, if_pos h1.1] at hc
      have : c = t.text := by simpa [asH] using hc
      subst this
      have h2 := h1.2
      unfold rawB at h2
      rw [Bool.and_eq_true] at h2
      exact h2.2
    · exact ih h.2 c hc
/-- what is put of what fits is valid, part by part -/
theorem ok_put : ∀ L : List PT, fitL L = true → ∀ c ∈ putL L false, okC c := by
  apply PT.ind
  intro L hk
  induction L with
  | nil => intro _ c hc; rw [putL] at hc; cases hc
  | cons t L ih =>
    intro h c hc
    rw [fitL, Bool.and_eq_true] at h
    rw [putL] at hc
    rcases List.mem_append.1 hc with hc | hc
    · have h1 := h.1
      rw [PT.fitH_eq] at h1
      rw [PT.putH_eq] at hc
      by_cases ht : t.tag = []
      · rw [if_pos ht] at h1 hc
        have e : c = escL false t.text := by simpa [asH] using hc
        rw [e]
        exact okC.esc false h1
      · rw [if_neg ht, Bool.and_eq_true, Bool.and_eq_true] at h1
        rw [if_neg ht] at hc
        rcases List.mem_cons.1 hc with rfl | hc
        · exact okC_start h1.1 h1.2.1
        · rcases List.mem_append.1 hc with hc | hc
          · have h2 := h1.2.2
            by_cases hv : voidH (t.tag.map (·.1)) = true
            · rw [if_pos hv] at h2
              have e : t.kids = [] := by simpa using h2
              rw [e, putL] at hc
              cases hc
            · rw [if_neg hv] at h2
              by_cases hr : rawH (t.tag.map (·.1)) = true
              · rw [if_pos hr] at h2
                rw [hr] at hc
                exact ok_raws h2 c hc
              · rw [if_neg hr] at h2
                have hr' : rawH (t.tag.map (·.1)) = false := by simpa using hr
                rw [hr'] at hc
                exact hk t (by simp) h2 c hc
          · have e : c = endH t.tag := by simpa using hc
            rw [e]
            exact okC_end h1.1
    · exact ih (fun x hx => hk x (List.mem_cons_of_mem _ hx)) h.2 c hc
theorem okC_flat {ps : List Ch} (h : ∀ c ∈ ps, okC c) : okC ps.flatten := by
  induction ps with
  | nil => exact okC_nil
  | cons p ps ih =>
    rw [List.flatten_cons]
    exact (h p (by simp)).append (ih fun c hc => h c (List.mem_cons_of_mem _ hc))
/-- THE HTML OF WHAT FITS IS VALID -/
theorem html_valid {L : List PT} (h : fitL L = true) : validB ((putL L false).flatten.map (·.1)) = true := okC_flat (ok_put L h)

end Go.Proofs.Ytkfbpigmchedeaa.mk
