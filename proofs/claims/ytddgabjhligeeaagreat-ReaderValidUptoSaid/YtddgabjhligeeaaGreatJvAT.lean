/-
  What is read is valid: all texts and values of the trees.
-/
import Derived.Test.YtddgabjhligeeaaGreatJvAJ
import Derived.Test.YtddgabjhligeeaaGreatJvAL
import Derived.Test.YtddgabjhligeeaaGreatJvAH
import Derived.Test.YtddgabjhligeeaaGreatJvY
namespace Go.Proofs.YtddgabjhligeeaaGreat.mk
open Go.RowKit

/-! ### Lists of bytes up to one -/
theorem u8_eq {b c : UInt8} (h : b.toNat = c.toNat) : b = c := UInt8.toNat_inj.1 h
/-! ### Attributes -/
end Go.Proofs.YtddgabjhligeeaaGreat.mk

namespace Go.Proofs.YtddgabjhligeeaaGreat.mk
open Go.RowKit

/-- what is behind begins with a byte of one byte, or there is none -/
def LowHead (b : List UInt8) : Prop := ∀ c r, b = c :: r → c.toNat < 128
theorem valid_cut {a b : List UInt8} (h : validB (a ++ b) = true) (hb : LowHead b) : validB a = true := by
  induction a using partInd with
  | nil => exact validB_nil
  | next l hl ih =>
    have hne : l ++ b ≠ [] := by simp [hl]
    rw [validB_next hne, Bool.and_eq_true, Bool.not_eq_true'] at h
    have hs := h.1
    have hr : (nx (l ++ b)).2 = true := by
      unfold soughtB at hs
      rw [Bool.or_eq_false_iff] at hs
      simpa using hs.1
    have hn : (nx (l ++ b)).1 ≤ l.length := by
      rcases Nat.lt_or_ge l.length (nx (l ++ b)).1 with hlt | hge
      · exfalso
        have hbd := (nx_bd hne).2
        cases l with
        | nil => exact absurd rfl hl
        | cons x l =>
          cases b with
          | nil => rw [List.append_nil] at hlt hbd; omega
          | cons c r =>
            have hc := hb c r rfl
            rcases Nat.lt_or_ge x.toNat 128 with hx | hx
            · rw [List.cons_append, nx_low hx] at hlt
              simp at hlt
            · have hh := nx_high (b := x) (t := l ++ c :: r) hx hr c ?_
              · omega
              · rw [← List.cons_append, List.take_append, List.mem_append]
                right
                rw [List.take_cons (by rw [List.cons_append] at hlt ⊢; omega)]
                exact List.mem_cons_self ..
      · exact hge
    have e : (l ++ b).take (nx (l ++ b)).1 = l.take (nx (l ++ b)).1 := by rw [List.take_append, show (nx (l ++ b)).1 - l.length = 0 by omega, List.take_zero, List.append_nil]
    have hnl : nx l = nx (l ++ b) := by
      have h1 := nx_right hr (l.drop (nx (l ++ b)).1)
      rw [e, List.take_append_drop] at h1
      exact h1
    have hsl : soughtB l = false := by
      unfold soughtB at hs ⊢
      rw [hnl]
      cases l with
      | nil => exact absurd rfl hl
      | cons x l => exact hs
    have h2 := h.2
    rw [List.drop_append, show (nx (l ++ b)).1 - l.length = 0 by omega, List.drop_zero] at h2
    rw [validB_next hl, hsl, hnl]
    rw [hnl] at ih
    rw [ih h2]
    rfl
theorem valid_pos {b : UInt8} {l : List UInt8} (h : validB (b :: l) = true) : 1 ≤ b.toNat := by
  rw [validB_next (by simp), Bool.and_eq_true, Bool.not_eq_true'] at h
  have := h.1
  unfold soughtB at this
  rw [Bool.or_eq_false_iff] at this
  rcases Nat.eq_zero_or_pos b.toNat with h0 | h0
  · exfalso
    have e : b = 0 := u8_eq h0
    have h2 := this.2
    rw [e] at h2
    exact absurd h2 (by simp)
  · exact h0
theorem valid_tail {b : UInt8} {l : List UInt8} (h : validB (b :: l) = true) (hb : b.toNat < 128) : validB l = true := by rw [← valid_low (valid_pos h) hb]; exact h
theorem valid_rest {a b : List UInt8} (h : validB (a ++ b) = true) (hb : LowHead b) : validB b = true := by rw [← valid_append (valid_cut h hb)]; exact h
theorem valid_skip {a b : List UInt8} (ha : ∀ c ∈ a, c.toNat < 128) (h : validB (a ++ b) = true) : validB b = true := by
  induction a with
  | nil => exact h
  | cons c a ih => exact ih (fun x hx => ha x (List.mem_cons_of_mem _ hx)) (valid_tail h (ha c (List.mem_cons_self ..)))

/-! ### of labelled texts -/
def vC (l : Ch) : Prop := validB (l.map (·.1)) = true
def LowC (b : Ch) : Prop := ∀ c r, b = c :: r → c.1.toNat < 128
theorem vC_nil : vC [] := validB_nil
theorem vC_both {a b : Ch} (h : vC a) (h2 : vC b) : vC (a ++ b) := by unfold vC at *; rw [List.map_append]; exact valid_both h h2
theorem LowC.map {b : Ch} (h : LowC b) : LowHead (b.map (·.1)) := by
  intro c r e
  cases b with
  | nil => cases e
  | cons x b =>
    rw [List.map_cons] at e
    injection e with e1 _
    rw [← e1]
    exact h x b rfl
theorem vC_cut {a b : Ch} (h : vC (a ++ b)) (hb : LowC b) : vC a := by unfold vC at *; rw [List.map_append] at h; exact valid_cut h hb.map
theorem vC_rest {a b : Ch} (h : vC (a ++ b)) (hb : LowC b) : vC b := by unfold vC at *; rw [List.map_append] at h; exact valid_rest h hb.map
theorem vC_skip {a b : Ch} (ha : ∀ c ∈ a, c.1.toNat < 128) (h : vC (a ++ b)) : vC b := by
  unfold vC at *
  rw [List.map_append] at h
  refine valid_skip (fun c hc => ?_) h
  obtain ⟨x, hx, rfl⟩ := List.mem_map.1 hc
  exact ha x hx
theorem vC_tail {c : UInt8 × Int} {l : Ch} (h : vC (c :: l)) (hc : c.1.toNat < 128) : vC l := vC_skip (a := [c]) (by simpa using hc) h
theorem LowC.nil : LowC [] := fun c r e => by cases e

/-! ### what is decoded -/
theorem vC_put (p : List UInt8) (o : Int) (h : validB p = true) : vC (putE p o) := by unfold vC; rw [putE_fst]; exact h
theorem decE_high : ∀ (k : Nat) (l : Ch), k ≤ l.length → InR l → (∀ c ∈ l.take k, c.1 ≠ 38) → decE l = l.take k ++ decE (l.drop k)
  | 0, l, _, _, _ => by rw [List.take_zero, List.drop_zero, List.nil_append]
  | k + 1, [], h, _, _ => by simp at h
  | k + 1, (b, o) :: r, h, hi, hc => by
    have hb : b ≠ 38 := hc (b, o) (by rw [List.take_succ_cons]; exact List.mem_cons_self ..)
    rw [decE_one (l := (b, o) :: r) (b := b) (o := o) rfl (hi o (by simp)).1 (by rw [List.map_cons]; exact refer_not hb)]
    rw [List.drop_succ_cons, List.drop_zero, List.take_succ_cons, List.drop_succ_cons, List.cons_append]
    rw [decE_high k r (by simp at h; omega) (InR.drop hi 1) (fun c hc2 => hc c (by rw [List.take_succ_cons]; exact List.mem_cons_of_mem _ hc2))]
    rfl
theorem vC_dec : ∀ (n : Nat) (l : Ch), l.length ≤ n → InR l → vC l → vC (decE l) := by
  intro n
  induction n with
  | zero =>
    intro l hl _ _
    have e : l = [] := List.eq_nil_of_length_eq_zero (by omega)
    subst e
    rw [decE_nil]
    exact vC_nil
  | succ n ih =>
    intro l hl hi hv
    cases l with
    | nil => rw [decE_nil]; exact vC_nil
    | cons x t =>
      obtain ⟨b, o⟩ := x
      cases hr : refer (((b, o) :: t).map (·.1)) with
      | some nk =>
        obtain ⟨q, k⟩ := nk
        rw [decE_ref hr]
        have hk := refer_bd hr
        obtain ⟨bd, r, e, _, _, ek⟩ := refer_some hr
        refine vC_both (vC_put _ _ (runeB_valid _)) (ih _ (by rw [List.length_drop]; omega) (InR.drop hi k) ?_)
        unfold vC at hv ⊢
        rw [e] at hv
        have h1 : validB (59 :: r) = true := valid_rest (a := 38 :: bd) (by rw [List.cons_append]; exact hv) (fun c r' h => by injection h with h _; rw [← h]; decide)
        have h2 := valid_tail h1 (by decide)
        rw [List.map_drop, e, ek, show (38 :: (bd ++ 59 :: r) : List UInt8) = (38 :: (bd ++ [59])) ++ r by simp, List.drop_left' (by simp)]
        exact h2
      | none =>
        have hb0 : 0 ≤ o := (hi o (by simp)).1
        have hone := decE_one (l := (b, o) :: t) (b := b) (o := o) rfl hb0 hr
        rw [List.drop_succ_cons, List.drop_zero] at hone
        have hit : InR t := InR.drop hi 1
        rcases Nat.lt_or_ge b.toNat 128 with hb | hb
        · rw [hone]
          have h2 := ih t (by rw [List.length_cons] at hl; omega) hit (vC_tail hv hb)
          have hp := valid_pos (show validB (b :: t.map (fun x : UInt8 × Int => x.1)) = true from hv)
          unfold vC at h2 ⊢
          show validB (b :: (decE t).map (·.1)) = true
          rw [valid_low hp hb]
          exact h2
        · have hv2 := hv
          unfold vC at hv2
          have hne : ((b, o) :: t).map (·.1) ≠ [] := by simp
          rw [validB_next hne, Bool.and_eq_true, Bool.not_eq_true'] at hv2
          have hsr : (nx (((b, o) :: t).map (·.1))).2 = true := by
            have := hv2.1
            unfold soughtB at this
            rw [Bool.or_eq_false_iff] at this
            simpa using this.1
          have hbd := nx_bd hne
          have hhi := nx_high hb (show (nx (b :: t.map (fun x : UInt8 × Int => x.1))).2 = true from hsr)
          generalize hN : (nx (((b, o) :: t).map (·.1))).1 = N at *
          have hNl : N ≤ ((b, o) :: t).length := by rw [List.length_map] at hbd; exact hbd.2
          have hpl : decE ((b, o) :: t) = ((b, o) :: t).take N ++ decE (((b, o) :: t).drop N) := by
            refine decE_high N ((b, o) :: t) hNl hi fun c hc => ?_
            have h3 := hhi c.1 (by
              show c.1 ∈ (((b, o) :: t).map (·.1)).take (nx (((b, o) :: t).map (·.1))).1
              rw [hN, ← List.map_take]
              exact List.mem_map.2 ⟨c, hc, rfl⟩)
            intro e
            rw [e] at h3
            exact absurd h3 (by decide)
          rw [hpl]
          refine vC_both ?_ (ih _ (by rw [List.length_drop]; omega) (InR.drop hi N) (by unfold vC; rw [List.map_drop]; exact hv2.2))
          unfold vC
          rw [List.map_take]
          have e1 := nx_right hsr []
          rw [List.append_nil, hN] at e1
          have e2 : (((b, o) :: t).map (·.1)).take N ≠ [] := by
            intro e
            have := congrArg List.length e
            rw [List.length_take, List.length_nil] at this
            omega
          rw [validB_next e2, e1]
          have e3 : soughtB ((((b, o) :: t).map (·.1)).take N) = false := by
            have h4 := hv2.1
            unfold soughtB at h4 ⊢
            rw [e1]
            cases N with
            | zero => exact absurd rfl e2
            | succ N => exact h4
          rw [e3, hN, List.drop_take, Nat.sub_self, List.take_zero, validB_nil]
          rfl

end Go.Proofs.YtddgabjhligeeaaGreat.mk

namespace Go.Proofs.YtddgabjhligeeaaGreat.mk
open Go.RowKit

/-! ### Data -/
/-! ### Tags -/
/-! ### Raw data -/
end Go.Proofs.YtddgabjhligeeaaGreat.mk

namespace Go.Proofs.YtddgabjhligeeaaGreat.mk
open Go.RowKit

/-- valid, with origins in their range -/
def gC (l : Ch) : Prop := vC l ∧ InR l
theorem gC.dec {l : Ch} (h : gC l) : vC (decE l) := vC_dec l.length l (Nat.le_refl _) h.2 h.1
theorem gC_nil : gC [] := ⟨vC_nil, InR.nil⟩
theorem gC.tail {l : Ch} (h : gC l) (hl : LowC l) : gC l.tail := by
  cases l with
  | nil => exact h
  | cons c l => exact ⟨vC_tail h.1 (hl c l rfl), InR.drop h.2 1⟩
def LowP (p : UInt8 → Bool) : Prop := ∀ b, p b = true → b.toNat < 128
theorem lowP_in {L : List UInt8} (h : ∀ x ∈ L, x.toNat < 128) : LowP (fun b => L.contains b) := fun b hb => h b (by simpa using hb)
theorem lowP_eq (c : UInt8) (h : c.toNat < 128) : LowP (· == c) := fun b hb => by rw [beq_iff_eq] at hb; rw [hb]; exact h
theorem low_endT : LowP endT := lowP_in (by decide)
theorem low_endN : LowP endN := lowP_in (by decide)
theorem low_endV : LowP endV := lowP_in (by decide)
theorem low_spcB : LowP spcB := lowP_in (by decide)
theorem low_spsB : LowP spsB := lowP_in (by decide)
theorem from_low {p : UInt8 → Bool} (hp : LowP p) (l : Ch) : LowC (fromP p l) := fun c _ e => hp c.1 (from_head e)
theorem gC.until_ {p : UInt8 → Bool} {l : Ch} (h : gC l) (hp : LowP p) : gC (untilP p l) := by
  have e := until_from p l
  exact ⟨vC_cut (by rw [e]; exact h.1) (from_low hp l), h.2.sub fun x hx => by rw [← e]; exact List.mem_append_left _ hx⟩
theorem gC.from_ {p : UInt8 → Bool} {l : Ch} (h : gC l) (hp : LowP p) : gC (fromP p l) := by
  have e := until_from p l
  exact ⟨vC_rest (by rw [e]; exact h.1) (from_low hp l), h.2.sub fun x hx => by rw [← e]; exact List.mem_append_right _ hx⟩
theorem gC.over {p : UInt8 → Bool} {l : Ch} (h : gC l) (hp : LowP p) : gC (overP p l) := by
  obtain ⟨g, e, hg⟩ := over_split p l
  refine ⟨vC_skip (a := g) (fun c hc => hp c.1 (hg c hc)) (by rw [← e]; exact h.1), h.2.sub fun x hx => by rw [e]; exact List.mem_append_right _ hx⟩
theorem isA_low {b : UInt8} {l : Ch} (hb : b.toNat < 128) (h : isA [b] l = true) : LowC l := by
  intro c r e
  rw [e, isA_cons, beq_iff_eq] at h
  rw [h]
  exact hb
theorem qVal_ok {l : Ch} (h : gC l) : gC (qVal l).1 ∧ gC (qVal l).2 := by
  unfold qVal
  split
  · rename_i h1
    have ht := h.tail (isA_low (by decide) h1)
    exact ⟨ht.until_ (lowP_eq 34 (by decide)), (ht.from_ (lowP_eq 34 (by decide))).tail (from_low (lowP_eq 34 (by decide)) _)⟩
  · split
    · rename_i h1
      have ht := h.tail (isA_low (by decide) h1)
      exact ⟨ht.until_ (lowP_eq 39 (by decide)), (ht.from_ (lowP_eq 39 (by decide))).tail (from_low (lowP_eq 39 (by decide)) _)⟩
    · exact ⟨h.until_ low_endV, h.from_ low_endV⟩
theorem qAttr_ok {c : UInt8 × Int} {l : Ch} (h : gC (c :: l)) : gC (qAttr c l).1.2 ∧ gC (qAttr c l).2 := by
  have hF : gC (fromP endN l) := by
    have e := until_from endN l
    have e2 : c :: l = (c :: untilP endN l) ++ fromP endN l := by rw [List.cons_append, e]
    exact ⟨vC_rest (by rw [← e2]; exact h.1) (from_low low_endN l), h.2.sub fun x hx => by rw [e2]; exact List.mem_append_right _ hx⟩
  have hO := hF.over low_spcB
  unfold qAttr
  split
  · rename_i h1
    exact qVal_ok ((hO.tail (isA_low (by decide) h1)).over low_spcB)
  · exact ⟨gC_nil, hO⟩
theorem qAttrs_ok (l : Ch) : gC l → (∀ a ∈ (qAttrs l).1, gC a.2) ∧ gC (qAttrs l).2 ∧ LowC (qAttrs l).2 := by
  induction l using qAttrs_ind with
  | nil => intro h; rw [qAttrs_nil]; exact ⟨(fun a ha => by cases ha), h, LowC.nil⟩
  | cons c l ih =>
    intro h
    by_cases h62 : c.1 = 62
    · rw [qAttrs_end h62]
      exact ⟨(fun a ha => by cases ha), h, (fun d r e => by injection e with e _; rw [← e, h62]; decide)⟩
    · obtain ⟨h1, h2⟩ := qAttr_ok h
      obtain ⟨h3, h4, h5⟩ := ih h62 (h2.over low_spsB)
      rw [qAttrs_next h62]
      refine ⟨fun a ha => ?_, h4, h5⟩
      rcases List.mem_cons.1 ha with rfl | ha
      · exact h1
      · exact h3 a ha
theorem tagQ_suf {m r : Ch} {t : PTok} (hq : tagQ m = some (t, r)) : r <:+ m := by
  unfold tagQ at hq
  split at hq
  · cases hq
  · injection hq with hq
    injection hq with _ hr
    rw [← hr]
    exact tagQ_suffix m
/-- data and values are valid -/
def okTk (t : PTok) : Prop := (t.kind = 3 → vC t.text) ∧ ∀ a ∈ t.attrs, vC a.2
theorem tagQ_ok {m r : Ch} {t : PTok} (h : gC m) (ha : isA [60] m = true) (hq : tagQ m = some (t, r)) : okTk t ∧ gC r := by
  have h1 := h.tail (isA_low (by decide) ha)
  have h2 := ((h1.over (p := (· == 47)) (lowP_eq 47 (by decide))).from_ low_endT).over low_spsB
  obtain ⟨h3, h4, h5⟩ := qAttrs_ok _ h2
  unfold tagQ at hq
  split at hq
  · cases hq
  · injection hq with hq
    injection hq with ht hr
    refine ⟨?_, by rw [← hr]; exact h4.tail h5⟩
    rw [← ht]
    split
    · exact ⟨(fun e => absurd (show (2 : Nat) = 3 from e) (by decide)), (fun a ha => by cases ha)⟩
    · refine ⟨(fun e => absurd (show (1 : Nat) = 3 from e) (by decide)), fun a ha => ?_⟩
      obtain ⟨x, hx, rfl⟩ := List.mem_map.1 (onceA_sub ha)
      exact (h3 x hx).dec
theorem dataT_ok {out : List PTok} {d : Ch} (h : ∀ t ∈ out, okTk t) (hd : vC d) : ∀ t ∈ dataT out d, okTk t := by
  have hone : okTk (⟨3, [], [], false, d⟩ : PTok) := ⟨fun _ => hd, fun a ha => by cases ha⟩
  intro t ht
  unfold dataT at ht
  split at ht
  · exact h t ht
  · rcases List.eq_nil_or_concat out with e | ⟨o, x, e⟩
    · subst e
      have ht2 : t ∈ [(⟨3, [], [], false, d⟩ : PTok)] := ht
      rw [List.mem_singleton.1 ht2]
      exact hone
    · rw [List.concat_eq_append] at e
      subst e
      rw [List.getLast?_concat, List.dropLast_concat] at ht
      simp only at ht
      split at ht
      · rename_i hx
        rcases List.mem_append.1 ht with ht | ht
        · exact h t (List.mem_append_left _ ht)
        · rw [List.mem_singleton.1 ht]
          exact ⟨fun _ => vC_both ((h x (by simp)).1 hx) hd, fun a ha => by cases ha⟩
      · rcases List.mem_append.1 ht with ht | ht
        · exact h t ht
        · rw [List.mem_singleton.1 ht]
          exact hone
theorem ends_60 {name : List UInt8} {c : UInt8 × Int} {l : Ch} (h : endsT (c :: l) name = true) : c.1 = 60 := by
  unfold endsT at h
  split at h
  · cases h
  · rw [Bool.and_eq_true, beq_iff_eq] at h
    have e := h.2
    rw [List.take_succ_cons, lowL, List.map_cons, List.map_cons, List.cons_append] at e
    injection e with e _
    have h1 : lowB c.1 = 60 := e
    unfold lowB at h1
    split at h1
    · rename_i hu
      exfalso
      simp only [upperB, Bool.and_eq_true, decide_eq_true_eq] at hu
      have h2 := congrArg UInt8.toNat h1
      rw [UInt8.toNat_add] at h2
      have h3 : (32 : UInt8).toNat = 32 := rfl
      have h4 : (60 : UInt8).toNat = 60 := rfl
      omega
    · exact h1
theorem rdRaw_low (name : List UInt8) (l : Ch) : LowC (l.drop (rawT name l)) := by
  induction l with
  | nil => exact LowC.nil
  | cons c l ih =>
    rw [rawT]
    split
    · rename_i h
      rw [List.drop_zero]
      intro d r e
      injection e with e _
      rw [← e, ends_60 h]
      decide
    · rw [List.drop_succ_cons]
      exact ih
theorem gC.part {l : Ch} {k : Nat} (h : gC l) (hl : LowC (l.drop k)) : gC (l.take k) ∧ gC (l.drop k) :=
  ⟨⟨vC_cut (by rw [List.take_append_drop]; exact h.1) hl, InR.take h.2 k⟩, ⟨vC_rest (a := l.take k) (by rw [List.take_append_drop]; exact h.1) hl, InR.drop h.2 k⟩⟩
theorem gC.skip {l : Ch} {k : Nat} (h : gC l) (hl : ∀ c ∈ l.take k, c.1.toNat < 128) : gC (l.drop k) :=
  ⟨vC_skip (a := l.take k) hl (by rw [List.take_append_drop]; exact h.1), InR.drop h.2 k⟩
theorem findI_at {l p : List UInt8} {k : Nat} (hk : k ≤ l.length) (h : ¬ findI l p (k : Int) < 0) : (l.drop (findI l p (k : Int)).toNat).take p.length = p := by
  have hfit := findI_fits hk h
  have ha : atN l.length (k : Int) = k := by unfold atN; omega
  have ho : Lib.occAt l p (findI l p (k : Int)).toNat = true := by
    unfold findI at *
    rw [ha] at h ⊢
    rcases Lib.index_spec (l.drop k) p with ⟨h1, _⟩ | ⟨i, h1, h2, h3, _⟩
    · rw [h1, if_pos (by decide)] at h
      exact absurd (by decide) h
    · rw [h1, if_neg (by omega)]
      rw [occ_drop] at h3
      rw [show ((k : Int) + (i : Int)).toNat = k + i by omega]
      exact h3
  rw [Lib.occAt_iff_take _ _ _ hfit.2, beq_iff_eq] at ho
  exact ho
theorem comm_ok {l : Ch} {k : Nat} {e : List UInt8} (h : gC l) (he : ∀ b ∈ e, b.toNat < 128) (he1 : e ≠ []) (hk : k ≤ l.length) : gC (l.drop (commT l k e).2) := by
  unfold commT
  by_cases hf : findI (l.map (·.1)) e (k : Int) < 0
  · rw [if_pos hf]
    simp only [List.drop_length]
    exact gC_nil
  · rw [if_neg hf]
    simp only
    have hkm : k ≤ (l.map (·.1)).length := by rw [List.length_map]; exact hk
    have hat := findI_at hkm hf
    generalize (findI (l.map (·.1)) e (k : Int)).toNat = i at *
    have hin : ∀ c ∈ (l.drop i).take e.length, c.1.toNat < 128 := fun c hc => he c.1 (by
      rw [← hat, ← List.map_drop, ← List.map_take]
      exact List.mem_map.2 ⟨c, hc, rfl⟩)
    have hlow : LowC (l.drop i) := by
      intro c r e2
      refine hin c ?_
      rw [e2]
      cases e with
      | nil => exact absurd rfl he1
      | cons b e => rw [List.length_cons, List.take_succ_cons]; exact List.mem_cons_self ..
    have h2 := ((h.part hlow).2).skip hin
    rw [List.drop_drop] at h2
    exact h2

theorem markT_ok {out out' : List PTok} {l l' : Ch} {c0 : UInt8 × Int} {l0 : Ch} (hl : l = c0 :: l0) (h60 : c0.1 = 60) (ho : ∀ t ∈ out, okTk t) (hg : gC l) (h : markT out l = some (out', l')) : (∀ t ∈ out', okTk t) ∧ gC l' := by
  have hb : ∀ i : Nat, byteT l i ≠ 0 → i < l.length := by
    intro i hi
    rcases Nat.lt_or_ge i l.length with h | h
    · exact h
    · exfalso; apply hi; unfold byteT; rw [List.getElem?_eq_none h]; rfl
  have hA : isA [60] l = true := by rw [hl, isA_cons, beq_iff_eq]; exact h60
  have hmore : ∀ t : PTok, okTk t → ∀ x ∈ out ++ [t], okTk x := fun t ht x hx => by
    rcases List.mem_append.1 hx with hx | hx
    · exact ho x hx
    · rw [List.mem_singleton.1 hx]; exact ht
  have hcomm : ∀ d : Ch, okTk (⟨4, [], [], false, d⟩ : PTok) := fun d => ⟨(fun e => absurd (show (4 : Nat) = 3 from e) (by decide)), (fun a ha => by cases ha)⟩
  unfold markT at h
  split at h
  · cases ht : tagP l with
    | none => rw [ht] at h; cases h
    | some x =>
      obtain ⟨t, k⟩ := x
      rw [ht] at h
      have hok : okTk t ∧ gC (l.drop k) := by
        cases ha : atTagB l with
        | false => rw [tagP_no ha] at ht; cases ht
        | true =>
          rw [tagP_eq ha] at ht
          cases hq : tagQ l with
          | none => rw [hq] at ht; cases ht
          | some y =>
            obtain ⟨t', r⟩ := y
            rw [hq] at ht
            injection ht with ht
            injection ht with e1 e2
            subst e1
            obtain ⟨h1, h2⟩ := tagQ_ok hg hA hq
            refine ⟨h1, ?_⟩
            simp only at e2
            have hs := tagQ_suf hq
            obtain ⟨g, hgr⟩ := hs
            rw [← e2, ← hgr, List.length_append, Nat.add_sub_cancel, List.drop_left]
            exact h2
      simp only at h
      split at h
      · injection h with h; injection h with h1 h2
        have hp := hok.2.part (rdRaw_low (t.name.map (·.1)) (l.drop k))
        exact ⟨by rw [← h1]; exact dataT_ok (hmore t hok.1) hp.1.1, by rw [← h2]; exact hp.2⟩
      · injection h with h; injection h with h1 h2
        exact ⟨by rw [← h1]; exact hmore t hok.1, by rw [← h2]; exact hok.2⟩
  · split at h
    · rename_i h3
      injection h with h; injection h with h1 h2
      refine ⟨by rw [← h1]; exact ho, ?_⟩
      rw [← h2]
      refine hg.skip fun c hc => ?_
      obtain ⟨i, hi⟩ := List.getElem?_of_mem hc
      have hi3 : i < 3 := by
        have h4 := (List.getElem?_eq_some_iff.1 hi).1
        rw [List.length_take] at h4
        omega
      rw [List.getElem?_take, if_pos hi3] at hi
      have hbt : byteT l i = c.1 := by unfold byteT; rw [hi]; rfl
      have h0 : byteT l 0 = 60 := by rw [hl]; exact h60
      rw [← hbt]
      rcases (show i = 0 ∨ i = 1 ∨ i = 2 by omega) with rfl | rfl | rfl
      · rw [h0]; decide
      · rw [h3.1]; decide
      · rw [h3.2]; decide
    · split at h
      · rename_i h3
        injection h with h; injection h with h1 h2
        exact ⟨by rw [← h1]; exact hmore _ (hcomm _), by rw [← h2]; exact comm_ok hg (by decide) (by decide) (by omega)⟩
      · split at h
        · rename_i h3
          injection h with h; injection h with h1 h2
          have : 2 ≤ l.length := by
            rcases h3 with h3 | h3 | h3
            · omega
            · have := hb 1 (by rw [h3]; decide); omega
            · have := hb 1 (by rw [h3]; decide); omega
          exact ⟨by rw [← h1]; exact hmore _ (hcomm _), by rw [← h2]; exact comm_ok hg (by decide) (by decide) this⟩
        · injection h with h; injection h with h1 h2
          have hlow : ∀ c ∈ l.take 1, c.1.toNat < 128 := fun c hc => by
            rw [hl, List.take_succ_cons, List.take_zero, List.mem_singleton] at hc
            rw [hc, h60]
            decide
          have hs := hg.skip hlow
          have h1v : vC (l.take 1) := by
            rw [hl, List.take_succ_cons, List.take_zero]
            unfold vC
            rw [List.map_cons, List.map_nil, h60, valid_low (by decide) (by decide)]
            exact validB_nil
          exact ⟨by rw [← h1]; exact dataT_ok ho h1v, by rw [← h2]; exact hs⟩
theorem tokR_ok : ∀ (f : Nat) (out : List PTok) (l : Ch), (∀ t ∈ out, okTk t) → gC l → ∀ t ∈ tokR f out l, okTk t := by
  intro f
  induction f with
  | zero => intro out l ho _; rw [tokR]; exact ho
  | succ f ih =>
    intro out l ho hg
    have hlow : LowC (l.drop (ltT l)) := fun c r e => by rw [ltT_head e]; decide
    have hp := hg.part hlow
    have hd := dataT_ok ho hp.1.dec
    rw [tokR]
    split
    · exact ho
    · split
      · exact hd
      · rename_i hl hn
        cases hm : markT (dataT out (decE (l.take (ltT l)))) (l.drop (ltT l)) with
        | none => exact hd
        | some x =>
          obtain ⟨o', l'⟩ := x
          cases hc : l.drop (ltT l) with
          | nil => exact absurd hc hn
          | cons c r =>
            obtain ⟨h1, h2⟩ := markT_ok hc (ltT_head hc) hd hp.2 hm
            exact ih o' l' h1 h2
/-- data and values of what is read of a valid text are valid -/
theorem toks_ok {l : Ch} (h : gC l) : ∀ t ∈ toksP l, okTk t := tokR_ok _ [] l (fun t ht => by cases ht) h

end Go.Proofs.YtddgabjhligeeaaGreat.mk

namespace Go.Proofs.YtddgabjhligeeaaGreat.mk
open Go.RowKit

/-! ### How long values are -/
theorem rdUntil_le (p : UInt8 → Bool) (l : Ch) : (untilP p l).length ≤ l.length := by
  have h := congrArg List.length (until_from p l)
  rw [List.length_append] at h
  omega
theorem qVal_len (l : Ch) : (qVal l).1.length ≤ l.length := by
  unfold qVal
  split
  · have := rdUntil_le (· == 34) l.tail; simp only [List.length_tail] at *; omega
  · split
    · have := rdUntil_le (· == 39) l.tail; simp only [List.length_tail] at *; omega
    · exact rdUntil_le _ _
theorem qAttr_len (c : UInt8 × Int) (l : Ch) : (qAttr c l).1.2.length ≤ l.length := by
  have h1 := from_le endN l
  have h2 := over_le spcB (fromP endN l)
  unfold qAttr
  split
  · have h3 := qVal_len (overP spcB (overP spcB (fromP endN l)).tail)
    have h4 := over_le spcB (overP spcB (fromP endN l)).tail
    rw [List.length_tail] at h4
    show (qVal _).1.length ≤ _
    omega
  · exact Nat.zero_le _
theorem qAttrs_len (l : Ch) : ∀ a ∈ (qAttrs l).1, a.2.length ≤ l.length := by
  induction l using qAttrs_ind with
  | nil => rw [qAttrs_nil]; intro a ha; cases ha
  | cons c l ih =>
    by_cases h : c.1 = 62
    · rw [qAttrs_end h]; intro a ha; cases ha
    · have ih2 := ih h
      have h1 := over_le spsB (qAttr c l).2
      have h2 := qAttr_le c l
      have h3 := qAttr_len c l
      rw [qAttrs_next h]
      intro a ha
      rw [List.length_cons]
      rcases List.mem_cons.1 ha with rfl | ha
      · omega
      · have := ih2 a ha; omega
def lenTk (n : Nat) (t : PTok) : Prop := ∀ a ∈ t.attrs, a.2.length ≤ n
theorem lenTk_none (n : Nat) {t : PTok} (h : t.attrs = []) : lenTk n t := fun a ha => by rw [h] at ha; cases ha
theorem tagQ_len {m r : Ch} {t : PTok} (hq : tagQ m = some (t, r)) : lenTk m.length t := by
  have h1 := over_le spsB (fromP endT (overP (· == 47) m.tail))
  have h2 := from_le endT (overP (· == 47) m.tail)
  have h3 := over_le (· == 47) m.tail
  rw [List.length_tail] at h3
  unfold tagQ at hq
  split at hq
  · cases hq
  · injection hq with hq
    injection hq with ht _
    rw [← ht]
    split
    · exact lenTk_none _ rfl
    · intro a ha
      obtain ⟨x, hx, rfl⟩ := List.mem_map.1 (onceA_sub ha)
      have h4 := qAttrs_len _ x hx
      have h5 := decE_len x.2
      show (decE x.2).length ≤ _
      omega
theorem dataT_len {n : Nat} {out : List PTok} {d : Ch} (h : ∀ t ∈ out, lenTk n t) : ∀ t ∈ dataT out d, lenTk n t := by
  intro t ht
  unfold dataT at ht
  split at ht
  · exact h t ht
  · rcases List.eq_nil_or_concat out with e | ⟨o, x, e⟩
    · subst e
      have ht2 : t ∈ [(⟨3, [], [], false, d⟩ : PTok)] := ht
      rw [List.mem_singleton.1 ht2]
      exact lenTk_none _ rfl
    · rw [List.concat_eq_append] at e
      subst e
      rw [List.getLast?_concat, List.dropLast_concat] at ht
      simp only at ht
      split at ht
      · rcases List.mem_append.1 ht with ht | ht
        · exact h t (List.mem_append_left _ ht)
        · rw [List.mem_singleton.1 ht]; exact lenTk_none _ rfl
      · rcases List.mem_append.1 ht with ht | ht
        · exact h t ht
        · rw [List.mem_singleton.1 ht]; exact lenTk_none _ rfl
theorem markT_len {n : Nat} {out out' : List PTok} {l l' : Ch} (ho : ∀ t ∈ out, lenTk n t) (hl : l.length ≤ n) (h : markT out l = some (out', l')) : ∀ t ∈ out', lenTk n t := by
  have hmore : ∀ t : PTok, lenTk n t → ∀ x ∈ out ++ [t], lenTk n x := fun t ht x hx => by
    rcases List.mem_append.1 hx with hx | hx
    · exact ho x hx
    · rw [List.mem_singleton.1 hx]; exact ht
  unfold markT at h
  split at h
  · cases ht : tagP l with
    | none => rw [ht] at h; cases h
    | some x =>
      obtain ⟨t, k⟩ := x
      rw [ht] at h
      have hok : lenTk n t := by
        cases ha : atTagB l with
        | false => rw [tagP_no ha] at ht; cases ht
        | true =>
          rw [tagP_eq ha] at ht
          cases hq : tagQ l with
          | none => rw [hq] at ht; cases ht
          | some y =>
            obtain ⟨t', r⟩ := y
            rw [hq] at ht
            injection ht with ht
            injection ht with e1 _
            subst e1
            exact fun a ha => Nat.le_trans (tagQ_len hq a ha) hl
      simp only at h
      split at h
      · injection h with h; injection h with h1 _
        rw [← h1]; exact dataT_len (hmore t hok)
      · injection h with h; injection h with h1 _
        rw [← h1]; exact hmore t hok
  · split at h
    · injection h with h; injection h with h1 _
      rw [← h1]; exact ho
    · split at h
      · injection h with h; injection h with h1 _
        rw [← h1]; exact hmore _ (lenTk_none _ rfl)
      · split at h
        · injection h with h; injection h with h1 _
          rw [← h1]; exact hmore _ (lenTk_none _ rfl)
        · injection h with h; injection h with h1 _
          rw [← h1]; exact dataT_len ho
theorem tokR_len {n : Nat} : ∀ (f : Nat) (out : List PTok) (l : Ch), (∀ t ∈ out, lenTk n t) → l.length ≤ n → ∀ t ∈ tokR f out l, lenTk n t := by
  intro f
  induction f with
  | zero => intro out l ho _; rw [tokR]; exact ho
  | succ f ih =>
    intro out l ho hl
    have hd := dataT_len (d := decE (l.take (ltT l))) ho
    rw [tokR]
    split
    · exact ho
    · split
      · exact hd
      · rename_i hn0 hn
        have hdl : (l.drop (ltT l)).length ≤ n := by rw [List.length_drop]; omega
        cases hm : markT (dataT out (decE (l.take (ltT l)))) (l.drop (ltT l)) with
        | none => exact hd
        | some x =>
          obtain ⟨o', l'⟩ := x
          have h1 := markT_len hd hdl hm
          have h2 := markT_lt hn hm
          exact ih o' l' h1 (by omega)

/-! ### Trees -/
def okAv (a : PA) : Prop := vC a.2 ∧ a.2.length ≤ 1000000
mutual
def PT.vP : PT → Prop
  | ⟨_, attrs, kids, text⟩ => vC text ∧ (∀ a ∈ attrs, okAv a) ∧ vPL kids
def vPL : List PT → Prop
  | [] => True
  | t :: ts => t.vP ∧ vPL ts
end
theorem PT.vP_eq (t : PT) : t.vP ↔ vC t.text ∧ (∀ a ∈ t.attrs, okAv a) ∧ vPL t.kids := by cases t; rw [PT.vP]
theorem vPL_all : ∀ l : List PT, vPL l ↔ ∀ t ∈ l, t.vP
  | [] => ⟨(fun _ t ht => by cases ht), (fun _ => by rw [vPL]; trivial)⟩
  | t :: l => by
    rw [vPL, vPL_all l]
    constructor
    · rintro ⟨h1, h2⟩ x hx
      rcases List.mem_cons.1 hx with rfl | hx
      · exact h1
      · exact h2 x hx
    · intro h
      exact ⟨h t (List.mem_cons_self ..), fun x hx => h x (List.mem_cons_of_mem _ hx)⟩
theorem vPL_app {a b : List PT} (h : vPL a) (k : vPL b) : vPL (a ++ b) := (vPL_all _).2 fun t ht => by
  rcases List.mem_append.1 ht with ht | ht
  · exact (vPL_all a).1 h t ht
  · exact (vPL_all b).1 k t ht
theorem vPL_nil : vPL [] := by rw [vPL]; trivial
theorem vPL_one {t : PT} (h : t.vP) : vPL [t] := by rw [vPL]; exact ⟨h, vPL_nil⟩
theorem vP_tx {c : Ch} (h : vC c) : (txT c).vP := (PT.vP_eq _).2 ⟨h, (fun a ha => by cases ha), vPL_nil⟩
theorem merge_vP : ∀ L : List PT, vPL L → vPL (mergeP L) := by
  apply PT.ind
  intro L IH
  have key : ∀ n, ∀ l : List PT, l.length = n → (∀ t ∈ l, t ∈ L) → vPL l → vPL (mergeP l) := by
    intro n
    induction n with
    | zero =>
      intro l hl _ _
      have e : l = [] := List.eq_nil_of_length_eq_zero hl
      subst e
      exact vPL_nil
    | succ n ih =>
      intro l hl hm hv
      rcases List.eq_nil_or_concat l with e | ⟨o, t, e⟩
      · subst e; cases hl
      · rw [List.concat_eq_append] at e
        subst e
        have hol : o.length = n := by rw [List.length_append] at hl; simpa using hl
        have hv2 := (vPL_all _).1 hv
        have h1 := ih o hol (fun x hx => hm x (List.mem_append_left _ hx)) ((vPL_all o).2 fun x hx => hv2 x (List.mem_append_left _ hx))
        obtain ⟨t1, t2, t3⟩ := (PT.vP_eq t).1 (hv2 t (by simp))
        rw [merge_snoc]
        unfold addT
        split
        · refine vPL_app h1 (vPL_one ((PT.vP_eq _).2 ⟨vC_nil, fun a ha => t2 a (onceA_sub ha), IH t (hm t (by simp)) t3⟩))
        · split
          · exact h1
          · rcases List.eq_nil_or_concat (mergeP o) with e | ⟨p, x, e⟩
            · rw [e]
              exact vPL_app vPL_nil (vPL_one (vP_tx t1))
            · rw [List.concat_eq_append] at e
              rw [e] at h1
              rw [e, List.getLast?_concat, List.dropLast_concat]
              simp only
              have h2 := (vPL_all _).1 h1
              have hx := (PT.vP_eq x).1 (h2 x (by simp))
              split
              · exact vPL_app ((vPL_all p).2 fun y hy => h2 y (List.mem_append_left _ hy)) (vPL_one (vP_tx (vC_both hx.1 t1)))
              · exact vPL_app h1 (vPL_one (vP_tx t1))
  exact fun hv => key L.length L rfl (fun _ h => h) hv
def okKP (t : KP) : Prop := (t.kind = 3 → vC t.text) ∧ ∀ a ∈ t.attrs, okAv a
theorem kidsR_ok {L : List KP} (hL : ∀ t ∈ L, okKP t) {i j : Nat} {op : List Nm} {acc out : List PT} (h : KidsR L i op acc out j) : vPL acc → vPL out := by
  induction h with
  | stop h => exact id
  | ended h _ _ => exact id
  | void h _ _ _ _ ih => exact fun ha => ih (vPL_app ha (vPL_one ((PT.vP_eq _).2 ⟨vC_nil, (hL _ (List.mem_of_getElem? h)).2, vPL_nil⟩)))
  | data h h1 _ ih => exact fun ha => ih (vPL_app ha (vPL_one (vP_tx ((hL _ (List.mem_of_getElem? h)).1 h1))))
  | other _ _ _ _ _ ih => exact ih
  | elem h _ _ _ _ _ ih1 ih2 => exact fun ha => ih2 (vPL_app ha (vPL_one ((PT.vP_eq _).2 ⟨vC_nil, (hL _ (List.mem_of_getElem? h)).2, ih1 vPL_nil⟩)))
/-- what is read of whatever text is valid -/
theorem read_valid {l : Ch} (h : InR l) (hl : l.length ≤ 100000) : vPL (readP l) := by
  have hg : gC (rep (linesR l)) := ⟨rep_valid _, (InR.lines h).rep⟩
  have hlen : (rep (linesR l)).length ≤ 1000000 := by
    have h1 := linesR_length l
    have h2 := rep_length (linesR l)
    omega
  have hT : ∀ t ∈ (toksP (rep (linesR l))).map toKP, okKP t := by
    intro t ht
    obtain ⟨x, hx, rfl⟩ := List.mem_map.1 ht
    have h1 := toks_ok hg x hx
    have h2 := tokR_len (n := 1000000) _ [] _ (fun t ht => by cases ht) hlen x hx
    exact ⟨fun e => h1.1 (by have e2 : (x.kind : Int) = 3 := e; omega), fun a ha => ⟨h1.2 a ha, h2 a ha⟩⟩
  unfold readP
  generalize (toksP (rep (linesR l))).map toKP = T at *
  obtain ⟨out, j, hk⟩ := kids_some T T.length 0 [] [] (by omega)
  rw [trees_kids hk]
  exact merge_vP out (kidsR_ok hT hk vPL_nil)

end Go.Proofs.YtddgabjhligeeaaGreat.mk
