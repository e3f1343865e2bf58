/-
  The walk of the statement MarkMany.
-/
import Derived.Test.YtamnoenjpphkcaaMarkAlive
import Derived.Test.YtamnoenjpphkcaaMarkRefCat
import Derived.Test.YtamnoenjpphkcaaMarkRefIs
namespace Go.Proofs.Ytamnoenjpphkcaa.mk
open Go.RowKit

def LT.ch (t : LT) : List (UInt8 × Int) := chars t.bs t.rs
theorem LT.ch_length (t : LT) : t.ch.length = t.s.size := by unfold LT.ch; rw [chars_length, LT.bs_length]
theorem LT.ch_fst (t : LT) : t.ch.map (·.1) = t.bs := chars_fst _ _
theorem LT.ch_snd (t : LT) : t.ch.map (·.2) = t.os := by unfold LT.ch; rw [chars_snd, LT.bs_length]; rfl
def catCh (ts : List LT) : List (UInt8 × Int) := ts.flatMap LT.ch
theorem catCh_fst (ts : List LT) : (catCh ts).map (·.1) = catBs ts := by
  induction ts with
  | nil => rfl
  | cons t ts ih => simp only [catCh, catBs, List.flatMap_cons, List.map_append, LT.ch_fst] at ih ⊢; rw [ih]
theorem catCh_snd (ts : List LT) : (catCh ts).map (·.2) = catOs ts := by
  induction ts with
  | nil => rfl
  | cons t ts ih => simp only [catCh, catOs, List.flatMap_cons, List.map_append, LT.ch_snd] at ih ⊢; rw [ih]
theorem catCh_length (ts : List LT) : (catCh ts).length = (catOs ts).length := by rw [← catCh_snd, List.length_map]
theorem catCh_next {ts : List LT} {k : Nat} {t : LT} (h : ts[k]? = some t) : catCh (ts.take (k + 1)) = catCh (ts.take k) ++ t.ch := by rw [take_next h]; simp [catCh]
/-- what is told of bytes with origins is them -/
theorem isB_told (l : List (UInt8 × Int)) : isB (l.map (·.1)) (comp (l.map (·.2))) l = true := by unfold isB; simp

def ManyRel (ts : List LT) (m : Nat) (w0 : World) (all i : Value) (wr : World) : Prop :=
  ∃ k : Nat, k ≤ m ∧ i = .int .i64 k ∧ wr.ownsRow w0.heap.size 29 2 all (catCh (ts.take k)).length (chCells (catCh (ts.take k))) ∧ Below w0.heap.size w0 wr

theorem Lies.take {w : World} {B : Nat} {A : Option Addr} {xs : List Value} (h : Lies w B A xs) (n : Nat) : Lies w B A (xs.take n) := by
  intro j u hu
  rw [List.getElem?_take] at hu
  split at hu
  · exact h j u hu
  · cases hu
theorem ltCells_take (ts : List LT) (n : Nat) : ltCells (ts.take n) = (ltCells ts).take (n * 2) := by
  induction ts generalizing n with
  | nil => simp [ltCells]
  | cons t ts ih =>
    cases n with
    | zero => simp [ltCells]
    | succ n =>
      have e : ltCells (t :: ts) = .string t.s :: .slice t.A t.n t.c :: ltCells ts := rfl
      rw [List.take_succ_cons, e, show (n + 1) * 2 = n * 2 + 1 + 1 by omega, List.take_succ_cons, List.take_succ_cons, ← ih]
      rfl

set_option maxHeartbeats 2000000 in
set_option maxRecDepth 100000 in
/-- from the loop on -/
theorem many_any (L : Option Addr) (m c : Nat) (ts : List LT) (w : World) (hl : Lies w w.heap.size L (ltCells ts)) (hm : ts.length = m) (hm2 : m ≤ 4294967296) (hok : ∀ t ∈ ts, t.ok w w.heap.size) (hsz : (catOs ts).length ≤ 4294967296) (hc : m ≤ c) :
    Calls Try.prog 5 #[.slice L m c] w fun e w' => e = .returned (.bool true) ∧ Below w.heap.size w w' := by
  go_enter Try.func5, Try.ntmps5
  go_wp2_with fail
  refine (alive_any w).mono ?_
  rintro e w1 ⟨rfl, hb1⟩
  have HL := Lib.hid (hl.next hb1 (Nat.le_refl _))
  have HOK : Hid (∀ t ∈ ts, t.ok w1 w1.heap.size) := fun t ht => (hok t ht).next hb1 (Nat.le_refl _)
  have HM := Lib.hid hm
  clear hl hok hm
  obtain ⟨tt, q, hq, H1, H2, H3, H4⟩ : ∃ (tt : List LT) (q : Nat), q = (if 60 < m then 60 else m) ∧ Hid (Lies w1 w1.heap.size L (ltCells tt)) ∧ Hid (tt.length = q) ∧ Hid (∀ t ∈ tt, t.ok w1 w1.heap.size) ∧ (catOs tt).length ≤ 4294967296 := by
    refine ⟨ts.take (if 60 < m then 60 else m), _, rfl, ?_, ?_, fun t ht => HOK.out t (List.mem_of_mem_take ht), Nat.le_trans (cat_take_le _ _) hsz⟩
    · show Lies _ _ _ _
      rw [ltCells_take]; exact HL.out.take _
    · show _ = _
      rw [List.length_take, HM.out]; split <;> omega
  have hz1 := hb1.size
  by_cases hm60 : 60 < m
  · rw [if_pos hm60] at hq
    subst hq
    have h9 : decide ((60 : Int) < (m : Int)) = true := by simp; omega
    go_wp2_with fail
    go_loopw [3, 4] (ManyRel tt 60 w1) (fun _ i _ => 60 - (intOf i).toNat)
    case atStart => exact ⟨0, Nat.zero_le _, rfl, World.ownsRow_nil _ _ _ _, Below.refl _ _⟩
    case round =>
      obtain ⟨k, hk, rfl, hown, hbl⟩ := hrel
      have hws := hbl.size
      obtain ⟨A', c', rfl, hA', _, _⟩ := own_form hown
      have HA := Lib.hid hA'
      have hcl := cat_take_le tt k
      rw [← catCh_length, ← catCh_length tt] at hcl
      by_cases hlt : k < 60
      · obtain ⟨ad, t, rfl, hb, hc1, hc2, HR⟩ := (H1.out.below hbl).lt (k := k) (by rw [H2.out]; exact hlt)
        have htk := (H3.out t (List.mem_of_getElem? HR.out)).next hbl (Nat.le_refl _)
        have HN := Lib.hid (catCh_next HR.out)
        have HX := Lib.hid htk
        clear htk hA'
        generalize hx : catCh (tt.take k) = xs at *
        clear hx
        go_wp2_with fail
        refine (refOf_any t.s t.A t.n t.c t.rs _ HX.out.1 HX.out.2.1 HX.out.2.2.2 HX.out.2.2.1).mono ?_
        rintro e w2 ⟨v, rfl, h2, hb2⟩
        obtain ⟨A2, c2, rfl, hA2, _, _⟩ := own_form h2
        have HA2 := Lib.hid hA2
        clear hA2
        go_wp2_with fail
        refine (refCat_any A' A2 xs.length t.s.size c' c2 xs t.ch _ ((Lies.own hown).next hb2 (Nat.le_refl _)) (Lies.own h2) HA.out HA2.out rfl (LT.ch_length t) (by rw [catCh_length] at hcl; omega) HX.out.2.2.2).mono ?_
        rintro e w3 ⟨v3, rfl, h3, hb3⟩
        go_wp2
        go_roundw
        case rel => exact ⟨k + 1, by omega, by go_num, by rw [HN.out, List.length_append, LT.ch_length]; exact own_mono h3 (by have := hb2.size; omega), below_next (below_next hbl (Nat.le_refl _) hb2) (Nat.le_refl _) hb3⟩
        case measure => simp [intOf]; omega
      · have HT := Lib.hid (show tt.take k = tt from List.take_of_length_le (by have := H2.out; omega))
        rw [HT.out] at hown hcl ⊢
        clear hA'
        have hok2 : Hid (∀ t ∈ tt, t.ok wr wr.heap.size) := fun t ht => (H3.out t ht).next hbl (Nat.le_refl _)
        go_wp2_with fail
        refine (cat_any L 60 c tt _ (H1.out.next hbl (Nat.le_refl _)) H2.out (by omega) hok2.out H4).mono ?_
        rintro e w4 ⟨v4, rfl, h4, hb4⟩
        obtain ⟨A4, c4, rfl, _, _, _⟩ := own_form h4
        have hcp := comp_length_le (catOs tt)
        go_wp2_with fail
        refine (refIs_any ⟨(catBs tt).toArray⟩ A4 (comp (catOs tt)).length c4 (comp (catOs tt)) A' (catCh tt).length c' (catCh tt) _ (Lies.own h4) rfl (by omega) ((Lies.own hown).next hb4 (Nat.le_refl _)) rfl (by rw [catCh_length]; exact H4)).mono ?_
        rintro e w5 ⟨rfl, hb5⟩
        have hE : isB (catBs tt) (comp (catOs tt)) (catCh tt) = true := by rw [← catCh_fst, ← catCh_snd]; exact isB_told _
        have HE := Lib.hid hE
        clear hE
        go_wp2
        go_ret
        refine ⟨?_, below_next (below_next (below_next hb1 (Nat.le_refl _) hbl) (Nat.le_refl _) hb4) (Nat.le_refl _) hb5⟩
        exact ret_bool HE.out
  · rw [if_neg hm60] at hq
    subst hq
    have h9 : decide ((60 : Int) < (q : Int)) = false := by simp; omega
    go_wp2_with fail
    go_loopw [3, 4] (ManyRel tt q w1) (fun _ i _ => q - (intOf i).toNat)
    case atStart => exact ⟨0, Nat.zero_le _, rfl, World.ownsRow_nil _ _ _ _, Below.refl _ _⟩
    case round =>
      obtain ⟨k, hk, rfl, hown, hbl⟩ := hrel
      have hws := hbl.size
      obtain ⟨A', c', rfl, hA', _, _⟩ := own_form hown
      have HA := Lib.hid hA'
      have hcl := cat_take_le tt k
      rw [← catCh_length, ← catCh_length tt] at hcl
      by_cases hlt : k < q
      · obtain ⟨ad, t, rfl, hb, hc1, hc2, HR⟩ := (H1.out.below hbl).lt (k := k) (by rw [H2.out]; exact hlt)
        have htk := (H3.out t (List.mem_of_getElem? HR.out)).next hbl (Nat.le_refl _)
        have HN := Lib.hid (catCh_next HR.out)
        have HX := Lib.hid htk
        clear htk hA'
        generalize hx : catCh (tt.take k) = xs at *
        clear hx
        go_wp2_with fail
        refine (refOf_any t.s t.A t.n t.c t.rs _ HX.out.1 HX.out.2.1 HX.out.2.2.2 HX.out.2.2.1).mono ?_
        rintro e w2 ⟨v, rfl, h2, hb2⟩
        obtain ⟨A2, c2, rfl, hA2, _, _⟩ := own_form h2
        have HA2 := Lib.hid hA2
        clear hA2
        go_wp2_with fail
        refine (refCat_any A' A2 xs.length t.s.size c' c2 xs t.ch _ ((Lies.own hown).next hb2 (Nat.le_refl _)) (Lies.own h2) HA.out HA2.out rfl (LT.ch_length t) (by rw [catCh_length] at hcl; omega) HX.out.2.2.2).mono ?_
        rintro e w3 ⟨v3, rfl, h3, hb3⟩
        go_wp2
        go_roundw
        case rel => exact ⟨k + 1, by omega, by go_num, by rw [HN.out, List.length_append, LT.ch_length]; exact own_mono h3 (by have := hb2.size; omega), below_next (below_next hbl (Nat.le_refl _) hb2) (Nat.le_refl _) hb3⟩
        case measure => simp [intOf]; omega
      · have HT := Lib.hid (show tt.take k = tt from List.take_of_length_le (by have := H2.out; omega))
        rw [HT.out] at hown hcl ⊢
        clear hA'
        have hok2 : Hid (∀ t ∈ tt, t.ok wr wr.heap.size) := fun t ht => (H3.out t ht).next hbl (Nat.le_refl _)
        go_wp2_with fail
        refine (cat_any L q c tt _ (H1.out.next hbl (Nat.le_refl _)) H2.out hm2 hok2.out H4).mono ?_
        rintro e w4 ⟨v4, rfl, h4, hb4⟩
        obtain ⟨A4, c4, rfl, _, _, _⟩ := own_form h4
        have hcp := comp_length_le (catOs tt)
        go_wp2_with fail
        refine (refIs_any ⟨(catBs tt).toArray⟩ A4 (comp (catOs tt)).length c4 (comp (catOs tt)) A' (catCh tt).length c' (catCh tt) _ (Lies.own h4) rfl (by omega) ((Lies.own hown).next hb4 (Nat.le_refl _)) rfl (by rw [catCh_length]; exact H4)).mono ?_
        rintro e w5 ⟨rfl, hb5⟩
        have hE : isB (catBs tt) (comp (catOs tt)) (catCh tt) = true := by rw [← catCh_fst, ← catCh_snd]; exact isB_told _
        have HE := Lib.hid hE
        clear hE
        go_wp2
        go_ret
        refine ⟨?_, below_next (below_next (below_next hb1 (Nat.le_refl _) hbl) (Nat.le_refl _) hb4) (Nat.le_refl _) hb5⟩
        exact ret_bool HE.out

end Go.Proofs.Ytamnoenjpphkcaa.mk
