/-
  The walks of CleanTwice and CleanRight, over what Views tells and what alive says.
-/
import Derived.Test.YtnbdldapmllegaaGreatJtAO
import Derived.Test.YtnbdldapmllegaaGreatJtAA
import Derived.Test.YtnbdldapmllegaaGreatJtAL
import Derived.Test.YtnbdldapmllegaaGreatJtAE
import Derived.Test.YtnbdldapmllegaaGreatJtK
import Derived.Test.YtnbdldapmllegaaGreatJtAK
import Derived.Test.YtnbdldapmllegaaGreatJtAM
import Derived.Test.YtnbdldapmllegaaGreatJtAB
import Derived.Deep.DeepCutAuto
namespace Go.Proofs.YtnbdldapmllegaaGreat.mk
open Go.RowKit

theorem lowO_any (a : LT) (w : World) (ha : a.ok w w.heap.size) :
    Calls Tryz.prog 19 #[.agg #[.string a.s, .slice a.A a.n a.c]] w (ToldO (lowC a.ch) w) := by
  refine (lower_t a w ha).mono fun e w' h => toldO_of (l := lowC a.ch) ?_ (by show ((a.ch.map fun x => (lowB x.1, x.2))).length ≤ _; rw [List.length_map, LT.ch_length]; exact ha.2.2.2) h
  intro o ho
  unfold lowC at ho
  rw [List.map_map] at ho
  exact a.ch_in o ho
theorem repO_any (a : LT) (w : World) (ha : a.ok w w.heap.size) (hs : a.s.size ≤ 268435456) : Calls Tryz.prog 20 #[.agg #[.string a.s, .slice a.A a.n a.c]] w (ToldO (rep a.ch) w) := by
  refine (repair_any a.s a.A a.n a.c a.rs w ha.1 ha.2.1 hs ha.2.2.1).mono fun e w' h => toldO_of (l := rep a.ch) (a.ch_in).rep ?_ h
  have h1 := rep_length a.ch
  rw [LT.ch_length] at h1
  omega
/-- a labelled text, in memory of its own, and whether -/
def ToldB (l : Ch) (b : Bool) (w : World) (e : Ending) (w' : World) : Prop :=
  ∃ t : LT, e = .returned (.tuple #[.agg #[.string t.s, .slice t.A t.n t.c], .bool b]) ∧ Hid (t.ch = l ∧ OwnL w' w.heap.size t) ∧ Below w.heap.size w w'
theorem filterL_in {R : Ch} (h : InR R) : InR (filterL R) := by
  unfold filterL
  split
  · exact h
  · intro o ho; cases ho
theorem filterO_any (a : LT) (m : Int) (w : World) (hm : w.cell? ⟨0, 0, none⟩ = some (.int .i64 m)) (ha : a.ok w w.heap.size) (hsz : a.s.size ≤ 4294967280) :
    Calls Tryz.prog 24 #[.agg #[.string a.s, .slice a.A a.n a.c]] w (ToldB (filterL (readyL a.ch)) (safeB (readyL a.ch)) w) := by
  refine (filterP_any a m w hm ha hsz).mono ?_
  rintro e w' ⟨v, rfl, ho, hb⟩
  have hin : InR (filterL (readyL a.ch)) := filterL_in (readyL_in a.ch_in)
  have hn : (filterL (readyL a.ch)).length ≤ 4294967296 := by
    have h1 := filterL_length (readyL a.ch)
    have h2 := readyL_length a.ch
    rw [LT.ch_length] at h2
    omega
  obtain ⟨t, e1, ht, hb2⟩ := toldO_of (w' := w') (e := .returned (.agg #[.string (txtOf (filterL (readyL a.ch))), v])) hin hn ⟨v, rfl, ho, hb⟩
  refine ⟨t, ?_, ht, hb⟩
  injection e1 with e1
  rw [e1]
theorem purO_any (a : LT) (w : World) (ha : a.ok w w.heap.size) : Calls Tryz.prog 36 #[.agg #[.string a.s, .slice a.A a.n a.c]] w fun e w' => e = .returned (.bool (decide (wor a.ch = 0))) ∧ Below w.heap.size w w' := by
  have h := pure_any a.s a.A a.n a.c a.rs w ha.1 ha.2.1 ha.2.2.2 ha.2.2.1
  have e : decide (wor a.ch = 0) = (worstO (origins a.s.size a.rs) == 0) := by
    unfold wor; rw [LT.ch_snd]
    show decide (worstO (origins a.s.size a.rs) = 0) = _
    rw [Bool.eq_iff_iff, decide_eq_true_eq, beq_iff_eq]
  rw [e]
  exact h
theorem byC_ch (a : LT) : byC a.ch = a.s.data.toList := LT.ch_fst a
theorem rawO_any (a : LT) (w : World) (hs : a.s.size ≤ 67108864) : Calls Tryz.prog 60 #[.agg #[.string a.s, .slice a.A a.n a.c]] w fun e w' => e = .returned (.bool (rawB (byC a.ch))) ∧ Below w.heap.size w w' := by
  rw [byC_ch]
  exact raw_anyL a.s a.A a.n a.c w hs
theorem tagO_any (a : LT) (w : World) : Calls Tryz.prog 37 #[.string a.s] w fun e w' => e = .returned (.bool (isT tagL (byC a.ch))) ∧ Below w.heap.size w w' := by
  rw [byC_ch, ← hasT_isT]; exact tagIs_any a.s w
theorem attrO_any (a : LT) (w : World) : Calls Tryz.prog 22 #[.string a.s] w fun e w' => e = .returned (.bool (isT attrL (byC a.ch))) ∧ Below w.heap.size w w' := by
  rw [byC_ch, ← hasT_isT]; exact attrIs_any a.s w
theorem addrO_any (a : LT) (w : World) : Calls Tryz.prog 23 #[.string a.s] w fun e w' => e = .returned (.bool (isT addrL (byC a.ch))) ∧ Below w.heap.size w w' := by
  rw [byC_ch, ← hasT_isT]; exact addrIs_any a.s w
theorem handO_any (a : LT) (w : World) : Calls Tryz.prog 25 #[.string a.s] w fun e w' => e = .returned (.bool (isT handL (byC a.ch))) ∧ Below w.heap.size w w' := by
  rw [byC_ch, ← hasT_isT]; exact handIs_any a.s w
theorem alwRawO_any (a : LT) (w : World) : Calls Tryz.prog 38 #[.string a.s] w fun e w' => e = .returned (.bool (isT rawL (byC a.ch))) ∧ Below w.heap.size w w' := by
  rw [byC_ch, ← hasT_isT]; exact rawIs_any a.s w
theorem voidO_any (a : LT) (w : World) : Calls Tryz.prog 59 #[.string a.s] w fun e w' => e = .returned (.bool (isT voidL (byC a.ch))) ∧ Below w.heap.size w w' := by
  rw [byC_ch, ← hasT_isT]; exact voidIs_any a.s w

end Go.Proofs.YtnbdldapmllegaaGreat.mk

namespace Go.Proofs.YtnbdldapmllegaaGreat.mk
open Go.RowKit

def IdxAcRel (p : AT → Bool) (ts : List AT) (n : Nat) (w0 : World) (i : Value) (wr : World) : Prop :=
  ∃ k : Nat, k ≤ n ∧ i = .int .i64 (k : Int) ∧ (ts.take k).any p = false ∧ Below w0.heap.size w0 wr

set_option maxHeartbeats 1000000 in
set_option maxRecDepth 100000 in
theorem idxAc_any (F : Nat) (caps : Array Value) (p : AT → Bool) (A : Option Addr) (n c : Nat) (ts : List AT) (w : World) (hl : Lies w w.heap.size A (atCells ts)) (hn : ts.length = n) (hn2 : n ≤ 4194304)
    (hE : ∀ args w', Sem.run Tryz.prog (callFunc F args) w' = .ok (.enter F args) w')
    (hF : ∀ (t : AT) w', t ∈ ts → Below w.heap.size w w' → Calls Tryz.prog F (#[.agg #[.string t.nm.s, .slice t.nm.A t.nm.n t.nm.c, .string t.vl.s, .slice t.vl.A t.vl.n t.vl.c]] ++ caps) w' fun e w'' => e = .returned (.bool (p t)) ∧ Below w'.heap.size w' w'') :
    Calls Tryz.prog 119 #[.slice A n c, .func (.func F) #[] caps] w fun e w' => (∃ v : Int, e = .returned (.int .i64 v) ∧ decide (0 ≤ v) = ts.any p) ∧ Below w.heap.size w w' := by
  have HN := Lib.hid hn
  have HE := Lib.hid hE
  have HF := Lib.hid hF
  have HL := Lib.hid hl
  clear hn hE hF hl
  go_enter Tryz.func119, Tryz.ntmps119
  go_wp2_with fail
  go_loopw [8] (IdxAcRel p ts n w) (fun i _ => n - (intOf i).toNat)
  case atStart => exact ⟨0, Nat.zero_le _, rfl, rfl, Below.refl _ _⟩
  case round =>
    obtain ⟨k, hk, rfl, hno, hb⟩ := hrel
    have HNO := Lib.hid hno
    clear hno
    by_cases hlt : k < n
    · obtain ⟨ad, t, rfl, hbA, d0, d1, d2, d3, HR⟩ := (HL.out.below hb).att (k := k) (by rw [HN.out]; exact hlt)
      have hk0 : (0 : Int) ≤ (k : Int) := Int.natCast_nonneg _
      have hk1 : (k : Int) < (n : Int) := by omega
      have HNX : Hid ((ts.take (k + 1)).any p = p t) := by
        show _ = _
        rw [take_next HR.out, List.any_append, HNO.out]
        simp
      have HCALL := Lib.hid (HF.out t wr (List.mem_of_getElem? HR.out) hb)
      go_wp2_with fail
      rw [HE.out]
      refine HCALL.out.mono ?_
      rintro e w2 ⟨rfl, hb2⟩
      have hb3 := below_next hb (Nat.le_refl _) hb2
      cases he : p t with
      | true =>
        have HP : Hid (ts.any p = true) := List.any_eq_true.2 ⟨t, List.mem_of_getElem? HR.out, he⟩
        clear he HCALL
        go_wp2_with fail
        go_ret
        exact ⟨⟨(k : Int), rfl, by rw [HP.out]; simp⟩, hb3⟩
      | false =>
        rw [he] at HNX
        clear he HCALL
        go_wp2_with fail
        go_roundw
        case rel => exact ⟨k + 1, by omega, by go_num, HNX.out, hb3⟩
        case measure => simp [intOf]; omega
    · have HP : Hid (ts.any p = false) := by
        show _ = _
        have h := HNO.out
        rw [List.take_of_length_le (by rw [HN.out]; omega)] at h
        exact h
      go_wp2_with fail
      go_ret
      exact ⟨⟨-1, rfl, by rw [HP.out]; rfl⟩, hb⟩

set_option maxHeartbeats 1000000 in
set_option maxRecDepth 100000 in
theorem everyAc_any (F : Nat) (caps : Array Value) (p : AT → Bool) (A : Option Addr) (n c : Nat) (ts : List AT) (w : World) (hl : Lies w w.heap.size A (atCells ts)) (hn : ts.length = n) (hn2 : n ≤ 4194304)
    (hE : ∀ args w', Sem.run Tryz.prog (callFunc F args) w' = .ok (.enter F args) w')
    (hF : ∀ (t : AT) w', t ∈ ts → Below w.heap.size w w' → Calls Tryz.prog F (#[.agg #[.string t.nm.s, .slice t.nm.A t.nm.n t.nm.c, .string t.vl.s, .slice t.vl.A t.vl.n t.vl.c]] ++ caps) w' fun e w'' => e = .returned (.bool (p t)) ∧ Below w'.heap.size w' w'') :
    Calls Tryz.prog 95 #[.slice A n c, .func (.func F) #[] caps] w fun e w' => e = .returned (.bool (ts.all p)) ∧ Below w.heap.size w w' := by
  have HE := Lib.hid hE
  have HN := Lib.hid hn
  have HF := Lib.hid hF
  have HL := Lib.hid hl
  have HALL : Hid (ts.all p = !(ts.any fun t => !p t)) := by show _ = _; rw [List.any_eq_not_all_not]; simp
  clear hn hE hF hl
  go_enter Tryz.func95, Tryz.ntmps95
  go_wp2_with fail
  generalize hw3 : w.alloc (.cells #[.func (.func F) #[] caps] 58) = w3
  have y3 : Whole w3 w.heap.size 58 #[.func (.func F) #[] caps] := by rw [← hw3]; exact Whole.made _ _ _
  have hb3 : Below w.heap.size w w3 := by rw [← hw3]; exact (Below.refl _ _).alloc (Nat.le_refl _) _
  have HB3 := Lib.hid hb3
  have HG : Hid (∀ (t : AT) w', t ∈ ts → Below w3.heap.size w3 w' → Calls Tryz.prog 107 (#[.agg #[.string t.nm.s, .slice t.nm.A t.nm.n t.nm.c, .string t.vl.s, .slice t.vl.A t.vl.n t.vl.c]] ++ #[.pointer (some ⟨w.heap.size, 0, none⟩)]) w' fun e w'' => e = .returned (.bool (!p t)) ∧ Below w'.heap.size w' w'') := by
    intro t w' ht hb
    have y4 := y3.below hb y3.lt
    have HBB := Lib.hid (below_next HB3.out (Nat.le_refl _) hb)
    clear hb hw3 hb3 y3
    show Calls _ _ #[_, _] _ _
    go_enter Tryz.func107, Tryz.ntmps107
    generalize hw5 : w'.alloc (.cells #[.string t.nm.s, .slice t.nm.A t.nm.n t.nm.c, .string t.vl.s, .slice t.vl.A t.vl.n t.vl.c] 30) = w5
    have y5 : Whole w5 w'.heap.size 30 #[.string t.nm.s, .slice t.nm.A t.nm.n t.nm.c, .string t.vl.s, .slice t.vl.A t.vl.n t.vl.c] := by rw [← hw5]; exact Whole.made _ _ _
    have hb5 : Below w'.heap.size w' w5 := by rw [← hw5]; exact (Below.refl _ _).alloc (Nat.le_refl _) _
    have c0 : w5.cell? ⟨w.heap.size, 0, none⟩ = some (.func (.func F) #[] caps) := (y4.below hb5 y4.lt).at_ 0
    have e0 : w5.cell? ⟨w'.heap.size, 0, none⟩ = some (.string t.nm.s) := y5.at_ 0
    have e1 : w5.cell? ⟨w'.heap.size, 1, none⟩ = some (.slice t.nm.A t.nm.n t.nm.c) := y5.at_ 1
    have e2 : w5.cell? ⟨w'.heap.size, 2, none⟩ = some (.string t.vl.s) := y5.at_ 2
    have e3 : w5.cell? ⟨w'.heap.size, 3, none⟩ = some (.slice t.vl.A t.vl.n t.vl.c) := y5.at_ 3
    have HCALL := Lib.hid (HF.out t w5 ht (below_next HBB.out (Nat.le_refl _) hb5))
    clear y4 y5 ht
    go_wp2_with fail
    rw [HE.out]
    refine HCALL.out.mono ?_
    rintro e w6 ⟨rfl, hb6⟩
    clear HCALL e0 e1 e2 e3 c0
    go_wp2
    go_ret
    exact ⟨rfl, below_next hb5 (Nat.le_refl _) hb6⟩
  have HC : Hid (Calls Tryz.prog 106 #[.slice A n c, .func (.func 107) #[] #[.pointer (some ⟨w.heap.size, 0, none⟩)]] w3 fun e w' => e = .returned (.bool (ts.any fun t => !p t)) ∧ Below w3.heap.size w3 w') := by
    have HI := Lib.hid (idxAc_any 107 #[.pointer (some ⟨w.heap.size, 0, none⟩)] (fun t => !p t) A n c ts w3 (HL.out.next HB3.out (Nat.le_refl _)) HN.out hn2 (fun _ _ => rfl) HG.out)
    clear hw3 hb3 y3 HG
    go_enter Tryz.func106, Tryz.ntmps106
    go_wp2_with fail
    refine HI.out.mono ?_
    rintro e w' ⟨⟨v, rfl, hv⟩, hb⟩
    have HV := Lib.hid hv
    clear hv
    go_wp2
    go_ret
    exact ⟨ret_bool HV.out, hb⟩
  clear hw3 y3 HG
  refine HC.out.mono ?_
  rintro e w4 ⟨rfl, hb4⟩
  go_wp2
  go_ret
  exact ⟨ret_bool HALL.out.symm, below_next hb3 (Nat.le_refl _) hb4⟩

def IdxVcRel (p : VT → Bool) (ts : List VT) (n : Nat) (w0 : World) (i : Value) (wr : World) : Prop :=
  ∃ k : Nat, k ≤ n ∧ i = .int .i64 (k : Int) ∧ (ts.take k).any p = false ∧ Below w0.heap.size w0 wr

set_option maxHeartbeats 1000000 in
set_option maxRecDepth 100000 in
theorem idxVc_any (F : Nat) (caps : Array Value) (p : VT → Bool) (A : Option Addr) (n c : Nat) (ts : List VT) (w : World) (hl : Lies w w.heap.size A (viewCells ts)) (hn : ts.length = n) (hn2 : n ≤ 4194304)
    (hE : ∀ args w', Sem.run Tryz.prog (callFunc F args) w' = .ok (.enter F args) w')
    (hF : ∀ (t : VT) w', t ∈ ts → Below w.heap.size w w' → Calls Tryz.prog F (#[.agg #[.int .i64 t.kind, .string t.tag.s, .slice t.tag.A t.tag.n t.tag.c, .string t.key, .slice t.A t.n t.c, .slice t.H t.hn t.hc, .slice t.K t.kn t.kc, .string t.text.s, .slice t.text.A t.text.n t.text.c, .int .i64 t.slot]] ++ caps) w' fun e w'' => e = .returned (.bool (p t)) ∧ Below w'.heap.size w' w'') :
    Calls Tryz.prog 118 #[.slice A n c, .func (.func F) #[] caps] w fun e w' => (∃ v : Int, e = .returned (.int .i64 v) ∧ decide (0 ≤ v) = ts.any p) ∧ Below w.heap.size w w' := by
  have HN := Lib.hid hn
  have HE := Lib.hid hE
  have HF := Lib.hid hF
  have HL := Lib.hid hl
  clear hn hE hF hl
  go_enter Tryz.func118, Tryz.ntmps118
  go_wp2_with fail
  go_loopw [8] (IdxVcRel p ts n w) (fun i _ => n - (intOf i).toNat)
  case atStart => exact ⟨0, Nat.zero_le _, rfl, rfl, Below.refl _ _⟩
  case round =>
    obtain ⟨k, hk, rfl, hno, hb⟩ := hrel
    have HNO := Lib.hid hno
    clear hno
    by_cases hlt : k < n
    · obtain ⟨ad, t, rfl, hbA, d0, d1, d2, d3, d4, d5, d6, d7, d8, d9, HR⟩ := (HL.out.below hb).view (k := k) (by rw [HN.out]; exact hlt)
      have hk0 : (0 : Int) ≤ (k : Int) := Int.natCast_nonneg _
      have hk1 : (k : Int) < (n : Int) := by omega
      have HNX : Hid ((ts.take (k + 1)).any p = p t) := by
        show _ = _
        rw [take_next HR.out, List.any_append, HNO.out]
        simp
      have HCALL := Lib.hid (HF.out t wr (List.mem_of_getElem? HR.out) hb)
      go_wp2_with fail
      rw [HE.out]
      refine HCALL.out.mono ?_
      rintro e w2 ⟨rfl, hb2⟩
      have hb3 := below_next hb (Nat.le_refl _) hb2
      cases he : p t with
      | true =>
        have HP : Hid (ts.any p = true) := List.any_eq_true.2 ⟨t, List.mem_of_getElem? HR.out, he⟩
        clear he HCALL
        go_wp2_with fail
        go_ret
        exact ⟨⟨(k : Int), rfl, by rw [HP.out]; simp⟩, hb3⟩
      | false =>
        rw [he] at HNX
        clear he HCALL
        go_wp2_with fail
        go_roundw
        case rel => exact ⟨k + 1, by omega, by go_num, HNX.out, hb3⟩
        case measure => simp [intOf]; omega
    · have HP : Hid (ts.any p = false) := by
        show _ = _
        have h := HNO.out
        rw [List.take_of_length_le (by rw [HN.out]; omega)] at h
        exact h
      go_wp2_with fail
      go_ret
      exact ⟨⟨-1, rfl, by rw [HP.out]; rfl⟩, hb⟩

set_option maxHeartbeats 1000000 in
set_option maxRecDepth 100000 in
theorem everyVc_any (F : Nat) (caps : Array Value) (p : VT → Bool) (A : Option Addr) (n c : Nat) (ts : List VT) (w : World) (hl : Lies w w.heap.size A (viewCells ts)) (hn : ts.length = n) (hn2 : n ≤ 4194304)
    (hE : ∀ args w', Sem.run Tryz.prog (callFunc F args) w' = .ok (.enter F args) w')
    (hF : ∀ (t : VT) w', t ∈ ts → Below w.heap.size w w' → Calls Tryz.prog F (#[.agg #[.int .i64 t.kind, .string t.tag.s, .slice t.tag.A t.tag.n t.tag.c, .string t.key, .slice t.A t.n t.c, .slice t.H t.hn t.hc, .slice t.K t.kn t.kc, .string t.text.s, .slice t.text.A t.text.n t.text.c, .int .i64 t.slot]] ++ caps) w' fun e w'' => e = .returned (.bool (p t)) ∧ Below w'.heap.size w' w'') :
    Calls Tryz.prog 93 #[.slice A n c, .func (.func F) #[] caps] w fun e w' => e = .returned (.bool (ts.all p)) ∧ Below w.heap.size w w' := by
  have HE := Lib.hid hE
  have HN := Lib.hid hn
  have HF := Lib.hid hF
  have HL := Lib.hid hl
  have HALL : Hid (ts.all p = !(ts.any fun t => !p t)) := by show _ = _; rw [List.any_eq_not_all_not]; simp
  clear hn hE hF hl
  go_enter Tryz.func93, Tryz.ntmps93
  go_wp2_with fail
  generalize hw3 : w.alloc (.cells #[.func (.func F) #[] caps] 109) = w3
  have y3 : Whole w3 w.heap.size 109 #[.func (.func F) #[] caps] := by rw [← hw3]; exact Whole.made _ _ _
  have hb3 : Below w.heap.size w w3 := by rw [← hw3]; exact (Below.refl _ _).alloc (Nat.le_refl _) _
  have HB3 := Lib.hid hb3
  have HG : Hid (∀ (t : VT) w', t ∈ ts → Below w3.heap.size w3 w' → Calls Tryz.prog 105 (#[.agg #[.int .i64 t.kind, .string t.tag.s, .slice t.tag.A t.tag.n t.tag.c, .string t.key, .slice t.A t.n t.c, .slice t.H t.hn t.hc, .slice t.K t.kn t.kc, .string t.text.s, .slice t.text.A t.text.n t.text.c, .int .i64 t.slot]] ++ #[.pointer (some ⟨w.heap.size, 0, none⟩)]) w' fun e w'' => e = .returned (.bool (!p t)) ∧ Below w'.heap.size w' w'') := by
    intro t w' ht hb
    have y4 := y3.below hb y3.lt
    have HBB := Lib.hid (below_next HB3.out (Nat.le_refl _) hb)
    clear hb hw3 hb3 y3
    show Calls _ _ #[_, _] _ _
    go_enter Tryz.func105, Tryz.ntmps105
    generalize hw5 : w'.alloc (.cells #[.int .i64 t.kind, .string t.tag.s, .slice t.tag.A t.tag.n t.tag.c, .string t.key, .slice t.A t.n t.c, .slice t.H t.hn t.hc, .slice t.K t.kn t.kc, .string t.text.s, .slice t.text.A t.text.n t.text.c, .int .i64 t.slot] 43) = w5
    have y5 : Whole w5 w'.heap.size 43 #[.int .i64 t.kind, .string t.tag.s, .slice t.tag.A t.tag.n t.tag.c, .string t.key, .slice t.A t.n t.c, .slice t.H t.hn t.hc, .slice t.K t.kn t.kc, .string t.text.s, .slice t.text.A t.text.n t.text.c, .int .i64 t.slot] := by rw [← hw5]; exact Whole.made _ _ _
    have hb5 : Below w'.heap.size w' w5 := by rw [← hw5]; exact (Below.refl _ _).alloc (Nat.le_refl _) _
    have c0 : w5.cell? ⟨w.heap.size, 0, none⟩ = some (.func (.func F) #[] caps) := (y4.below hb5 y4.lt).at_ 0
    have e0 : w5.cell? ⟨w'.heap.size, 0, none⟩ = some (.int .i64 t.kind) := y5.at_ 0
    have e1 : w5.cell? ⟨w'.heap.size, 1, none⟩ = some (.string t.tag.s) := y5.at_ 1
    have e2 : w5.cell? ⟨w'.heap.size, 2, none⟩ = some (.slice t.tag.A t.tag.n t.tag.c) := y5.at_ 2
    have e3 : w5.cell? ⟨w'.heap.size, 3, none⟩ = some (.string t.key) := y5.at_ 3
    have e4 : w5.cell? ⟨w'.heap.size, 4, none⟩ = some (.slice t.A t.n t.c) := y5.at_ 4
    have e5 : w5.cell? ⟨w'.heap.size, 5, none⟩ = some (.slice t.H t.hn t.hc) := y5.at_ 5
    have e6 : w5.cell? ⟨w'.heap.size, 6, none⟩ = some (.slice t.K t.kn t.kc) := y5.at_ 6
    have e7 : w5.cell? ⟨w'.heap.size, 7, none⟩ = some (.string t.text.s) := y5.at_ 7
    have e8 : w5.cell? ⟨w'.heap.size, 8, none⟩ = some (.slice t.text.A t.text.n t.text.c) := y5.at_ 8
    have e9 : w5.cell? ⟨w'.heap.size, 9, none⟩ = some (.int .i64 t.slot) := y5.at_ 9
    have HCALL := Lib.hid (HF.out t w5 ht (below_next HBB.out (Nat.le_refl _) hb5))
    clear y4 y5 ht
    go_wp2_with fail
    rw [HE.out]
    refine HCALL.out.mono ?_
    rintro e w6 ⟨rfl, hb6⟩
    clear HCALL e0 e1 e2 e3 e4 e5 e6 e7 e8 e9 c0
    go_wp2
    go_ret
    exact ⟨rfl, below_next hb5 (Nat.le_refl _) hb6⟩
  have HC : Hid (Calls Tryz.prog 104 #[.slice A n c, .func (.func 105) #[] #[.pointer (some ⟨w.heap.size, 0, none⟩)]] w3 fun e w' => e = .returned (.bool (ts.any fun t => !p t)) ∧ Below w3.heap.size w3 w') := by
    have HI := Lib.hid (idxVc_any 105 #[.pointer (some ⟨w.heap.size, 0, none⟩)] (fun t => !p t) A n c ts w3 (HL.out.next HB3.out (Nat.le_refl _)) HN.out hn2 (fun _ _ => rfl) HG.out)
    clear hw3 hb3 y3 HG
    go_enter Tryz.func104, Tryz.ntmps104
    go_wp2_with fail
    refine HI.out.mono ?_
    rintro e w' ⟨⟨v, rfl, hv⟩, hb⟩
    have HV := Lib.hid hv
    clear hv
    go_wp2
    go_ret
    exact ⟨ret_bool HV.out, hb⟩
  clear hw3 y3 HG
  refine HC.out.mono ?_
  rintro e w4 ⟨rfl, hb4⟩
  go_wp2
  go_ret
  exact ⟨ret_bool HALL.out.symm, below_next hb3 (Nat.le_refl _) hb4⟩

set_option maxHeartbeats 1000000 in
set_option maxRecDepth 100000 in
/-- what harmless asks of a kid -/
theorem kidOk_any (x : VT) (w : World) (ht : x.text.ok w w.heap.size) (hs : x.text.s.size ≤ 67108864) :
    Calls Tryz.prog 94 #[.agg #[.int .i64 x.kind, .string x.tag.s, .slice x.tag.A x.tag.n x.tag.c, .string x.key, .slice x.A x.n x.c, .slice x.H x.hn x.hc, .slice x.K x.kn x.kc, .string x.text.s, .slice x.text.A x.text.n x.text.c, .int .i64 x.slot]] w fun e w' => e = .returned (.bool (rawKid x.ch)) ∧ Below w.heap.size w w' := by
  have HT := Lib.hid ht
  have HS := Lib.hid hs
  have HRK : Hid (rawKid x.ch = (decide (x.kind = 2) && decide (wor x.text.ch = 0) && rawB (byC x.text.ch))) := by
    show _ = _
    unfold rawKid
    rw [VT.ch_kind, VT.ch_text]
  clear ht hs
  go_enter Tryz.func94, Tryz.ntmps94
  go_upto_region 1 with (fail)
  generalize hw5 : w.alloc (.cells #[.int .i64 x.kind, .string x.tag.s, .slice x.tag.A x.tag.n x.tag.c, .string x.key, .slice x.A x.n x.c, .slice x.H x.hn x.hc, .slice x.K x.kn x.kc, .string x.text.s, .slice x.text.A x.text.n x.text.c, .int .i64 x.slot] 43) = w5
  have y5 : Whole w5 w.heap.size 43 #[.int .i64 x.kind, .string x.tag.s, .slice x.tag.A x.tag.n x.tag.c, .string x.key, .slice x.A x.n x.c, .slice x.H x.hn x.hc, .slice x.K x.kn x.kc, .string x.text.s, .slice x.text.A x.text.n x.text.c, .int .i64 x.slot] := by rw [← hw5]; exact Whole.made _ _ _
  have HB5 : Hid (Below w.heap.size w w5) := by show Below _ _ _; rw [← hw5]; exact (Below.refl _ _).alloc (Nat.le_refl _) _
  clear hw5
  have e0 := y5.at_ 0
  have e7 := y5.at_ 7
  have e8 := y5.at_ 8
  by_cases hk : x.kind = 2
  · have HK := Lib.hid hk
    rw [hk] at e0
    clear hk
    go_wp2_with fail
    refine (purO_any x.text w5 (HT.out.next HB5.out (Nat.le_refl _))).mono ?_
    rintro e w6 ⟨rfl, hb6⟩
    have HB6 : Hid (Below w.heap.size w w6) := below_next HB5.out (Nat.le_refl _) hb6
    have y6 := y5.below hb6 y5.lt
    clear hb6 e0 e7 e8 y5
    have e7 := y6.at_ 7
    have e8 := y6.at_ 8
    by_cases hp : wor x.text.ch = 0
    · have HP := Lib.hid hp
      rw [decide_eq_true hp]
      clear hp
      go_wp2_with fail
      refine (rawO_any x.text w6 HS.out).mono ?_
      rintro e w7 ⟨rfl, hb7⟩
      have HB7 : Hid (Below w.heap.size w w7) := below_next HB6.out (Nat.le_refl _) hb7
      clear hb7 e7 e8 y6
      go_wp2_with fail
      go_ret
      exact ⟨ret_bool (HRK.out.trans (by rw [decide_eq_true HK.out, decide_eq_true HP.out]; rfl)).symm, HB7.out⟩
    · have HP := Lib.hid hp
      rw [decide_eq_false hp]
      clear hp e7 e8 y6
      go_wp2_with fail
      go_ret
      exact ⟨ret_bool (HRK.out.trans (by rw [decide_eq_false HP.out, Bool.and_false, Bool.false_and])).symm, HB6.out⟩
  · have HK := Lib.hid hk
    have hkb : (x.kind == 2) = false := beq_eq_false_iff_ne.2 hk
    go_wp2_with fail
    go_ret
    exact ⟨ret_bool (HRK.out.trans (by rw [decide_eq_false HK.out, Bool.false_and, Bool.false_and])).symm, HB5.out⟩
set_option maxHeartbeats 1000000 in
set_option maxRecDepth 100000 in
theorem valOk_any (a : AT) (w : World) (ht : a.ok w w.heap.size) :
    Calls Tryz.prog 96 #[.agg #[.string a.nm.s, .slice a.nm.A a.nm.n a.nm.c, .string a.vl.s, .slice a.vl.A a.vl.n a.vl.c]] w fun e w' => e = .returned (.bool (decide (wor a.vl.ch = 0))) ∧ Below w.heap.size w w' := by
  have HT := Lib.hid ht
  clear ht
  go_enter Tryz.func96, Tryz.ntmps96
  go_upto_region 1 with (fail)
  generalize hw5 : w.alloc (.cells #[.string a.nm.s, .slice a.nm.A a.nm.n a.nm.c, .string a.vl.s, .slice a.vl.A a.vl.n a.vl.c] 30) = w5
  have y5 : Whole w5 w.heap.size 30 #[.string a.nm.s, .slice a.nm.A a.nm.n a.nm.c, .string a.vl.s, .slice a.vl.A a.vl.n a.vl.c] := by rw [← hw5]; exact Whole.made _ _ _
  have HB5 : Hid (Below w.heap.size w w5) := by show Below _ _ _; rw [← hw5]; exact (Below.refl _ _).alloc (Nat.le_refl _) _
  clear hw5
  have e2 := y5.at_ 2
  have e3 := y5.at_ 3
  go_wp2_with fail
  refine (purO_any a.vl w5 (HT.out.2.next HB5.out (Nat.le_refl _))).mono ?_
  rintro e w6 ⟨rfl, hb6⟩
  have HB6 : Hid (Below w.heap.size w w6) := below_next HB5.out (Nat.le_refl _) hb6
  clear hb6 e2 e3 y5
  go_wp2_with fail
  go_ret
  exact ⟨rfl, HB6.out⟩
set_option maxHeartbeats 2000000 in
set_option maxRecDepth 100000 in
theorem harm_any (v : VT) (w : World) (hv : v.inS (fun b => b < w.heap.size) w) (hk : AllV (fun b => b < w.heap.size) w v.kids) (hs : ∀ x ∈ v.kids, x.text.s.size ≤ 67108864) :
    Calls Tryz.prog 78 #[.agg #[.int .i64 v.kind, .string v.tag.s, .slice v.tag.A v.tag.n v.tag.c, .string v.key, .slice v.A v.n v.c, .slice v.H v.hn v.hc, .slice v.K v.kn v.kc, .string v.text.s, .slice v.text.A v.text.n v.text.c, .int .i64 v.slot]] w fun e w' => e = .returned (.bool ((chV v.kids).all rawKid && (v.atts.map AT.ch).all fun a => decide (wor a.2 = 0))) ∧ Below w.heap.size w w' := by
  have HV := Lib.hid hv
  have HKS := Lib.hid hk
  have HS := Lib.hid hs
  have HL1 : Hid ((chV v.kids).all rawKid = v.kids.all fun x => rawKid x.ch) := by show _ = _; rw [chV_map, List.all_map]; rfl
  have HL2 : Hid (((v.atts.map AT.ch).all fun a => decide (wor a.2 = 0)) = v.atts.all fun a => decide (wor a.vl.ch = 0)) := by show _ = _; rw [List.all_map]; rfl
  rw [HL1.out, HL2.out]
  obtain ⟨b1, HB1⟩ : ∃ b1, Hid ((v.kids.all fun x => rawKid x.ch) = b1) := ⟨_, rfl⟩
  obtain ⟨b2, HB2⟩ : ∃ b2, Hid ((v.atts.all fun a => decide (wor a.vl.ch = 0)) = b2) := ⟨_, rfl⟩
  rw [HB1.out, HB2.out]
  clear hv hk hs
  go_enter Tryz.func78, Tryz.ntmps78
  go_upto_region 1 with (fail)
  generalize hw5 : w.alloc (.cells #[.int .i64 v.kind, .string v.tag.s, .slice v.tag.A v.tag.n v.tag.c, .string v.key, .slice v.A v.n v.c, .slice v.H v.hn v.hc, .slice v.K v.kn v.kc, .string v.text.s, .slice v.text.A v.text.n v.text.c, .int .i64 v.slot] 43) = w5
  have y5 : Whole w5 w.heap.size 43 #[.int .i64 v.kind, .string v.tag.s, .slice v.tag.A v.tag.n v.tag.c, .string v.key, .slice v.A v.n v.c, .slice v.H v.hn v.hc, .slice v.K v.kn v.kc, .string v.text.s, .slice v.text.A v.text.n v.text.c, .int .i64 v.slot] := by rw [← hw5]; exact Whole.made _ _ _
  have HB5 : Hid (Below w.heap.size w w5) := by show Below _ _ _; rw [← hw5]; exact (Below.refl _ _).alloc (Nat.le_refl _) _
  clear hw5
  have HC1 := Lib.hid (everyVc_any 94 #[] (fun x => rawKid x.ch) v.K v.kn v.kc v.kids w5 ((HV.out.kid.keep (Stays.of HB5.out)).mono fun b hb _ => Nat.lt_of_lt_of_le hb HB5.out.size).lies HV.out.kn HV.out.km (fun _ _ => rfl)
    (fun t w' ht hb => kidOk_any t w' (((HKS.out.get ht).keep (Stays.of (below_next HB5.out (Nat.le_refl _) hb))).text.mono fun b hb2 _ => Nat.lt_of_lt_of_le hb2 (below_next HB5.out (Nat.le_refl _) hb).size).ok (HS.out t ht)))
  rw [HB1.out] at HC1
  have e6 := y5.at_ 6
  go_wp2_with fail
  refine HC1.out.mono ?_
  rintro e w6 ⟨rfl, hb6⟩
  have HB6 : Hid (Below w.heap.size w w6) := below_next HB5.out (Nat.le_refl _) hb6
  have y6 := y5.below hb6 y5.lt
  clear hb6 e6 y5 HC1
  cases b1 with
  | false =>
    go_wp2_with fail
    go_ret
    exact ⟨ret_bool (Bool.false_and _).symm, HB6.out⟩
  | true =>
    have HC2 := Lib.hid (everyAc_any 96 #[] (fun a => decide (wor a.vl.ch = 0)) v.A v.n v.c v.atts w6 ((HV.out.att.keep (Stays.of HB6.out)).mono fun b hb _ => Nat.lt_of_lt_of_le hb HB6.out.size).lies HV.out.an HV.out.am (fun _ _ => rfl)
      (fun t w' ht hb => valOk_any t w' (((HV.out.atts t ht).keep (Stays.of (below_next HB6.out (Nat.le_refl _) hb))).mono fun b hb2 _ => Nat.lt_of_lt_of_le hb2 (below_next HB6.out (Nat.le_refl _) hb).size).ok))
    rw [HB2.out] at HC2
    have e4 := y6.at_ 4
    go_wp2_with fail
    refine HC2.out.mono ?_
    rintro e w7 ⟨rfl, hb7⟩
    have HB7 : Hid (Below w.heap.size w w7) := below_next HB6.out (Nat.le_refl _) hb7
    clear hb7 e4 y6 HC2
    go_wp2_with fail
    go_ret
    exact ⟨ret_bool (Bool.true_and _).symm, HB7.out⟩

end Go.Proofs.YtnbdldapmllegaaGreat.mk

namespace Go.Proofs.YtnbdldapmllegaaGreat.mk
open Go.RowKit

/-- what the program's View tells -/
def ViewSays (mx : Int) : Prop := ∀ (v : VT) (W : World), W.cell? ⟨0, 0, none⟩ = some (.int .i64 mx) → v.inS (fun b => b < W.heap.size) W → AllV (fun b => b < W.heap.size) W v.kids → v.ch.bk ≤ 1048576 →
  Calls Tryz.prog 17 #[.agg #[.int .i64 v.kind, .string v.tag.s, .slice v.tag.A v.tag.n v.tag.c, .string v.key, .slice v.A v.n v.c, .slice v.H v.hn v.hc, .slice v.K v.kn v.kc, .string v.text.s, .slice v.text.A v.text.n v.text.c, .int .i64 v.slot]] W fun e w' => (∃ A' n' c', e = .returned (.slice A' n' c') ∧ VRow w' W.heap.size v.ch.left (.slice A' n' c')) ∧ Below W.heap.size W w'
/-- a text that mark.Of tells of bytes and one origin -/
theorem ofO_one (s : ByteArray) (o : Int) (w : World) (hs : s.size ≤ 4294967296) (ho : nearO o = o) (hin : InR (s.data.toList.map fun b => (b, o))) :
    Calls Tryz.prog 16 #[.string s, .int .i64 o] w (ToldO (s.data.toList.map fun b => (b, o)) w) := by
  have hl : s.data.toList.length = s.size := by rw [Array.length_toList]; rfl
  refine (of_any s o w hs).mono fun e w' h => toldO_of (l := s.data.toList.map fun b => (b, o)) hin (by rw [List.length_map, hl]; exact hs) ?_
  have e1 : txtOf (s.data.toList.map fun b => (b, o)) = s := by
    unfold txtOf
    rw [List.map_map]
    show ByteArray.mk (s.data.toList.map id).toArray = s
    rw [List.map_id]
  have e2 : (s.data.toList.map fun b => (b, o)).map (·.2) = List.replicate s.size o := by
    rw [List.map_map, ← hl]
    exact List.map_const
  rw [e1, e2]
  rw [ho] at h
  exact h
theorem rep_ascii {c : Ch} (h : ∀ x ∈ c, 1 ≤ x.1.toNat ∧ x.1.toNat < 128) : rep c = c := rep_same c (valid_lows fun b hb => by obtain ⟨x, hx, rfl⟩ := List.mem_map.1 hb; exact h x hx)
def scriptC : Ch := [(115, 0), (99, 0), (114, 0), (105, 0), (112, 0), (116, 0)]
def xC : Ch := [(120, 1)]
def bigP : Ch := [(80, 0)]
theorem script_none : elV scriptC [] [] [] (leftV [⟨2, [], [], [], [], [], xC, 0⟩]) = [] := by
  have h1 : leftV [⟨2, [], [], [], [], [], xC, 0⟩] = [⟨2, [], [], [], [], [], xC, 0⟩] := by
    rw [leftV_one, PV.left_eq]
    show oneV 2 [] [] [] [] (leftV []) xC 0 = _
    unfold oneV
    rw [if_pos rfl, if_neg (by decide), rep_ascii (by decide)]
  rw [h1]
  have h2 : fitV (lowC scriptC) (cleanAs []) (kidsV (lowC scriptC) [⟨2, [], [], [], [], [], xC, 0⟩]) = false := by
    unfold fitV kidsV
    rw [show isT rawL (byC (lowC scriptC)) = true by decide +kernel, show isT voidL (byC (lowC scriptC)) = false by decide +kernel]
    show (!true || ([(⟨2, [], [], [], [], [], xC, 0⟩ : PV)].all rawKid && _)) = false
    rw [List.all_cons]
    have h3 : rawKid ⟨2, [], [], [], [], [], xC, 0⟩ = false := by
      unfold rawKid
      rw [show decide (wor xC = 0) = false by decide +kernel]
      rfl
    rw [h3]; rfl
  unfold elV
  split
  · rfl
  · rw [h2]; rfl
theorem p_left : elV bigP [] [] [] (leftV []) = [⟨1, [(112, 0)], [], [], [], [], [], 0⟩] := by
  unfold elV
  rw [if_neg (by decide +kernel)]
  have h2 : fitV (lowC bigP) (cleanAs []) (kidsV (lowC bigP) (leftV [])) = true := by
    unfold fitV
    rw [show isT rawL (byC (lowC bigP)) = false by decide +kernel]; rfl
  rw [h2, if_pos rfl]
  have h3 : kidsV (lowC bigP) (leftV []) = [] := by unfold kidsV; rw [leftV]; split <;> rfl
  rw [h3]
  rfl

def kidV (t : LT) : VT := ⟨2, noT, ⟨#[]⟩, none, 0, 0, [], none, 0, 0, [], none, 0, 0, [], t, 0⟩
def elemV (t : LT) (K : Option Addr) (kn kc : Nat) (ks : List VT) : VT := ⟨1, t, ⟨#[]⟩, none, 0, 0, [], none, 0, 0, [], K, kn, kc, ks, noT, 0⟩
theorem kidV_in {S : Nat → Prop} {w : World} {t : LT} (h : t.inS S w) : (kidV t).inS S w := ⟨noT_in _ _, h, Nat.zero_le _, LiesS.nil _ _ _, rfl, fun _ => rfl, Nat.zero_le _, (fun a ha => by cases ha), LiesS.nil _ _ _, rfl, fun _ => rfl, Nat.zero_le _, LiesS.nil _ _ _, rfl, fun _ => rfl, Nat.zero_le _⟩
theorem elemV_in {S : Nat → Prop} {w : World} {t : LT} {K : Option Addr} {kn kc : Nat} {ks : List VT} (h : t.inS S w) (hl : LiesS S w K (viewCells ks)) (hn : ks.length = kn) (hK : K = none → kc = 0) (hk : kn ≤ 4194304) : (elemV t K kn kc ks).inS S w := ⟨h, noT_in _ _, Nat.zero_le _, LiesS.nil _ _ _, rfl, fun _ => rfl, Nat.zero_le _, (fun a ha => by cases ha), LiesS.nil _ _ _, rfl, fun _ => rfl, Nat.zero_le _, hl, hn, hK, hk⟩
theorem kidV_ch (t : LT) : (kidV t).ch = ⟨2, [], [], [], [], [], t.ch, 0⟩ := by rw [VT.ch_eq]; show PV.mk 2 noT.ch _ [] [] (chV []) t.ch 0 = _; rw [noT_ch, chV]; rfl
theorem elemV_ch (t : LT) (K : Option Addr) (kn kc : Nat) (ks : List VT) : (elemV t K kn kc ks).ch = ⟨1, t.ch, [], [], [], chV ks, [], 0⟩ := by rw [VT.ch_eq]; show PV.mk 1 t.ch _ [] [] (chV ks) noT.ch 0 = _; rw [noT_ch]; rfl

set_option maxHeartbeats 8000000 in
set_option maxRecDepth 100000 in
theorem alive17_any {mx : Int} (hV : ViewSays mx) (w : World) (hm : w.cell? ⟨0, 0, none⟩ = some (.int .i64 mx)) :
    Calls Tryz.prog 6 #[] w fun e w' => e = .returned (.bool true) ∧ Below w.heap.size w w' := by
  have HV := Lib.hid hV
  have HMX : Hid (∀ W, Below w.heap.size w W → W.cell? ⟨0, 0, none⟩ = some (.int .i64 mx)) := fun W hb => (hb.cell (block_zero _ _ _ hm)).trans hm
  clear hV hm
  go_enter Tryz.func6, Tryz.ntmps6
  go_wp2_with fail
  refine (ofO_one ⟨#[115, 99, 114, 105, 112, 116]⟩ 0 w (by decide) (by decide) (fun o ho => by revert o; decide)).mono ?_
  rintro e w1 ⟨t1, rfl, h1, hb1⟩
  have H1 := h1
  have HB1 := Lib.hid hb1
  clear h1 hb1
  go_wp2_with fail
  refine (ofO_one ⟨#[120]⟩ 1 w1 (by decide) (by decide) (fun o ho => by revert o; decide)).mono ?_
  rintro e w2 ⟨t2, rfl, h2, hb2⟩
  have H2 := h2
  have HB2 : Hid (Below w.heap.size w w2) := below_next HB1.out (Nat.le_refl _) hb2
  have H12 : Hid (OwnL w2 w.heap.size t1) := H1.out.2.below hb2
  clear h2 hb2
  go_upto_region 2 with (fail)
  obtain ⟨w3, hw3⟩ : ∃ w3 : World, (w2.alloc (.cells #[.int .i64 2, .string ⟨#[]⟩, .slice none 0 0, .string ⟨#[]⟩, .slice none 0 0, .slice none 0 0, .slice none 0 0, .string t2.s, .slice t2.A t2.n t2.c, .int .i64 0] 43)).alloc (.cells #[.int .i64 1, .string t1.s, .slice t1.A t1.n t1.c, .string ⟨#[]⟩, .slice none 0 0, .slice none 0 0, .slice (some ⟨w2.heap.size, 0, none⟩) 1 1, .string ⟨#[]⟩, .slice none 0 0, .int .i64 0] 43) = w3 := ⟨_, rfl⟩
  have yk : Whole w3 w2.heap.size 43 #[.int .i64 2, .string ⟨#[]⟩, .slice none 0 0, .string ⟨#[]⟩, .slice none 0 0, .slice none 0 0, .slice none 0 0, .string t2.s, .slice t2.A t2.n t2.c, .int .i64 0] := by rw [← hw3]; exact (Whole.made _ _ _).alloc _
  have yv : Whole w3 (w2.heap.size + 1) 43 #[.int .i64 1, .string t1.s, .slice t1.A t1.n t1.c, .string ⟨#[]⟩, .slice none 0 0, .slice none 0 0, .slice (some ⟨w2.heap.size, 0, none⟩) 1 1, .string ⟨#[]⟩, .slice none 0 0, .int .i64 0] := by
    rw [← hw3]
    have h := Whole.made (w2.alloc (.cells #[.int .i64 2, .string ⟨#[]⟩, .slice none 0 0, .string ⟨#[]⟩, .slice none 0 0, .slice none 0 0, .slice none 0 0, .string t2.s, .slice t2.A t2.n t2.c, .int .i64 0] 43)) 43 #[.int .i64 1, .string t1.s, .slice t1.A t1.n t1.c, .string ⟨#[]⟩, .slice none 0 0, .slice none 0 0, .slice (some ⟨w2.heap.size, 0, none⟩) 1 1, .string ⟨#[]⟩, .slice none 0 0, .int .i64 0]
    rw [World.size_alloc] at h
    exact h
  have hb23 : Below w2.heap.size w2 w3 := by rw [← hw3]; exact ((Below.refl _ _).alloc (Nat.le_refl _) _).alloc (by rw [World.size_alloc]; exact Nat.le_succ _) _
  try rw [hw3]
  clear hw3
  have HB3 : Hid (Below w.heap.size w w3) := below_next HB2.out (Nat.le_refl _) hb23
  have H13 : Hid (OwnL w3 w.heap.size t1) := H12.out.below hb23
  have H23 : Hid (OwnL w3 w1.heap.size t2) := H2.out.2.below hb23
  clear hb23
  go_wp2_with fail
  refine (ofO_one ⟨#[80]⟩ 0 w3 (by decide) (by decide) (fun o ho => by revert o; decide)).mono ?_
  rintro e w4 ⟨t3, rfl, h3, hb4⟩
  have H3 := h3
  have HB4 : Hid (Below w.heap.size w w4) := below_next HB3.out (Nat.le_refl _) hb4
  have yk4 := yk.below hb4 yk.lt
  have yv4 := yv.below hb4 yv.lt
  have H14 : Hid (OwnL w4 w.heap.size t1) := H13.out.below hb4
  have H24 : Hid (OwnL w4 w1.heap.size t2) := H23.out.below hb4
  clear h3 hb4 yk yv
  go_upto_region 3 with (fail)
  obtain ⟨w5, hw5⟩ : ∃ w5 : World, w4.alloc (.cells #[.int .i64 1, .string t3.s, .slice t3.A t3.n t3.c, .string ⟨#[]⟩, .slice none 0 0, .slice none 0 0, .slice none 0 0, .string ⟨#[]⟩, .slice none 0 0, .int .i64 0] 43) = w5 := ⟨_, rfl⟩
  have yp : Whole w5 w4.heap.size 43 #[.int .i64 1, .string t3.s, .slice t3.A t3.n t3.c, .string ⟨#[]⟩, .slice none 0 0, .slice none 0 0, .slice none 0 0, .string ⟨#[]⟩, .slice none 0 0, .int .i64 0] := by rw [← hw5]; exact Whole.made _ _ _
  have hb45 : Below w4.heap.size w4 w5 := by rw [← hw5]; exact (Below.refl _ _).alloc (Nat.le_refl _) _
  try rw [hw5]
  clear hw5
  have HB5 : Hid (Below w.heap.size w w5) := below_next HB4.out (Nat.le_refl _) hb45
  have yk5 := yk4.below hb45 yk4.lt
  have yv5 := yv4.below hb45 yv4.lt
  have HT3 : Hid (t3.ch = bigP ∧ OwnL w5 w3.heap.size t3) := ⟨H3.out.1, H3.out.2.below hb45⟩
  have H15 : Hid (OwnL w5 w.heap.size t1) := H14.out.below hb45
  have H25 : Hid (OwnL w5 w1.heap.size t2) := H24.out.below hb45
  have HVP : Hid (Calls Tryz.prog 17 #[.agg #[.int .i64 1, .string t3.s, .slice t3.A t3.n t3.c, .string ⟨#[]⟩, .slice none 0 0, .slice none 0 0, .slice none 0 0, .string ⟨#[]⟩, .slice none 0 0, .int .i64 0]] w5 fun e w' => (∃ A' n' c', e = .returned (.slice A' n' c') ∧ VRow w' w5.heap.size [⟨1, [(112, 0)], [], [], [], [], [], 0⟩] (.slice A' n' c')) ∧ Below w5.heap.size w5 w') := by
    have h := HV.out (elemV t3 none 0 0 []) w5 (HMX.out w5 HB5.out) (elemV_in (HT3.out.2.ok.inS (Nat.le_refl _)) (LiesS.nil _ _ _) rfl (fun _ => rfl) (Nat.zero_le _)) (AllV.nil _ _) (by rw [elemV_ch, HT3.out.1, chV, PV.bk_eq]; simp only [bkV]; decide)
    have e1 : (elemV t3 none 0 0 []).ch.left = [⟨1, [(112, 0)], [], [], [], [], [], 0⟩] := by
      rw [PV.left_eq, elemV_ch, HT3.out.1, chV]
      show oneV 1 bigP [] [] [] (leftV []) [] 0 = _
      unfold oneV
      rw [if_neg (by decide), if_neg (by decide), if_pos rfl, p_left]
    rw [e1] at h
    exact h
  have p0 := yp.at_ 0
  have p1 := yp.at_ 1
  have p2 := yp.at_ 2
  have p3 := yp.at_ 3
  have p4 := yp.at_ 4
  have p5 := yp.at_ 5
  have p6 := yp.at_ 6
  have p7 := yp.at_ 7
  have p8 := yp.at_ 8
  have p9 := yp.at_ 9
  clear yk4 yv4 hb45
  go_wp2_with fail
  refine HVP.out.mono ?_
  rintro e w6 ⟨⟨A6, n6, c6, rfl, hr6⟩, hb6⟩
  have HB6 : Hid (Below w.heap.size w w6) := below_next HB5.out (Nat.le_refl _) hb6
  have HR6 := Lib.hid hr6
  have yk6 := yk5.below hb6 yk5.lt
  have yv6 := yv5.below hb6 yv5.lt
  have HT1 : Hid (t1.ch = scriptC ∧ OwnL w6 w.heap.size t1) := ⟨H1.out.1, H15.out.below hb6⟩
  have HT2 : Hid (t2.ch = xC ∧ OwnL w6 w1.heap.size t2) := ⟨H2.out.1, H25.out.below hb6⟩
  have HVV : Hid (Calls Tryz.prog 17 #[.agg #[.int .i64 1, .string t1.s, .slice t1.A t1.n t1.c, .string ⟨#[]⟩, .slice none 0 0, .slice none 0 0, .slice (some ⟨w2.heap.size, 0, none⟩) 1 1, .string ⟨#[]⟩, .slice none 0 0, .int .i64 0]] w6 fun e w' => (∃ A' n' c', e = .returned (.slice A' n' c') ∧ VRow w' w6.heap.size [] (.slice A' n' c')) ∧ Below w6.heap.size w6 w') := by
    have hkl : LiesS (fun b => b < w6.heap.size) w6 (some ⟨w2.heap.size, 0, none⟩) (viewCells [kidV t2]) := by
      intro j u hu
      have hadd : (⟨w2.heap.size, 0, none⟩ : Addr).add j = ⟨w2.heap.size, j, none⟩ := by unfold Addr.add; split <;> simp_all
      refine ⟨_, rfl, yk6.lt, yk6.lt, ?_⟩
      have e : viewCells [kidV t2] = viewRow (kidV t2) := by show viewRow (kidV t2) ++ [] = _; rw [List.append_nil]
      rw [e] at hu
      rw [hadd, yk6.at_ j, List.getElem?_toArray]
      exact hu
    have h := HV.out (elemV t1 (some ⟨w2.heap.size, 0, none⟩) 1 1 [kidV t2]) w6 (HMX.out w6 HB6.out) (elemV_in (HT1.out.2.ok.inS (Nat.le_refl _)) hkl rfl (fun e => by cases e) (by decide)) (AllV.one (kidV_in (HT2.out.2.ok.inS (Nat.le_refl _))) (AllV.nil _ _)) (by
      rw [elemV_ch, HT1.out.1, chV, chV, kidV_ch, HT2.out.1, PV.bk_eq]
      simp only [bkV, PV.bk]
      decide)
    have e1 : (elemV t1 (some ⟨w2.heap.size, 0, none⟩) 1 1 [kidV t2]).ch.left = [] := by
      rw [PV.left_eq, elemV_ch, HT1.out.1, chV, chV, kidV_ch, HT2.out.1]
      show oneV 1 scriptC [] [] [] (leftV [⟨2, [], [], [], [], [], xC, 0⟩]) [] 0 = _
      unfold oneV
      rw [if_neg (by decide), if_neg (by decide), if_pos rfl, script_none]
    rw [e1] at h
    exact h
  clear hb6 hr6 yk5 yv5 yp p0 p1 p2 p3 p4 p5 p6 p7 p8 p9
  have p0 := yv6.at_ 0
  have p1 := yv6.at_ 1
  have p2 := yv6.at_ 2
  have p3 := yv6.at_ 3
  have p4 := yv6.at_ 4
  have p5 := yv6.at_ 5
  have p6 := yv6.at_ 6
  have p7 := yv6.at_ 7
  have p8 := yv6.at_ 8
  have p9 := yv6.at_ 9
  go_wp2_with fail
  refine HVV.out.mono ?_
  rintro e w7 ⟨⟨A7, n7, c7, rfl, hr7⟩, hb7⟩
  have HB7 : Hid (Below w.heap.size w w7) := below_next HB6.out (Nat.le_refl _) hb7
  obtain ⟨us7, _, hn7, _, _, hc7⟩ := hr7.new
  obtain rfl : n7 = 0 := by rw [← hn7, ← chV_length, hc7]; rfl
  obtain ⟨us, hl6, hn6, _, _, hc6⟩ := (HR6.out.keep hb7).new
  obtain rfl : n6 = 1 := by rw [← hn6, ← chV_length, hc6]; rfl
  obtain ⟨ad, x, rfl, _, _, z1, _, _, _, _, _, _, _, _, HX⟩ := hl6.lies.view (k := 0) (by rw [hn6]; decide)
  have hxt : x.tag.s = ⟨#[112]⟩ := by
    have h1 := chV_at HX.out
    rw [hc6] at h1
    injection h1 with h1
    have h2 := congrArg PV.tag h1
    rw [VT.ch_tag] at h2
    have h3 := LT.ch_fst x.tag
    rw [← h2] at h3
    apply ByteArray.ext
    exact Array.toList_inj.1 h3.symm
  rw [hxt] at z1
  have hz : ad.add (0 * 10) = ad := by rw [Nat.zero_mul]; unfold Addr.add; rw [if_pos rfl]
  rw [hz] at z1
  clear hxt hz hr7 hb7 hl6 hn6 hc6 hn7 hc7 yk6 yv6 p0 p1 p2 p3 p4 p5 p6 p7 p8 p9
  go_wp2_with fail
  go_ret
  exact ⟨rfl, HB7.out⟩

end Go.Proofs.YtnbdldapmllegaaGreat.mk

namespace Go.Proofs.YtnbdldapmllegaaGreat.mk
open Go.RowKit

theorem right_at {L : List PV} {raw : Bool} (h : rightV L raw = true) {v : PV} (hv : v ∈ L) : v.right raw = true := by
  rw [rightV_all] at h
  exact List.all_eq_true.1 h v hv
structure AttRight (raw : Bool) (a : PA) : Prop where
  nm : wor a.1 = 0
  one : (isT attrL (byC a.1) = true ∧ isT addrL (byC a.1) = false ∧ isT handL (byC a.1) = false) ∨ (isT attrL (byC a.1) = false ∧ isT addrL (byC a.1) = true ∧ isT handL (byC a.1) = false ∧ safeB (readyL a.2) = true) ∨ (isT attrL (byC a.1) = false ∧ isT addrL (byC a.1) = false ∧ isT handL (byC a.1) = true ∧ wor a.2 = 0)
  raw : raw = true → wor a.2 = 0
theorem rightA_of {raw : Bool} {a : PA} (h : rightA raw a = true) : AttRight raw a := by
  unfold rightA at h
  simp only [Bool.and_eq_true, Bool.or_eq_true, decide_eq_true_eq, Bool.not_eq_true'] at h
  obtain ⟨⟨⟨⟨h1, h2⟩, h3⟩, h4⟩, h5⟩ := h
  refine ⟨h1, ?_, fun e => ?_⟩
  · rcases h2 with (h2 | h2) | h2
    · exact .inl ⟨h2, attr_apart.1 h2⟩
    · have hx := attr_apart.2.1 h2
      refine .inr (.inl ⟨hx.1, h2, hx.2, ?_⟩)
      rcases h3 with h3 | h3
      · rw [h2] at h3; cases h3
      · exact h3
    · have hx := attr_apart.2.2 h2
      refine .inr (.inr ⟨hx.1, hx.2, h2, ?_⟩)
      rcases h4 with h4 | h4
      · rw [h2] at h4; cases h4
      · exact h4
  · rcases h5 with h5 | h5
    · rw [e] at h5; cases h5
    · exact h5
theorem safeO_any (a : LT) (m : Int) (w : World) (hm : w.cell? ⟨0, 0, none⟩ = some (.int .i64 m)) (ha : a.ok w w.heap.size) (hsz : a.s.size ≤ 4294967280) :
    Calls Tryz.prog 39 #[.agg #[.string a.s, .slice a.A a.n a.c]] w fun e w' => e = .returned (.bool (safeB (readyL a.ch))) ∧ Below w.heap.size w w' := by
  refine (safe_any a m w hm ha hsz).mono ?_
  intro e w' h
  exact h
theorem validO_any (a : LT) (w : World) (ha : a.ok w w.heap.size) : Calls Tryz.prog 35 #[.string a.s] w fun e w' => e = .returned (.bool (validB (byC a.ch))) ∧ w = w' := by
  rw [byC_ch]
  exact valid_any a.s w ha.2.2.2

theorem attR_size {v : VT} {a : AT} (h : a ∈ v.atts) : a.vl.s.size ≤ v.ch.bk := by
  have h1 : ∀ l : List PA, a.ch ∈ l → a.ch.2.length ≤ atWs l := fun l hl => by
    induction l with
    | nil => cases hl
    | cons b l ih =>
      rw [atWs_cons]
      rcases List.mem_cons.1 hl with e | hl
      · rw [← e]; omega
      · have := ih hl; omega
  have h2 := v.ch.bk_eq
  rw [VT.ch_attrs] at h2
  have h3 : a.ch.2.length = a.vl.s.size := LT.ch_length a.vl
  have h4 := h1 _ (List.mem_map.2 ⟨a, h, rfl⟩)
  omega

set_option maxHeartbeats 16000000 in
set_option maxRecDepth 100000 in
theorem right_any (mx : Int) : ∀ (Q : List PV) (A : Option Addr) (n c : Nat) (ts : List VT) (raw : Bool) (w : World), chV ts = Q → w.cell? ⟨0, 0, none⟩ = some (.int .i64 mx) → ViewsIn w A n ts → rightV Q raw = true →
    Calls Tryz.prog 15 #[.slice A n c, .bool raw] w fun e w' => e = .returned (.bool true) ∧ Below w.heap.size w w' := by
  apply PV.ind
  intro Q IH A n c ts raw w hq hm h hr
  subst hq
  have H := Lib.hid h
  have hn4 := h.small
  have HR := Lib.hid hr
  have HMX : Hid (∀ W, Below w.heap.size w W → W.cell? ⟨0, 0, none⟩ = some (.int .i64 mx)) := fun W hb => (hb.cell (block_zero _ _ _ hm)).trans hm
  have HI : Hid (∀ x ∈ ts, ∀ (W : World) (rb : Bool), Below w.heap.size w W → rightV (chV x.kids) rb = true → Calls Tryz.prog 15 #[.slice x.K x.kn x.kc, .bool rb] W fun e w' => e = .returned (.bool true) ∧ Below W.heap.size W w') := fun x hx W rb hb hrr =>
    IH x.ch (chV_mem hx) x.K x.kn x.kc x.kids rb W (VT.ch_kids x).symm (HMX.out W hb) ((H.out.next hb).kid hx) (by rw [VT.ch_kids]; exact hrr)
  clear h IH hm hr
  go_enter Tryz.func15, Tryz.ntmps15
  go_wp2_with fail
  go_loopw [5] (UpTo n w) (fun i _ => n - (intOf i).toNat)
  case atStart => exact ⟨0, Nat.zero_le _, rfl, Below.refl _ _⟩
  case round =>
    obtain ⟨k, hk, rfl, hb⟩ := hrel
    have HB := Lib.hid hb
    clear hb
    by_cases hlt : k < n
    · obtain ⟨ad, x, rfl, hba, d0, d1, d2, d3, d4, d5, d6, d7, d8, d9, HX⟩ := (H.out.next HB.out).lies.lies.view (k := k) (by rw [H.out.len]; exact hlt)
      have hk0 : (0 : Int) ≤ (k : Int) := Int.natCast_nonneg _
      have hk1 : (k : Int) < (n : Int) := by omega
      have HMEM := Lib.hid (List.mem_of_getElem? HX.out)
      have HRX : Hid (x.ch.right raw = true) := right_at HR.out (chV_mem HMEM.out)
      have HBX : Hid (x.ch.bk ≤ 4194304) := by have h1 := bkV_mem (chV_mem HMEM.out); have h2 := H.out.bulk; show _ ≤ _; omega
      go_upto_region 5 with (fail)
      obtain ⟨w4, hw4⟩ : ∃ w4 : World, wr.alloc (.cells #[.int .i64 x.kind, .string x.tag.s, .slice x.tag.A x.tag.n x.tag.c, .string x.key, .slice x.A x.n x.c, .slice x.H x.hn x.hc, .slice x.K x.kn x.kc, .string x.text.s, .slice x.text.A x.text.n x.text.c, .int .i64 x.slot] 43) = w4 := ⟨_, rfl⟩
      have y4 : Whole w4 wr.heap.size 43 #[.int .i64 x.kind, .string x.tag.s, .slice x.tag.A x.tag.n x.tag.c, .string x.key, .slice x.A x.n x.c, .slice x.H x.hn x.hc, .slice x.K x.kn x.kc, .string x.text.s, .slice x.text.A x.text.n x.text.c, .int .i64 x.slot] := by rw [← hw4]; exact Whole.made _ _ _
      have hb4 : Below wr.heap.size wr w4 := by rw [← hw4]; exact (Below.refl _ _).alloc (Nat.le_refl _) _
      have HBW : Hid (Below w.heap.size w w4) := below_next HB.out (Nat.le_refl _) hb4
      have HY4 := Lib.hid y4
      try rw [hw4]
      clear hw4 hb4 d0 d1 d2 d3 d4 d5 d6 d7 d8 d9
      have HXI : Hid (∀ W, Below w4.heap.size w4 W → x.inS (fun b => b < w.heap.size) W) := fun W h => (H.out.all.get HMEM.out).keep (Stays.of (below_next HBW.out (Nat.le_refl _) h))
      have HREL : Hid (∀ W, Below w4.heap.size w4 W → UpTo n w (.int .i64 ((k : Int) + 1)) W) := fun W h => ⟨k + 1, by omega, by simp, below_next HBW.out (Nat.le_refl _) h⟩
      have hrx := HRX.out
      rw [PV.right_eq, VT.ch_kind, VT.ch_text, VT.ch_tag, VT.ch_kids, VT.ch_attrs] at hrx
      by_cases hk2 : x.kind = 2
      · rw [if_pos hk2] at hrx
        simp only [Bool.and_eq_true, Bool.or_eq_true, Bool.not_eq_true', decide_eq_true_eq, List.isEmpty_eq_false_iff] at hrx
        obtain ⟨⟨hte, hval⟩, hpu⟩ := hrx
        have htn : x.text.s.data.toList ≠ [] := fun e => by
          apply hte
          have h1 : x.text.ch.map (·.1) = [] := by rw [LT.ch_fst]; exact e
          exact List.map_eq_nil_iff.1 h1
        have hx1 : (x.text.s.toList == []) = false := by rw [beq_eq_false_iff_ne, ByteArray.toList_eq]; exact htn
        have hx2 : x.text.s.toList.isEmpty = false := by
          cases hq : x.text.s.toList with
          | nil => rw [hq] at hx1; exact absurd hx1 (by decide)
          | cons a b => rfl
        have HVA : Hid (Calls Tryz.prog 35 #[.string x.text.s] w4 fun e w' => e = .returned (.bool true) ∧ w4 = w') := by
          have h1 := validO_any x.text w4 (HXI.out w4 (Below.refl _ _)).text.ok
          rw [hval] at h1
          exact h1
        have HK2 := Lib.hid hk2
        have y0 := y4.at_ 0
        rw [hk2] at y0
        have y7 := y4.at_ 7
        have y8 := y4.at_ 8
        cases raw with
        | false =>
          clear hte hval hpu htn hk2
          go_wp2_with fail
          refine HVA.out.mono ?_
          rintro e w5 ⟨rfl, rfl⟩
          go_wp2_with fail
          go_roundw
          case rel => exact HREL.out _ (Below.refl _ _)
          case measure => simp [intOf]; omega
        | true =>
          have hpu0 : wor x.text.ch = 0 := by
            rcases hpu with h | h
            · cases h
            · exact h
          have HPU : Hid (Calls Tryz.prog 36 #[.agg #[.string x.text.s, .slice x.text.A x.text.n x.text.c]] w4 fun e w' => e = .returned (.bool true) ∧ Below w4.heap.size w4 w') := by
            have h1 := purO_any x.text w4 (HXI.out w4 (Below.refl _ _)).text.ok
            rw [decide_eq_true hpu0] at h1
            exact h1
          clear hte hval hpu htn hk2 hpu0
          go_wp2_with fail
          refine HVA.out.mono ?_
          rintro e w5 ⟨rfl, rfl⟩
          go_wp2_with fail
          refine HPU.out.mono ?_
          rintro e w6 ⟨rfl, hb6⟩
          have y6 := y4.below hb6 y4.lt
          have z0 : w6.cell? ⟨wr.heap.size, 0, none⟩ = some (.int .i64 2) := by rw [← HK2.out]; exact y6.at_ 0
          go_wp2_with fail
          go_roundw
          case rel => exact HREL.out _ hb6
          case measure => simp [intOf]; omega
      · by_cases hk1' : x.kind = 1
        · rw [if_neg hk2, if_neg (by rw [hk1']; decide)] at hrx
          simp only [Bool.and_eq_true, Bool.not_eq_true', decide_eq_true_eq] at hrx
          obtain ⟨⟨⟨⟨hraw, htg⟩, hpu⟩, hkd⟩, hat⟩ := hrx
          subst hraw
          have HAT := Lib.hid hat
          obtain ⟨rb, HRB⟩ : ∃ rb, Hid (isT rawL (byC x.tag.ch) = rb) := ⟨_, rfl⟩
          rw [HRB.out] at hkd
          have HTG : Hid (∀ W, Calls Tryz.prog 37 #[.string x.tag.s] W fun e w' => e = .returned (.bool true) ∧ Below W.heap.size W w') := fun W => by
            have h := tagO_any x.tag W
            rw [htg] at h
            exact h
          have HRW : Hid (∀ W, Calls Tryz.prog 38 #[.string x.tag.s] W fun e w' => e = .returned (.bool rb) ∧ Below W.heap.size W w') := fun W => by
            have h := alwRawO_any x.tag W
            rw [HRB.out] at h
            exact h
          have HPU : Hid (∀ W, Below w4.heap.size w4 W → Calls Tryz.prog 36 #[.agg #[.string x.tag.s, .slice x.tag.A x.tag.n x.tag.c]] W fun e w' => e = .returned (.bool true) ∧ Below W.heap.size W w') := fun W h => by
            have h1 := purO_any x.tag W (((HXI.out W h).mono fun b hb _ => Nat.lt_of_lt_of_le hb (below_next HBW.out (Nat.le_refl _) h).size).tag.ok)
            rw [decide_eq_true hpu] at h1
            exact h1
          have HKR : Hid (∀ W, Below w4.heap.size w4 W → Calls Tryz.prog 15 #[.slice x.K x.kn x.kc, .bool rb] W fun e w' => e = .returned (.bool true) ∧ Below W.heap.size W w') := fun W h => HI.out x HMEM.out W rb (below_next HBW.out (Nat.le_refl _) h) hkd
          have HSS : Hid (∀ W, Below w4.heap.size w4 W → (W.cell? ⟨wr.heap.size, 1, none⟩ = some (.string x.tag.s) ∧ W.cell? ⟨wr.heap.size, 2, none⟩ = some (.slice x.tag.A x.tag.n x.tag.c) ∧ W.cell? ⟨wr.heap.size, 6, none⟩ = some (.slice x.K x.kn x.kc) ∧ Below w4.heap.size w4 W)) := fun W h => by
            have y := HY4.out.below h HY4.out.lt
            exact ⟨y.at_ 1, y.at_ 2, y.at_ 6, h⟩
          have y0 := y4.at_ 0
          rw [hk1'] at y0
          clear hk2 hk1' htg hpu hkd hat
          go_upto_region 8 with (fail)
          go_region_held3 (fun W => (W.cell? ⟨wr.heap.size, 1, none⟩ = some (.string x.tag.s) ∧ W.cell? ⟨wr.heap.size, 2, none⟩ = some (.slice x.tag.A x.tag.n x.tag.c) ∧ W.cell? ⟨wr.heap.size, 6, none⟩ = some (.slice x.K x.kn x.kc) ∧ Below w4.heap.size w4 W))
            (first
              | exact HSS.out _ (Below.drew (Below.refl _ _))
              | (go_split_ands; exact HSS.out _ (by assumption))
              | (go_split_ands; exact HSS.out _ (below_next (by assumption) (Nat.le_refl _) hbC)))
            (first
              | (go_at_call 37; refine (HTG.out _).mono ?_; rintro e wn ⟨rfl, hbC⟩)
              | (go_at_call 38; refine (HRW.out _).mono ?_; rintro e wn ⟨rfl, hbC⟩)
              | (go_at_call 36; refine (HPU.out _ ?_).mono ?_; (go_split_ands; assumption); rintro e wn ⟨rfl, hbC⟩)
              | (go_at_call 15; refine (HKR.out _ ?_).mono ?_; (go_split_ands; assumption); rintro e wn ⟨rfl, hbC⟩))
          all_goals
            have hB8 : Below w4.heap.size w4 wn := by
              go_split_ands
              first | assumption | exact below_next (by assumption) (Nat.le_refl _) hbC
            have HB8 := Lib.hid hB8
            have yy8 := HY4.out.below hB8 HY4.out.lt
            have c4 := yy8.at_ 4
            have HYY := Lib.hid yy8
            have hxm := (HXI.out wn HB8.out).am
            have hxn := (HXI.out wn HB8.out).an
            clear hB8 yy8 c4 y4 y0
            go_wp2_with fail
            obtain ⟨wn2, rfl⟩ : ∃ wn2 : World, wn2 = wn := ⟨_, rfl⟩
            obtain ⟨wo, rfl⟩ : ∃ wo : World, wo = wr := ⟨_, rfl⟩
            go_loopw [7] (UpTo x.n wn2) (fun i _ => x.n - (intOf i).toNat)
            case atStart => exact ⟨0, Nat.zero_le _, rfl, Below.refl _ _⟩
            case round =>
              obtain ⟨j, hj, rfl, hb⟩ := hrel
              obtain ⟨wv, rfl⟩ : ∃ wv : World, wv = wr := ⟨_, rfl⟩
              have HNV := Lib.hid hb
              have HBV : Hid (Below w4.heap.size w4 wv) := below_next HB8.out (Nat.le_refl _) hb
              clear hb
              have yv := HY4.out.below HBV.out HY4.out.lt
              have c4 : wv.cell? ⟨wo.heap.size, 4, none⟩ = some (.slice x.A x.n x.c) := yv.at_ 4
              by_cases hlj : j < x.n
              · obtain ⟨ae, a, hae, hbe, e0, e1, e2, e3, HRA⟩ := (HXI.out wv HBV.out).att.lies.att (k := j) (by rw [(HXI.out wv HBV.out).an]; exact hlj)
                rw [hae] at c4
                have HAE := Lib.hid hae
                have hj0 : (0 : Int) ≤ (j : Int) := Int.natCast_nonneg _
                have hj1 : (j : Int) < (x.n : Int) := by omega
                have HAM := Lib.hid (List.mem_of_getElem? HRA.out)
                have HAR : Hid (AttRight rb a.ch) := rightA_of (by
                  have h1 := List.all_eq_true.1 HAT.out a.ch (List.mem_map.2 ⟨a, HAM.out, rfl⟩)
                  rw [HRB.out] at h1
                  exact h1)
                have HAI : Hid (∀ W, Below w4.heap.size w4 W → a.ok W W.heap.size) := fun W h => (((HXI.out W h).atts a HAM.out).mono fun b hb _ => Nat.lt_of_lt_of_le hb (below_next HBW.out (Nat.le_refl _) h).size).ok
                have hbaE : ∀ i, ((⟨(ae.add (j * 4)).block, (ae.add (j * 4)).off + i, none⟩ : Addr)).block < wv.heap.size := fun i => by show (ae.add (j * 4)).block < _; exact World.block_lt_of_cell? wv _ e0
                have hbaE0 : (ae.add (j * 4)).block < wv.heap.size := World.block_lt_of_cell? wv _ e0
                have HCS : Hid (∀ W, Below wv.heap.size wv W → (W.cell? ⟨wo.heap.size, 4, none⟩ = some (.slice (some ae) x.n x.c) ∧ W.cell? (ae.add (j * 4)) = some (.string a.nm.s) ∧ W.cell? ⟨(ae.add (j * 4)).block, (ae.add (j * 4)).off + 1, none⟩ = some (.slice a.nm.A a.nm.n a.nm.c) ∧ W.cell? ⟨(ae.add (j * 4)).block, (ae.add (j * 4)).off + 2, none⟩ = some (.string a.vl.s) ∧ W.cell? ⟨(ae.add (j * 4)).block, (ae.add (j * 4)).off + 3, none⟩ = some (.slice a.vl.A a.vl.n a.vl.c) ∧ Below wv.heap.size wv W)) := fun W h =>
                  ⟨(h.cell (p := ⟨wo.heap.size, 4, none⟩) yv.lt).trans c4, (h.cell hbaE0).trans e0, (h.cell (hbaE 1)).trans e1, (h.cell (hbaE 2)).trans e2, (h.cell (hbaE 3)).trans e3, h⟩
                have HPN : Hid (∀ W, Below w4.heap.size w4 W → Calls Tryz.prog 36 #[.agg #[.string a.nm.s, .slice a.nm.A a.nm.n a.nm.c]] W fun e w' => e = .returned (.bool true) ∧ Below W.heap.size W w') := fun W h => by
                  have h1 := purO_any a.nm W (HAI.out W h).1
                  rw [show decide (wor a.nm.ch = 0) = true from decide_eq_true HAR.out.nm] at h1
                  exact h1
                have HRW2 : Hid (∀ W, Below w4.heap.size w4 W → Calls Tryz.prog 38 #[.string x.tag.s] W fun e w' => e = .returned (.bool rb) ∧ Below W.heap.size W w') := fun W h => by
                  exact HRW.out W
                clear yv hae hbe hbaE hbaE0
                go_upto_region 13 with (fail)
                go_region_held3 (fun W => (W.cell? ⟨wo.heap.size, 4, none⟩ = some (.slice (some ae) x.n x.c) ∧ W.cell? (ae.add (j * 4)) = some (.string a.nm.s) ∧ W.cell? ⟨(ae.add (j * 4)).block, (ae.add (j * 4)).off + 1, none⟩ = some (.slice a.nm.A a.nm.n a.nm.c) ∧ W.cell? ⟨(ae.add (j * 4)).block, (ae.add (j * 4)).off + 2, none⟩ = some (.string a.vl.s) ∧ W.cell? ⟨(ae.add (j * 4)).block, (ae.add (j * 4)).off + 3, none⟩ = some (.slice a.vl.A a.vl.n a.vl.c) ∧ Below wv.heap.size wv W))
                  (first
                    | exact HCS.out _ (Below.drew (Below.refl _ _))
                    | (go_split_ands; exact HCS.out _ (by assumption))
                    | (go_split_ands; refine HCS.out _ (Below.alloc (by assumption) ?_ _); exact Below.size (by assumption))
                    | exact HCS.out _ two_new)
                  (fail)
                all_goals
                  first
                    | (obtain ⟨v0, hw9⟩ : ∃ v0 : World, ((wv.alloc (.cells #[.string a.nm.s, .slice a.nm.A a.nm.n a.nm.c] 28)).alloc (.cells #[.string a.vl.s, .slice a.vl.A a.vl.n a.vl.c] 28)).drew = v0 := ⟨_, rfl⟩
                       rw [hw9]
                       have yx : Whole v0 wv.heap.size 28 #[.string a.nm.s, .slice a.nm.A a.nm.n a.nm.c] := by rw [← hw9]; exact ((Whole.made _ _ _).alloc _).drew
                       have yvl : Whole v0 (wv.heap.size + 1) 28 #[.string a.vl.s, .slice a.vl.A a.vl.n a.vl.c] := by
                         rw [← hw9]
                         have h := Whole.made (wv.alloc (.cells #[.string a.nm.s, .slice a.nm.A a.nm.n a.nm.c] 28)) 28 #[.string a.vl.s, .slice a.vl.A a.vl.n a.vl.c]
                         rw [World.size_alloc] at h
                         exact h.drew
                       have hb9 : Below wv.heap.size wv v0 := by rw [← hw9]; exact two_new
                       clear hw9)
                    | (obtain ⟨v0, hw9⟩ : ∃ v0 : World, ((wv.alloc (.cells #[.string a.vl.s, .slice a.vl.A a.vl.n a.vl.c] 28)).alloc (.cells #[.string a.nm.s, .slice a.nm.A a.nm.n a.nm.c] 28)).drew = v0 := ⟨_, rfl⟩
                       rw [hw9]
                       have yvl : Whole v0 wv.heap.size 28 #[.string a.vl.s, .slice a.vl.A a.vl.n a.vl.c] := by rw [← hw9]; exact ((Whole.made _ _ _).alloc _).drew
                       have yx : Whole v0 (wv.heap.size + 1) 28 #[.string a.nm.s, .slice a.nm.A a.nm.n a.nm.c] := by
                         rw [← hw9]
                         have h := Whole.made (wv.alloc (.cells #[.string a.vl.s, .slice a.vl.A a.vl.n a.vl.c] 28)) 28 #[.string a.nm.s, .slice a.nm.A a.nm.n a.nm.c]
                         rw [World.size_alloc] at h
                         exact h.drew
                       have hb9 : Below wv.heap.size wv v0 := by rw [← hw9]; exact two_new
                       clear hw9)
                  have HBv0 : Hid (Below w4.heap.size w4 v0) := below_next HBV.out (Nat.le_refl _) hb9
                  have HNv0 : Hid (Below wn2.heap.size wn2 v0) := below_next HNV.out (Nat.le_refl _) hb9
                  have yv0 := And.intro yx (And.intro yvl (HY4.out.below HBv0.out HY4.out.lt))
                  clear yx yvl hb9
                  rcases HAR.out.one with ⟨ha1, ha2, ha3⟩ | ⟨ha1, ha2, ha3, hsf⟩ | ⟨ha1, ha2, ha3, hpv⟩
                  · have HAT2 := Lib.hid (fun (W : World) (_ : Below w4.heap.size w4 W) => attrO_any a.nm W)
                    rw [show isT attrL (byC a.nm.ch) = _ from ha1] at HAT2
                    have HAD := Lib.hid (fun (W : World) (_ : Below w4.heap.size w4 W) => addrO_any a.nm W)
                    rw [show isT addrL (byC a.nm.ch) = _ from ha2] at HAD
                    have HHD := Lib.hid (fun (W : World) (_ : Below w4.heap.size w4 W) => handO_any a.nm W)
                    rw [show isT handL (byC a.nm.ch) = _ from ha3] at HHD
                    clear ha1 ha2 ha3
                    cases rb with
                    | false =>
                      have p0 := yv0.1.at_ 0
                      have p1 := yv0.1.at_ 1
                      have q0 := yv0.2.1.at_ 0
                      have q1 := yv0.2.1.at_ 1
                      have t1 := yv0.2.2.at_ 1
                      go_wp2_with fail
                      refine (HPN.out v0 HBv0.out).mono ?_
                      rintro e v1 ⟨rfl, hq⟩
                      have yv1 := And.intro (yv0.1.below hq yv0.1.lt) (And.intro (yv0.2.1.below hq yv0.2.1.lt) (yv0.2.2.below hq yv0.2.2.lt))
                      have HBv1 := Lib.hid (below_next HBv0.out (Nat.le_refl _) hq)
                      have HNv1 := Lib.hid (below_next HNv0.out (Nat.le_refl _) hq)
                      clear hq p0 p1 q0 q1 t1
                      have p0 := yv1.1.at_ 0
                      have p1 := yv1.1.at_ 1
                      have q0 := yv1.2.1.at_ 0
                      have q1 := yv1.2.1.at_ 1
                      have t1 := yv1.2.2.at_ 1
                      go_wp2_with fail
                      refine (HAT2.out v1 HBv1.out).mono ?_
                      rintro e v2 ⟨rfl, hq⟩
                      have yv2 := And.intro (yv1.1.below hq yv1.1.lt) (And.intro (yv1.2.1.below hq yv1.2.1.lt) (yv1.2.2.below hq yv1.2.2.lt))
                      have HBv2 := Lib.hid (below_next HBv1.out (Nat.le_refl _) hq)
                      have HNv2 := Lib.hid (below_next HNv1.out (Nat.le_refl _) hq)
                      clear hq p0 p1 q0 q1 t1
                      have p0 := yv2.1.at_ 0
                      have p1 := yv2.1.at_ 1
                      have q0 := yv2.2.1.at_ 0
                      have q1 := yv2.2.1.at_ 1
                      have t1 := yv2.2.2.at_ 1
                      go_wp2_with fail
                      refine (HAD.out v2 HBv2.out).mono ?_
                      rintro e v3 ⟨rfl, hq⟩
                      have yv3 := And.intro (yv2.1.below hq yv2.1.lt) (And.intro (yv2.2.1.below hq yv2.2.1.lt) (yv2.2.2.below hq yv2.2.2.lt))
                      have HBv3 := Lib.hid (below_next HBv2.out (Nat.le_refl _) hq)
                      have HNv3 := Lib.hid (below_next HNv2.out (Nat.le_refl _) hq)
                      clear hq p0 p1 q0 q1 t1
                      have p0 := yv3.1.at_ 0
                      have p1 := yv3.1.at_ 1
                      have q0 := yv3.2.1.at_ 0
                      have q1 := yv3.2.1.at_ 1
                      have t1 := yv3.2.2.at_ 1
                      go_wp2_with fail
                      refine (HHD.out v3 HBv3.out).mono ?_
                      rintro e v4 ⟨rfl, hq⟩
                      have yv4 := And.intro (yv3.1.below hq yv3.1.lt) (And.intro (yv3.2.1.below hq yv3.2.1.lt) (yv3.2.2.below hq yv3.2.2.lt))
                      have HBv4 := Lib.hid (below_next HBv3.out (Nat.le_refl _) hq)
                      have HNv4 := Lib.hid (below_next HNv3.out (Nat.le_refl _) hq)
                      clear hq p0 p1 q0 q1 t1
                      have p0 := yv4.1.at_ 0
                      have p1 := yv4.1.at_ 1
                      have q0 := yv4.2.1.at_ 0
                      have q1 := yv4.2.1.at_ 1
                      have t1 := yv4.2.2.at_ 1
                      go_wp2_with fail
                      refine (HRW2.out v4 HBv4.out).mono ?_
                      rintro e v5 ⟨rfl, hq⟩
                      have yv5 := And.intro (yv4.1.below hq yv4.1.lt) (And.intro (yv4.2.1.below hq yv4.2.1.lt) (yv4.2.2.below hq yv4.2.2.lt))
                      have HBv5 := Lib.hid (below_next HBv4.out (Nat.le_refl _) hq)
                      have HNv5 := Lib.hid (below_next HNv4.out (Nat.le_refl _) hq)
                      clear hq p0 p1 q0 q1 t1
                      go_wp2_with fail
                      go_roundw
                      case rel => exact ⟨j + 1, by omega, by go_num, HNv5.out⟩
                      case measure => simp [intOf]; omega
                    | true =>
                      have HPV : Hid (∀ W, Below w4.heap.size w4 W → Calls Tryz.prog 36 #[.agg #[.string a.vl.s, .slice a.vl.A a.vl.n a.vl.c]] W fun e w' => e = .returned (.bool true) ∧ Below W.heap.size W w') := fun W h => by
                        have h1 := purO_any a.vl W (HAI.out W h).2
                        rw [show decide (wor a.vl.ch = 0) = true from decide_eq_true (HAR.out.raw rfl)] at h1
                        exact h1
                      have p0 := yv0.1.at_ 0
                      have p1 := yv0.1.at_ 1
                      have q0 := yv0.2.1.at_ 0
                      have q1 := yv0.2.1.at_ 1
                      have t1 := yv0.2.2.at_ 1
                      go_wp2_with fail
                      refine (HPN.out v0 HBv0.out).mono ?_
                      rintro e v1 ⟨rfl, hq⟩
                      have yv1 := And.intro (yv0.1.below hq yv0.1.lt) (And.intro (yv0.2.1.below hq yv0.2.1.lt) (yv0.2.2.below hq yv0.2.2.lt))
                      have HBv1 := Lib.hid (below_next HBv0.out (Nat.le_refl _) hq)
                      have HNv1 := Lib.hid (below_next HNv0.out (Nat.le_refl _) hq)
                      clear hq p0 p1 q0 q1 t1
                      have p0 := yv1.1.at_ 0
                      have p1 := yv1.1.at_ 1
                      have q0 := yv1.2.1.at_ 0
                      have q1 := yv1.2.1.at_ 1
                      have t1 := yv1.2.2.at_ 1
                      go_wp2_with fail
                      refine (HAT2.out v1 HBv1.out).mono ?_
                      rintro e v2 ⟨rfl, hq⟩
                      have yv2 := And.intro (yv1.1.below hq yv1.1.lt) (And.intro (yv1.2.1.below hq yv1.2.1.lt) (yv1.2.2.below hq yv1.2.2.lt))
                      have HBv2 := Lib.hid (below_next HBv1.out (Nat.le_refl _) hq)
                      have HNv2 := Lib.hid (below_next HNv1.out (Nat.le_refl _) hq)
                      clear hq p0 p1 q0 q1 t1
                      have p0 := yv2.1.at_ 0
                      have p1 := yv2.1.at_ 1
                      have q0 := yv2.2.1.at_ 0
                      have q1 := yv2.2.1.at_ 1
                      have t1 := yv2.2.2.at_ 1
                      go_wp2_with fail
                      refine (HAD.out v2 HBv2.out).mono ?_
                      rintro e v3 ⟨rfl, hq⟩
                      have yv3 := And.intro (yv2.1.below hq yv2.1.lt) (And.intro (yv2.2.1.below hq yv2.2.1.lt) (yv2.2.2.below hq yv2.2.2.lt))
                      have HBv3 := Lib.hid (below_next HBv2.out (Nat.le_refl _) hq)
                      have HNv3 := Lib.hid (below_next HNv2.out (Nat.le_refl _) hq)
                      clear hq p0 p1 q0 q1 t1
                      have p0 := yv3.1.at_ 0
                      have p1 := yv3.1.at_ 1
                      have q0 := yv3.2.1.at_ 0
                      have q1 := yv3.2.1.at_ 1
                      have t1 := yv3.2.2.at_ 1
                      go_wp2_with fail
                      refine (HHD.out v3 HBv3.out).mono ?_
                      rintro e v4 ⟨rfl, hq⟩
                      have yv4 := And.intro (yv3.1.below hq yv3.1.lt) (And.intro (yv3.2.1.below hq yv3.2.1.lt) (yv3.2.2.below hq yv3.2.2.lt))
                      have HBv4 := Lib.hid (below_next HBv3.out (Nat.le_refl _) hq)
                      have HNv4 := Lib.hid (below_next HNv3.out (Nat.le_refl _) hq)
                      clear hq p0 p1 q0 q1 t1
                      have p0 := yv4.1.at_ 0
                      have p1 := yv4.1.at_ 1
                      have q0 := yv4.2.1.at_ 0
                      have q1 := yv4.2.1.at_ 1
                      have t1 := yv4.2.2.at_ 1
                      go_wp2_with fail
                      refine (HRW2.out v4 HBv4.out).mono ?_
                      rintro e v5 ⟨rfl, hq⟩
                      have yv5 := And.intro (yv4.1.below hq yv4.1.lt) (And.intro (yv4.2.1.below hq yv4.2.1.lt) (yv4.2.2.below hq yv4.2.2.lt))
                      have HBv5 := Lib.hid (below_next HBv4.out (Nat.le_refl _) hq)
                      have HNv5 := Lib.hid (below_next HNv4.out (Nat.le_refl _) hq)
                      clear hq p0 p1 q0 q1 t1
                      have p0 := yv5.1.at_ 0
                      have p1 := yv5.1.at_ 1
                      have q0 := yv5.2.1.at_ 0
                      have q1 := yv5.2.1.at_ 1
                      have t1 := yv5.2.2.at_ 1
                      go_wp2_with fail
                      refine (HPV.out v5 HBv5.out).mono ?_
                      rintro e v6 ⟨rfl, hq⟩
                      have yv6 := And.intro (yv5.1.below hq yv5.1.lt) (And.intro (yv5.2.1.below hq yv5.2.1.lt) (yv5.2.2.below hq yv5.2.2.lt))
                      have HBv6 := Lib.hid (below_next HBv5.out (Nat.le_refl _) hq)
                      have HNv6 := Lib.hid (below_next HNv5.out (Nat.le_refl _) hq)
                      clear hq p0 p1 q0 q1 t1
                      go_wp2_with fail
                      go_roundw
                      case rel => exact ⟨j + 1, by omega, by go_num, HNv6.out⟩
                      case measure => simp [intOf]; omega
                  · have HAT2 := Lib.hid (fun (W : World) (_ : Below w4.heap.size w4 W) => attrO_any a.nm W)
                    rw [show isT attrL (byC a.nm.ch) = _ from ha1] at HAT2
                    have HAD := Lib.hid (fun (W : World) (_ : Below w4.heap.size w4 W) => addrO_any a.nm W)
                    rw [show isT addrL (byC a.nm.ch) = _ from ha2] at HAD
                    have HHD := Lib.hid (fun (W : World) (_ : Below w4.heap.size w4 W) => handO_any a.nm W)
                    rw [show isT handL (byC a.nm.ch) = _ from ha3] at HHD
                    have HSF : Hid (∀ W, Below w4.heap.size w4 W → Calls Tryz.prog 39 #[.agg #[.string a.vl.s, .slice a.vl.A a.vl.n a.vl.c]] W fun e w' => e = .returned (.bool true) ∧ Below W.heap.size W w') := fun W h => by
                      have h1 := safeO_any a.vl mx W (HMX.out W (below_next HBW.out (Nat.le_refl _) h)) (HAI.out W h).2 (by have h2 := attR_size HAM.out; have h3 := HBX.out; omega)
                      rw [show safeB (readyL a.vl.ch) = true from hsf] at h1
                      exact h1
                    clear ha1 ha2 ha3 hsf
                    cases rb with
                    | false =>
                      have p0 := yv0.1.at_ 0
                      have p1 := yv0.1.at_ 1
                      have q0 := yv0.2.1.at_ 0
                      have q1 := yv0.2.1.at_ 1
                      have t1 := yv0.2.2.at_ 1
                      go_wp2_with fail
                      refine (HPN.out v0 HBv0.out).mono ?_
                      rintro e v1 ⟨rfl, hq⟩
                      have yv1 := And.intro (yv0.1.below hq yv0.1.lt) (And.intro (yv0.2.1.below hq yv0.2.1.lt) (yv0.2.2.below hq yv0.2.2.lt))
                      have HBv1 := Lib.hid (below_next HBv0.out (Nat.le_refl _) hq)
                      have HNv1 := Lib.hid (below_next HNv0.out (Nat.le_refl _) hq)
                      clear hq p0 p1 q0 q1 t1
                      have p0 := yv1.1.at_ 0
                      have p1 := yv1.1.at_ 1
                      have q0 := yv1.2.1.at_ 0
                      have q1 := yv1.2.1.at_ 1
                      have t1 := yv1.2.2.at_ 1
                      go_wp2_with fail
                      refine (HAT2.out v1 HBv1.out).mono ?_
                      rintro e v2 ⟨rfl, hq⟩
                      have yv2 := And.intro (yv1.1.below hq yv1.1.lt) (And.intro (yv1.2.1.below hq yv1.2.1.lt) (yv1.2.2.below hq yv1.2.2.lt))
                      have HBv2 := Lib.hid (below_next HBv1.out (Nat.le_refl _) hq)
                      have HNv2 := Lib.hid (below_next HNv1.out (Nat.le_refl _) hq)
                      clear hq p0 p1 q0 q1 t1
                      have p0 := yv2.1.at_ 0
                      have p1 := yv2.1.at_ 1
                      have q0 := yv2.2.1.at_ 0
                      have q1 := yv2.2.1.at_ 1
                      have t1 := yv2.2.2.at_ 1
                      go_wp2_with fail
                      refine (HAD.out v2 HBv2.out).mono ?_
                      rintro e v3 ⟨rfl, hq⟩
                      have yv3 := And.intro (yv2.1.below hq yv2.1.lt) (And.intro (yv2.2.1.below hq yv2.2.1.lt) (yv2.2.2.below hq yv2.2.2.lt))
                      have HBv3 := Lib.hid (below_next HBv2.out (Nat.le_refl _) hq)
                      have HNv3 := Lib.hid (below_next HNv2.out (Nat.le_refl _) hq)
                      clear hq p0 p1 q0 q1 t1
                      have p0 := yv3.1.at_ 0
                      have p1 := yv3.1.at_ 1
                      have q0 := yv3.2.1.at_ 0
                      have q1 := yv3.2.1.at_ 1
                      have t1 := yv3.2.2.at_ 1
                      go_wp2_with fail
                      refine (HAD.out v3 HBv3.out).mono ?_
                      rintro e v4 ⟨rfl, hq⟩
                      have yv4 := And.intro (yv3.1.below hq yv3.1.lt) (And.intro (yv3.2.1.below hq yv3.2.1.lt) (yv3.2.2.below hq yv3.2.2.lt))
                      have HBv4 := Lib.hid (below_next HBv3.out (Nat.le_refl _) hq)
                      have HNv4 := Lib.hid (below_next HNv3.out (Nat.le_refl _) hq)
                      clear hq p0 p1 q0 q1 t1
                      have p0 := yv4.1.at_ 0
                      have p1 := yv4.1.at_ 1
                      have q0 := yv4.2.1.at_ 0
                      have q1 := yv4.2.1.at_ 1
                      have t1 := yv4.2.2.at_ 1
                      go_wp2_with fail
                      refine (HSF.out v4 HBv4.out).mono ?_
                      rintro e v5 ⟨rfl, hq⟩
                      have yv5 := And.intro (yv4.1.below hq yv4.1.lt) (And.intro (yv4.2.1.below hq yv4.2.1.lt) (yv4.2.2.below hq yv4.2.2.lt))
                      have HBv5 := Lib.hid (below_next HBv4.out (Nat.le_refl _) hq)
                      have HNv5 := Lib.hid (below_next HNv4.out (Nat.le_refl _) hq)
                      clear hq p0 p1 q0 q1 t1
                      have p0 := yv5.1.at_ 0
                      have p1 := yv5.1.at_ 1
                      have q0 := yv5.2.1.at_ 0
                      have q1 := yv5.2.1.at_ 1
                      have t1 := yv5.2.2.at_ 1
                      go_wp2_with fail
                      refine (HHD.out v5 HBv5.out).mono ?_
                      rintro e v6 ⟨rfl, hq⟩
                      have yv6 := And.intro (yv5.1.below hq yv5.1.lt) (And.intro (yv5.2.1.below hq yv5.2.1.lt) (yv5.2.2.below hq yv5.2.2.lt))
                      have HBv6 := Lib.hid (below_next HBv5.out (Nat.le_refl _) hq)
                      have HNv6 := Lib.hid (below_next HNv5.out (Nat.le_refl _) hq)
                      clear hq p0 p1 q0 q1 t1
                      have p0 := yv6.1.at_ 0
                      have p1 := yv6.1.at_ 1
                      have q0 := yv6.2.1.at_ 0
                      have q1 := yv6.2.1.at_ 1
                      have t1 := yv6.2.2.at_ 1
                      go_wp2_with fail
                      refine (HRW2.out v6 HBv6.out).mono ?_
                      rintro e v7 ⟨rfl, hq⟩
                      have yv7 := And.intro (yv6.1.below hq yv6.1.lt) (And.intro (yv6.2.1.below hq yv6.2.1.lt) (yv6.2.2.below hq yv6.2.2.lt))
                      have HBv7 := Lib.hid (below_next HBv6.out (Nat.le_refl _) hq)
                      have HNv7 := Lib.hid (below_next HNv6.out (Nat.le_refl _) hq)
                      clear hq p0 p1 q0 q1 t1
                      go_wp2_with fail
                      go_roundw
                      case rel => exact ⟨j + 1, by omega, by go_num, HNv7.out⟩
                      case measure => simp [intOf]; omega
                    | true =>
                      have HPV : Hid (∀ W, Below w4.heap.size w4 W → Calls Tryz.prog 36 #[.agg #[.string a.vl.s, .slice a.vl.A a.vl.n a.vl.c]] W fun e w' => e = .returned (.bool true) ∧ Below W.heap.size W w') := fun W h => by
                        have h1 := purO_any a.vl W (HAI.out W h).2
                        rw [show decide (wor a.vl.ch = 0) = true from decide_eq_true (HAR.out.raw rfl)] at h1
                        exact h1
                      have p0 := yv0.1.at_ 0
                      have p1 := yv0.1.at_ 1
                      have q0 := yv0.2.1.at_ 0
                      have q1 := yv0.2.1.at_ 1
                      have t1 := yv0.2.2.at_ 1
                      go_wp2_with fail
                      refine (HPN.out v0 HBv0.out).mono ?_
                      rintro e v1 ⟨rfl, hq⟩
                      have yv1 := And.intro (yv0.1.below hq yv0.1.lt) (And.intro (yv0.2.1.below hq yv0.2.1.lt) (yv0.2.2.below hq yv0.2.2.lt))
                      have HBv1 := Lib.hid (below_next HBv0.out (Nat.le_refl _) hq)
                      have HNv1 := Lib.hid (below_next HNv0.out (Nat.le_refl _) hq)
                      clear hq p0 p1 q0 q1 t1
                      have p0 := yv1.1.at_ 0
                      have p1 := yv1.1.at_ 1
                      have q0 := yv1.2.1.at_ 0
                      have q1 := yv1.2.1.at_ 1
                      have t1 := yv1.2.2.at_ 1
                      go_wp2_with fail
                      refine (HAT2.out v1 HBv1.out).mono ?_
                      rintro e v2 ⟨rfl, hq⟩
                      have yv2 := And.intro (yv1.1.below hq yv1.1.lt) (And.intro (yv1.2.1.below hq yv1.2.1.lt) (yv1.2.2.below hq yv1.2.2.lt))
                      have HBv2 := Lib.hid (below_next HBv1.out (Nat.le_refl _) hq)
                      have HNv2 := Lib.hid (below_next HNv1.out (Nat.le_refl _) hq)
                      clear hq p0 p1 q0 q1 t1
                      have p0 := yv2.1.at_ 0
                      have p1 := yv2.1.at_ 1
                      have q0 := yv2.2.1.at_ 0
                      have q1 := yv2.2.1.at_ 1
                      have t1 := yv2.2.2.at_ 1
                      go_wp2_with fail
                      refine (HAD.out v2 HBv2.out).mono ?_
                      rintro e v3 ⟨rfl, hq⟩
                      have yv3 := And.intro (yv2.1.below hq yv2.1.lt) (And.intro (yv2.2.1.below hq yv2.2.1.lt) (yv2.2.2.below hq yv2.2.2.lt))
                      have HBv3 := Lib.hid (below_next HBv2.out (Nat.le_refl _) hq)
                      have HNv3 := Lib.hid (below_next HNv2.out (Nat.le_refl _) hq)
                      clear hq p0 p1 q0 q1 t1
                      have p0 := yv3.1.at_ 0
                      have p1 := yv3.1.at_ 1
                      have q0 := yv3.2.1.at_ 0
                      have q1 := yv3.2.1.at_ 1
                      have t1 := yv3.2.2.at_ 1
                      go_wp2_with fail
                      refine (HAD.out v3 HBv3.out).mono ?_
                      rintro e v4 ⟨rfl, hq⟩
                      have yv4 := And.intro (yv3.1.below hq yv3.1.lt) (And.intro (yv3.2.1.below hq yv3.2.1.lt) (yv3.2.2.below hq yv3.2.2.lt))
                      have HBv4 := Lib.hid (below_next HBv3.out (Nat.le_refl _) hq)
                      have HNv4 := Lib.hid (below_next HNv3.out (Nat.le_refl _) hq)
                      clear hq p0 p1 q0 q1 t1
                      have p0 := yv4.1.at_ 0
                      have p1 := yv4.1.at_ 1
                      have q0 := yv4.2.1.at_ 0
                      have q1 := yv4.2.1.at_ 1
                      have t1 := yv4.2.2.at_ 1
                      go_wp2_with fail
                      refine (HSF.out v4 HBv4.out).mono ?_
                      rintro e v5 ⟨rfl, hq⟩
                      have yv5 := And.intro (yv4.1.below hq yv4.1.lt) (And.intro (yv4.2.1.below hq yv4.2.1.lt) (yv4.2.2.below hq yv4.2.2.lt))
                      have HBv5 := Lib.hid (below_next HBv4.out (Nat.le_refl _) hq)
                      have HNv5 := Lib.hid (below_next HNv4.out (Nat.le_refl _) hq)
                      clear hq p0 p1 q0 q1 t1
                      have p0 := yv5.1.at_ 0
                      have p1 := yv5.1.at_ 1
                      have q0 := yv5.2.1.at_ 0
                      have q1 := yv5.2.1.at_ 1
                      have t1 := yv5.2.2.at_ 1
                      go_wp2_with fail
                      refine (HHD.out v5 HBv5.out).mono ?_
                      rintro e v6 ⟨rfl, hq⟩
                      have yv6 := And.intro (yv5.1.below hq yv5.1.lt) (And.intro (yv5.2.1.below hq yv5.2.1.lt) (yv5.2.2.below hq yv5.2.2.lt))
                      have HBv6 := Lib.hid (below_next HBv5.out (Nat.le_refl _) hq)
                      have HNv6 := Lib.hid (below_next HNv5.out (Nat.le_refl _) hq)
                      clear hq p0 p1 q0 q1 t1
                      have p0 := yv6.1.at_ 0
                      have p1 := yv6.1.at_ 1
                      have q0 := yv6.2.1.at_ 0
                      have q1 := yv6.2.1.at_ 1
                      have t1 := yv6.2.2.at_ 1
                      go_wp2_with fail
                      refine (HRW2.out v6 HBv6.out).mono ?_
                      rintro e v7 ⟨rfl, hq⟩
                      have yv7 := And.intro (yv6.1.below hq yv6.1.lt) (And.intro (yv6.2.1.below hq yv6.2.1.lt) (yv6.2.2.below hq yv6.2.2.lt))
                      have HBv7 := Lib.hid (below_next HBv6.out (Nat.le_refl _) hq)
                      have HNv7 := Lib.hid (below_next HNv6.out (Nat.le_refl _) hq)
                      clear hq p0 p1 q0 q1 t1
                      have p0 := yv7.1.at_ 0
                      have p1 := yv7.1.at_ 1
                      have q0 := yv7.2.1.at_ 0
                      have q1 := yv7.2.1.at_ 1
                      have t1 := yv7.2.2.at_ 1
                      go_wp2_with fail
                      refine (HPV.out v7 HBv7.out).mono ?_
                      rintro e v8 ⟨rfl, hq⟩
                      have yv8 := And.intro (yv7.1.below hq yv7.1.lt) (And.intro (yv7.2.1.below hq yv7.2.1.lt) (yv7.2.2.below hq yv7.2.2.lt))
                      have HBv8 := Lib.hid (below_next HBv7.out (Nat.le_refl _) hq)
                      have HNv8 := Lib.hid (below_next HNv7.out (Nat.le_refl _) hq)
                      clear hq p0 p1 q0 q1 t1
                      go_wp2_with fail
                      go_roundw
                      case rel => exact ⟨j + 1, by omega, by go_num, HNv8.out⟩
                      case measure => simp [intOf]; omega
                  · have HAT2 := Lib.hid (fun (W : World) (_ : Below w4.heap.size w4 W) => attrO_any a.nm W)
                    rw [show isT attrL (byC a.nm.ch) = _ from ha1] at HAT2
                    have HAD := Lib.hid (fun (W : World) (_ : Below w4.heap.size w4 W) => addrO_any a.nm W)
                    rw [show isT addrL (byC a.nm.ch) = _ from ha2] at HAD
                    have HHD := Lib.hid (fun (W : World) (_ : Below w4.heap.size w4 W) => handO_any a.nm W)
                    rw [show isT handL (byC a.nm.ch) = _ from ha3] at HHD
                    have HPV : Hid (∀ W, Below w4.heap.size w4 W → Calls Tryz.prog 36 #[.agg #[.string a.vl.s, .slice a.vl.A a.vl.n a.vl.c]] W fun e w' => e = .returned (.bool true) ∧ Below W.heap.size W w') := fun W h => by
                      have h1 := purO_any a.vl W (HAI.out W h).2
                      rw [show decide (wor a.vl.ch = 0) = true from decide_eq_true hpv] at h1
                      exact h1
                    clear ha1 ha2 ha3 hpv
                    cases rb with
                    | false =>
                      have p0 := yv0.1.at_ 0
                      have p1 := yv0.1.at_ 1
                      have q0 := yv0.2.1.at_ 0
                      have q1 := yv0.2.1.at_ 1
                      have t1 := yv0.2.2.at_ 1
                      go_wp2_with fail
                      refine (HPN.out v0 HBv0.out).mono ?_
                      rintro e v1 ⟨rfl, hq⟩
                      have yv1 := And.intro (yv0.1.below hq yv0.1.lt) (And.intro (yv0.2.1.below hq yv0.2.1.lt) (yv0.2.2.below hq yv0.2.2.lt))
                      have HBv1 := Lib.hid (below_next HBv0.out (Nat.le_refl _) hq)
                      have HNv1 := Lib.hid (below_next HNv0.out (Nat.le_refl _) hq)
                      clear hq p0 p1 q0 q1 t1
                      have p0 := yv1.1.at_ 0
                      have p1 := yv1.1.at_ 1
                      have q0 := yv1.2.1.at_ 0
                      have q1 := yv1.2.1.at_ 1
                      have t1 := yv1.2.2.at_ 1
                      go_wp2_with fail
                      refine (HAT2.out v1 HBv1.out).mono ?_
                      rintro e v2 ⟨rfl, hq⟩
                      have yv2 := And.intro (yv1.1.below hq yv1.1.lt) (And.intro (yv1.2.1.below hq yv1.2.1.lt) (yv1.2.2.below hq yv1.2.2.lt))
                      have HBv2 := Lib.hid (below_next HBv1.out (Nat.le_refl _) hq)
                      have HNv2 := Lib.hid (below_next HNv1.out (Nat.le_refl _) hq)
                      clear hq p0 p1 q0 q1 t1
                      have p0 := yv2.1.at_ 0
                      have p1 := yv2.1.at_ 1
                      have q0 := yv2.2.1.at_ 0
                      have q1 := yv2.2.1.at_ 1
                      have t1 := yv2.2.2.at_ 1
                      go_wp2_with fail
                      refine (HAD.out v2 HBv2.out).mono ?_
                      rintro e v3 ⟨rfl, hq⟩
                      have yv3 := And.intro (yv2.1.below hq yv2.1.lt) (And.intro (yv2.2.1.below hq yv2.2.1.lt) (yv2.2.2.below hq yv2.2.2.lt))
                      have HBv3 := Lib.hid (below_next HBv2.out (Nat.le_refl _) hq)
                      have HNv3 := Lib.hid (below_next HNv2.out (Nat.le_refl _) hq)
                      clear hq p0 p1 q0 q1 t1
                      have p0 := yv3.1.at_ 0
                      have p1 := yv3.1.at_ 1
                      have q0 := yv3.2.1.at_ 0
                      have q1 := yv3.2.1.at_ 1
                      have t1 := yv3.2.2.at_ 1
                      go_wp2_with fail
                      refine (HHD.out v3 HBv3.out).mono ?_
                      rintro e v4 ⟨rfl, hq⟩
                      have yv4 := And.intro (yv3.1.below hq yv3.1.lt) (And.intro (yv3.2.1.below hq yv3.2.1.lt) (yv3.2.2.below hq yv3.2.2.lt))
                      have HBv4 := Lib.hid (below_next HBv3.out (Nat.le_refl _) hq)
                      have HNv4 := Lib.hid (below_next HNv3.out (Nat.le_refl _) hq)
                      clear hq p0 p1 q0 q1 t1
                      have p0 := yv4.1.at_ 0
                      have p1 := yv4.1.at_ 1
                      have q0 := yv4.2.1.at_ 0
                      have q1 := yv4.2.1.at_ 1
                      have t1 := yv4.2.2.at_ 1
                      go_wp2_with fail
                      refine (HAD.out v4 HBv4.out).mono ?_
                      rintro e v5 ⟨rfl, hq⟩
                      have yv5 := And.intro (yv4.1.below hq yv4.1.lt) (And.intro (yv4.2.1.below hq yv4.2.1.lt) (yv4.2.2.below hq yv4.2.2.lt))
                      have HBv5 := Lib.hid (below_next HBv4.out (Nat.le_refl _) hq)
                      have HNv5 := Lib.hid (below_next HNv4.out (Nat.le_refl _) hq)
                      clear hq p0 p1 q0 q1 t1
                      have p0 := yv5.1.at_ 0
                      have p1 := yv5.1.at_ 1
                      have q0 := yv5.2.1.at_ 0
                      have q1 := yv5.2.1.at_ 1
                      have t1 := yv5.2.2.at_ 1
                      go_wp2_with fail
                      refine (HHD.out v5 HBv5.out).mono ?_
                      rintro e v6 ⟨rfl, hq⟩
                      have yv6 := And.intro (yv5.1.below hq yv5.1.lt) (And.intro (yv5.2.1.below hq yv5.2.1.lt) (yv5.2.2.below hq yv5.2.2.lt))
                      have HBv6 := Lib.hid (below_next HBv5.out (Nat.le_refl _) hq)
                      have HNv6 := Lib.hid (below_next HNv5.out (Nat.le_refl _) hq)
                      clear hq p0 p1 q0 q1 t1
                      have p0 := yv6.1.at_ 0
                      have p1 := yv6.1.at_ 1
                      have q0 := yv6.2.1.at_ 0
                      have q1 := yv6.2.1.at_ 1
                      have t1 := yv6.2.2.at_ 1
                      go_wp2_with fail
                      refine (HPV.out v6 HBv6.out).mono ?_
                      rintro e v7 ⟨rfl, hq⟩
                      have yv7 := And.intro (yv6.1.below hq yv6.1.lt) (And.intro (yv6.2.1.below hq yv6.2.1.lt) (yv6.2.2.below hq yv6.2.2.lt))
                      have HBv7 := Lib.hid (below_next HBv6.out (Nat.le_refl _) hq)
                      have HNv7 := Lib.hid (below_next HNv6.out (Nat.le_refl _) hq)
                      clear hq p0 p1 q0 q1 t1
                      have p0 := yv7.1.at_ 0
                      have p1 := yv7.1.at_ 1
                      have q0 := yv7.2.1.at_ 0
                      have q1 := yv7.2.1.at_ 1
                      have t1 := yv7.2.2.at_ 1
                      go_wp2_with fail
                      refine (HRW2.out v7 HBv7.out).mono ?_
                      rintro e v8 ⟨rfl, hq⟩
                      have yv8 := And.intro (yv7.1.below hq yv7.1.lt) (And.intro (yv7.2.1.below hq yv7.2.1.lt) (yv7.2.2.below hq yv7.2.2.lt))
                      have HBv8 := Lib.hid (below_next HBv7.out (Nat.le_refl _) hq)
                      have HNv8 := Lib.hid (below_next HNv7.out (Nat.le_refl _) hq)
                      clear hq p0 p1 q0 q1 t1
                      go_wp2_with fail
                      go_roundw
                      case rel => exact ⟨j + 1, by omega, by go_num, HNv8.out⟩
                      case measure => simp [intOf]; omega
                    | true =>
                      have p0 := yv0.1.at_ 0
                      have p1 := yv0.1.at_ 1
                      have q0 := yv0.2.1.at_ 0
                      have q1 := yv0.2.1.at_ 1
                      have t1 := yv0.2.2.at_ 1
                      go_wp2_with fail
                      refine (HPN.out v0 HBv0.out).mono ?_
                      rintro e v1 ⟨rfl, hq⟩
                      have yv1 := And.intro (yv0.1.below hq yv0.1.lt) (And.intro (yv0.2.1.below hq yv0.2.1.lt) (yv0.2.2.below hq yv0.2.2.lt))
                      have HBv1 := Lib.hid (below_next HBv0.out (Nat.le_refl _) hq)
                      have HNv1 := Lib.hid (below_next HNv0.out (Nat.le_refl _) hq)
                      clear hq p0 p1 q0 q1 t1
                      have p0 := yv1.1.at_ 0
                      have p1 := yv1.1.at_ 1
                      have q0 := yv1.2.1.at_ 0
                      have q1 := yv1.2.1.at_ 1
                      have t1 := yv1.2.2.at_ 1
                      go_wp2_with fail
                      refine (HAT2.out v1 HBv1.out).mono ?_
                      rintro e v2 ⟨rfl, hq⟩
                      have yv2 := And.intro (yv1.1.below hq yv1.1.lt) (And.intro (yv1.2.1.below hq yv1.2.1.lt) (yv1.2.2.below hq yv1.2.2.lt))
                      have HBv2 := Lib.hid (below_next HBv1.out (Nat.le_refl _) hq)
                      have HNv2 := Lib.hid (below_next HNv1.out (Nat.le_refl _) hq)
                      clear hq p0 p1 q0 q1 t1
                      have p0 := yv2.1.at_ 0
                      have p1 := yv2.1.at_ 1
                      have q0 := yv2.2.1.at_ 0
                      have q1 := yv2.2.1.at_ 1
                      have t1 := yv2.2.2.at_ 1
                      go_wp2_with fail
                      refine (HAD.out v2 HBv2.out).mono ?_
                      rintro e v3 ⟨rfl, hq⟩
                      have yv3 := And.intro (yv2.1.below hq yv2.1.lt) (And.intro (yv2.2.1.below hq yv2.2.1.lt) (yv2.2.2.below hq yv2.2.2.lt))
                      have HBv3 := Lib.hid (below_next HBv2.out (Nat.le_refl _) hq)
                      have HNv3 := Lib.hid (below_next HNv2.out (Nat.le_refl _) hq)
                      clear hq p0 p1 q0 q1 t1
                      have p0 := yv3.1.at_ 0
                      have p1 := yv3.1.at_ 1
                      have q0 := yv3.2.1.at_ 0
                      have q1 := yv3.2.1.at_ 1
                      have t1 := yv3.2.2.at_ 1
                      go_wp2_with fail
                      refine (HHD.out v3 HBv3.out).mono ?_
                      rintro e v4 ⟨rfl, hq⟩
                      have yv4 := And.intro (yv3.1.below hq yv3.1.lt) (And.intro (yv3.2.1.below hq yv3.2.1.lt) (yv3.2.2.below hq yv3.2.2.lt))
                      have HBv4 := Lib.hid (below_next HBv3.out (Nat.le_refl _) hq)
                      have HNv4 := Lib.hid (below_next HNv3.out (Nat.le_refl _) hq)
                      clear hq p0 p1 q0 q1 t1
                      have p0 := yv4.1.at_ 0
                      have p1 := yv4.1.at_ 1
                      have q0 := yv4.2.1.at_ 0
                      have q1 := yv4.2.1.at_ 1
                      have t1 := yv4.2.2.at_ 1
                      go_wp2_with fail
                      refine (HAD.out v4 HBv4.out).mono ?_
                      rintro e v5 ⟨rfl, hq⟩
                      have yv5 := And.intro (yv4.1.below hq yv4.1.lt) (And.intro (yv4.2.1.below hq yv4.2.1.lt) (yv4.2.2.below hq yv4.2.2.lt))
                      have HBv5 := Lib.hid (below_next HBv4.out (Nat.le_refl _) hq)
                      have HNv5 := Lib.hid (below_next HNv4.out (Nat.le_refl _) hq)
                      clear hq p0 p1 q0 q1 t1
                      have p0 := yv5.1.at_ 0
                      have p1 := yv5.1.at_ 1
                      have q0 := yv5.2.1.at_ 0
                      have q1 := yv5.2.1.at_ 1
                      have t1 := yv5.2.2.at_ 1
                      go_wp2_with fail
                      refine (HHD.out v5 HBv5.out).mono ?_
                      rintro e v6 ⟨rfl, hq⟩
                      have yv6 := And.intro (yv5.1.below hq yv5.1.lt) (And.intro (yv5.2.1.below hq yv5.2.1.lt) (yv5.2.2.below hq yv5.2.2.lt))
                      have HBv6 := Lib.hid (below_next HBv5.out (Nat.le_refl _) hq)
                      have HNv6 := Lib.hid (below_next HNv5.out (Nat.le_refl _) hq)
                      clear hq p0 p1 q0 q1 t1
                      have p0 := yv6.1.at_ 0
                      have p1 := yv6.1.at_ 1
                      have q0 := yv6.2.1.at_ 0
                      have q1 := yv6.2.1.at_ 1
                      have t1 := yv6.2.2.at_ 1
                      go_wp2_with fail
                      refine (HPV.out v6 HBv6.out).mono ?_
                      rintro e v7 ⟨rfl, hq⟩
                      have yv7 := And.intro (yv6.1.below hq yv6.1.lt) (And.intro (yv6.2.1.below hq yv6.2.1.lt) (yv6.2.2.below hq yv6.2.2.lt))
                      have HBv7 := Lib.hid (below_next HBv6.out (Nat.le_refl _) hq)
                      have HNv7 := Lib.hid (below_next HNv6.out (Nat.le_refl _) hq)
                      clear hq p0 p1 q0 q1 t1
                      have p0 := yv7.1.at_ 0
                      have p1 := yv7.1.at_ 1
                      have q0 := yv7.2.1.at_ 0
                      have q1 := yv7.2.1.at_ 1
                      have t1 := yv7.2.2.at_ 1
                      go_wp2_with fail
                      refine (HRW2.out v7 HBv7.out).mono ?_
                      rintro e v8 ⟨rfl, hq⟩
                      have yv8 := And.intro (yv7.1.below hq yv7.1.lt) (And.intro (yv7.2.1.below hq yv7.2.1.lt) (yv7.2.2.below hq yv7.2.2.lt))
                      have HBv8 := Lib.hid (below_next HBv7.out (Nat.le_refl _) hq)
                      have HNv8 := Lib.hid (below_next HNv7.out (Nat.le_refl _) hq)
                      clear hq p0 p1 q0 q1 t1
                      have p0 := yv8.1.at_ 0
                      have p1 := yv8.1.at_ 1
                      have q0 := yv8.2.1.at_ 0
                      have q1 := yv8.2.1.at_ 1
                      have t1 := yv8.2.2.at_ 1
                      go_wp2_with fail
                      refine (HPV.out v8 HBv8.out).mono ?_
                      rintro e v9 ⟨rfl, hq⟩
                      have yv9 := And.intro (yv8.1.below hq yv8.1.lt) (And.intro (yv8.2.1.below hq yv8.2.1.lt) (yv8.2.2.below hq yv8.2.2.lt))
                      have HBv9 := Lib.hid (below_next HBv8.out (Nat.le_refl _) hq)
                      have HNv9 := Lib.hid (below_next HNv8.out (Nat.le_refl _) hq)
                      clear hq p0 p1 q0 q1 t1
                      go_wp2_with fail
                      go_roundw
                      case rel => exact ⟨j + 1, by omega, by go_num, HNv9.out⟩
                      case measure => simp [intOf]; omega
              · have hj1 : ¬ (j : Int) < (x.n : Int) := by omega
                have HEN := Lib.hid (HREL.out wv HBV.out)
                clear yv
                go_wp2_with fail
                go_roundw
                case rel => exact HEN.out
                case measure => simp [intOf]; omega
        · have y0 := y4.at_ 0
          clear hrx
          go_wp2_with fail
          go_roundw
          case rel => exact HREL.out _ (Below.refl _ _)
          case measure => simp [intOf]; omega
    · have hk1 : ¬ (k : Int) < (n : Int) := by omega
      go_wp2_with fail
      go_ret
      exact ⟨rfl, HB.out⟩

end Go.Proofs.YtnbdldapmllegaaGreat.mk

namespace Go.Proofs.YtnbdldapmllegaaGreat.mk
open Go.RowKit

set_option maxHeartbeats 2000000 in
set_option maxRecDepth 100000 in
theorem cleanRight_of {mx : Int} (hV : ViewsSays mx) (hA : AliveSays mx) (A : Option Addr) (n c : Nat) (ts : List VT) (w : World) (hm : w.cell? ⟨0, 0, none⟩ = some (.int .i64 mx)) (h : ViewsIn w A n ts) (hbk : bkV (chV ts) ≤ 1048576) :
    Calls Tryz.prog 5 #[.slice A n c] w fun e w' => e = .returned (.bool true) ∧ Below w.heap.size w w' := by
  have HV := Lib.hid hV
  have HA := Lib.hid hA
  have H := Lib.hid h
  have HBK := Lib.hid hbk
  have HMX : Hid (∀ W, Below w.heap.size w W → W.cell? ⟨0, 0, none⟩ = some (.int .i64 mx)) := fun W hb => (hb.cell (block_zero _ _ _ hm)).trans hm
  clear hV hA h hbk hm
  go_enter Tryz.func5, Tryz.ntmps5
  go_wp2_with fail
  refine (HA.out w (HMX.out w (Below.refl _ _))).mono ?_
  rintro e w1 ⟨rfl, hb1⟩
  have HB1 := Lib.hid hb1
  clear hb1
  go_wp2_with fail
  refine (few_any A n c ts w1 (H.out.next HB1.out)).mono ?_
  rintro e w2 ⟨⟨b, rfl⟩, hb2⟩
  have HB2 : Hid (Below w.heap.size w w2) := below_next HB1.out (Nat.le_refl _) hb2
  clear hb2
  cases b with
  | false =>
    go_wp2_with fail
    go_ret
    exact ⟨rfl, HB2.out⟩
  | true =>
    go_wp2_with fail
    refine (HV.out A n c ts w2 (HMX.out w2 HB2.out) (H.out.next HB2.out) (by have := HBK.out; omega)).mono ?_
    rintro e w3 ⟨⟨A3, n3, c3, rfl, hr⟩, hb3⟩
    have HB3 : Hid (Below w.heap.size w w3) := below_next HB2.out (Nat.le_refl _) hb3
    obtain ⟨us, hus, huc⟩ := hr.ins (by have h1 := left_size (chV ts); have h2 := HBK.out; omega)
    have HUS := Lib.hid hus
    have HUC := Lib.hid huc
    clear hb3 hr hus huc
    go_wp2_with fail
    refine (right_any mx (leftV (chV ts)) A3 n3 c3 us false w3 HUC.out (HMX.out w3 HB3.out) HUS.out (left_right _)).mono ?_
    rintro e w4 ⟨rfl, hb4⟩
    have HB4 : Hid (Below w.heap.size w w4) := below_next HB3.out (Nat.le_refl _) hb4
    clear hb4
    go_wp2_with fail
    go_ret
    exact ⟨rfl, HB4.out⟩

set_option maxHeartbeats 2000000 in
set_option maxRecDepth 100000 in
theorem cleanTwice_of {mx : Int} (hV : ViewsSays mx) (hA : AliveSays mx) (A : Option Addr) (n c : Nat) (ts : List VT) (w : World) (hm : w.cell? ⟨0, 0, none⟩ = some (.int .i64 mx)) (h : ViewsIn w A n ts) (hbk : bkV (chV ts) ≤ 1048576) :
    Calls Tryz.prog 4 #[.slice A n c] w fun e w' => e = .returned (.bool true) ∧ Below w.heap.size w w' := by
  have HV := Lib.hid hV
  have HA := Lib.hid hA
  have H := Lib.hid h
  have HBK := Lib.hid hbk
  have HMX : Hid (∀ W, Below w.heap.size w W → W.cell? ⟨0, 0, none⟩ = some (.int .i64 mx)) := fun W hb => (hb.cell (block_zero _ _ _ hm)).trans hm
  clear hV hA h hbk hm
  go_enter Tryz.func4, Tryz.ntmps4
  go_wp2_with fail
  refine (HA.out w (HMX.out w (Below.refl _ _))).mono ?_
  rintro e w1 ⟨rfl, hb1⟩
  have HB1 := Lib.hid hb1
  clear hb1
  go_wp2_with fail
  refine (few_any A n c ts w1 (H.out.next HB1.out)).mono ?_
  rintro e w2 ⟨⟨b, rfl⟩, hb2⟩
  have HB2 : Hid (Below w.heap.size w w2) := below_next HB1.out (Nat.le_refl _) hb2
  clear hb2
  cases b with
  | false =>
    go_wp2_with fail
    go_ret
    exact ⟨rfl, HB2.out⟩
  | true =>
    go_wp2_with fail
    refine (HV.out A n c ts w2 (HMX.out w2 HB2.out) (H.out.next HB2.out) (by have := HBK.out; omega)).mono ?_
    rintro e w3 ⟨⟨A3, n3, c3, rfl, hr⟩, hb3⟩
    have HB3 : Hid (Below w.heap.size w w3) := below_next HB2.out (Nat.le_refl _) hb3
    have hz3 : bkV (leftV (chV ts)) ≤ 3145728 := by have h1 := left_size (chV ts); have h2 := HBK.out; omega
    obtain ⟨us, hus, huc⟩ := hr.ins (by omega)
    have HUS := Lib.hid hus
    have HUC := Lib.hid huc
    have HZ3 := Lib.hid hz3
    clear hb3 hr hus huc hz3
    go_wp2_with fail
    refine (HV.out A3 n3 c3 us w3 (HMX.out w3 HB3.out) HUS.out (by rw [HUC.out]; exact HZ3.out)).mono ?_
    rintro e w4 ⟨⟨A4, n4, c4, rfl, hr⟩, hb4⟩
    have HB4 : Hid (Below w.heap.size w w4) := below_next HB3.out (Nat.le_refl _) hb4
    rw [HUC.out, left_twice] at hr
    obtain ⟨vs, hvs, hvc⟩ := hr.ins (by have := HZ3.out; omega)
    have HVS := Lib.hid hvs
    have HVC := Lib.hid hvc
    have HUS4 := Lib.hid (HUS.out.next hb4)
    have hnn : n4 = n3 := by
      rw [← hvs.len, ← HUS.out.len, ← chV_length, ← chV_length, hvc, HUC.out]
    subst hnn
    clear hb4 hr hvs hvc
    go_wp2_with fail
    refine (views_true (leftV (chV ts)) A4 n4 c4 vs A3 c3 us w4 HVC.out HUC.out HVS.out.lies.lies (HVS.out.all.mono fun _ _ _ => trivial) HVS.out.len HVS.out.small HUS4.out.lies.lies (HUS4.out.all.mono fun _ _ _ => trivial)).mono ?_
    rintro e w5 ⟨rfl, hb5⟩
    have HB5 : Hid (Below w.heap.size w w5) := below_next HB4.out (Nat.le_refl _) hb5
    clear hb5
    go_wp2_with fail
    go_ret
    exact ⟨rfl, HB5.out⟩

end Go.Proofs.YtnbdldapmllegaaGreat.mk
