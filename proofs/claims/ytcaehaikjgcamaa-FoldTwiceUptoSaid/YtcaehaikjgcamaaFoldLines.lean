/-
  The contract of fold's Lines.
-/
import Derived.Test.YtcaehaikjgcamaaFoldReplace
namespace Go.Proofs.Ytcaehaikjgcamaa.mk
open Go.RowKit

set_option maxHeartbeats 1000000 in
theorem hasPrefix2_any (t p : ByteArray) (w : World) :
    Calls Try.prog 47 #[.string t, .string p] w fun e w' => e = .returned (.bool (t.data.toList.take p.size == p.data.toList)) ∧ w = w' := by
  have htl : t.data.toList.length = t.size := by rw [Array.length_toList]; rfl
  have hpl : p.data.toList.length = p.size := by rw [Array.length_toList]; rfl
  by_cases h : p.size ≤ t.size
  · have h1 : (p.size : Int) ≤ (t.size : Int) := by omega
    have h0 : (0 : Int) ≤ (p.size : Int) := Int.natCast_nonneg _
    have HX : Hid ((t.extract 0 p.size).toList = t.data.toList.take p.size) := by
      show _ = _
      rw [ByteArray.toList_eq, ByteArray.data_extract, Array.toList_extract, List.extract_eq_take_drop]
      simp
    have HP : Hid (p.toList = p.data.toList) := ByteArray.toList_eq p
    clear htl hpl
    go_enter Try.func47, Try.ntmps47
    go_wp2_with fail
    all_goals
      go_ret
      refine ⟨ret_bool ?_, rfl⟩
      first | rw [HX.out, HP.out] | simp [HX.out, HP.out]
  · have h1 : ¬ (p.size : Int) ≤ (t.size : Int) := by omega
    have HF : Hid ((t.data.toList.take p.size == p.data.toList) = false) := by
      show _ = _
      rw [beq_eq_false_iff_ne]
      intro e
      have := congrArg List.length e
      rw [List.length_take, htl, hpl] at this
      omega
    clear htl hpl
    go_enter Try.func47, Try.ntmps47
    go_wp2_with fail
    all_goals
      go_ret
      refine ⟨ret_bool ?_, rfl⟩
      rw [HF.out]

set_option maxHeartbeats 400000 in
theorem hasPrefix_any (t p : ByteArray) (w : World) :
    Calls Try.prog 35 #[.string t, .string p] w fun e w' => e = .returned (.bool (t.data.toList.take p.size == p.data.toList)) ∧ w = w' := by
  go_enter Try.func35, Try.ntmps35
  go_wp2_with fail
  refine (hasPrefix2_any t p _).mono ?_
  rintro e w' ⟨rfl, rfl⟩
  go_wp2
  go_ret
  exact ⟨rfl, rfl⟩

/-- does a return stand at k, with a line feed behind it? -/
def crlf (l : List UInt8) (k : Nat) : Bool := (l.drop k).take 2 == [13, 10]
/-- a line feed for a return -/
def lfB (b : UInt8) : UInt8 := if b = 13 then 10 else b

theorem ba_tail3 (s : ByteArray) (i : Nat) : (s.extract i s.size).data.toList = s.data.toList.drop i := by
  rw [ByteArray.data_extract, Array.toList_extract, List.extract_eq_take_drop]
  refine List.take_of_length_le ?_
  rw [List.length_drop, Array.length_toList]
  exact Nat.le_refl _

def LinesPost (s : ByteArray) (k : Nat) (b : UInt8) (o a : Int) (bA : Nat) (w : World) (e : Ending) (w' : World) : Prop :=
  (crlf s.data.toList k = true ∧ e = .returned (.tuple #[.string ⟨#[]⟩, .int .i64 o]) ∧ Whole w' bA 3 #[.int .i64 o] ∧ Moved (fun g => g = bA) w w') ∨
  (crlf s.data.toList k = false ∧ (∃ part : ByteArray, part.data.toList = [lfB b] ∧ e = .returned (.tuple #[.string part, .int .i64 (max a o)])) ∧ Whole w' bA 3 #[.int .i64 0] ∧ Moved (fun g => g = bA) w w')

set_option maxHeartbeats 1000000 in
set_option maxRecDepth 100000 in
theorem linesF_any (bS bA : Nat) (s : ByteArray) (v : Value) (k : Nat) (o a : Int) (hk : k < s.size) (hs : s.size ≤ 4294967296) (w : World) (y0 : Whole w bS 24 #[.string s, v]) (y1 : Whole w bA 3 #[.int .i64 a]) (hne : bS ≠ bA) :
    Calls Try.prog 34 #[.int .i64 (k : Int), .int .i64 o, .pointer (some ⟨bS, 0, none⟩), .pointer (some ⟨bA, 0, none⟩)] w (LinesPost s k (s[k]'hk) o a bA w) := by
  have hk0 : (0 : Int) ≤ (k : Int) := Int.natCast_nonneg _
  have hk1 : (k : Int) < (s.size : Int) := by omega
  have hk3 : (k : Int) ≤ (s.size : Int) := by omega
  have hk2 : (k : Int) + 1 ≤ (s.size : Int) := by omega
  have c0 : w.cell? ⟨bS, 0, none⟩ = some (.string s) := y0.at_ 0
  have c1 : w.cell? ⟨bA, 0, none⟩ = some (.int .i64 a) := y1.at_ 0
  have f1 := y1.free 0
  have HTL : Hid ((s.extract k s.size).data.toList = s.data.toList.drop k) := ba_tail3 s k
  go_enter Try.func34, Try.ntmps34
  go_wp2_with fail
  refine (hasPrefix_any (s.extract k s.size) ⟨#[13, 10]⟩ _).mono ?_
  rw [HTL.out]
  rintro e w' ⟨rfl, rfl⟩
  have HC : Hid (crlf s.data.toList k = (List.take (ByteArray.mk #[13, 10]).size (s.data.toList.drop k) == (ByteArray.mk #[13, 10]).data.toList)) := rfl
  rw [← HC.out]
  have hmv : ∀ u, Moved (fun g => g = bA) w (w.setCell ⟨bA, 0, none⟩ u) := fun u => Moved.setCell (S := fun g => g = bA) (Moved.refl _ _) (p := ⟨bA, 0, none⟩) rfl u
  have HMV := Lib.hid hmv
  have HY1 := Lib.hid y1
  clear hmv
  cases hc : crlf s.data.toList k with
  | true =>
    have HCC := Lib.hid hc
    clear hc
    go_wp2_with fail
    go_ret2
    exact .inl ⟨HCC.out, rfl, HY1.out.put 0 _, HMV.out _⟩
  | false =>
    have HCC := Lib.hid hc
    clear hc
    by_cases hb : s[k]'hk = 13
    · have hb1 : (((s[k]'hk).toNat : Int) == 13) = true := by rw [hb]; rfl
      have HL : Hid (lfB (s[k]'hk) = 10) := by show _ = _; unfold lfB; rw [if_pos hb]
      clear hb
      go_wp2_with fail
      all_goals
        go_ret2
        exact .inr ⟨HCC.out, ⟨⟨#[10]⟩, by rw [HL.out], rfl⟩, HY1.out.put 0 _, HMV.out _⟩
    · have hb1 : (((s[k]'hk).toNat : Int) == 13) = false := by
        rw [beq_eq_false_iff_ne]
        intro e
        apply hb
        apply UInt8.toNat_inj.1
        show _ = 13
        omega
      have HL : Hid (lfB (s[k]'hk) = s[k]'hk) := by show _ = _; unfold lfB; rw [if_neg hb]
      have HO := Lib.hid (one_byte s k hk)
      clear hb
      go_wp2_with fail
      all_goals
        go_ret2
        exact .inr ⟨HCC.out, ⟨_, by rw [HL.out]; exact HO.out, rfl⟩, HY1.out.put 0 _, HMV.out _⟩

/-- each line's end as one byte, of the worst origin of what it was -/
def linesR : List (UInt8 × Int) → List (UInt8 × Int)
  | [] => []
  | [(b, o)] => [(lfB b, o)]
  | (b, o) :: (c, p) :: t => if b = 13 ∧ c = 10 then (10, max o p) :: linesR t else (lfB b, o) :: linesR ((c, p) :: t)

theorem crlf_iff (L : List (UInt8 × Int)) (k : Nat) : crlf (L.map (·.1)) k = true ↔ ∃ o p t, L.drop k = (13, o) :: (10, p) :: t := by
  unfold crlf
  rw [← List.map_drop, beq_iff_eq]
  generalize L.drop k = M
  constructor
  · intro h
    match M, h with
    | [], h => simp at h
    | [x], h => simp at h
    | (b, o) :: (c, p) :: t, h =>
      simp at h
      obtain ⟨rfl, rfl⟩ := h
      exact ⟨o, p, t, rfl⟩
  · rintro ⟨o, p, t, rfl⟩
    simp
theorem linesR_crlf (o p : Int) (t : List (UInt8 × Int)) : linesR ((13, o) :: (10, p) :: t) = (10, max o p) :: linesR t := by
  rw [linesR, if_pos ⟨rfl, rfl⟩]
theorem linesR_other {b : UInt8} {o : Int} {t : List (UInt8 × Int)} (h : ¬ ∃ p t', b = 13 ∧ t = (10, p) :: t') : linesR ((b, o) :: t) = (lfB b, o) :: linesR t := by
  match t, h with
  | [], _ => rw [linesR, linesR]
  | (c, p) :: t, h => rw [linesR, if_neg (fun e => h ⟨p, t, e.1, by rw [e.2]⟩)]

/-- the origin of a return that waits for its line feed -/
def pend (L : List (UInt8 × Int)) : Nat → Option Int
  | 0 => none
  | k + 1 => if crlf (L.map (·.1)) k then some (L.getD k (0, 0)).2 else none
/-- what is told of the first k bytes -/
def lo (L : List (UInt8 × Int)) : Nat → List (UInt8 × Int)
  | 0 => []
  | k + 1 => lo L k ++ if crlf (L.map (·.1)) k then [] else [(lfB (L.getD k (0, 0)).1, max ((pend L k).getD 0) (L.getD k (0, 0)).2)]
def restR (L : List (UInt8 × Int)) (k : Nat) : List (UInt8 × Int) :=
  match pend L k with
  | none => L.drop k
  | some a => (13, a) :: L.drop k
theorem pend_some {L : List (UInt8 × Int)} {k : Nat} {a : Int} (h : pend L k = some a) : ∃ p t, L.drop k = (10, p) :: t := by
  cases k with
  | zero => cases h
  | succ k =>
    rw [pend] at h
    split at h
    · rename_i hc
      obtain ⟨o, p, t, e⟩ := (crlf_iff L k).1 hc
      refine ⟨p, t, ?_⟩
      rw [← List.drop_drop, e]
      rfl
    · cases h
theorem lo_rest (L : List (UInt8 × Int)) (hin : ∀ o ∈ L.map (·.2), 0 ≤ o) (k : Nat) (hk : k ≤ L.length) : linesR L = lo L k ++ linesR (restR L k) := by
  induction k with
  | zero => rfl
  | succ k ih =>
    rw [ih (by omega)]
    have hk' : k < L.length := by omega
    have hd : L.drop k = L[k] :: L.drop (k + 1) := List.drop_eq_getElem_cons hk'
    have hg : L.getD k (0, 0) = L[k] := by simp [List.getD, List.getElem?_eq_getElem hk']
    have ho : 0 ≤ L[k].2 := hin _ (List.mem_map.2 ⟨L[k], List.getElem_mem hk', rfl⟩)
    cases hc : crlf (L.map (·.1)) k with
    | true =>
      obtain ⟨o, p, t, e⟩ := (crlf_iff L k).1 hc
      have e1 : L[k] = (13, o) := by rw [hd] at e; injection e
      have hp : pend L k = none := by
        cases hp : pend L k with
        | none => rfl
        | some a =>
          obtain ⟨p', t', e'⟩ := pend_some hp
          rw [hd, e1] at e'
          injection e' with e' _
          injection e' with e' _
          exact absurd e' (by decide)
      have hl : lo L (k + 1) = lo L k := by rw [lo, hc]; simp
      have hr : restR L (k + 1) = restR L k := by
        unfold restR
        rw [hp, pend, hc, if_pos rfl, hg]
        show (13, L[k].2) :: L.drop (k + 1) = L.drop k
        rw [hd, e1]
      rw [hl, hr]
    | false =>
      have hn : ¬ ∃ o p t, L.drop k = (13, o) :: (10, p) :: t := by rw [← crlf_iff, hc]; simp
      have hl : lo L (k + 1) = lo L k ++ [(lfB L[k].1, max ((pend L k).getD 0) L[k].2)] := by rw [lo, hc, hg]; simp
      have hr : restR L (k + 1) = L.drop (k + 1) := by unfold restR; rw [pend, hc]; simp
      rw [hl, hr, List.append_assoc]
      congr 1
      unfold restR
      cases hp : pend L k with
      | none =>
        show linesR (L.drop k) = [(lfB L[k].1, max 0 L[k].2)] ++ linesR (L.drop (k + 1))
        rw [hd, show max 0 L[k].2 = L[k].2 by omega]
        refine linesR_other ?_
        rintro ⟨p, t', e1, e2⟩
        exact hn ⟨L[k].2, p, t', by rw [hd, e2]; congr 1; exact Prod.ext e1 rfl⟩
      | some a =>
        obtain ⟨p, t', e'⟩ := pend_some hp
        rw [hd] at e'
        injection e' with e1 e2
        show linesR ((13, a) :: L.drop k) = [(lfB L[k].1, max a L[k].2)] ++ linesR (L.drop (k + 1))
        rw [hd, e1, linesR_crlf]
        rfl
theorem lo_all (L : List (UInt8 × Int)) (hin : ∀ o ∈ L.map (·.2), 0 ≤ o) : lo L L.length = linesR L := by
  rw [lo_rest L hin L.length (Nat.le_refl _)]
  have : restR L L.length = [] := by
    unfold restR
    cases hp : pend L L.length with
    | none => simp
    | some a =>
      obtain ⟨p, t', e'⟩ := pend_some hp
      rw [List.drop_of_length_le (Nat.le_refl _)] at e'
      cases e'
  rw [this, linesR, List.append_nil]
theorem lo_length (L : List (UInt8 × Int)) (k : Nat) : (lo L k).length ≤ k := by
  induction k with
  | zero => exact Nat.le_refl _
  | succ k ih =>
    rw [lo, List.length_append]
    have : (if crlf (L.map (·.1)) k then [] else [(lfB (L.getD k (0, 0)).1, max ((pend L k).getD 0) (L.getD k (0, 0)).2)]).length ≤ 1 := by split <;> simp
    omega

set_option maxHeartbeats 1000000 in
set_option maxRecDepth 100000 in
theorem lines_any (s : ByteArray) (A : Option Addr) (n c : Nat) (rs : List (Int × Int)) (w : World) (hl : Lies w w.heap.size A (runCells rs)) (hn : rs.length = n) (hs : s.size ≤ 4294967296) (hn2 : n ≤ 4294967296) :
    Calls Try.prog 20 #[.agg #[.string s, .slice A n c]] w (Tells ⟨((linesR (chars s.data.toList rs)).map (·.1)).toArray⟩ (comp ((linesR (chars s.data.toList rs)).map (·.2))) w) := by
  have HN := Lib.hid hn
  clear hn
  have hsl : s.data.toList.length = s.size := by rw [Array.length_toList]; rfl
  have HSL := Lib.hid hsl
  clear hsl
  go_enter Try.func20, Try.ntmps20
  go_wp2_with fail
  generalize hwE : ((w.alloc (.cells #[.string s, .slice A n c] 24)).alloc (.cells #[.string ⟨#[]⟩, .slice none 0 0] 24)).alloc (.cells #[.int .i64 0] 3) = wE
  have y0 : Whole wE w.heap.size 24 #[.string s, .slice A n c] := by rw [← hwE]; exact ((Whole.made w _ _).alloc _).alloc _
  have y3 : Whole wE (w.heap.size + 1) 24 #[.string ⟨#[]⟩, .slice none 0 0] := by
    rw [← hwE]
    have h := (Whole.made (w.alloc (.cells #[.string s, .slice A n c] 24)) 24 #[.string ⟨#[]⟩, .slice none 0 0]).alloc (.cells #[.int .i64 0] 3)
    simp only [World.size_alloc] at h
    exact h
  have y1 : Whole wE (w.heap.size + 1 + 1) 3 #[.int .i64 0] := by
    rw [← hwE]
    have h := Whole.made ((w.alloc (.cells #[.string s, .slice A n c] 24)).alloc (.cells #[.string ⟨#[]⟩, .slice none 0 0] 24)) 3 #[.int .i64 0]
    simp only [World.size_alloc] at h
    exact h
  have hzE : wE.heap.size = w.heap.size + 3 := by rw [← hwE]; simp
  have hbE : Below w.heap.size w wE := by rw [← hwE]; exact (((Below.refl _ _).alloc (Nat.le_refl _) _).alloc (by simp) _).alloc (by simp; omega) _
  have hlE : Lies wE wE.heap.size A (runCells rs) := hl.next hbE (Nat.le_refl _)
  clear hwE
  have HLN : Hid ((chars s.data.toList rs).length = s.size) := by show _ = _; rw [chars_length, HSL.out]
  have HLF : Hid ((chars s.data.toList rs).map (·.1) = s.data.toList) := chars_fst _ _
  have HLA : Hid (lo (chars s.data.toList rs) s.size = linesR (chars s.data.toList rs)) := by
    have h := lo_all (chars s.data.toList rs) (fun o ho => by rw [chars_snd] at ho; exact (origins_in _ _ o ho).1)
    rw [HLN.out] at h
    exact h
  refine (rewrite_any 34 #[.pointer (some ⟨w.heap.size, 0, none⟩), .pointer (some ⟨w.heap.size + 1 + 1, 0, none⟩)] (fun g => g = w.heap.size + 1 + 1)
    (fun k w' => Whole w' w.heap.size 24 #[.string s, .slice A n c] ∧ Whole w' (w.heap.size + 1 + 1) 3 #[.int .i64 ((pend (chars s.data.toList rs) k).getD 0)] ∧ Kept (fun g => g = w.heap.size + 1 + 1) wE.heap.size wE w')
    (lo (chars s.data.toList rs)) s A n c rs wE hlE HN.out hs hn2 (fun _ _ => rfl) (fun g h => by omega)
    (fun k w' w'' h1 h2 => ⟨h1.1.below h2 (by omega), h1.2.1.below h2 (by omega), h1.2.2.below h2⟩) ?_ rfl ⟨y0, y1, Kept.refl _ _ _⟩ ?_).mono ?_
  · rintro k b o w' hL ⟨hI1, hI2, hI3⟩ hN'
    have hk : k < s.size := by rw [← HLN.out]; exact (List.getElem?_eq_some_iff.1 hL).1
    have hb : s[k]'hk = b := by
      have h2 : ((chars s.data.toList rs).map (·.1))[k]? = some b := by rw [List.getElem?_map, hL]; rfl
      rw [HLF.out, List.getElem?_eq_getElem (by rw [HSL.out]; exact hk)] at h2
      injection h2
    have hg : (chars s.data.toList rs).getD k (0, 0) = (b, o) := by simp [List.getD, hL]
    refine (linesF_any w.heap.size (w.heap.size + 1 + 1) s (.slice A n c) k o ((pend (chars s.data.toList rs) k).getD 0) hk hs w' hI1 hI2 (by omega)).mono ?_
    rintro e w'' (⟨hc, rfl, hW, hm⟩ | ⟨hc, ⟨part, hp, rfl⟩, hW, hm⟩)
    · have hz := hm.size
      rw [← HLF.out] at hc
      refine ⟨⟨#[]⟩, o, rfl, ?_, ⟨hm.whole hI1 (by omega), ?_, hI3.moved hm hN'⟩, hm⟩
      · rw [lo, hc]; simp
      · rw [pend, hc, if_pos rfl, hg]; exact hW
    · have hz := hm.size
      rw [← HLF.out] at hc
      refine ⟨part, _, rfl, ?_, ⟨hm.whole hI1 (by omega), ?_, hI3.moved hm hN'⟩, hm⟩
      · rw [lo, hc, hp, hg, hb]; simp
      · rw [pend, hc]; exact hW
  · intro k hk
    have := lo_length (chars s.data.toList rs) k
    omega
  rw [HLA.out]
  generalize hT : linesR (chars s.data.toList rs) = T at *
  generalize hq : comp (T.map (·.2)) = q at *
  generalize hst : T.map (·.1) = st at *
  have HT := Lib.hid hT
  have HQ := Lib.hid hq
  have HS := Lib.hid hst
  clear hT hq hst
  rintro e w2 ⟨v, rfl, hown, hmv, _⟩
  rw [HQ.out] at hown
  rw [HS.out]
  obtain ⟨A2, c2, rfl, _, _, _⟩ := own_form hown
  have hW := hmv.whole y3 (by omega)
  have f0 := hW.free 0
  have f1 := hW.free 1
  have d0 : w2.cell? ⟨w.heap.size + 1, 0, none⟩ = some (.string ⟨#[]⟩) := hW.at_ 0
  have d1 : w2.cell? ⟨w.heap.size + 1, 1, none⟩ = some (.slice none 0 0) := hW.at_ 1
  have hb2 : Below w.heap.size w w2 := hbE.trans (hmv.below (by omega) (fun g h1 h2 => by omega))
  have HO := Lib.hid hown
  clear hown hmv
  go_wp2
  refine bodyPost_ret (v := .agg #[.string ⟨st.toArray⟩, .slice A2 q.length c2]) ?_ rfl ?_
  · simp [results, Try.results20, go_sem, d0, d1]
  · rw [HT.out, HQ.out, HS.out]
    exact tells_end (g := w.heap.size + 1) (by omega) (own_mono HO.out (by omega)) hb2

end Go.Proofs.Ytcaehaikjgcamaa.mk
