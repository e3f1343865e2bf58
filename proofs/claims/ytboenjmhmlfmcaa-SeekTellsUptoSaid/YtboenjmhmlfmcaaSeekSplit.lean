/-
  Contracts of seek's cutter, split, Split and Fields.
-/
import Derived.Test.YtboenjmhmlfmcaaSeekCut
import Derived.Lib.ConvBytes
namespace Go.Proofs.Ytboenjmhmlfmcaa.mk
open Go.RowKit

/-- what the cutter tells -/
def CutterPost (s : ByteArray) (v0 : Value) (rr : List (Int × Int)) (w : World) (e : Ending) (w' : World) : Prop :=
  ∃ bv ba, e = .returned (.func (.func 42) #[] #[.pointer (some ⟨bv, 0, none⟩), .pointer (some ⟨ba, 0, none⟩), .pointer (some ⟨w.heap.size, 0, none⟩)]) ∧
    CutSt w' bv ba w.heap.size s v0 rr 0 ∧ w.heap.size < bv ∧ bv < ba ∧ ba < w'.heap.size ∧ Below w.heap.size w w'

set_option maxHeartbeats 1000000 in
set_option maxRecDepth 100000 in
theorem cutter_any (s : ByteArray) (A : Option Addr) (n c : Nat) (rs : List (Int × Int)) (w : World) (hl : Lies w w.heap.size A (runCells rs)) (hn : rs.length = n) (hs : s.size ≤ 4294967296) (hn2 : n ≤ 4294967296) :
    Calls Try.prog 34 #[.agg #[.string s, .slice A n c]] w (CutterPost s (.slice A n c) (taken s.size rs) w) := by
  have HN := Lib.hid hn
  clear hn
  go_enter Try.func34, Try.ntmps34
  go_wp2_with fail
  refine (fix_any s A n c rs _ ((hl.alloc (Nat.le_refl _) _).mono (by simp)) HN.out hs hn2).mono ?_
  rintro e w2 ⟨v, rfl, hown, hb2⟩
  simp only [World.size_alloc] at hown hb2
  have hW0 : Whole w2 w.heap.size 24 #[.string s, .slice A n c] := (Whole.made w _ _).below hb2 (Nat.lt_succ_self _)
  have hbl : Below w.heap.size w w2 := ((Below.refl _ _).alloc (Nat.le_refl _) _).trans (hb2.mono (Nat.le_succ _))
  have hz2 := hb2.size
  simp only [World.size_alloc] at hz2
  obtain ⟨A2, c2, rfl, _, _, hnc2⟩ := own_form hown
  have HLI := Lib.hid (Lies.own hown)
  clear hown hb2
  have fr := fun w' => field_runs s A2 (taken s.size rs).length c2 w'
  generalize hq : taken s.size rs = q at *
  have HQ := Lib.hid hq
  clear hq
  go_wp2_with fail
  go_ret
  refine ⟨w2.heap.size, w2.heap.size + 1, rfl, ⟨Nat.zero_le _, ?_, (hW0.alloc _).alloc _, A2, q.length, c2, (Whole.made w2 _ _).alloc _, by rw [List.drop_zero], hnc2, ?_⟩, by omega, by omega, by simp, (hbl.alloc (by omega) _).alloc (by simp; omega) _⟩
  · rw [lenTo_zero]
    have h := Whole.made (w2.alloc (.cells #[.slice A2 q.length c2] 22)) 3 #[.int .i64 0]
    simp only [World.size_alloc] at h
    exact h
  · rw [List.drop_zero]
    exact (HLI.out.alloc (Nat.le_refl _) _).below (((Below.refl _ _).alloc (by simp) _))

/-- the bytes of some with their origins, as a text -/
def bytesOf (q : List (UInt8 × Int)) : ByteArray := ⟨(q.map (·.1)).toArray⟩
/-- a labelled text in memory of its own is these bytes with their origins -/
def Told (w : World) (base : Nat) (q : List (UInt8 × Int)) (t : LT) : Prop :=
  t.s = bytesOf q ∧ t.rs = comp (q.map (·.2)) ∧ t.rs.length = t.n ∧ w.ownsRow base 50 2 (.slice t.A t.n t.c) t.n (runCells t.rs)
def TellAll (w : World) (base : Nat) (qs : List (List (UInt8 × Int))) (ts : List LT) : Prop :=
  ts.length = qs.length ∧ ∀ (i : Nat) (q : List (UInt8 × Int)) (t : LT), qs[i]? = some q → ts[i]? = some t → Told w base q t
theorem TellAll.nil (w : World) (base : Nat) : TellAll w base [] [] := ⟨rfl, fun i q t h => by simp at h⟩
theorem TellAll.snoc {w : World} {base : Nat} {qs : List (List (UInt8 × Int))} {ts : List LT} {q : List (UInt8 × Int)} {t : LT} (h : TellAll w base qs ts) (ht : Told w base q t) : TellAll w base (qs ++ [q]) (ts ++ [t]) := by
  obtain ⟨h1, h2⟩ := h
  refine ⟨by simp [h1], fun i q' t' hq htt => ?_⟩
  rcases Nat.lt_or_ge i qs.length with hi | hi
  · rw [List.getElem?_append_left hi] at hq
    rw [List.getElem?_append_left (by omega)] at htt
    exact h2 i q' t' hq htt
  · rw [List.getElem?_append_right hi] at hq
    rw [List.getElem?_append_right (by omega), h1] at htt
    rcases Nat.eq_zero_or_pos (i - qs.length) with h0 | h0
    · rw [h0] at hq htt
      simp at hq htt
      subst hq htt
      exact ht
    · rw [List.getElem?_eq_none (by simp; omega)] at hq
      cases hq
theorem TellAll.keep {w w' : World} {base : Nat} {qs : List (List (UInt8 × Int))} {ts : List LT} (h : TellAll w base qs ts) (hk : ∀ g c, base ≤ g → w.heap[g]? = some (.cells c 50 (0, 0)) → w'.heap[g]? = w.heap[g]?) : TellAll w' base qs ts := by
  refine ⟨h.1, fun i q t hq ht => ?_⟩
  obtain ⟨h1, h2, h3, h4⟩ := h.2 i q t hq ht
  refine ⟨h1, h2, h3, own_same h4 fun g hg => ?_⟩
  obtain ⟨cur, hc⟩ := own_kind h4 hg
  exact hk g cur (h4.lt g hg).1 hc
theorem TellAll.below {w w' : World} {base : Nat} {qs : List (List (UInt8 × Int))} {ts : List LT} (h : TellAll w base qs ts) (hb : Below w.heap.size w w') : TellAll w' base qs ts :=
  h.keep fun g _ _ hc => hb.block g (Array.getElem?_eq_some_iff.1 hc).1
theorem TellAll.mono {w : World} {base base' : Nat} {qs : List (List (UInt8 × Int))} {ts : List LT} (h : TellAll w base qs ts) (hb : base' ≤ base) : TellAll w base' qs ts :=
  ⟨h.1, fun i q t hq ht => by obtain ⟨h1, h2, h3, h4⟩ := h.2 i q t hq ht; exact ⟨h1, h2, h3, own_mono h4 hb⟩⟩
theorem Told.mono {w : World} {base base' : Nat} {q : List (UInt8 × Int)} {t : LT} (h : Told w base q t) (hb : base' ≤ base) : Told w base' q t := ⟨h.1, h.2.1, h.2.2.1, own_mono h.2.2.2 hb⟩
theorem ltCells_snoc (ts : List LT) (t : LT) : ltCells (ts ++ [t]) = ltCells ts ++ [.string t.s, .slice t.A t.n t.c] := by simp [ltCells]
theorem str_info : (Try.prog.info? 24).map (fun i => (i.zero, i.size, i.bytes)) = some (some (.agg #[.string ⟨#[]⟩, .slice none 0 0]), 2, 40) := by kernel_rfl

/-- what split tells: the texts, in memory of their own -/
def TellsAll (qs : List (List (UInt8 × Int))) (w : World) (e : Ending) (w' : World) : Prop :=
  ∃ v ts, e = .returned v ∧ w'.ownsRow w.heap.size 24 2 v ts.length (ltCells ts) ∧ TellAll w' w.heap.size qs ts ∧ Below w.heap.size w w'

def SplitRel (p : UInt8 × Int → Bool) (L : List (UInt8 × Int)) (m bv ba bs : Nat) (s : ByteArray) (v0 : Value) (rr : List (Int × Int)) (w0 : World) (v f i : Value) (wr : World) : Prop :=
  ∃ (k kk : Nat) (ts : List LT), k ≤ L.length + 1 ∧ i = .int .i64 (k : Int) ∧ f = .int .i64 (fromAt p L k : Int) ∧ wr.ownsRow w0.heap.size 24 2 v ts.length (ltCells ts) ∧ TellAll wr w0.heap.size (least m (doneTo p L k)) ts ∧
    CutSt wr bv ba bs s v0 rr kk ∧ lenTo rr kk ≤ fromAt p L k ∧ Moved (Two bv ba) w0 wr

/-- a part behind the others -/
theorem split_in {p : UInt8 × Int → Bool} {L : List (UInt8 × Int)} {m bv ba bs k kk : Nat} {s : ByteArray} {v0 v v' u f' : Value} {rr : List (Int × Int)} {w0 w w1 w2 : World} {ts : List LT} {A : Option Addr} {n c : Nat} {ob : Obj} {q : List (UInt8 × Int)}
    (hk : k ≤ L.length) (hb : bv < w0.heap.size ∧ ba < w0.heap.size ∧ bs < w0.heap.size) (hd : doneTo p L (k + 1) = doneTo p L k ++ [q]) (hf : fromAt p L (k + 1) = k + 1) (hq : m ≤ q.length) (hown : w.ownsRow w0.heap.size 24 2 v ts.length (ltCells ts)) (hT : TellAll w w0.heap.size (least m (doneTo p L k)) ts)
    (hu : u = .slice A n c) (hu2 : w1.ownsRow w.heap.size 50 2 u n (runCells (comp (q.map (·.2))))) (hn : (comp (q.map (·.2))).length = n) (hC : CutSt w1 bv ba bs s v0 rr kk) (hkk : lenTo rr kk ≤ k + 1) (hm1 : Moved (Two bv ba) w w1) (hm0 : Moved (Two bv ba) w0 w)
    (hown2 : w2.ownsRow w0.heap.size 24 2 v' (ts.length + 1) (ltCells ts ++ [.string (bytesOf q), u])) (hg : (w1.alloc ob).grownBy w2 v.ownBlock) (hf' : f' = .int .i64 ((k : Int) + 1)) :
    SplitRel p L m bv ba bs s v0 rr w0 v' f' (.int .i64 ((k : Int) + 1)) w2 := by
  subst hu hf'
  have hz := hm0.size
  have hz1 := hm1.size
  have hown1 : w1.ownsRow w0.heap.size 24 2 v ts.length (ltCells ts) := hm1.own hown (fun g hg => by have := (hown.lt g hg).1; rintro (h | h) <;> omega)
  have hT1 : TellAll w1 w0.heap.size (least m (doneTo p L k)) ts := hT.keep fun g cc hgb hc => hm1.block g (Array.getElem?_eq_some_iff.1 hc).1 (by rintro (h | h) <;> omega)
  have hne : ∀ (g : Nat) (c : Array Value), w1.heap[g]? = some (Obj.cells c 50 (0, 0)) → some g ≠ v.ownBlock := by
    intro g c hc e
    obtain ⟨cur, hc'⟩ := own_kind hown1 e.symm
    rw [hc] at hc'
    injection hc' with hc'
    injection hc' with _ h _
    exact absurd h (by decide)
  have hkeep : ∀ (g : Nat) (c : Array Value), w1.heap[g]? = some (Obj.cells c 50 (0, 0)) → w2.heap[g]? = w1.heap[g]? := by
    intro g c hc
    have hlt := (Array.getElem?_eq_some_iff.1 hc).1
    rw [hg.block g (by simp; omega) (hne g c hc), Below.heap_alloc _ _ _ hlt]
  have hold : ∀ (g : Nat), g < w0.heap.size → w2.heap[g]? = w1.heap[g]? := by
    intro g hlt
    rw [hg.block g (by simp; omega) (fun e => by have := (hown.lt g e.symm).1; omega), Below.heap_alloc _ _ _ (by omega)]
  have hm2 : Moved (Two bv ba) w0 w2 := ((hm0.trans hm1).alloc ob).grown hg (fun x hx => (hown.lt x hx).1)
  refine ⟨k + 1, kk, ts ++ [⟨bytesOf q, A, n, c, comp (q.map (·.2))⟩], by omega, by simp, by rw [hf]; simp, ?_, ?_, ?_, by rw [hf]; exact hkk, hm2⟩
  · rw [ltCells_snoc, List.length_append, List.length_singleton]
    exact hown2
  · rw [hd, least_keep hq]
    refine (hT1.keep fun g cc _ hc => hkeep g cc hc).snoc ⟨rfl, rfl, hn, own_mono (own_same hu2 fun g hgv => ?_) (by omega)⟩
    obtain ⟨cur, hc⟩ := own_kind hu2 hgv
    exact hkeep g cur hc
  · obtain ⟨h1, h2, h3, A', n', c', h4, h5, h6, h7⟩ := hC
    refine ⟨h1, h2.same (hold ba hb.2.1), h3.same (hold bs hb.2.2), A', n', c', h4.same (hold bv hb.1), h5, h6, h7.keep fun pp hp => ?_⟩
    have := hold pp.block (by omega)
    unfold World.cell?
    rw [this]

set_option maxHeartbeats 2000000 in
set_option maxRecDepth 100000 in
theorem split_any (F : Nat) (caps : Array Value) (f : UInt8 → Bool) (m : Nat) (s : ByteArray) (A : Option Addr) (n c : Nat) (rs : List (Int × Int)) (w : World) (hl : Lies w w.heap.size A (runCells rs)) (hn : rs.length = n) (hs : s.size ≤ 4294967296) (hn2 : n ≤ 4294967296) (hm : m ≤ 1)
    (hE : ∀ args w', Sem.run Try.prog (callFunc F args) w' = .ok (.enter F args) w')
    (hF : ∀ (b : UInt8) w', Below w.heap.size w w' → Calls Try.prog F (#[.int .u8 b.toNat] ++ caps) w' fun e w'' => e = .returned (.bool (f b)) ∧ w' = w'') :
    Calls Try.prog 22 #[.agg #[.string s, .slice A n c], .func (.func F) #[] caps, .int .i64 m] w (TellsAll (least m (parts (onB f) (chars s.data.toList rs))) w) := by
  obtain ⟨i0, hi, hz0, hz1, hz2⟩ := info_parts str_info
  have HN := Lib.hid hn
  have HF := Lib.hid hF
  have HE := Lib.hid hE
  clear hn hF hE
  have hsl : s.data.toList.length = s.size := by rw [Array.length_toList]; rfl
  have HSL := Lib.hid hsl
  have HLL : Hid ((chars s.data.toList rs).length = s.size) := (chars_length _ _).trans hsl
  have HL1 := Lib.hid (chars_fst s.data.toList rs)
  have HL2 : Hid ((chars s.data.toList rs).map (·.2) = expand (taken s.size rs)) := by show _ = _; rw [chars_snd, hsl]; exact (expand_comp _).symm
  have HGR : Hid (Good (taken s.size rs)) := Good.comp (origins_in _ _)
  have HEX : Hid ((expand (taken s.size rs)).length = s.size) := by show _ = _; unfold taken; rw [expand_comp, origins_length]
  clear hsl
  go_enter Try.func22, Try.ntmps22
  go_wp2_with fail
  refine (cutter_any s A n c rs _ ((hl.alloc (Nat.le_refl _) _).mono (by simp)) HN.out hs hn2).mono ?_
  rintro e w0 ⟨bv, ba, rfl, hC0, hb1, hb2, hb3, hbl0⟩
  simp only [World.size_alloc] at hC0 hb1 hbl0
  have hW0 : Whole w0 w.heap.size 24 #[.string s, .slice A n c] := (Whole.made w _ _).below hbl0 (Nat.lt_succ_self _)
  have hbl : Below w.heap.size w w0 := ((Below.refl _ _).alloc (Nat.le_refl _) _).trans (hbl0.mono (Nat.le_succ _))
  clear hbl0
  have c0 : w0.cell? ⟨w.heap.size, 0, none⟩ = some (.string s) := hW0.at_ 0
  generalize hrr : taken s.size rs = rr at *
  generalize hL : chars s.data.toList rs = L at *
  have HRR := Lib.hid hrr
  have HLL0 := Lib.hid hL
  have HC0 := Lib.hid hC0
  clear hrr hL hC0
  go_wp2_with fail
  obtain ⟨wo, rfl⟩ : ∃ wo : World, wo = w0 := ⟨_, rfl⟩
  go_loopw [7, 9, 17] (SplitRel (onB f) L m bv ba (w.heap.size + 1) s (.slice A n c) rr wo) (fun _ _ i _ => s.size + 1 - (intOf i).toNat)
  case atStart => exact ⟨0, 0, [], Nat.zero_le _, rfl, by rw [fromAt_zero]; rfl, World.ownsRow_nil _ _ _ _, by rw [doneTo_zero]; exact TellAll.nil _ _, HC0.out, by rw [lenTo_zero]; exact Nat.zero_le _, Moved.refl _ _⟩
  case round =>
    obtain ⟨k, kk, ts, hk, rfl, rfl, hown, hT, hC, hkk, hmv⟩ := hrel
    rw [HLL.out] at hk
    have d0 : wr.cell? ⟨w.heap.size, 0, none⟩ = some (.string s) := (hmv.whole hW0 (by rintro (h | h) <;> omega)).at_ 0
    have hws := hmv.size
    by_cases hend : k = s.size + 1
    · subst hend
      have HDE : Hid (doneTo (onB f) L (s.size + 1) = parts (onB f) L) := doneTo_end _ _ (by rw [HLL.out]; omega)
      rw [HDE.out] at hT
      go_wp2_with fail
      go_ret
      exact ⟨_, ts, rfl, own_mono hown (by omega), hT.mono (by omega), (hbl.trans (hmv.below (B := w.heap.size) (by omega) (fun x hx => by rintro (h | h) <;> omega)))⟩
    · have hkN : k ≤ s.size := by omega
      by_cases hlt : k < s.size
      · have hk0 : (0 : Int) ≤ (k : Int) := Int.natCast_nonneg _
        have hk1 : (k : Int) < (s.size : Int) := by omega
        have HSK : Hid (s.data.toList[k]? = some (s[k]'hlt)) := by
          show _ = _
          rw [List.getElem?_eq_getElem (by rw [HSL.out]; exact hlt)]
          rfl
        have HLK : Hid (∃ o, L[k]? = some (s[k]'hlt, o)) := by
          have h := HSK.out
          rw [← HL1.out, List.getElem?_map] at h
          cases hx : L[k]? with
          | none => rw [hx] at h; cases h
          | some y => rw [hx] at h; injection h with h; exact ⟨y.2, by rw [← h]⟩
        go_wp2_with fail
        rw [HE.out]
        refine (HF.out (s[k]'hlt) _ (hbl.trans (hmv.below (B := w.heap.size) (by omega) (fun x hx => by rintro (h | h) <;> omega)))).mono ?_
        rintro e w' ⟨rfl, rfl⟩
        generalize hx : s[k]'hlt = x at *
        clear hx
        obtain ⟨ox, HLK⟩ := HLK.out
        cases hfb : f x with
        | false =>
          obtain ⟨hd, hf1⟩ := step_miss (p := onB f) HLK hfb
          have HDN := Lib.hid hd
          have HFN := Lib.hid hf1
          have HIN : Hid (SplitRel (onB f) L m bv ba (w.heap.size + 1) s (.slice A n c) rr wo u7 (.int .i64 (fromAt (onB f) L k : Int)) (.int .i64 ((k : Int) + 1)) wr) :=
            ⟨k + 1, kk, ts, by rw [HLL.out]; omega, by simp, by rw [HFN.out], hown, by rw [HDN.out]; exact hT, hC, by rw [HFN.out]; exact hkk, hmv⟩
          clear hd hf1 hfb hT hC hown hmv HLK
          go_wp2_with fail
          go_roundw
          case rel => exact HIN.out
          case measure => simp [intOf]; omega
        | true =>
          obtain ⟨hd, hf1⟩ := step_hit (p := onB f) HLK hfb
          have HDN := Lib.hid hd
          have HFN := Lib.hid hf1
          clear hd hf1 hfb HLK
          have hLN : k ≤ L.length := by rw [HLL.out]; exact hkN
          obtain ⟨hfa1, hfa2⟩ := fromAt_le (onB f) L hLN
          have HLEN := Lib.hid hfa2
          have HBQ : Hid ((⟨((s.data.toList.take k).drop (fromAt (onB f) L k)).toArray⟩ : ByteArray) = bytesOf (lastAt (onB f) L k)) := by
            show _ = _
            unfold bytesOf
            rw [lastAt_eq (onB f) L hLN, List.map_drop, List.map_take, HL1.out]
          have HOQ : Hid (((expand rr).take k).drop (fromAt (onB f) L k) = (lastAt (onB f) L k).map (·.2)) := by
            show _ = _
            rw [lastAt_eq (onB f) L hLN, List.map_drop, List.map_take, HL2.out]
          have hdl := doneTo_length (onB f) L k (by omega)
          have htl : ts.length ≤ k := by rw [hT.1]; exact Nat.le_trans (least_length _ _) hdl
          obtain ⟨A4, d4, rfl, _, _, _⟩ := own_form hown
          have HD1 := Lib.hid hLN
          clear hfa2 hdl hLN
          generalize hfr : fromAt (onB f) L k = fr at *
          generalize hq : lastAt (onB f) L k = q at *
          have HFR := Lib.hid hfr
          have HQ := Lib.hid hq
          have HTT := Lib.hid hT
          clear hfr hq hT
          by_cases hmq : (m : Int) ≤ (k : Int) - (fr : Int)
          · go_wp2_with fail
            refine (cutF_any bv ba (w.heap.size + 1) s (.slice A n c) rr kk fr k _ hC ⟨by omega, by omega⟩ HGR.out HEX.out hs hfa1 hkN hkk).mono ?_
            rintro e w1 ⟨v1, kk1, rfl, o1, o2, o3, o4⟩
            rw [HBQ.out]
            rw [HOQ.out] at o1
            obtain ⟨A1, c1, rfl, _, _, _⟩ := own_form o1
            have hown1 := o4.own hown (fun g hg => by have := (hown.lt g hg).1; rintro (h | h) <;> omega)
            have hws1 := o4.size
            have HO1 := Lib.hid o1
            have HO2 := Lib.hid o2
            have HO4 := Lib.hid o4
            have HMV := Lib.hid hmv
            have HOW := Lib.hid hown
            clear o1 o2 o4 hmv hC
            generalize hz : ts.length = z at *
            have HZ := Lib.hid hz
            clear hz
            generalize hcn : (comp (q.map (·.2))).length = cn at *
            have HCN := Lib.hid hcn
            clear hcn
            generalize hbq : bytesOf q = bq at *
            have HBB := Lib.hid hbq
            clear hbq
            go_wp2_with (at_builtin; refine wpList_append_own_at _ rfl _ _ 34 rfl wo.heap.size 24 i0 _ 2 40 Try.underlying34 hi hz0 hz1 hz2 rfl (by decide) (.slice A4 z d4) z _ rfl (hown1.alloc _) ⟨w1.heap.size, 0, none⟩ 1 1 [.string bq, .slice A1 cn c1] rfl rfl (cells_new w1 _ _) (by simp [Value.oneCell']) (by simp only [maxLen]; omega) (by omega) (by simp; omega) ?_)
            intro v' w2 hown2 hgrow _ _
            obtain ⟨A5, d5, rfl, _, _, _⟩ := own_form hown2
            have HIN : Hid (SplitRel (onB f) L m bv ba (w.heap.size + 1) s (.slice A n c) rr wo (.slice A5 (z + 1) d5) (.int .i64 ((k : Int) + 1)) (.int .i64 ((k : Int) + 1)) w2) := by
              refine split_in (q := q) (kk := kk1) (ts := ts) (u := .slice A1 cn c1) HD1.out ⟨by omega, hb3, by omega⟩ HDN.out HFN.out (by rw [HLEN.out]; omega) (by rw [HZ.out]; exact HOW.out) HTT.out rfl HO1.out HCN.out HO2.out (by omega) HO4.out HMV.out (by rw [HZ.out, HBB.out]; exact hown2) hgrow rfl
            clear hgrow hown2 hown1 hown
            go_wp2_with fail
            go_roundw
            case rel => exact HIN.out
            case measure => simp [intOf]; omega
          · have HIN : Hid (SplitRel (onB f) L m bv ba (w.heap.size + 1) s (.slice A n c) rr wo (.slice A4 ts.length d4) (.int .i64 ((k : Int) + 1)) (.int .i64 ((k : Int) + 1)) wr) := by
              refine ⟨k + 1, kk, ts, by have := HD1.out; omega, by simp, by rw [HFN.out]; simp, hown, ?_, hC, by rw [HFN.out]; omega, hmv⟩
              rw [HDN.out, least_drop (by rw [HLEN.out]; omega)]
              exact HTT.out
            clear hC hown hmv
            go_wp2_with fail
            go_roundw
            case rel => exact HIN.out
            case measure => simp [intOf]; omega
      · have HKE := Lib.hid (show k = s.size by omega)
        obtain ⟨hd, hf1⟩ := step_end (onB f) L (HKE.out.trans HLL.out.symm)
        have HDN := Lib.hid hd
        have HFN := Lib.hid hf1
        clear hd hf1
        have hLN : k ≤ L.length := by rw [HLL.out]; exact hkN
        obtain ⟨hfa1, hfa2⟩ := fromAt_le (onB f) L hLN
        have HLEN := Lib.hid hfa2
        have HBQ : Hid ((⟨((s.data.toList.take k).drop (fromAt (onB f) L k)).toArray⟩ : ByteArray) = bytesOf (lastAt (onB f) L k)) := by
          show _ = _
          unfold bytesOf
          rw [lastAt_eq (onB f) L hLN, List.map_drop, List.map_take, HL1.out]
        have HOQ : Hid (((expand rr).take k).drop (fromAt (onB f) L k) = (lastAt (onB f) L k).map (·.2)) := by
          show _ = _
          rw [lastAt_eq (onB f) L hLN, List.map_drop, List.map_take, HL2.out]
        have hdl := doneTo_length (onB f) L k (by omega)
        have htl : ts.length ≤ k := by rw [hT.1]; exact Nat.le_trans (least_length _ _) hdl
        obtain ⟨A4, d4, rfl, _, _, _⟩ := own_form hown
        have HD1 := Lib.hid hLN
        clear hfa2 hdl hLN
        generalize hfr : fromAt (onB f) L k = fr at *
        generalize hq : lastAt (onB f) L k = q at *
        have HFR := Lib.hid hfr
        have HQ := Lib.hid hq
        have HTT := Lib.hid hT
        clear hfr hq hT
        by_cases hmq : (m : Int) ≤ (k : Int) - (fr : Int)
        · go_wp2_with fail
          refine (cutF_any bv ba (w.heap.size + 1) s (.slice A n c) rr kk fr k _ hC ⟨by omega, by omega⟩ HGR.out HEX.out hs hfa1 hkN hkk).mono ?_
          rintro e w1 ⟨v1, kk1, rfl, o1, o2, o3, o4⟩
          rw [HBQ.out]
          rw [HOQ.out] at o1
          obtain ⟨A1, c1, rfl, _, _, _⟩ := own_form o1
          have hown1 := o4.own hown (fun g hg => by have := (hown.lt g hg).1; rintro (h | h) <;> omega)
          have hws1 := o4.size
          have HO1 := Lib.hid o1
          have HO2 := Lib.hid o2
          have HO4 := Lib.hid o4
          have HMV := Lib.hid hmv
          have HOW := Lib.hid hown
          clear o1 o2 o4 hmv hC
          generalize hz : ts.length = z at *
          have HZ := Lib.hid hz
          clear hz
          generalize hcn : (comp (q.map (·.2))).length = cn at *
          have HCN := Lib.hid hcn
          clear hcn
          generalize hbq : bytesOf q = bq at *
          have HBB := Lib.hid hbq
          clear hbq
          go_wp2_with (at_builtin; refine wpList_append_own_at _ rfl _ _ 34 rfl wo.heap.size 24 i0 _ 2 40 Try.underlying34 hi hz0 hz1 hz2 rfl (by decide) (.slice A4 z d4) z _ rfl (hown1.alloc _) ⟨w1.heap.size, 0, none⟩ 1 1 [.string bq, .slice A1 cn c1] rfl rfl (cells_new w1 _ _) (by simp [Value.oneCell']) (by simp only [maxLen]; omega) (by omega) (by simp; omega) ?_)
          intro v' w2 hown2 hgrow _ _
          obtain ⟨A5, d5, rfl, _, _, _⟩ := own_form hown2
          have HIN : Hid (SplitRel (onB f) L m bv ba (w.heap.size + 1) s (.slice A n c) rr wo (.slice A5 (z + 1) d5) (.int .i64 ((k : Int) + 1)) (.int .i64 ((k : Int) + 1)) w2) := by
            refine split_in (q := q) (kk := kk1) (ts := ts) (u := .slice A1 cn c1) HD1.out ⟨by omega, hb3, by omega⟩ HDN.out HFN.out (by rw [HLEN.out]; omega) (by rw [HZ.out]; exact HOW.out) HTT.out rfl HO1.out HCN.out HO2.out (by omega) HO4.out HMV.out (by rw [HZ.out, HBB.out]; exact hown2) hgrow rfl
          clear hgrow hown2 hown1 hown
          go_wp2_with fail
          go_roundw
          case rel => exact HIN.out
          case measure => simp [intOf]; omega
        · have HIN : Hid (SplitRel (onB f) L m bv ba (w.heap.size + 1) s (.slice A n c) rr wo (.slice A4 ts.length d4) (.int .i64 ((k : Int) + 1)) (.int .i64 ((k : Int) + 1)) wr) := by
            refine ⟨k + 1, kk, ts, by have := HD1.out; omega, by simp, by rw [HFN.out]; simp, hown, ?_, hC, by rw [HFN.out]; omega, hmv⟩
            rw [HDN.out, least_drop (by rw [HLEN.out]; omega)]
            exact HTT.out
          clear hC hown hmv
          go_wp2_with fail
          go_roundw
          case rel => exact HIN.out
          case measure => simp [intOf]; omega

end Go.Proofs.Ytboenjmhmlfmcaa.mk
