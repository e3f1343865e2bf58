/-
  The reference's Tokens. (Written by gen_tok_rtok.py.)
-/
import Derived.Test.YtdiifkmcbnhliaaGreatJoinAQ
import Derived.Test.YtdiifkmcbnhliaaGreatJoinAI
import Derived.Test.YtdiifkmcbnhliaaGreatJoinAA
import Derived.Test.YtdiifkmcbnhliaaGreatJoinAP
import Derived.Test.YtdiifkmcbnhliaaGreatJoinH
import Derived.Deep.DeepCutAuto
import Derived.Deep.RegionHeld3
import Derived.Test.YtdiifkmcbnhliaaGreatJoinAN
namespace Go.Proofs.YtdiifkmcbnhliaaGreat.mk
open Go.RowKit

/-- the tag that bytes begin with, and how many they are; no tag and none -/
def tagR (L : Ch) : PTok × Nat := (tagP L).getD (⟨0, [], [], false, []⟩, 0)
/-- a token of the reference is told, in memory of its own -/
def TellsRT (L : Ch) (w : World) (e : Ending) (w' : World) : Prop :=
  ∃ t : RT, e = .returned (.tuple #[.agg #[.int .i64 (t.kind : Int), .slice t.nm.A t.nm.n t.nm.c, .slice t.aA t.an t.ac, .bool t.close, .slice t.tx.A t.tx.n t.tx.c], .int .i64 ((tagR L).2 : Int)]) ∧ Hid (t.pt = (tagR L).1 ∧ t.ok w' w.heap.size ∧ t.nm.own w' w.heap.size ∧ t.tx.own w' w.heap.size) ∧ Below w.heap.size w w'
theorem tagP_of {L : Ch} {f : Nat} {b : UInt8 × Int} {o0 : Int} (h0 : L[0]? = some (60, o0)) (hF : fromT L = f) (hb : L[f]? = some b) :
    tagP L = if letB b.1 = true then (match runT L (4 * L.length + 9) (f + nameT (L.drop f)) ⟨0, [], [], []⟩ with
      | none => none
      | some (j, s) => some (⟨f, lowL ((L.drop f).take (nameT (L.drop f))), if f = 1 then doneT s.al (s.nm, s.vl) else [], decide (f = 1) && ((L[j - 1]?).map (·.1) == some 47), []⟩, j + 1)) else none := by
  subst hF
  have e1 : (L.map (·.1)).take 1 = [60] := by
    cases L with
    | nil => simp at h0
    | cons x L =>
      rw [List.getElem?_cons_zero] at h0
      injection h0 with h0
      rw [List.map_cons, List.take_succ_cons, List.take_zero, h0]
  unfold tagP
  rw [hb]
  by_cases h : letB b.1 = true
  · rw [if_pos h]
    show (if _ then _ else _) = _
    rw [if_pos ⟨e1, h⟩]
    generalize runT L _ _ _ = r
    cases r <;> rfl
  · rw [if_neg h]
    show (if _ then _ else _) = _
    rw [if_neg (fun hh => h hh.2)]
theorem tagP_none_of {L : Ch} {f : Nat} (hF : fromT L = f) (hb : L[f]? = none) : tagP L = none := by
  subst hF
  unfold tagP
  rw [hb]
theorem fromT_of {L : Ch} {a b : UInt8 × Int} (h0 : L[0]? = some a) (h1 : L[1]? = some b) : fromT L = if a.1 = 60 ∧ b.1 = 47 then 2 else 1 := by
  rcases L with _ | ⟨x, _ | ⟨y, L⟩⟩
  · simp at h0
  · simp at h1
  · simp at h0 h1
    subst h0 h1
    unfold fromT
    simp
theorem tagP_first {L : Ch} {a : UInt8 × Int} (h0 : L[0]? = some a) (h : ¬ a.1 = 60) : tagP L = none := by
  have e1 : ¬ (L.map (·.1)).take 1 = [60] := by
    cases L with
    | nil => simp at h0
    | cons x L =>
      rw [List.getElem?_cons_zero] at h0
      injection h0 with h0
      rw [List.map_cons, List.take_succ_cons, List.take_zero, h0]
      simpa using h
  unfold tagP
  split
  · rfl
  · rw [if_neg (fun hh => e1 hh.1)]
theorem tagP_short {L : Ch} (h : L.length ≤ 1) : tagP L = none := by
  refine tagP_none_of rfl (List.getElem?_eq_none ?_)
  have := fromT_le L
  omega
/-- the name's relation -/
def TagNmRel (f : Nat) (L : Ch) (w : World) (v : Value) (wr : World) : Prop :=
  ∃ (i : Nat) (x : RW), f ≤ i ∧ i - f ≤ nameT (L.drop f) ∧ v = .int .i64 (i : Int) ∧ NmS w (f : Int) x wr ∧ x.ch = (L.drop f).take (i - f) ∧ x.n = i - f
theorem nameT_at {L : Ch} {f i : Nat} (hf : f ≤ i) (hi : i - f ≤ nameT (L.drop f)) :
    (∀ c, L[i]? = some c → (!(spcB c.1) && (!(c.1 == 47) && !(c.1 == 62))) = true → i + 1 - f ≤ nameT (L.drop f)) ∧ ((∀ c, L[i]? = some c → (!(spcB c.1) && (!(c.1 == 47) && !(c.1 == 62))) = false) → i - f = nameT (L.drop f)) := by
  have e : (L.drop f)[i - f]? = L[i]? := by rw [List.getElem?_drop]; congr 1; omega
  have h := takeW_at (fun c : UInt8 × Int => !(spcB c.1) && (!(c.1 == 47) && !(c.1 == 62))) (L.drop f) (i - f) hi
  rw [e] at h
  exact ⟨fun c hc hp => by have := h.1 c hc hp; show _ ≤ List.length _; omega, fun hh => h.2 hh⟩
theorem byte_bne {b k : UInt8} (h : ¬ b = k) : ((b.toNat : Int) != (k.toNat : Int)) = true := by
  unfold bne
  rw [byte_beq b k, beq_eq_false_iff_ne.2 h]
  rfl
def zeroRT : RT := ⟨0, noRW, none, 0, 0, [], false, noRW⟩
theorem tellsRT_zero {L : Ch} {w w' : World} (h : tagP L = none) (hb : Below w.heap.size w w') :
    TellsRT L w (.returned (.tuple #[.agg #[.int .i64 0, .slice none 0 0, .slice none 0 0, .bool false, .slice none 0 0], .int .i64 0])) w' := by
  have e : tagR L = (⟨0, [], [], false, []⟩, 0) := by unfold tagR; rw [h]; rfl
  exact ⟨zeroRT, by rw [e]; rfl, ⟨by rw [e]; rfl, ⟨Or.inr (noRW_own _ _), Or.inr (noRW_own _ _), World.ownsRow_nil _ _ _ _, rfl, fun r hr => by cases hr⟩, noRW_own _ _, noRW_own _ _⟩, hb⟩
theorem set5_below {w wr : World} {g : Nat} (h : Below g w wr) (q0 q1 q2 q3 q4 : Value) : Below g w (((((wr.setCell ⟨g, 0, none⟩ q0).setCell ⟨g, 1, none⟩ q1).setCell ⟨g, 2, none⟩ q2).setCell ⟨g, 3, none⟩ q3).setCell ⟨g, 4, none⟩ q4) :=
  ((((h.setCell (p := ⟨g, 0, none⟩) (Nat.le_refl _) _).setCell (p := ⟨g, 1, none⟩) (Nat.le_refl _) _).setCell (p := ⟨g, 2, none⟩) (Nat.le_refl _) _).setCell (p := ⟨g, 3, none⟩) (Nat.le_refl _) _).setCell (p := ⟨g, 4, none⟩) (Nat.le_refl _) _
theorem runT_step {l : Ch} {f i : Nat} {s : TkS} {c : UInt8 × Int} (h : l[i]? = some c) (h99 : ¬ (nextS s c).1 = 99) : runT l (f + 1) i s = runT l f (if (nextS s c).2.2 then i else i + 1) (stepT s c (nextS s c)) := by
  rw [runT, h]
  show (if _ then _ else _) = _
  rw [if_neg h99]
theorem runT_end {l : Ch} {f i : Nat} {s : TkS} {c : UInt8 × Int} (h : l[i]? = some c) (h99 : (nextS s c).1 = 99) : runT l (f + 1) i s = some (i, s) := by
  rw [runT, h]
  show (if _ then _ else _) = _
  rw [if_pos h99]
theorem runT_out {l : Ch} {f i : Nat} {s : TkS} (h : l[i]? = none) : runT l f i s = none := by
  cases f with
  | zero => rfl
  | succ f => rw [runT, h]
/-- while a tag's attributes are read -/
structure TgI (L : Ch) (w : World) (g7 f : Nat) (nm : RW) (i0 i steps : Nat) (s : TkS) (x y : RW) (rs : List RA) (v : Value) (wr : World) : Prop where
  st : steps ≤ 4 * L.length + 9
  run : runT L (4 * L.length + 9) i0 ⟨0, [], [], []⟩ = runT L (4 * L.length + 9 - steps) i s
  fits : s.fits i steps
  pos : 1 ≤ i
  ile : i ≤ L.length
  xc : x.ch = s.nm
  yc : y.ch = s.vl
  rc : rs.map RA.pa = s.al
  mem : TgS w g7 (f : Int) nm x y rs v false wr
def TgRel (L : Ch) (w : World) (g7 f : Nat) (nm : RW) (i0 : Nat) (v5 v6 v8 : Value) (wr : World) : Prop :=
  ∃ (i steps : Nat) (s : TkS) (x y : RW) (rs : List RA) (v : Value), v5 = .int .i64 (i : Int) ∧ v6 = .int .i64 (s.st : Int) ∧ v8 = .int .i64 (steps : Int) ∧ TgI L w g7 f nm i0 i steps s x y rs v wr
theorem TgI.go {L : Ch} {w : World} {g7 f : Nat} {nm : RW} {i0 i steps : Nat} {s : TkS} {x y : RW} {rs : List RA} {v : Value} {wr : World} (h : TgI L w g7 f nm i0 i steps s x y rs v wr) (hin : InR L) {c : UInt8 × Int} (hc : L[i]? = some c) (hs : steps < 4 * L.length + 9)
    {N : Nat × Bool × Bool} (hN : nextS s c = N) (h99 : ¬ N.1 = 99) {s' : TkS} (hs' : stepT s c N = s') {i' : Nat} (hi' : (if N.2.2 then i else i + 1) = i') {x' y' : RW} {rs' : List RA} {v' : Value} {wr' : World}
    (hx : x'.ch = s'.nm) (hy : y'.ch = s'.vl) (hr : rs'.map RA.pa = s'.al) (hm : TgS w g7 (f : Int) nm x' y' rs' v' false wr') : TgI L w g7 f nm i0 i' (steps + 1) s' x' y' rs' v' wr' := by
  subst hN hs' hi'
  have hlt : i < L.length := (List.getElem?_eq_some_iff.1 hc).1
  have hco : 0 ≤ c.2 ∧ c.2 ≤ 65536 := hin c.2 (List.mem_map.2 ⟨c, List.mem_of_getElem? hc, rfl⟩)
  have hp := h.pos
  refine ⟨by omega, ?_, stepT_fits h.fits hco h99, by split <;> omega, by split <;> omega, hx, hy, hr, hm⟩
  rw [h.run, show 4 * L.length + 9 - steps = (4 * L.length + 9 - (steps + 1)) + 1 by omega, runT_step hc h99]
theorem tellsRT_of {L : Ch} {w wr : World} {g7 f k : Nat} {nm : RW} {rs : List RA} {A' : Option Addr} {c' : Nat} {cl : Bool} (h : TgD w g7 (f : Int) nm rs (.slice A' rs.length c') cl wr) (ht : tagP L = some (⟨f, nm.ch, rs.map RA.pa, cl, []⟩, k)) (q0 q1 q2 q3 q4 : Value) :
    TellsRT L w (.returned (.tuple #[.agg #[.int .i64 (f : Int), .slice nm.A nm.n nm.c, .slice A' rs.length c', .bool cl, .slice none 0 0], .int .i64 (k : Int)])) (((((wr.setCell ⟨w.heap.size, 0, none⟩ q0).setCell ⟨w.heap.size, 1, none⟩ q1).setCell ⟨w.heap.size, 2, none⟩ q2).setCell ⟨w.heap.size, 3, none⟩ q3).setCell ⟨w.heap.size, 4, none⟩ q4) := by
  have e : tagR L = (⟨f, nm.ch, rs.map RA.pa, cl, []⟩, k) := by unfold tagR; rw [ht]; rfl
  obtain ⟨h1, h2, h3, h4⟩ := h.told q0 q1 q2 q3 q4
  exact ⟨⟨f, nm, A', rs.length, c', rs, cl, noRW⟩, by rw [e]; rfl, ⟨by rw [e]; rfl, ⟨Or.inr h2, Or.inr (noRW_own _ _), h3, rfl, h4⟩, h2, noRW_own _ _⟩, h1⟩

set_option maxHeartbeats 40000000 in
set_option maxRecDepth 100000 in
theorem refTag_any (A : Option Addr) (n c : Nat) (L : Ch) (w : World) (hl : Lies w w.heap.size A (chCells L)) (hn : L.length = n) (hin : InR L) (hz : n ≤ 1000000) :
    Calls Tryz.prog 15 #[.slice A n c] w (TellsRT L w) := by
  obtain ⟨i0, hi, hz0, hz1, hz2⟩ := info_parts ch_info
  by_cases hn1 : n ≤ 1
  · have HT : Hid (tagP L = none) := by
      show _ = _
      exact tagP_short (by omega)
    have hp : ¬ (1 : Int) < (n : Int) := by omega
    have hp2 : (n : Int) ≤ 1 := by omega
    have HR : Hid (∀ wx q0 q1 q2 q3 q4, Below w.heap.size w wx → TellsRT L w (.returned (.tuple #[.agg #[.int .i64 0, .slice none 0 0, .slice none 0 0, .bool false, .slice none 0 0], .int .i64 0])) (((((wx.setCell ⟨w.heap.size, 0, none⟩ q0).setCell ⟨w.heap.size, 1, none⟩ q1).setCell ⟨w.heap.size, 2, none⟩ q2).setCell ⟨w.heap.size, 3, none⟩ q3).setCell ⟨w.heap.size, 4, none⟩ q4)) := fun wx q0 q1 q2 q3 q4 hb => tellsRT_zero HT.out (set5_below hb _ _ _ _ _)
    clear hl hn hin
    go_enter Tryz.func15, Tryz.ntmps15
    go_upto_if 29 with fail
    generalize hw0 : (w.alloc (.cells #[.int .i64 0, .slice none 0 0, .slice none 0 0, .bool false, .slice none 0 0] 39)).alloc (.cells #[.int .i64 1, .slice none 0 0, .slice none 0 0, .bool false, .slice none 0 0] 39) = w0
    have y0 : Whole w0 w.heap.size 39 #[.int .i64 0, .slice none 0 0, .slice none 0 0, .bool false, .slice none 0 0] := by rw [← hw0]; exact (Whole.made w _ _).alloc _
    have hb0 : Below w.heap.size w w0 := by rw [← hw0]; exact ((Below.refl _ _).alloc (Nat.le_refl _) _).alloc (by simp) _
    have k0 := y0.at_ 0
    have k1 := y0.at_ 1
    have k2 := y0.at_ 2
    have k3 := y0.at_ 3
    have k4 := y0.at_ 4
    have kf0 := y0.free 0
    have kf1 := y0.free 1
    have kf2 := y0.free 2
    have kf3 := y0.free 3
    have kf4 := y0.free 4
    clear hw0
    go_wp2_with fail
    refine bodyPost_ret (v := .tuple #[.agg #[.int .i64 0, .slice none 0 0, .slice none 0 0, .bool false, .slice none 0 0], .int .i64 0]) ?_ rfl ?_
    · simp [results, Tryz.results15, go_sem, k0, k1, k2, k3, k4]
    · exact HR.out _ _ _ _ _ _ hb0
  · obtain ⟨ad, b0, o0, rfl, hb0, hc0, _, HR0⟩ := hl.ch (k := 0) (by omega)
    obtain ⟨ad', b1, o1, e, hb1, hc1, _, HR1⟩ := hl.ch (k := 1) (by omega)
    injection e with e
    subst e
    have hp : (1 : Int) < (n : Int) := by omega
    by_cases h60 : b0 = 60
    · subst h60
      obtain ⟨q, hq⟩ : ∃ q, (b1 == 47) = q := ⟨_, rfl⟩
      have e47 : ((b1.toNat : Int) == 47) = q := by rw [← hq]; exact byte_beq b1 47
      obtain ⟨f, hf⟩ : ∃ f : Nat, f = if q then 2 else 1 := ⟨_, rfl⟩
      have HF : Hid (fromT L = f) := by
        show _ = _
        rw [fromT_of HR0.out HR1.out, hf, ← hq]
        by_cases h : b1 = 47
        · rw [if_pos ⟨rfl, h⟩, if_pos (beq_iff_eq.2 h)]
        · rw [if_neg (fun hh => h hh.2), if_neg (fun hh => h (beq_iff_eq.1 hh))]
      have HR60 := Lib.hid HR0.out
      have HL := Lib.hid hl
      have HN := Lib.hid hn
      have HIN := Lib.hid hin
      simp only [Nat.zero_mul, Nat.one_mul] at hc0 hc1
      rw [show ad.add 0 = ad by unfold Addr.add; rfl] at hc0
      have d0 : w.cell? ad = some (.int .u8 60) := hc0
      have d1 : w.cell? ⟨ad.block, ad.off + 2, none⟩ = some (.int .u8 b1.toNat) := by rw [← hc1]; unfold Addr.add; rfl
      clear hc0 hc1
      clear hl hn hin HR0 HR1 hq
      go_enter Tryz.func15, Tryz.ntmps15
      go_upto_if 29 with fail
      go_cut [5] (fun s5 wx => s5 = .int .i64 (f : Int) ∧ Below w.heap.size w wx ∧ Whole wx w.heap.size 39 #[.int .i64 0, .slice none 0 0, .slice none 0 0, .bool false, .slice none 0 0] ∧ Whole wx (w.heap.size + 1) 39 #[.int .i64 (f : Int), .slice none 0 0, .slice none 0 0, .bool false, .slice none 0 0])
      case first =>
        generalize hw0 : (w.alloc (.cells #[.int .i64 0, .slice none 0 0, .slice none 0 0, .bool false, .slice none 0 0] 39)).alloc (.cells #[.int .i64 1, .slice none 0 0, .slice none 0 0, .bool false, .slice none 0 0] 39) = w0
        have y0 : Whole w0 w.heap.size 39 #[.int .i64 0, .slice none 0 0, .slice none 0 0, .bool false, .slice none 0 0] := by rw [← hw0]; exact (Whole.made w _ _).alloc _
        have y1 : Whole w0 (w.heap.size + 1) 39 #[.int .i64 1, .slice none 0 0, .slice none 0 0, .bool false, .slice none 0 0] := by
          rw [← hw0]
          have h := Whole.made (w.alloc (.cells #[.int .i64 0, .slice none 0 0, .slice none 0 0, .bool false, .slice none 0 0] 39)) 39 #[.int .i64 1, .slice none 0 0, .slice none 0 0, .bool false, .slice none 0 0]
          simp only [World.size_alloc] at h
          exact h
        have hb0 : Below w.heap.size w w0 := by rw [← hw0]; exact ((Below.refl _ _).alloc (Nat.le_refl _) _).alloc (by simp) _
        have c4 := y1.at_ 0
        have f4 := y1.free 0
        clear hw0
        cases q
        · obtain rfl := hf
          go_wp2_with fail
          go_meet
          exact ⟨rfl, hb0, y0, y1⟩
        · obtain rfl := hf
          go_wp2_with fail
          go_meet
          exact ⟨rfl, hb0.setCell (p := ⟨w.heap.size + 1, 0, none⟩) (Nat.le_succ _) _, y0.far _ (by show w.heap.size ≠ w.heap.size + 1; omega) _, y1.put 0 _⟩
      case rest =>
        obtain ⟨rfl, hB, hRes, hTok⟩ := hcut
        have HB := Lib.hid hB
        have HS0 : Hid (NmS w (f : Int) noRW wc) := ⟨hB, hRes, hTok, noRW_own _ _⟩
        have hws := hB.size
        have c0 : wc.cell? ad = some (.int .u8 60) := (hB.cell hb0).trans d0
        have k0 := hRes.at_ 0
        have k1 := hRes.at_ 1
        have k2 := hRes.at_ 2
        have k3 := hRes.at_ 3
        have k4 := hRes.at_ 4
        have kf0 := hRes.free 0
        have kf1 := hRes.free 1
        have kf2 := hRes.free 2
        have kf3 := hRes.free 3
        have kf4 := hRes.free 4
        have HZ : Hid (tagP L = none → ∀ wx q0 q1 q2 q3 q4, Below w.heap.size w wx → TellsRT L w (.returned (.tuple #[.agg #[.int .i64 0, .slice none 0 0, .slice none 0 0, .bool false, .slice none 0 0], .int .i64 0])) (((((wx.setCell ⟨w.heap.size, 0, none⟩ q0).setCell ⟨w.heap.size, 1, none⟩ q1).setCell ⟨w.heap.size, 2, none⟩ q2).setCell ⟨w.heap.size, 3, none⟩ q3).setCell ⟨w.heap.size, 4, none⟩ q4)) := fun hT wx q0 q1 q2 q3 q4 hb => tellsRT_zero hT (set5_below hb _ _ _ _ _)
        have hf12 : 1 ≤ f ∧ f ≤ 2 := by have := fromT_le L; rw [HF.out] at this; exact this
        clear d0 d1 hB hRes hTok e47 hf
        by_cases hfn : n ≤ f
        · have HT := Lib.hid (tagP_none_of HF.out (List.getElem?_eq_none (by rw [HN.out]; exact hfn)))
          have hg1 : (n : Int) ≤ (f : Int) := by omega
          go_wp2_with fail
          refine bodyPost_ret (v := .tuple #[.agg #[.int .i64 0, .slice none 0 0, .slice none 0 0, .bool false, .slice none 0 0], .int .i64 0]) ?_ rfl ?_
          · simp [results, Tryz.results15, go_sem, k0, k1, k2, k3, k4]
          · exact HZ.out HT.out _ _ _ _ _ _ HB.out
        · obtain ⟨ad', bf, of, e, _, df, _, HRF⟩ := HL.out.ch (k := f) (by rw [HN.out]; omega)
          injection e with e
          subst e
          have df' : wc.cell? (ad.add (f * 2)) = some (.int .u8 bf.toNat) := (HB.out.cell (by rw [addr_block]; exact hb0)).trans df
          have hg1 : ¬ (n : Int) ≤ (f : Int) := by omega
          have hg2 : (f : Int) < (n : Int) := by omega
          have hg3 : (0 : Int) ≤ (f : Int) := by omega
          have HTY := Lib.hid (fun h => (tagP_of HR60.out HF.out HRF.out).trans (if_pos h))
          have HTN := Lib.hid (fun h => (tagP_of HR60.out HF.out HRF.out).trans (if_neg h))
          have HLT := Lib.hid (refLetter_any bf wc)
          obtain ⟨lb, hlb⟩ : ∃ lb, letB bf = lb := ⟨_, rfl⟩
          rw [hlb] at HLT
          cases lb
          · go_wp2_with fail
            refine HLT.out.mono ?_
            rintro e wy ⟨rfl, rfl⟩
            have HT : Hid (tagP L = none) := HTN.out (by rw [hlb]; decide)
            go_wp2_with fail
            refine bodyPost_ret (v := .tuple #[.agg #[.int .i64 0, .slice none 0 0, .slice none 0 0, .bool false, .slice none 0 0], .int .i64 0]) ?_ rfl ?_
            · simp [results, Tryz.results15, go_sem, k0, k1, k2, k3, k4]
            · exact HZ.out HT.out _ _ _ _ _ _ HB.out
          · go_wp2_with fail
            refine HLT.out.mono ?_
            rintro e wy ⟨rfl, rfl⟩
            go_upto_block 0 with fail
            go_cut [5] (fun s5 wx => ∃ x : RW, s5 = .int .i64 ((f + nameT (L.drop f) : Nat) : Int) ∧ NmS w (f : Int) x wx ∧ x.ch = (L.drop f).take (nameT (L.drop f)) ∧ x.n = nameT (L.drop f))
            case first =>
              clear k0 k1 k2 k3 k4 kf0 kf1 kf2 kf3 kf4 HLT c0 df df' hg1 hg2 hg3
              go_wp2_with fail
              go_loopw [5] (TagNmRel f L w) (fun i _ => n - (intOf i).toNat)
              case atStart => exact ⟨f, noRW, Nat.le_refl _, by omega, rfl, HS0.out, by rw [Nat.sub_self]; rfl, by rw [Nat.sub_self]; rfl⟩
              case round =>
                obtain ⟨i, x, hfi, hin2, rfl, hS, hxc, hxn⟩ := hrel
                have HSr := Lib.hid hS
                have HXC := Lib.hid hxc
                have HNA := Lib.hid (nameT_at hfi hin2)
                have hws := hS.below.size
                have HEX : Hid (i - f = nameT (L.drop f) → ∃ x : RW, Value.int .i64 (i : Int) = .int .i64 ((f + nameT (L.drop f) : Nat) : Int) ∧ NmS w (f : Int) x wr ∧ x.ch = (L.drop f).take (nameT (L.drop f)) ∧ x.n = nameT (L.drop f)) := fun he =>
                  ⟨x, by rw [← he, show f + (i - f) = i by omega], hS, by rw [hxc, he], by rw [hxn, he]⟩
                have htok := Lib.hid hS.tok
                have HXN := Lib.hid hxn
                have hxle : x.n ≤ i := by omega
                clear hS hxc hin2 hxn
                have hk0 : (0 : Int) ≤ (i : Int) := Int.natCast_nonneg _
                by_cases hlt : i < n
                · obtain ⟨ad', b, o, e, _, e0, e1, HRI⟩ := (HL.out.below HSr.out.below).ch (k := i) (by rw [HN.out]; omega)
                  injection e with e
                  subst e
                  have hk1 : (i : Int) < (n : Int) := by omega
                  have HSP := Lib.hid (refSpace_any b)
                  obtain ⟨sp, hsp⟩ : ∃ sp, spcB b = sp := ⟨_, rfl⟩
                  rw [hsp] at HSP
                  cases sp
                  · by_cases h47 : b = 47
                    · have n47 : ((b.toNat : Int) != 47) = false := by subst h47; rfl
                      have HE := Lib.hid (HEX.out (HNA.out.2 (fun c hc => by rw [HRI.out] at hc; injection hc with hc; subst hc; subst h47; rfl)))
                      clear HEX HNA h47
                      go_wp2_with fail
                      refine (HSP.out _).mono ?_
                      rintro e w' ⟨rfl, rfl⟩
                      go_wp2_with fail
                      go_meet
                      exact HE.out
                    · by_cases h62 : b = 62
                      · have n47 : ((b.toNat : Int) != 47) = true := by subst h62; rfl
                        have n62 : ((b.toNat : Int) != 62) = false := by subst h62; rfl
                        have HE := Lib.hid (HEX.out (HNA.out.2 (fun c hc => by rw [HRI.out] at hc; injection hc with hc; subst hc; subst h62; rfl)))
                        clear HEX HNA h47 h62
                        go_wp2_with fail
                        refine (HSP.out _).mono ?_
                        rintro e w' ⟨rfl, rfl⟩
                        go_wp2_with fail
                        go_meet
                        exact HE.out
                      · have n47 : ((b.toNat : Int) != 47) = true := byte_bne (k := 47) h47
                        have n62 : ((b.toNat : Int) != 62) = true := byte_bne (k := 62) h62
                        have HE := Lib.hid (HNA.out.1 (b, o) HRI.out (by show (!(spcB b) && (!(b == 47) && !(b == 62))) = true; rw [hsp, beq_eq_false_iff_ne.2 h47, beq_eq_false_iff_ne.2 h62]; rfl))
                        clear HEX HNA h47 h62
                        go_wp2_with fail
                        refine (HSP.out _).mono ?_
                        rintro e w' ⟨rfl, rfl⟩
                        have t1 : wr.cell? ⟨w.heap.size + 1, 1, none⟩ = some (.slice x.A x.n x.c) := htok.out.at_ 1
                        have hbA : (ad.add (i * 2)).block < w.heap.size := by rw [addr_block]; exact hb0
                        have hzx : x.n < 268435456 := by omega
                        go_wp2_with fail
                        have hS : wr.drew.cell? ⟨w.heap.size + 1, 1, none⟩ = some (.slice x.A x.n x.c) ∧ wr.drew.cell? (ad.add (i * 2)) = some (.int .u8 b.toNat) ∧ wr.drew.cell? ⟨(ad.add (i * 2)).block, (ad.add (i * 2)).off + 1, none⟩ = some (.int .i64 o) := ⟨t1, e0, e1⟩
                        refine wp_region_last13 (S := (fun V => V.cell? ⟨w.heap.size + 1, 1, none⟩ = some (.slice x.A x.n x.c) ∧ V.cell? (ad.add (i * 2)) = some (.int .u8 b.toNat) ∧ V.cell? ⟨(ad.add (i * 2)).block, (ad.add (i * 2)).off + 1, none⟩ = some (.int .i64 o))) (Z := (fun i => decide (8 ≤ i))) (by kernel_rfl) ?_
                        refine' wpAnyL_take (i := 0) ?hi1 (by kernel_rfl) (by kernel_rfl) (by kernel_rfl) (by kernel_rfl) ?hQ1 ?hy1 hS ?rest1
                        case hi1 => simp only [List.getElem?_toArray, List.getElem?_cons_zero]; rfl
                        case hQ1 => exact fun _ _ _ h => h
                        case hy1 =>
                          refine Or.inl ⟨by rfl, ?_⟩
                          intro wq hq
                          try dsimp only at hq
                          try obtain ⟨hq0, hq1, hq2, hq3, hq4, hq5, hq6⟩ := hq
                          try obtain ⟨hq0, hq1, hq2, hq3, hq4, hq5⟩ := hq
                          try obtain ⟨hq0, hq1, hq2, hq3, hq4⟩ := hq
                          try obtain ⟨hq0, hq1, hq2, hq3⟩ := hq
                          try obtain ⟨hq0, hq1, hq2⟩ := hq
                          try obtain ⟨hq0, hq1⟩ := hq
                          go_simp
                          try with_reducible rfl
                        try simp only [Act.put, List.setIfInBounds_toArray, List.set_cons_zero, List.set_cons_succ]
                        refine' wpAnyL_take (i := 1) ?hi2 (by kernel_rfl) (by kernel_rfl) (by kernel_rfl) (by kernel_rfl) ?hQ2 ?hy2 hS ?rest2
                        case hi2 => simp only [List.getElem?_toArray, List.getElem?_cons_succ, List.getElem?_cons_zero]; rfl
                        case hQ2 => exact fun _ _ _ h => h
                        case hy2 =>
                          refine Or.inl ⟨by rfl, ?_⟩
                          intro wq hq
                          try dsimp only at hq
                          try obtain ⟨hq0, hq1, hq2, hq3, hq4, hq5, hq6⟩ := hq
                          try obtain ⟨hq0, hq1, hq2, hq3, hq4, hq5⟩ := hq
                          try obtain ⟨hq0, hq1, hq2, hq3, hq4⟩ := hq
                          try obtain ⟨hq0, hq1, hq2, hq3⟩ := hq
                          try obtain ⟨hq0, hq1, hq2⟩ := hq
                          try obtain ⟨hq0, hq1⟩ := hq
                          go_simp
                          try with_reducible rfl
                        try simp only [Act.put, List.setIfInBounds_toArray, List.set_cons_zero, List.set_cons_succ]
                        refine' wpAnyL_take (i := 2) ?hi3 (by kernel_rfl) (by kernel_rfl) (by kernel_rfl) (by kernel_rfl) ?hQ3 ?hy3 hS ?rest3
                        case hi3 => simp only [List.getElem?_toArray, List.getElem?_cons_succ, List.getElem?_cons_zero]; rfl
                        case hQ3 => exact fun _ _ _ h => h
                        case hy3 =>
                          refine Or.inl ⟨by rfl, ?_⟩
                          intro wq hq
                          try dsimp only at hq
                          try obtain ⟨hq0, hq1, hq2, hq3, hq4, hq5, hq6⟩ := hq
                          try obtain ⟨hq0, hq1, hq2, hq3, hq4, hq5⟩ := hq
                          try obtain ⟨hq0, hq1, hq2, hq3, hq4⟩ := hq
                          try obtain ⟨hq0, hq1, hq2, hq3⟩ := hq
                          try obtain ⟨hq0, hq1, hq2⟩ := hq
                          try obtain ⟨hq0, hq1⟩ := hq
                          go_simp
                          try with_reducible rfl
                        try simp only [Act.put, List.setIfInBounds_toArray, List.set_cons_zero, List.set_cons_succ]
                        refine' wpAnyL_take (i := 3) ?hi4 (by kernel_rfl) (by kernel_rfl) (by kernel_rfl) (by kernel_rfl) ?hQ4 ?hy4 hS ?rest4
                        case hi4 => simp only [List.getElem?_toArray, List.getElem?_cons_succ, List.getElem?_cons_zero]; rfl
                        case hQ4 => exact fun _ _ _ h => h
                        case hy4 =>
                          refine Or.inl ⟨by rfl, ?_⟩
                          intro wq hq
                          try dsimp only at hq
                          try obtain ⟨hq0, hq1, hq2, hq3, hq4, hq5, hq6⟩ := hq
                          try obtain ⟨hq0, hq1, hq2, hq3, hq4, hq5⟩ := hq
                          try obtain ⟨hq0, hq1, hq2, hq3, hq4⟩ := hq
                          try obtain ⟨hq0, hq1, hq2, hq3⟩ := hq
                          try obtain ⟨hq0, hq1, hq2⟩ := hq
                          try obtain ⟨hq0, hq1⟩ := hq
                          go_simp
                          try with_reducible rfl
                        try simp only [Act.put, List.setIfInBounds_toArray, List.set_cons_zero, List.set_cons_succ]
                        refine' wpAnyL_take (i := 4) ?hi5 (by kernel_rfl) (by kernel_rfl) (by kernel_rfl) (by kernel_rfl) ?hQ5 ?hy5 hS ?rest5
                        case hi5 => simp only [List.getElem?_toArray, List.getElem?_cons_succ, List.getElem?_cons_zero]; rfl
                        case hQ5 => exact fun _ _ _ h => h
                        case hy5 =>
                          refine Or.inl ⟨by rfl, ?_⟩
                          intro wq hq
                          try dsimp only at hq
                          try obtain ⟨hq0, hq1, hq2, hq3, hq4, hq5, hq6⟩ := hq
                          try obtain ⟨hq0, hq1, hq2, hq3, hq4, hq5⟩ := hq
                          try obtain ⟨hq0, hq1, hq2, hq3, hq4⟩ := hq
                          try obtain ⟨hq0, hq1, hq2, hq3⟩ := hq
                          try obtain ⟨hq0, hq1, hq2⟩ := hq
                          try obtain ⟨hq0, hq1⟩ := hq
                          go_simp
                          try with_reducible rfl
                        try simp only [Act.put, List.setIfInBounds_toArray, List.set_cons_zero, List.set_cons_succ]
                        refine' wpAnyL_take (i := 5) ?hi6 (by kernel_rfl) (by kernel_rfl) (by kernel_rfl) (by kernel_rfl) ?hQ6 ?hy6 hS ?rest6
                        case hi6 => simp only [List.getElem?_toArray, List.getElem?_cons_succ, List.getElem?_cons_zero]; rfl
                        case hQ6 => exact fun _ _ _ h => h
                        case hy6 =>
                          refine Or.inl ⟨by rfl, ?_⟩
                          intro wq hq
                          try dsimp only at hq
                          try obtain ⟨hq0, hq1, hq2, hq3, hq4, hq5, hq6⟩ := hq
                          try obtain ⟨hq0, hq1, hq2, hq3, hq4, hq5⟩ := hq
                          try obtain ⟨hq0, hq1, hq2, hq3, hq4⟩ := hq
                          try obtain ⟨hq0, hq1, hq2, hq3⟩ := hq
                          try obtain ⟨hq0, hq1, hq2⟩ := hq
                          try obtain ⟨hq0, hq1⟩ := hq
                          go_simp
                          try with_reducible rfl
                        try simp only [Act.put, List.setIfInBounds_toArray, List.set_cons_zero, List.set_cons_succ]
                        refine wpAnyL_ready (rs := [6]) (by kernel_rfl) (by simp) ?_
                        refine' ReadyL.cons ?ho7 (fun K hK => ?step7) ?more7
                        case ho7 => simp only [List.getElem?_toArray, List.getElem?_cons_succ, List.getElem?_cons_zero]; rfl
                        case step7 =>
                          go_simp
                          have hba : Below wr.heap.size wr (wr.drew.alloc (.cells #[.int .u8 b.toNat, .int .i64 o] 65)) := Below.trans (Below.drew (Below.refl wr.heap.size wr)) ((Below.refl _ wr.drew).alloc (Nat.le_refl _) _)
                          have HSa := Lib.hid (HSr.out.next hba)
                          refine hK.out _ _ (.inr ⟨HSa.out.tok.at_ 1, (hba.cell (by omega)).trans e0, (hba.cell (p := ⟨(ad.add (i * 2)).block, (ad.add (i * 2)).off + 1, none⟩) (by show (ad.add (i * 2)).block < _; omega)).trans e1⟩) ?_
                          clear hK K hS
                          try simp only [Act.put, List.setIfInBounds_toArray, List.set_cons_zero, List.set_cons_succ]
                          refine wpAnyL_ready (rs := [7]) (by kernel_rfl) (by simp) ?_
                          refine' ReadyL.cons ?ho8 (fun K hK => ?step8) ?more8
                          case ho8 => simp only [List.getElem?_toArray, List.getElem?_cons_succ, List.getElem?_cons_zero]; rfl
                          case step8 =>
                            refine step_append_src _ (by rfl) (.tmp 82) (.tmp 87) 31 (by rfl) (w.heap.size + 2) 65 i0 _ 2 16 Tryz.underlying31 hi hz0 hz1 hz2 rfl (by omega) (.slice x.A x.n x.c) x.n _ (by rfl) HSa.out.xo.2.2 _ (some ⟨wr.heap.size, 0, none⟩) 1 1 [.int .u8 b.toNat, .int .i64 o] (by rfl) (by simp) (by rfl) (lies_wholeR (Whole.made wr.drew _ _) rfl) (by simp [Value.oneCell']) (by simp only [maxLen]; omega) (by omega) (by have := htok.out.lt; simp; omega) ?_
                            intro v2 w2 hown2 hgr2 hbl2
                            obtain ⟨A2, c2, rfl, _, _, _⟩ := own_form hown2
                            have HM2 := Lib.hid (HSr.out.add (c := (b, o)) hba hzx hgr2 hown2)
                            have hlo : ∀ k, (Value.slice x.A x.n x.c).ownBlock = some k → w.heap.size + 2 ≤ k := fun k hk => (HSr.out.xo.lt hk).1
                            have hW2 := HSa.out.tok.grown hgr2 (fun e => by have := hlo _ e.symm; omega)
                            have hb2 : Below w.heap.size wr w2 := (hba.mono hws).grown hgr2 (by have := hba.size; omega) (fun k hk => by have := hlo k hk; omega)
                            have k1 : w2.cell? ⟨w.heap.size + 1, 1, none⟩ = some (.slice x.A x.n x.c) := hW2.at_ 1
                            have kf1 := hW2.free 1
                            refine hK.out _ _ (.inr ⟨k1, (hb2.cell hbA).trans e0, (hb2.cell (p := ⟨(ad.add (i * 2)).block, (ad.add (i * 2)).off + 1, none⟩) hbA).trans e1⟩) ?_
                            clear hK K hown2 hgr2 hbl2 hb2 hW2 hlo hba
                            try simp only [Act.put, List.setIfInBounds_toArray, List.set_cons_zero, List.set_cons_succ]
                            refine wpAnyL_ready (rs := [8]) (by kernel_rfl) (by simp) ?_
                            refine' ReadyL.cons ?ho9 (fun K hK => ?step9) ?more9
                            case ho9 => simp only [List.getElem?_toArray, List.getElem?_cons_succ, List.getElem?_cons_zero]; rfl
                            case step9 =>
                              go_simp
                              refine hK.out _ _ (.inl (by decide)) ?_
                              clear hK K
                              try simp only [Act.put, List.setIfInBounds_toArray, List.set_cons_zero, List.set_cons_succ]
                              refine wpAnyL_ready (rs := [9]) (by kernel_rfl) (by simp) ?_
                              refine' ReadyL.cons ?ho10 (fun K hK => ?step10) ?more10
                              case ho10 => simp only [List.getElem?_toArray, List.getElem?_cons_succ, List.getElem?_cons_zero]; rfl
                              case step10 =>
                                go_simp
                                refine hK.out _ _ (.inl (by decide)) ?_
                                clear hK K
                                try simp only [Act.put, List.setIfInBounds_toArray, List.set_cons_zero, List.set_cons_succ]
                                refine wpAnyL_done (by kernel_rfl) ?_ _
                                go_wp2_with fail
                                go_roundw
                                case rel => exact ⟨i + 1, _, by omega, HE.out, by go_num, HM2.out, by show x.ch ++ [(b, o)] = _; rw [HXC.out, show i + 1 - f = (i - f) + 1 by omega, take_next (show (L.drop f)[i - f]? = some (b, o) by rw [List.getElem?_drop, show f + (i - f) = i by omega]; exact HRI.out)], by show x.n + 1 = _; rw [HXN.out]; omega⟩
                                case measure => simp [intOf]; omega
                              exact ReadyL.nil
                            exact ReadyL.nil
                          exact ReadyL.nil
                        exact ReadyL.nil
                  · have HE := Lib.hid (HEX.out (HNA.out.2 (fun c hc => by rw [HRI.out] at hc; injection hc with hc; subst hc; rw [hsp]; rfl)))
                    clear HEX HNA
                    go_wp2_with fail
                    refine (HSP.out _).mono ?_
                    rintro e w' ⟨rfl, rfl⟩
                    go_wp2_with fail
                    go_meet
                    exact HE.out
                · have hk1 : ¬ (i : Int) < (n : Int) := by omega
                  have HE := Lib.hid (HEX.out (HNA.out.2 (fun c hc => by rw [List.getElem?_eq_none (by rw [HN.out]; omega)] at hc; cases hc)))
                  clear HEX HNA
                  go_wp2_with fail
                  go_meet
                  exact HE.out
            case rest =>
              obtain ⟨x, rfl, hS, hxc, hxn⟩ := hcut
              obtain ⟨wd, rfl⟩ : ∃ wd : World, wd = wc := ⟨_, rfl⟩
              have HSd := Lib.hid hS
              have hnl := nameT_le (L.drop f)
              rw [List.length_drop, HN.out] at hnl
              have hxo := hS.xo
              have t1 := hS.tok.at_ 1
              have tf1 := hS.tok.free 1
              have HTP2 := Lib.hid (HTY.out hlb)
              have HXC : Hid (lowL x.ch = lowL ((L.drop f).take (nameT (L.drop f)))) := by show _ = _; rw [hxc]
              rw [← hxn] at hnl ⊢
              have HNE : Hid (nameT (L.drop f) = x.n) := hxn.symm
              have hwz := hS.below.size
              have hrz := hS.tok.lt
              have HLW : Hid (Calls Tryz.prog 38 #[.slice x.A x.n x.c] wd fun e w' => (∃ r : RW, e = .returned (.slice r.A r.n r.c) ∧ r.ch = lowL x.ch ∧ r.own w' (w.heap.size + 2)) ∧ Below wd.heap.size wd w') := by
                refine (refLower_any x.A x.n x.c x.ch wd (Lies.own hxo.2.2) hxo.1 (by omega)).mono ?_
                rintro e w3 ⟨v3, rfl, ho3, hb3⟩
                rw [show (lowCh x.ch).length = x.n by rw [show lowCh x.ch = lowL x.ch from rfl, lowL_length, hxo.1]] at ho3
                obtain ⟨A3, c3, rfl, _, _, _⟩ := own_form ho3
                exact ⟨⟨⟨A3, x.n, c3, lowL x.ch⟩, rfl, rfl, by show (lowL x.ch).length = _; rw [lowL_length, hxo.1], by show x.n ≤ _; omega, own_mono ho3 (by omega)⟩, hb3⟩
              clear hS hxc hxo HZ hxn k0 k1 k2 k3 k4 kf0 kf1 kf2 kf3 kf4 HLT c0 df df' hg1 hg2 hg3 HTY HTN HR60
              go_wp2_with fail
              refine HLW.out.mono ?_
              rintro e w3 ⟨⟨nm, rfl, hnc, hno⟩, hb3⟩
              have HS3 := Lib.hid (HSd.out.next hb3)
              have t31 := HS3.out.tok.at_ 1
              have tf31 := HS3.out.tok.free 1
              have HNC := Lib.hid (hnc.trans HXC.out)
              have HNO := Lib.hid hno
              clear hb3 hnc hno t1 tf1 HLW
              go_wp2_with fail
              generalize hw4 : (w3.setCell ⟨w.heap.size + 1, 1, none⟩ (.slice nm.A nm.n nm.c)).alloc (.cells #[.slice none 0 0, .slice none 0 0] 75) = w4
              have HT4 : Hid (TgS w w3.heap.size (f : Int) nm noRW noRW [] (.slice none 0 0) false w4) := by rw [← hw4]; exact HS3.out.start HNO.out
              clear hw4 t31 tf31 HS3 HNO HSd
              have HNL := Lib.hid hnl
              have HTnone : Hid (runT L (4 * L.length + 9) (f + x.n) ⟨0, [], [], []⟩ = none → tagP L = none) := fun h => by rw [HTP2.out, HNE.out, h]
              have HTsome : Hid (∀ j s, runT L (4 * L.length + 9) (f + x.n) ⟨0, [], [], []⟩ = some (j, s) → tagP L = some (⟨f, nm.ch, if f = 1 then doneT s.al (s.nm, s.vl) else [], decide (f = 1) && ((L[j - 1]?).map (·.1) == some 47), []⟩, j + 1)) := fun j s h => by rw [HTP2.out, HNE.out, h, HNC.out, HNE.out]
              clear HTP2 HNE HNC HXC hwz hrz
              generalize x.n = m at *
              generalize w3.heap.size = g7 at *
              go_loopw [5, 6, 8] (TgRel L w g7 f nm (f + m)) (fun _ _ s8 _ => 4 * n + 9 - (intOf s8).toNat)
              case atStart => exact ⟨f + m, 0, ⟨0, [], [], []⟩, noRW, noRW, [], .slice none 0 0, by go_num, rfl, rfl, by omega, rfl, ⟨InR.nil, InR.nil, Nat.zero_le _, Nat.zero_le _, (fun p hp => by cases hp), Nat.zero_le _, by decide⟩, by omega, by rw [HN.out]; omega, rfl, rfl, rfl, HT4.out⟩
              case round =>
                obtain ⟨i, steps, s, x, y, rs, v, rfl, rfl, rfl, hI⟩ := hrel
                have HIR := Lib.hid hI
                have k0 := hI.mem.res.at_ 0
                have k1 := hI.mem.res.at_ 1
                have k2 := hI.mem.res.at_ 2
                have k3 := hI.mem.res.at_ 3
                have k4 := hI.mem.res.at_ 4
                have kf0 := hI.mem.res.free 0
                have kf1 := hI.mem.res.free 1
                have kf2 := hI.mem.res.free 2
                have kf3 := hI.mem.res.free 3
                have kf4 := hI.mem.res.free 4
                have hk0 : (0 : Int) ≤ (i : Int) := Int.natCast_nonneg _
                clear HT4
                by_cases hlt : i < n
                · have hk1 : (i : Int) < (n : Int) := by omega
                  by_cases hst : steps < 4 * n + 9
                  · have hk2 : (steps : Int) < 4 * (n : Int) + 9 := by omega
                    obtain ⟨ad', b, o, e, _, e0, e1, HRI⟩ := (HL.out.below hI.mem.below).ch (k := i) (by rw [HN.out]; omega)
                    injection e with e
                    subst e
                    have hbA : (ad.add (i * 2)).block < w.heap.size := by rw [addr_block]; exact hb0
                    have c70 : wr.cell? ⟨g7, 0, none⟩ = some (.slice x.A x.n x.c) := hI.mem.att.at_ 0
                    have hbg : (!s.nm.isEmpty) = decide (0 < x.n) := by
                      have h1 := hI.mem.xo.1
                      rw [hI.xc] at h1
                      rw [← h1]
                      cases s.nm with
                      | nil => rfl
                      | cons q r => simp
                    have HNX0 := Lib.hid (fun V => refNext13_any s.st b (decide (0 < x.n)) V hI.fits.2.2.2.2.2.2)
                    have HNS : Hid (nextS s (b, o) = nextT s.st b (decide (0 < x.n))) := by show nextT s.st b (!s.nm.isEmpty) = _; rw [hbg]
                    have hws := hI.mem.below.size
                    have hxn : x.n ≤ n := by rw [← hI.mem.xo.1, hI.xc]; have := hI.fits.2.2.1; omega
                    have hyn : y.n ≤ n := by rw [← hI.mem.yo.1, hI.yc]; have := hI.fits.2.2.2.1; omega
                    have hrn : rs.length ≤ 4 * n + 9 := by
                      have h1 := hI.fits.2.2.2.2.2.1
                      rw [← hI.rc, List.length_map] at h1
                      omega
                    have hst2 : steps < 4 * L.length + 9 := by rw [HN.out]; exact hst
                    have HST2 := Lib.hid hst2
                    have hst6 := hI.fits.2.2.2.2.2.2
                    have HVIN : Hid (InR s.vl ∧ InR s.nm) := ⟨hI.fits.2.1, hI.fits.1⟩
                    obtain ⟨Av, cv, rfl, _, _, _⟩ := own_form hI.mem.row
                    have HDN : Hid (∀ cl V, TgS w g7 (f : Int) nm x y rs (.slice Av rs.length cv) cl V → Calls Tryz.prog 40 #[.slice Av rs.length cv, .agg #[.slice x.A x.n x.c, .slice y.A y.n y.c]] V fun e w' => ∃ A' c' rs', e = .returned (.slice A' rs'.length c') ∧ rs'.map RA.pa = doneT s.al (s.nm, s.vl) ∧ (∃ g, w'.heap[w.heap.size + 1]? = V.heap[w.heap.size + 1]? ∧ w'.heap[g7]? = V.heap[g7]? ∧ g = 0) ∧ TgD w g7 (f : Int) nm rs' (.slice A' rs'.length c') cl (w'.setCell ⟨w.heap.size + 1, 2, none⟩ (.slice A' rs'.length c'))) := by
                      intro cl V hV
                      refine (refDone_any (g7 + 1) rs.length (.slice Av rs.length cv) rs ⟨x, y⟩ V hV.att.lt hV.row rfl (by omega) hV.ras ⟨hV.xo, hV.yo⟩ (by show InR y.ch; rw [HIR.out.yc]; exact HVIN.out.1)).mono ?_
                      rintro e w' ⟨v', rs', rfl, ho, hp, hr, hg⟩
                      obtain ⟨A', c', rfl, _, _, _⟩ := own_form ho
                      have hd := hV.done hg ho hr
                      have hlo : ∀ b, (Value.slice Av rs.length cv).ownBlock = some b → g7 + 1 ≤ b := fun b e => (hV.row.lt b e).1
                      have h7 := hV.hi7
                      exact ⟨A', c', rs', rfl, by rw [hp, HIR.out.rc, show RA.pa ⟨x, y⟩ = (x.ch, y.ch) from rfl, HIR.out.xc, HIR.out.yc], ⟨0, hg.1.block _ hV.tok.lt (fun e => by have := hlo _ e; omega), hg.1.block _ hV.att.lt (fun e => by have := hlo _ e; omega), rfl⟩, hd⟩
                    have k40 : wr.cell? ⟨w.heap.size + 1, 0, none⟩ = some (.int .i64 (f : Int)) := hI.mem.tok.at_ 0
                    have k42 : wr.cell? ⟨w.heap.size + 1, 2, none⟩ = some (.slice Av rs.length cv) := hI.mem.tok.at_ 2
                    have c71 : wr.cell? ⟨g7, 1, none⟩ = some (.slice y.A y.n y.c) := hI.mem.att.at_ 1
                    clear hbg hst2 hI
                    obtain ⟨⟨n1, ad1, ag⟩, hN⟩ : ∃ N : Nat × Bool × Bool, nextT s.st b (decide (0 < x.n)) = N := ⟨_, rfl⟩
                    have HCS := Lib.hid (nextT_cases s.st b (decide (0 < x.n)))
                    rw [hN] at HCS
                    have HNX : Hid (∀ V, Calls Tryz.prog 39 #[.int .i64 (s.st : Int), .int .u8 b.toNat, .bool (decide (0 < x.n))] V fun e w' => e = .returned (.tuple #[.int .i64 (n1 : Nat), .bool ad1, .bool ag]) ∧ V = w') := fun V => by
                      have h := HNX0.out V
                      rw [hN] at h
                      exact h
                    have HNN := Lib.hid (HNS.out.trans hN)
                    clear HNX0 HNS hN
                    go_wp2_with fail
                    have hS : wr.drew.cell? (ad.add (i * 2)) = some (.int .u8 b.toNat) ∧ wr.drew.cell? ⟨g7, 0, none⟩ = some (.slice x.A x.n x.c) := ⟨e0, c70⟩
                    refine wp_region_last13 (S := (fun V => V.cell? (ad.add (i * 2)) = some (.int .u8 b.toNat) ∧ V.cell? ⟨g7, 0, none⟩ = some (.slice x.A x.n x.c))) (Z := (fun _ => false)) (by kernel_rfl) ?_
                    refine' wpAnyL_take (i := 0) ?hi11 (by kernel_rfl) (by kernel_rfl) (by kernel_rfl) (by kernel_rfl) ?hQ11 ?hy11 hS ?rest11
                    case hi11 => simp only [List.getElem?_toArray, List.getElem?_cons_zero]; rfl
                    case hQ11 => exact fun _ _ _ h => h
                    case hy11 =>
                      refine Or.inl ⟨by rfl, ?_⟩
                      intro wq hq
                      try dsimp only at hq
                      try obtain ⟨hq0, hq1, hq2, hq3, hq4, hq5, hq6⟩ := hq
                      try obtain ⟨hq0, hq1, hq2, hq3, hq4, hq5⟩ := hq
                      try obtain ⟨hq0, hq1, hq2, hq3, hq4⟩ := hq
                      try obtain ⟨hq0, hq1, hq2, hq3⟩ := hq
                      try obtain ⟨hq0, hq1, hq2⟩ := hq
                      try obtain ⟨hq0, hq1⟩ := hq
                      go_simp
                      try with_reducible rfl
                    try simp only [Act.put, List.setIfInBounds_toArray, List.set_cons_zero, List.set_cons_succ]
                    refine' wpAnyL_take (i := 1) ?hi12 (by kernel_rfl) (by kernel_rfl) (by kernel_rfl) (by kernel_rfl) ?hQ12 ?hy12 hS ?rest12
                    case hi12 => simp only [List.getElem?_toArray, List.getElem?_cons_succ, List.getElem?_cons_zero]; rfl
                    case hQ12 => exact fun _ _ _ h => h
                    case hy12 =>
                      refine Or.inl ⟨by rfl, ?_⟩
                      intro wq hq
                      try dsimp only at hq
                      try obtain ⟨hq0, hq1, hq2, hq3, hq4, hq5, hq6⟩ := hq
                      try obtain ⟨hq0, hq1, hq2, hq3, hq4, hq5⟩ := hq
                      try obtain ⟨hq0, hq1, hq2, hq3, hq4⟩ := hq
                      try obtain ⟨hq0, hq1, hq2, hq3⟩ := hq
                      try obtain ⟨hq0, hq1, hq2⟩ := hq
                      try obtain ⟨hq0, hq1⟩ := hq
                      go_simp
                      try with_reducible rfl
                    try simp only [Act.put, List.setIfInBounds_toArray, List.set_cons_zero, List.set_cons_succ]
                    refine' wpAnyL_take (i := 2) ?hi13 (by kernel_rfl) (by kernel_rfl) (by kernel_rfl) (by kernel_rfl) ?hQ13 ?hy13 hS ?rest13
                    case hi13 => simp only [List.getElem?_toArray, List.getElem?_cons_succ, List.getElem?_cons_zero]; rfl
                    case hQ13 => exact fun _ _ _ h => h
                    case hy13 =>
                      refine Or.inl ⟨by rfl, ?_⟩
                      intro wq hq
                      try dsimp only at hq
                      try obtain ⟨hq0, hq1, hq2, hq3, hq4, hq5, hq6⟩ := hq
                      try obtain ⟨hq0, hq1, hq2, hq3, hq4, hq5⟩ := hq
                      try obtain ⟨hq0, hq1, hq2, hq3, hq4⟩ := hq
                      try obtain ⟨hq0, hq1, hq2, hq3⟩ := hq
                      try obtain ⟨hq0, hq1, hq2⟩ := hq
                      try obtain ⟨hq0, hq1⟩ := hq
                      go_simp
                      try with_reducible rfl
                    try simp only [Act.put, List.setIfInBounds_toArray, List.set_cons_zero, List.set_cons_succ]
                    refine' wpAnyL_take (i := 3) ?hi14 (by kernel_rfl) (by kernel_rfl) (by kernel_rfl) (by kernel_rfl) ?hQ14 ?hy14 hS ?rest14
                    case hi14 => simp only [List.getElem?_toArray, List.getElem?_cons_succ, List.getElem?_cons_zero]; rfl
                    case hQ14 => exact fun _ _ _ h => h
                    case hy14 =>
                      refine Or.inl ⟨by rfl, ?_⟩
                      intro wq hq
                      try dsimp only at hq
                      try obtain ⟨hq0, hq1, hq2, hq3, hq4, hq5, hq6⟩ := hq
                      try obtain ⟨hq0, hq1, hq2, hq3, hq4, hq5⟩ := hq
                      try obtain ⟨hq0, hq1, hq2, hq3, hq4⟩ := hq
                      try obtain ⟨hq0, hq1, hq2, hq3⟩ := hq
                      try obtain ⟨hq0, hq1, hq2⟩ := hq
                      try obtain ⟨hq0, hq1⟩ := hq
                      go_simp
                      try with_reducible rfl
                    try simp only [Act.put, List.setIfInBounds_toArray, List.set_cons_zero, List.set_cons_succ]
                    refine' wpAnyL_take (i := 4) ?hi15 (by kernel_rfl) (by kernel_rfl) (by kernel_rfl) (by kernel_rfl) ?hQ15 ?hy15 hS ?rest15
                    case hi15 => simp only [List.getElem?_toArray, List.getElem?_cons_succ, List.getElem?_cons_zero]; rfl
                    case hQ15 => exact fun _ _ _ h => h
                    case hy15 =>
                      refine Or.inl ⟨by rfl, ?_⟩
                      intro wq hq
                      try dsimp only at hq
                      try obtain ⟨hq0, hq1, hq2, hq3, hq4, hq5, hq6⟩ := hq
                      try obtain ⟨hq0, hq1, hq2, hq3, hq4, hq5⟩ := hq
                      try obtain ⟨hq0, hq1, hq2, hq3, hq4⟩ := hq
                      try obtain ⟨hq0, hq1, hq2, hq3⟩ := hq
                      try obtain ⟨hq0, hq1, hq2⟩ := hq
                      try obtain ⟨hq0, hq1⟩ := hq
                      go_simp
                      try with_reducible rfl
                    try simp only [Act.put, List.setIfInBounds_toArray, List.set_cons_zero, List.set_cons_succ]
                    refine' wpAnyL_take (i := 5) ?hi16 (by kernel_rfl) (by kernel_rfl) (by kernel_rfl) (by kernel_rfl) ?hQ16 ?hy16 hS ?rest16
                    case hi16 => simp only [List.getElem?_toArray, List.getElem?_cons_succ, List.getElem?_cons_zero]; rfl
                    case hQ16 => exact fun _ _ _ h => h
                    case hy16 =>
                      refine Or.inl ⟨by rfl, ?_⟩
                      intro wq hq
                      try dsimp only at hq
                      try obtain ⟨hq0, hq1, hq2, hq3, hq4, hq5, hq6⟩ := hq
                      try obtain ⟨hq0, hq1, hq2, hq3, hq4, hq5⟩ := hq
                      try obtain ⟨hq0, hq1, hq2, hq3, hq4⟩ := hq
                      try obtain ⟨hq0, hq1, hq2, hq3⟩ := hq
                      try obtain ⟨hq0, hq1, hq2⟩ := hq
                      try obtain ⟨hq0, hq1⟩ := hq
                      go_simp
                      try with_reducible rfl
                    try simp only [Act.put, List.setIfInBounds_toArray, List.set_cons_zero, List.set_cons_succ]
                    refine' wpAnyL_take (i := 6) ?hi17 (by kernel_rfl) (by kernel_rfl) (by kernel_rfl) (by kernel_rfl) ?hQ17 ?hy17 hS ?rest17
                    case hi17 => simp only [List.getElem?_toArray, List.getElem?_cons_succ, List.getElem?_cons_zero]; rfl
                    case hQ17 => exact fun _ _ _ h => h
                    case hy17 =>
                      refine Or.inl ⟨by rfl, ?_⟩
                      intro wq hq
                      try dsimp only at hq
                      try obtain ⟨hq0, hq1, hq2, hq3, hq4, hq5, hq6⟩ := hq
                      try obtain ⟨hq0, hq1, hq2, hq3, hq4, hq5⟩ := hq
                      try obtain ⟨hq0, hq1, hq2, hq3, hq4⟩ := hq
                      try obtain ⟨hq0, hq1, hq2, hq3⟩ := hq
                      try obtain ⟨hq0, hq1, hq2⟩ := hq
                      try obtain ⟨hq0, hq1⟩ := hq
                      go_simp
                      try with_reducible rfl
                    try simp only [Act.put, List.setIfInBounds_toArray, List.set_cons_zero, List.set_cons_succ]
                    refine' wpAnyL_take (i := 7) ?hi18 (by kernel_rfl) (by kernel_rfl) (by kernel_rfl) (by kernel_rfl) ?hQ18 ?hy18 hS ?rest18
                    case hi18 => simp only [List.getElem?_toArray, List.getElem?_cons_succ, List.getElem?_cons_zero]; rfl
                    case hQ18 => exact fun _ _ _ h => h
                    case hy18 =>
                      refine Or.inl ⟨by rfl, ?_⟩
                      intro wq hq
                      try dsimp only at hq
                      try obtain ⟨hq0, hq1, hq2, hq3, hq4, hq5, hq6⟩ := hq
                      try obtain ⟨hq0, hq1, hq2, hq3, hq4, hq5⟩ := hq
                      try obtain ⟨hq0, hq1, hq2, hq3, hq4⟩ := hq
                      try obtain ⟨hq0, hq1, hq2, hq3⟩ := hq
                      try obtain ⟨hq0, hq1, hq2⟩ := hq
                      try obtain ⟨hq0, hq1⟩ := hq
                      go_simp
                      try with_reducible rfl
                    try simp only [Act.put, List.setIfInBounds_toArray, List.set_cons_zero, List.set_cons_succ]
                    refine' wpAnyL_take (i := 8) ?hi19 (by kernel_rfl) (by kernel_rfl) (by kernel_rfl) (by kernel_rfl) ?hQ19 ?hy19 hS ?rest19
                    case hi19 => simp only [List.getElem?_toArray, List.getElem?_cons_succ, List.getElem?_cons_zero]; rfl
                    case hQ19 => exact fun _ _ _ h => h
                    case hy19 =>
                      refine Or.inl ⟨by rfl, ?_⟩
                      intro wq hq
                      try dsimp only at hq
                      try obtain ⟨hq0, hq1, hq2, hq3, hq4, hq5, hq6⟩ := hq
                      try obtain ⟨hq0, hq1, hq2, hq3, hq4, hq5⟩ := hq
                      try obtain ⟨hq0, hq1, hq2, hq3, hq4⟩ := hq
                      try obtain ⟨hq0, hq1, hq2, hq3⟩ := hq
                      try obtain ⟨hq0, hq1, hq2⟩ := hq
                      try obtain ⟨hq0, hq1⟩ := hq
                      go_simp
                      try with_reducible rfl
                    try simp only [Act.put, List.setIfInBounds_toArray, List.set_cons_zero, List.set_cons_succ]
                    refine wpAnyL_ready (rs := [9]) (by kernel_rfl) (by simp) ?_
                    refine' ReadyL.cons ?ho20 (fun K hK => ?step20) ?more20
                    case ho20 => simp only [List.getElem?_toArray, List.getElem?_cons_succ, List.getElem?_cons_zero]; rfl
                    case step20 =>
                      go_simp
                      refine hK.out _ _ (.inr ⟨e0, c70⟩) ?_
                      clear hK K
                      try simp only [Act.put, List.setIfInBounds_toArray, List.set_cons_zero, List.set_cons_succ]
                      refine wpAnyL_ready (rs := [10]) (by kernel_rfl) (by simp) ?_
                      refine' ReadyL.cons ?ho21 (fun K hK => ?step21) ?more21
                      case ho21 => simp only [List.getElem?_toArray, List.getElem?_cons_succ, List.getElem?_cons_zero]; rfl
                      case step21 =>
                        go_simp
                        refine (HNX.out _).mono ?_
                        rintro e wa ⟨rfl, rfl⟩
                        refine hK.out _ _ (.inr ⟨e0, c70⟩) ?_
                        clear hK K
                        try simp only [Act.put, List.setIfInBounds_toArray, List.set_cons_zero, List.set_cons_succ]
                        refine' wpAnyL_take (i := 11) ?hi22 (by kernel_rfl) (by kernel_rfl) (by kernel_rfl) (by kernel_rfl) ?hQ22 ?hy22 hS ?rest22
                        case hi22 => simp only [List.getElem?_toArray, List.getElem?_cons_succ, List.getElem?_cons_zero]; rfl
                        case hQ22 => exact fun _ _ _ h => h
                        case hy22 =>
                          refine Or.inl ⟨by rfl, ?_⟩
                          intro wq hq
                          try dsimp only at hq
                          try obtain ⟨hq0, hq1, hq2, hq3, hq4, hq5, hq6⟩ := hq
                          try obtain ⟨hq0, hq1, hq2, hq3, hq4, hq5⟩ := hq
                          try obtain ⟨hq0, hq1, hq2, hq3, hq4⟩ := hq
                          try obtain ⟨hq0, hq1, hq2, hq3⟩ := hq
                          try obtain ⟨hq0, hq1, hq2⟩ := hq
                          try obtain ⟨hq0, hq1⟩ := hq
                          go_simp
                          try with_reducible rfl
                        try simp only [Act.put, List.setIfInBounds_toArray, List.set_cons_zero, List.set_cons_succ]
                        refine' wpAnyL_take (i := 12) ?hi23 (by kernel_rfl) (by kernel_rfl) (by kernel_rfl) (by kernel_rfl) ?hQ23 ?hy23 hS ?rest23
                        case hi23 => simp only [List.getElem?_toArray, List.getElem?_cons_succ, List.getElem?_cons_zero]; rfl
                        case hQ23 => exact fun _ _ _ h => h
                        case hy23 =>
                          refine Or.inl ⟨by rfl, ?_⟩
                          intro wq hq
                          try dsimp only at hq
                          try obtain ⟨hq0, hq1, hq2, hq3, hq4, hq5, hq6⟩ := hq
                          try obtain ⟨hq0, hq1, hq2, hq3, hq4, hq5⟩ := hq
                          try obtain ⟨hq0, hq1, hq2, hq3, hq4⟩ := hq
                          try obtain ⟨hq0, hq1, hq2, hq3⟩ := hq
                          try obtain ⟨hq0, hq1, hq2⟩ := hq
                          try obtain ⟨hq0, hq1⟩ := hq
                          go_simp
                          try with_reducible rfl
                        try simp only [Act.put, List.setIfInBounds_toArray, List.set_cons_zero, List.set_cons_succ]
                        refine' wpAnyL_take (i := 13) ?hi24 (by kernel_rfl) (by kernel_rfl) (by kernel_rfl) (by kernel_rfl) ?hQ24 ?hy24 hS ?rest24
                        case hi24 => simp only [List.getElem?_toArray, List.getElem?_cons_succ, List.getElem?_cons_zero]; rfl
                        case hQ24 => exact fun _ _ _ h => h
                        case hy24 =>
                          refine Or.inl ⟨by rfl, ?_⟩
                          intro wq hq
                          try dsimp only at hq
                          try obtain ⟨hq0, hq1, hq2, hq3, hq4, hq5, hq6⟩ := hq
                          try obtain ⟨hq0, hq1, hq2, hq3, hq4, hq5⟩ := hq
                          try obtain ⟨hq0, hq1, hq2, hq3, hq4⟩ := hq
                          try obtain ⟨hq0, hq1, hq2, hq3⟩ := hq
                          try obtain ⟨hq0, hq1, hq2⟩ := hq
                          try obtain ⟨hq0, hq1⟩ := hq
                          go_simp
                          try with_reducible rfl
                        try simp only [Act.put, List.setIfInBounds_toArray, List.set_cons_zero, List.set_cons_succ]
                        refine' wpAnyL_take (i := 14) ?hi25 (by kernel_rfl) (by kernel_rfl) (by kernel_rfl) (by kernel_rfl) ?hQ25 ?hy25 hS ?rest25
                        case hi25 => simp only [List.getElem?_toArray, List.getElem?_cons_succ, List.getElem?_cons_zero]; rfl
                        case hQ25 => exact fun _ _ _ h => h
                        case hy25 =>
                          refine Or.inl ⟨by rfl, ?_⟩
                          intro wq hq
                          try dsimp only at hq
                          try obtain ⟨hq0, hq1, hq2, hq3, hq4, hq5, hq6⟩ := hq
                          try obtain ⟨hq0, hq1, hq2, hq3, hq4, hq5⟩ := hq
                          try obtain ⟨hq0, hq1, hq2, hq3, hq4⟩ := hq
                          try obtain ⟨hq0, hq1, hq2, hq3⟩ := hq
                          try obtain ⟨hq0, hq1, hq2⟩ := hq
                          try obtain ⟨hq0, hq1⟩ := hq
                          go_simp
                          try with_reducible rfl
                        try simp only [Act.put, List.setIfInBounds_toArray, List.set_cons_zero, List.set_cons_succ]
                        refine' wpAnyL_take (i := 15) ?hi26 (by kernel_rfl) (by kernel_rfl) (by kernel_rfl) (by kernel_rfl) ?hQ26 ?hy26 hS ?rest26
                        case hi26 => simp only [List.getElem?_toArray, List.getElem?_cons_succ, List.getElem?_cons_zero]; rfl
                        case hQ26 => exact fun _ _ _ h => h
                        case hy26 =>
                          refine Or.inl ⟨by rfl, ?_⟩
                          intro wq hq
                          try dsimp only at hq
                          try obtain ⟨hq0, hq1, hq2, hq3, hq4, hq5, hq6⟩ := hq
                          try obtain ⟨hq0, hq1, hq2, hq3, hq4, hq5⟩ := hq
                          try obtain ⟨hq0, hq1, hq2, hq3, hq4⟩ := hq
                          try obtain ⟨hq0, hq1, hq2, hq3⟩ := hq
                          try obtain ⟨hq0, hq1, hq2⟩ := hq
                          try obtain ⟨hq0, hq1⟩ := hq
                          go_simp
                          try with_reducible rfl
                        try simp only [Act.put, List.setIfInBounds_toArray, List.set_cons_zero, List.set_cons_succ]
                        refine' wpAnyL_take (i := 16) ?hi27 (by kernel_rfl) (by kernel_rfl) (by kernel_rfl) (by kernel_rfl) ?hQ27 ?hy27 hS ?rest27
                        case hi27 => simp only [List.getElem?_toArray, List.getElem?_cons_succ, List.getElem?_cons_zero]; rfl
                        case hQ27 => exact fun _ _ _ h => h
                        case hy27 =>
                          refine Or.inl ⟨by rfl, ?_⟩
                          intro wq hq
                          try dsimp only at hq
                          try obtain ⟨hq0, hq1, hq2, hq3, hq4, hq5, hq6⟩ := hq
                          try obtain ⟨hq0, hq1, hq2, hq3, hq4, hq5⟩ := hq
                          try obtain ⟨hq0, hq1, hq2, hq3, hq4⟩ := hq
                          try obtain ⟨hq0, hq1, hq2, hq3⟩ := hq
                          try obtain ⟨hq0, hq1, hq2⟩ := hq
                          try obtain ⟨hq0, hq1⟩ := hq
                          go_simp
                          try with_reducible rfl
                        try simp only [Act.put, List.setIfInBounds_toArray, List.set_cons_zero, List.set_cons_succ]
                        refine' wpAnyL_take (i := 17) ?hi28 (by kernel_rfl) (by kernel_rfl) (by kernel_rfl) (by kernel_rfl) ?hQ28 ?hy28 hS ?rest28
                        case hi28 => simp only [List.getElem?_toArray, List.getElem?_cons_succ, List.getElem?_cons_zero]; rfl
                        case hQ28 => exact fun _ _ _ h => h
                        case hy28 =>
                          refine Or.inl ⟨by rfl, ?_⟩
                          intro wq hq
                          try dsimp only at hq
                          try obtain ⟨hq0, hq1, hq2, hq3, hq4, hq5, hq6⟩ := hq
                          try obtain ⟨hq0, hq1, hq2, hq3, hq4, hq5⟩ := hq
                          try obtain ⟨hq0, hq1, hq2, hq3, hq4⟩ := hq
                          try obtain ⟨hq0, hq1, hq2, hq3⟩ := hq
                          try obtain ⟨hq0, hq1, hq2⟩ := hq
                          try obtain ⟨hq0, hq1⟩ := hq
                          go_simp
                          try with_reducible rfl
                        try simp only [Act.put, List.setIfInBounds_toArray, List.set_cons_zero, List.set_cons_succ]
                        refine wpAnyL_done (by kernel_rfl) ?_ _
                        clear hS HNX
                        rcases HCS.out with h99 | ⟨hs0, hN⟩ | ⟨hs1, hN⟩ | ⟨n1', hn1, hn99, hn6, hN⟩ | ⟨n1', g', hn99, hn6, hnr, hN⟩
                        · obtain rfl : n1 = 99 := h99
                          have HT := Lib.hid (HTsome.out i s (by rw [HIR.out.run, show 4 * L.length + 9 - steps = (4 * L.length + 9 - (steps + 1)) + 1 by have := HST2.out; omega]; exact runT_end HRI.out (by rw [HNN.out])))
                          clear HNN HCS HTnone HTsome
                          by_cases hf1 : f = 1
                          · subst hf1
                            obtain ⟨j, rfl⟩ : ∃ j, i = j + 1 := ⟨i - 1, by have := HIR.out.pos; omega⟩
                            obtain ⟨ad', b', o', e, _, j0, _, HRJ⟩ := (HL.out.below HIR.out.mem.below).ch (k := j) (by rw [HN.out]; omega)
                            injection e with e
                            subst e
                            have hj1 : ((j + 1 : Nat) : Int) - 1 = (j : Int) := by omega
                            have hj2 : (0 : Int) ≤ (j : Int) := Int.natCast_nonneg _
                            have hj3 : (j : Int) < (n : Int) := by omega
                            obtain ⟨q, hq⟩ : ∃ q, (b' == 47) = q := ⟨_, rfl⟩
                            have e47 : ((b'.toNat : Int) == 47) = q := by rw [← hq]; exact byte_beq b' 47
                            have HTJ : Hid (tagP L = some (⟨1, nm.ch, doneT s.al (s.nm, s.vl), q, []⟩, j + 1 + 1)) := by
                              show _ = _
                              rw [HT.out, if_pos rfl, show j + 1 - 1 = j from rfl, HRJ.out, ← hq]
                              congr 3
                            have HCL := Lib.hid (HIR.out.mem.drew.close q)
                            have m3 : wr.frozen? ⟨w.heap.size + 1, 3, none⟩ = false := HIR.out.mem.tok.free 3
                            have m33 := HIR.out.mem.tok.at_ 3
                            have z42 : (wr.drew.setCell ⟨w.heap.size + 1, 3, none⟩ (.bool q)).cell? ⟨w.heap.size + 1, 2, none⟩ = some (.slice Av rs.length cv) := HCL.out.tok.at_ 2
                            have z70 : (wr.drew.setCell ⟨w.heap.size + 1, 3, none⟩ (.bool q)).cell? ⟨g7, 0, none⟩ = some (.slice x.A x.n x.c) := HCL.out.att.at_ 0
                            have z71 : (wr.drew.setCell ⟨w.heap.size + 1, 3, none⟩ (.bool q)).cell? ⟨g7, 1, none⟩ = some (.slice y.A y.n y.c) := HCL.out.att.at_ 1
                            have HDQ := Lib.hid (HDN.out q _ HCL.out)
                            clear HT HDN hq
                            go_wp2_with fail
                            refine HDQ.out.mono ?_
                            rintro e w5 ⟨A', c', rs', rfl, hp', ⟨_, hh1, hh2, _⟩, hd⟩
                            have HD5 := Lib.hid hd
                            have HP5 := Lib.hid hp'
                            have Y5 := HCL.out.tok.same hh1
                            have R5 : Whole w5 w.heap.size 39 #[.int .i64 0, .slice none 0 0, .slice none 0 0, .bool false, .slice none 0 0] := hd.res.same (Below.heap_setCell w5 ⟨w.heap.size + 1, 2, none⟩ _ w.heap.size (by show w.heap.size ≠ w.heap.size + 1; omega)).symm
                            have b0 := R5.at_ 0
                            have b1' := R5.at_ 1
                            have b2' := R5.at_ 2
                            have b3' := R5.at_ 3
                            have b4' := R5.at_ 4
                            have bf0 := R5.free 0
                            have bf1 := R5.free 1
                            have bf2 := R5.free 2
                            have bf3 := R5.free 3
                            have bf4 := R5.free 4
                            have a0 := Y5.at_ 0
                            have a1 := Y5.at_ 1
                            have a2 := Y5.at_ 2
                            have a3 := Y5.at_ 3
                            have a4 := Y5.at_ 4
                            have af2 := Y5.free 2
                            clear hd hp' hh1 hh2 Y5 R5 HDQ
                            go_wp2_with fail
                            refine bodyPost_ret (v := .tuple #[.agg #[.int .i64 ((1 : Nat) : Int), .slice nm.A nm.n nm.c, .slice A' rs'.length c', .bool q, .slice none 0 0], .int .i64 ((j + 1 + 1 : Nat) : Int)]) ?_ rfl ?_
                            · simp [results, Tryz.results15, go_sem, b0, b1', b2', b3', b4']
                            · exact tellsRT_of HD5.out (by rw [HTJ.out, HP5.out]) _ _ _ _ _
                          · obtain rfl : f = 2 := by omega
                            have HT2 : Hid (tagP L = some (⟨2, nm.ch, [], false, []⟩, i + 1)) := by
                              show _ = _
                              rw [HT.out, if_neg (by decide)]
                              rfl
                            have HD5 := Lib.hid HIR.out.mem.drew.drop
                            have Y5 := HIR.out.mem.tok
                            have a1 := Y5.at_ 1
                            have a3 := Y5.at_ 3
                            have a4 := Y5.at_ 4
                            have af2 := Y5.free 2
                            clear HT HDN Y5
                            go_wp2_with fail
                            refine bodyPost_ret (v := .tuple #[.agg #[.int .i64 ((2 : Nat) : Int), .slice nm.A nm.n nm.c, .slice none 0 0, .bool false, .slice none 0 0], .int .i64 ((i + 1 : Nat) : Int)]) ?_ rfl ?_
                            · simp [results, Tryz.results15, go_sem, k0, k1, k2, k3, k4]
                            · exact tellsRT_of (rs := []) HD5.out (by rw [HT2.out]; rfl) _ _ _ _ _
                        · obtain ⟨rfl, rfl, rfl⟩ : n1 = 1 ∧ ad1 = false ∧ ag = true := by simpa using hN
                          have hsi : ((s.st : Int) == 0) = true := by rw [hs0]; rfl
                          have HS0' := Lib.hid hs0
                          have HDQ := Lib.hid (HDN.out false _ HIR.out.mem.drew)
                          clear hs0 hN HCS HTnone HTsome HDN
                          go_wp2_with fail
                          refine HDQ.out.mono ?_
                          rintro e w5 ⟨A', c', rs', rfl, hp', ⟨_, hh1, hh2, _⟩, hd⟩
                          have HP5 := Lib.hid hp'
                          have HD6 := Lib.hid hd.fresh
                          have Y5 := HIR.out.mem.drew.tok.same hh1
                          have Z5 := HIR.out.mem.drew.att.same hh2
                          have a2 := Y5.at_ 2
                          have af2 := Y5.free 2
                          have z0 := Z5.at_ 0
                          have z1 := Z5.at_ 1
                          have zf0 := Z5.free 0
                          have zf1 := Z5.free 1
                          clear hd hp' hh1 hh2 Y5 Z5 HDQ
                          go_wp2_with fail
                          go_roundw
                          case rel => exact ⟨i, steps + 1, ⟨1, [], [], doneT s.al (s.nm, s.vl)⟩, noRW, noRW, rs', .slice A' rs'.length c', rfl, rfl, by go_num, HIR.out.go HIN.out HRI.out HST2.out HNN.out (by decide) (stepT_reset HS0'.out) rfl rfl rfl HP5.out HD6.out⟩
                          case measure => simp [intOf]; omega
                        · obtain ⟨rfl, rfl, rfl⟩ : n1 = 1 ∧ ad1 = true ∧ ag = false := by simpa using hN
                          have hsi : ((s.st : Int) == 0) = false := by rw [hs1]; rfl
                          have HS1' := Lib.hid hs1
                          clear hs1
                          have HMQ : Hid (TgS w g7 (f : Int) nm x y rs (.slice Av rs.length cv) false wr.drew) := HIR.out.mem.drew
                          have q0 : wr.drew.cell? (ad.add (i * 2)) = some (.int .u8 b.toNat) := e0
                          have q1 : wr.drew.cell? ⟨(ad.add (i * 2)).block, (ad.add (i * 2)).off + 1, none⟩ = some (.int .i64 o) := e1
                          have q70 : wr.drew.cell? ⟨g7, 0, none⟩ = some (.slice x.A x.n x.c) := c70
                          clear e0 e1 c70 c71 k40 k42 k0 k1 k2 k3 k4 kf0 kf1 kf2 kf3 kf4 HCS HTnone HTsome HDN hN
                          generalize wr.drew = wq at *
                          have hwq : w.heap.size ≤ wq.heap.size := HMQ.out.below.size
                          have h7q : g7 < wq.heap.size := HMQ.out.att.lt
                          have h7w : w.heap.size + 2 ≤ g7 := HMQ.out.hi7
                          go_wp2_with fail
                          have hS : wq.drew.cell? ⟨g7, 0, none⟩ = some (.slice x.A x.n x.c) ∧ wq.drew.cell? (ad.add (i * 2)) = some (.int .u8 b.toNat) ∧ wq.drew.cell? ⟨(ad.add (i * 2)).block, (ad.add (i * 2)).off + 1, none⟩ = some (.int .i64 o) := ⟨q70, q0, q1⟩
                          refine wp_region_last13 (S := (fun V => V.cell? ⟨g7, 0, none⟩ = some (.slice x.A x.n x.c) ∧ V.cell? (ad.add (i * 2)) = some (.int .u8 b.toNat) ∧ V.cell? ⟨(ad.add (i * 2)).block, (ad.add (i * 2)).off + 1, none⟩ = some (.int .i64 o))) (Z := (fun i => decide (8 ≤ i))) (by kernel_rfl) ?_
                          refine' wpAnyL_take (i := 0) ?hi29 (by kernel_rfl) (by kernel_rfl) (by kernel_rfl) (by kernel_rfl) ?hQ29 ?hy29 hS ?rest29
                          case hi29 => simp only [List.getElem?_toArray, List.getElem?_cons_zero]; rfl
                          case hQ29 => exact fun _ _ _ h => h
                          case hy29 =>
                            refine Or.inl ⟨by rfl, ?_⟩
                            intro wq hq
                            try dsimp only at hq
                            try obtain ⟨hq0, hq1, hq2, hq3, hq4, hq5, hq6⟩ := hq
                            try obtain ⟨hq0, hq1, hq2, hq3, hq4, hq5⟩ := hq
                            try obtain ⟨hq0, hq1, hq2, hq3, hq4⟩ := hq
                            try obtain ⟨hq0, hq1, hq2, hq3⟩ := hq
                            try obtain ⟨hq0, hq1, hq2⟩ := hq
                            try obtain ⟨hq0, hq1⟩ := hq
                            go_simp
                            try with_reducible rfl
                          try simp only [Act.put, List.setIfInBounds_toArray, List.set_cons_zero, List.set_cons_succ]
                          refine' wpAnyL_take (i := 1) ?hi30 (by kernel_rfl) (by kernel_rfl) (by kernel_rfl) (by kernel_rfl) ?hQ30 ?hy30 hS ?rest30
                          case hi30 => simp only [List.getElem?_toArray, List.getElem?_cons_succ, List.getElem?_cons_zero]; rfl
                          case hQ30 => exact fun _ _ _ h => h
                          case hy30 =>
                            refine Or.inl ⟨by rfl, ?_⟩
                            intro wq hq
                            try dsimp only at hq
                            try obtain ⟨hq0, hq1, hq2, hq3, hq4, hq5, hq6⟩ := hq
                            try obtain ⟨hq0, hq1, hq2, hq3, hq4, hq5⟩ := hq
                            try obtain ⟨hq0, hq1, hq2, hq3, hq4⟩ := hq
                            try obtain ⟨hq0, hq1, hq2, hq3⟩ := hq
                            try obtain ⟨hq0, hq1, hq2⟩ := hq
                            try obtain ⟨hq0, hq1⟩ := hq
                            go_simp
                            try with_reducible rfl
                          try simp only [Act.put, List.setIfInBounds_toArray, List.set_cons_zero, List.set_cons_succ]
                          refine' wpAnyL_take (i := 2) ?hi31 (by kernel_rfl) (by kernel_rfl) (by kernel_rfl) (by kernel_rfl) ?hQ31 ?hy31 hS ?rest31
                          case hi31 => simp only [List.getElem?_toArray, List.getElem?_cons_succ, List.getElem?_cons_zero]; rfl
                          case hQ31 => exact fun _ _ _ h => h
                          case hy31 =>
                            refine Or.inl ⟨by rfl, ?_⟩
                            intro wq hq
                            try dsimp only at hq
                            try obtain ⟨hq0, hq1, hq2, hq3, hq4, hq5, hq6⟩ := hq
                            try obtain ⟨hq0, hq1, hq2, hq3, hq4, hq5⟩ := hq
                            try obtain ⟨hq0, hq1, hq2, hq3, hq4⟩ := hq
                            try obtain ⟨hq0, hq1, hq2, hq3⟩ := hq
                            try obtain ⟨hq0, hq1, hq2⟩ := hq
                            try obtain ⟨hq0, hq1⟩ := hq
                            go_simp
                            try with_reducible rfl
                          try simp only [Act.put, List.setIfInBounds_toArray, List.set_cons_zero, List.set_cons_succ]
                          refine' wpAnyL_take (i := 3) ?hi32 (by kernel_rfl) (by kernel_rfl) (by kernel_rfl) (by kernel_rfl) ?hQ32 ?hy32 hS ?rest32
                          case hi32 => simp only [List.getElem?_toArray, List.getElem?_cons_succ, List.getElem?_cons_zero]; rfl
                          case hQ32 => exact fun _ _ _ h => h
                          case hy32 =>
                            refine Or.inl ⟨by rfl, ?_⟩
                            intro wq hq
                            try dsimp only at hq
                            try obtain ⟨hq0, hq1, hq2, hq3, hq4, hq5, hq6⟩ := hq
                            try obtain ⟨hq0, hq1, hq2, hq3, hq4, hq5⟩ := hq
                            try obtain ⟨hq0, hq1, hq2, hq3, hq4⟩ := hq
                            try obtain ⟨hq0, hq1, hq2, hq3⟩ := hq
                            try obtain ⟨hq0, hq1, hq2⟩ := hq
                            try obtain ⟨hq0, hq1⟩ := hq
                            go_simp
                            try with_reducible rfl
                          try simp only [Act.put, List.setIfInBounds_toArray, List.set_cons_zero, List.set_cons_succ]
                          refine' wpAnyL_take (i := 4) ?hi33 (by kernel_rfl) (by kernel_rfl) (by kernel_rfl) (by kernel_rfl) ?hQ33 ?hy33 hS ?rest33
                          case hi33 => simp only [List.getElem?_toArray, List.getElem?_cons_succ, List.getElem?_cons_zero]; rfl
                          case hQ33 => exact fun _ _ _ h => h
                          case hy33 =>
                            refine Or.inl ⟨by rfl, ?_⟩
                            intro wq hq
                            try dsimp only at hq
                            try obtain ⟨hq0, hq1, hq2, hq3, hq4, hq5, hq6⟩ := hq
                            try obtain ⟨hq0, hq1, hq2, hq3, hq4, hq5⟩ := hq
                            try obtain ⟨hq0, hq1, hq2, hq3, hq4⟩ := hq
                            try obtain ⟨hq0, hq1, hq2, hq3⟩ := hq
                            try obtain ⟨hq0, hq1, hq2⟩ := hq
                            try obtain ⟨hq0, hq1⟩ := hq
                            go_simp
                            try with_reducible rfl
                          try simp only [Act.put, List.setIfInBounds_toArray, List.set_cons_zero, List.set_cons_succ]
                          refine' wpAnyL_take (i := 5) ?hi34 (by kernel_rfl) (by kernel_rfl) (by kernel_rfl) (by kernel_rfl) ?hQ34 ?hy34 hS ?rest34
                          case hi34 => simp only [List.getElem?_toArray, List.getElem?_cons_succ, List.getElem?_cons_zero]; rfl
                          case hQ34 => exact fun _ _ _ h => h
                          case hy34 =>
                            refine Or.inl ⟨by rfl, ?_⟩
                            intro wq hq
                            try dsimp only at hq
                            try obtain ⟨hq0, hq1, hq2, hq3, hq4, hq5, hq6⟩ := hq
                            try obtain ⟨hq0, hq1, hq2, hq3, hq4, hq5⟩ := hq
                            try obtain ⟨hq0, hq1, hq2, hq3, hq4⟩ := hq
                            try obtain ⟨hq0, hq1, hq2, hq3⟩ := hq
                            try obtain ⟨hq0, hq1, hq2⟩ := hq
                            try obtain ⟨hq0, hq1⟩ := hq
                            go_simp
                            try with_reducible rfl
                          try simp only [Act.put, List.setIfInBounds_toArray, List.set_cons_zero, List.set_cons_succ]
                          refine wpAnyL_ready (rs := [6]) (by kernel_rfl) (by simp) ?_
                          refine' ReadyL.cons ?ho35 (fun K hK => ?step35) ?more35
                          case ho35 => simp only [List.getElem?_toArray, List.getElem?_cons_succ, List.getElem?_cons_zero]; rfl
                          case step35 =>
                            go_simp
                            have hba : Below wq.heap.size wq (wq.drew.alloc (.cells #[.int .u8 b.toNat, .int .i64 o] 65)) := Below.trans (Below.drew (Below.refl wq.heap.size wq)) ((Below.refl _ wq.drew).alloc (Nat.le_refl _) _)
                            have HSa := Lib.hid (HMQ.out.next hba)
                            refine hK.out _ _ (.inr ⟨HSa.out.att.at_ 0, (hba.cell (by omega)).trans q0, (hba.cell (p := ⟨(ad.add (i * 2)).block, (ad.add (i * 2)).off + 1, none⟩) (by show (ad.add (i * 2)).block < _; omega)).trans q1⟩) ?_
                            clear hK K hS
                            try simp only [Act.put, List.setIfInBounds_toArray, List.set_cons_zero, List.set_cons_succ]
                            refine wpAnyL_ready (rs := [7]) (by kernel_rfl) (by simp) ?_
                            refine' ReadyL.cons ?ho36 (fun K hK => ?step36) ?more36
                            case ho36 => simp only [List.getElem?_toArray, List.getElem?_cons_succ, List.getElem?_cons_zero]; rfl
                            case step36 =>
                              refine step_append_src _ (by rfl) (.tmp 165) (.tmp 170) 31 (by rfl) (g7 + 1) 65 i0 _ 2 16 Tryz.underlying31 hi hz0 hz1 hz2 rfl (by omega) (.slice x.A x.n x.c) x.n _ (by rfl) HSa.out.xo.2.2 _ (some ⟨wq.heap.size, 0, none⟩) 1 1 [.int .u8 b.toNat, .int .i64 o] (by rfl) (by simp) (by rfl) (lies_wholeR (Whole.made wq.drew _ _) rfl) (by simp [Value.oneCell']) (by simp only [maxLen]; omega) (by omega) (by simp; omega) ?_
                              intro v2 w2 hown2 hgr2 hbl2
                              obtain ⟨A2, c2, rfl, _, _, _⟩ := own_form hown2
                              have HM2 := Lib.hid (HMQ.out.addX (c := (b, o)) hba (by omega) hgr2 hown2 hbl2)
                              have hlo : ∀ k, (Value.slice x.A x.n x.c).ownBlock = some k → g7 + 1 ≤ k := fun k hk => (HMQ.out.xo.lt hk).1
                              have hW2 := HSa.out.att.grown hgr2 (fun e => by have := hlo _ e.symm; omega)
                              have hb2 : Below w.heap.size wq w2 := (hba.mono hwq).grown hgr2 (by have := hba.size; omega) (fun k hk => by have := hlo k hk; omega)
                              have j1 : w2.cell? ⟨g7, 0, none⟩ = some (.slice x.A x.n x.c) := hW2.at_ 0
                              have jf1 := hW2.free 0
                              refine hK.out _ _ (.inr ⟨j1, (hb2.cell hbA).trans q0, (hb2.cell (p := ⟨(ad.add (i * 2)).block, (ad.add (i * 2)).off + 1, none⟩) hbA).trans q1⟩) ?_
                              clear hK K hown2 hgr2 hbl2 hb2 hW2 hlo hba
                              try simp only [Act.put, List.setIfInBounds_toArray, List.set_cons_zero, List.set_cons_succ]
                              refine wpAnyL_ready (rs := [8]) (by kernel_rfl) (by simp) ?_
                              refine' ReadyL.cons ?ho37 (fun K hK => ?step37) ?more37
                              case ho37 => simp only [List.getElem?_toArray, List.getElem?_cons_succ, List.getElem?_cons_zero]; rfl
                              case step37 =>
                                go_simp
                                refine hK.out _ _ (.inl (by decide)) ?_
                                clear hK K
                                try simp only [Act.put, List.setIfInBounds_toArray, List.set_cons_zero, List.set_cons_succ]
                                refine wpAnyL_ready (rs := [9]) (by kernel_rfl) (by simp) ?_
                                refine' ReadyL.cons ?ho38 (fun K hK => ?step38) ?more38
                                case ho38 => simp only [List.getElem?_toArray, List.getElem?_cons_succ, List.getElem?_cons_zero]; rfl
                                case step38 =>
                                  go_simp
                                  refine hK.out _ _ (.inl (by decide)) ?_
                                  clear hK K
                                  try simp only [Act.put, List.setIfInBounds_toArray, List.set_cons_zero, List.set_cons_succ]
                                  refine wpAnyL_done (by kernel_rfl) ?_ _
                                  go_wp2_with fail
                                  go_roundw
                                  case rel => exact ⟨i + 1, steps + 1, ⟨1, s.nm ++ [(b, o)], s.vl, s.al⟩, ⟨A2, x.n + 1, c2, x.ch ++ [(b, o)]⟩, y, rs, _, by go_num, rfl, by go_num, HIR.out.go HIN.out HRI.out HST2.out HNN.out (by decide) (stepT_name HS1'.out) rfl (by show x.ch ++ _ = s.nm ++ _; rw [HIR.out.xc]) HIR.out.yc HIR.out.rc HM2.out⟩
                                  case measure => simp [intOf]; omega
                                exact ReadyL.nil
                              exact ReadyL.nil
                            exact ReadyL.nil
                          exact ReadyL.nil
                        · obtain ⟨rfl, rfl, rfl⟩ : n1 = n1' ∧ ad1 = true ∧ ag = false := by simpa using hN
                          have q99 : ((n1 : Int) == 99) = false := by rw [beq_eq_false_iff_ne]; omega
                          have qn1 : ((n1 : Int) == 1) = false := by rw [beq_eq_false_iff_ne]; omega
                          have HMQ : Hid (TgS w g7 (f : Int) nm x y rs (.slice Av rs.length cv) false wr.drew) := HIR.out.mem.drew
                          have q0 : wr.drew.cell? (ad.add (i * 2)) = some (.int .u8 b.toNat) := e0
                          have q1 : wr.drew.cell? ⟨(ad.add (i * 2)).block, (ad.add (i * 2)).off + 1, none⟩ = some (.int .i64 o) := e1
                          have q70 : wr.drew.cell? ⟨g7, 1, none⟩ = some (.slice y.A y.n y.c) := c71
                          clear e0 e1 c70 c71 k40 k42 k0 k1 k2 k3 k4 kf0 kf1 kf2 kf3 kf4 HCS HTnone HTsome HDN hN
                          generalize wr.drew = wq at *
                          have hwq : w.heap.size ≤ wq.heap.size := HMQ.out.below.size
                          have h7q : g7 < wq.heap.size := HMQ.out.att.lt
                          have h7w : w.heap.size + 2 ≤ g7 := HMQ.out.hi7
                          go_wp2_with fail
                          have hS : wq.drew.cell? ⟨g7, 1, none⟩ = some (.slice y.A y.n y.c) ∧ wq.drew.cell? (ad.add (i * 2)) = some (.int .u8 b.toNat) ∧ wq.drew.cell? ⟨(ad.add (i * 2)).block, (ad.add (i * 2)).off + 1, none⟩ = some (.int .i64 o) := ⟨q70, q0, q1⟩
                          refine wp_region_last13 (S := (fun V => V.cell? ⟨g7, 1, none⟩ = some (.slice y.A y.n y.c) ∧ V.cell? (ad.add (i * 2)) = some (.int .u8 b.toNat) ∧ V.cell? ⟨(ad.add (i * 2)).block, (ad.add (i * 2)).off + 1, none⟩ = some (.int .i64 o))) (Z := (fun i => decide (8 ≤ i))) (by kernel_rfl) ?_
                          refine' wpAnyL_take (i := 0) ?hi39 (by kernel_rfl) (by kernel_rfl) (by kernel_rfl) (by kernel_rfl) ?hQ39 ?hy39 hS ?rest39
                          case hi39 => simp only [List.getElem?_toArray, List.getElem?_cons_zero]; rfl
                          case hQ39 => exact fun _ _ _ h => h
                          case hy39 =>
                            refine Or.inl ⟨by rfl, ?_⟩
                            intro wq hq
                            try dsimp only at hq
                            try obtain ⟨hq0, hq1, hq2, hq3, hq4, hq5, hq6⟩ := hq
                            try obtain ⟨hq0, hq1, hq2, hq3, hq4, hq5⟩ := hq
                            try obtain ⟨hq0, hq1, hq2, hq3, hq4⟩ := hq
                            try obtain ⟨hq0, hq1, hq2, hq3⟩ := hq
                            try obtain ⟨hq0, hq1, hq2⟩ := hq
                            try obtain ⟨hq0, hq1⟩ := hq
                            go_simp
                            try with_reducible rfl
                          try simp only [Act.put, List.setIfInBounds_toArray, List.set_cons_zero, List.set_cons_succ]
                          refine' wpAnyL_take (i := 1) ?hi40 (by kernel_rfl) (by kernel_rfl) (by kernel_rfl) (by kernel_rfl) ?hQ40 ?hy40 hS ?rest40
                          case hi40 => simp only [List.getElem?_toArray, List.getElem?_cons_succ, List.getElem?_cons_zero]; rfl
                          case hQ40 => exact fun _ _ _ h => h
                          case hy40 =>
                            refine Or.inl ⟨by rfl, ?_⟩
                            intro wq hq
                            try dsimp only at hq
                            try obtain ⟨hq0, hq1, hq2, hq3, hq4, hq5, hq6⟩ := hq
                            try obtain ⟨hq0, hq1, hq2, hq3, hq4, hq5⟩ := hq
                            try obtain ⟨hq0, hq1, hq2, hq3, hq4⟩ := hq
                            try obtain ⟨hq0, hq1, hq2, hq3⟩ := hq
                            try obtain ⟨hq0, hq1, hq2⟩ := hq
                            try obtain ⟨hq0, hq1⟩ := hq
                            go_simp
                            try with_reducible rfl
                          try simp only [Act.put, List.setIfInBounds_toArray, List.set_cons_zero, List.set_cons_succ]
                          refine' wpAnyL_take (i := 2) ?hi41 (by kernel_rfl) (by kernel_rfl) (by kernel_rfl) (by kernel_rfl) ?hQ41 ?hy41 hS ?rest41
                          case hi41 => simp only [List.getElem?_toArray, List.getElem?_cons_succ, List.getElem?_cons_zero]; rfl
                          case hQ41 => exact fun _ _ _ h => h
                          case hy41 =>
                            refine Or.inl ⟨by rfl, ?_⟩
                            intro wq hq
                            try dsimp only at hq
                            try obtain ⟨hq0, hq1, hq2, hq3, hq4, hq5, hq6⟩ := hq
                            try obtain ⟨hq0, hq1, hq2, hq3, hq4, hq5⟩ := hq
                            try obtain ⟨hq0, hq1, hq2, hq3, hq4⟩ := hq
                            try obtain ⟨hq0, hq1, hq2, hq3⟩ := hq
                            try obtain ⟨hq0, hq1, hq2⟩ := hq
                            try obtain ⟨hq0, hq1⟩ := hq
                            go_simp
                            try with_reducible rfl
                          try simp only [Act.put, List.setIfInBounds_toArray, List.set_cons_zero, List.set_cons_succ]
                          refine' wpAnyL_take (i := 3) ?hi42 (by kernel_rfl) (by kernel_rfl) (by kernel_rfl) (by kernel_rfl) ?hQ42 ?hy42 hS ?rest42
                          case hi42 => simp only [List.getElem?_toArray, List.getElem?_cons_succ, List.getElem?_cons_zero]; rfl
                          case hQ42 => exact fun _ _ _ h => h
                          case hy42 =>
                            refine Or.inl ⟨by rfl, ?_⟩
                            intro wq hq
                            try dsimp only at hq
                            try obtain ⟨hq0, hq1, hq2, hq3, hq4, hq5, hq6⟩ := hq
                            try obtain ⟨hq0, hq1, hq2, hq3, hq4, hq5⟩ := hq
                            try obtain ⟨hq0, hq1, hq2, hq3, hq4⟩ := hq
                            try obtain ⟨hq0, hq1, hq2, hq3⟩ := hq
                            try obtain ⟨hq0, hq1, hq2⟩ := hq
                            try obtain ⟨hq0, hq1⟩ := hq
                            go_simp
                            try with_reducible rfl
                          try simp only [Act.put, List.setIfInBounds_toArray, List.set_cons_zero, List.set_cons_succ]
                          refine' wpAnyL_take (i := 4) ?hi43 (by kernel_rfl) (by kernel_rfl) (by kernel_rfl) (by kernel_rfl) ?hQ43 ?hy43 hS ?rest43
                          case hi43 => simp only [List.getElem?_toArray, List.getElem?_cons_succ, List.getElem?_cons_zero]; rfl
                          case hQ43 => exact fun _ _ _ h => h
                          case hy43 =>
                            refine Or.inl ⟨by rfl, ?_⟩
                            intro wq hq
                            try dsimp only at hq
                            try obtain ⟨hq0, hq1, hq2, hq3, hq4, hq5, hq6⟩ := hq
                            try obtain ⟨hq0, hq1, hq2, hq3, hq4, hq5⟩ := hq
                            try obtain ⟨hq0, hq1, hq2, hq3, hq4⟩ := hq
                            try obtain ⟨hq0, hq1, hq2, hq3⟩ := hq
                            try obtain ⟨hq0, hq1, hq2⟩ := hq
                            try obtain ⟨hq0, hq1⟩ := hq
                            go_simp
                            try with_reducible rfl
                          try simp only [Act.put, List.setIfInBounds_toArray, List.set_cons_zero, List.set_cons_succ]
                          refine' wpAnyL_take (i := 5) ?hi44 (by kernel_rfl) (by kernel_rfl) (by kernel_rfl) (by kernel_rfl) ?hQ44 ?hy44 hS ?rest44
                          case hi44 => simp only [List.getElem?_toArray, List.getElem?_cons_succ, List.getElem?_cons_zero]; rfl
                          case hQ44 => exact fun _ _ _ h => h
                          case hy44 =>
                            refine Or.inl ⟨by rfl, ?_⟩
                            intro wq hq
                            try dsimp only at hq
                            try obtain ⟨hq0, hq1, hq2, hq3, hq4, hq5, hq6⟩ := hq
                            try obtain ⟨hq0, hq1, hq2, hq3, hq4, hq5⟩ := hq
                            try obtain ⟨hq0, hq1, hq2, hq3, hq4⟩ := hq
                            try obtain ⟨hq0, hq1, hq2, hq3⟩ := hq
                            try obtain ⟨hq0, hq1, hq2⟩ := hq
                            try obtain ⟨hq0, hq1⟩ := hq
                            go_simp
                            try with_reducible rfl
                          try simp only [Act.put, List.setIfInBounds_toArray, List.set_cons_zero, List.set_cons_succ]
                          refine wpAnyL_ready (rs := [6]) (by kernel_rfl) (by simp) ?_
                          refine' ReadyL.cons ?ho45 (fun K hK => ?step45) ?more45
                          case ho45 => simp only [List.getElem?_toArray, List.getElem?_cons_succ, List.getElem?_cons_zero]; rfl
                          case step45 =>
                            go_simp
                            have hba : Below wq.heap.size wq (wq.drew.alloc (.cells #[.int .u8 b.toNat, .int .i64 o] 65)) := Below.trans (Below.drew (Below.refl wq.heap.size wq)) ((Below.refl _ wq.drew).alloc (Nat.le_refl _) _)
                            have HSa := Lib.hid (HMQ.out.next hba)
                            refine hK.out _ _ (.inr ⟨HSa.out.att.at_ 1, (hba.cell (by omega)).trans q0, (hba.cell (p := ⟨(ad.add (i * 2)).block, (ad.add (i * 2)).off + 1, none⟩) (by show (ad.add (i * 2)).block < _; omega)).trans q1⟩) ?_
                            clear hK K hS
                            try simp only [Act.put, List.setIfInBounds_toArray, List.set_cons_zero, List.set_cons_succ]
                            refine wpAnyL_ready (rs := [7]) (by kernel_rfl) (by simp) ?_
                            refine' ReadyL.cons ?ho46 (fun K hK => ?step46) ?more46
                            case ho46 => simp only [List.getElem?_toArray, List.getElem?_cons_succ, List.getElem?_cons_zero]; rfl
                            case step46 =>
                              refine step_append_src _ (by rfl) (.tmp 175) (.tmp 180) 31 (by rfl) (g7 + 1) 65 i0 _ 2 16 Tryz.underlying31 hi hz0 hz1 hz2 rfl (by omega) (.slice y.A y.n y.c) y.n _ (by rfl) HSa.out.yo.2.2 _ (some ⟨wq.heap.size, 0, none⟩) 1 1 [.int .u8 b.toNat, .int .i64 o] (by rfl) (by simp) (by rfl) (lies_wholeR (Whole.made wq.drew _ _) rfl) (by simp [Value.oneCell']) (by simp only [maxLen]; omega) (by omega) (by simp; omega) ?_
                              intro v2 w2 hown2 hgr2 hbl2
                              obtain ⟨A2, c2, rfl, _, _, _⟩ := own_form hown2
                              have HM2 := Lib.hid (HMQ.out.addY (c := (b, o)) hba (by omega) hgr2 hown2 hbl2)
                              have hlo : ∀ k, (Value.slice y.A y.n y.c).ownBlock = some k → g7 + 1 ≤ k := fun k hk => (HMQ.out.yo.lt hk).1
                              have hW2 := HSa.out.att.grown hgr2 (fun e => by have := hlo _ e.symm; omega)
                              have hb2 : Below w.heap.size wq w2 := (hba.mono hwq).grown hgr2 (by have := hba.size; omega) (fun k hk => by have := hlo k hk; omega)
                              have j1 : w2.cell? ⟨g7, 1, none⟩ = some (.slice y.A y.n y.c) := hW2.at_ 1
                              have jf1 := hW2.free 1
                              refine hK.out _ _ (.inr ⟨j1, (hb2.cell hbA).trans q0, (hb2.cell (p := ⟨(ad.add (i * 2)).block, (ad.add (i * 2)).off + 1, none⟩) hbA).trans q1⟩) ?_
                              clear hK K hown2 hgr2 hbl2 hb2 hW2 hlo hba
                              try simp only [Act.put, List.setIfInBounds_toArray, List.set_cons_zero, List.set_cons_succ]
                              refine wpAnyL_ready (rs := [8]) (by kernel_rfl) (by simp) ?_
                              refine' ReadyL.cons ?ho47 (fun K hK => ?step47) ?more47
                              case ho47 => simp only [List.getElem?_toArray, List.getElem?_cons_succ, List.getElem?_cons_zero]; rfl
                              case step47 =>
                                go_simp
                                refine hK.out _ _ (.inl (by decide)) ?_
                                clear hK K
                                try simp only [Act.put, List.setIfInBounds_toArray, List.set_cons_zero, List.set_cons_succ]
                                refine wpAnyL_ready (rs := [9]) (by kernel_rfl) (by simp) ?_
                                refine' ReadyL.cons ?ho48 (fun K hK => ?step48) ?more48
                                case ho48 => simp only [List.getElem?_toArray, List.getElem?_cons_succ, List.getElem?_cons_zero]; rfl
                                case step48 =>
                                  go_simp
                                  refine hK.out _ _ (.inl (by decide)) ?_
                                  clear hK K
                                  try simp only [Act.put, List.setIfInBounds_toArray, List.set_cons_zero, List.set_cons_succ]
                                  refine wpAnyL_done (by kernel_rfl) ?_ _
                                  go_wp2_with fail
                                  go_roundw
                                  case rel => exact ⟨i + 1, steps + 1, ⟨n1, s.nm, s.vl ++ [(b, o)], s.al⟩, x, ⟨A2, y.n + 1, c2, y.ch ++ [(b, o)]⟩, rs, _, by go_num, rfl, by go_num, HIR.out.go HIN.out HRI.out HST2.out HNN.out hn99 (stepT_value hn1) rfl HIR.out.xc (by show y.ch ++ _ = s.vl ++ _; rw [HIR.out.yc]) HIR.out.rc HM2.out⟩
                                  case measure => simp [intOf]; omega
                                exact ReadyL.nil
                              exact ReadyL.nil
                            exact ReadyL.nil
                          exact ReadyL.nil
                        · obtain ⟨rfl, rfl, rfl⟩ : n1 = n1' ∧ ad1 = false ∧ ag = g' := by simpa using hN
                          have q99 : ((n1 : Int) == 99) = false := by rw [beq_eq_false_iff_ne]; omega
                          clear HCS HTnone HTsome HDN hN
                          by_cases hn1 : n1 = 1
                          · have hsi : ((s.st : Int) == 0) = false := by rw [beq_eq_false_iff_ne]; intro e; exact hnr ⟨hn1, by omega⟩
                            have qn1 : ((n1 : Int) == 1) = true := by rw [hn1]; rfl
                            clear hn1
                            cases ag
                            · go_wp2_with fail
                              go_roundw
                              case rel => exact ⟨i + 1, steps + 1, ⟨n1, s.nm, s.vl, s.al⟩, x, y, rs, _, by go_num, rfl, by go_num, HIR.out.go HIN.out HRI.out HST2.out HNN.out hn99 (stepT_none hnr) rfl HIR.out.xc HIR.out.yc HIR.out.rc HIR.out.mem.drew⟩
                              case measure => simp [intOf]; omega
                            · go_wp2_with fail
                              go_roundw
                              case rel => exact ⟨i, steps + 1, ⟨n1, s.nm, s.vl, s.al⟩, x, y, rs, _, rfl, rfl, by go_num, HIR.out.go HIN.out HRI.out HST2.out HNN.out hn99 (stepT_none hnr) rfl HIR.out.xc HIR.out.yc HIR.out.rc HIR.out.mem.drew⟩
                              case measure => simp [intOf]; omega
                          · have qn1 : ((n1 : Int) == 1) = false := by rw [beq_eq_false_iff_ne]; omega
                            clear hn1
                            cases ag
                            · go_wp2_with fail
                              go_roundw
                              case rel => exact ⟨i + 1, steps + 1, ⟨n1, s.nm, s.vl, s.al⟩, x, y, rs, _, by go_num, rfl, by go_num, HIR.out.go HIN.out HRI.out HST2.out HNN.out hn99 (stepT_none hnr) rfl HIR.out.xc HIR.out.yc HIR.out.rc HIR.out.mem.drew⟩
                              case measure => simp [intOf]; omega
                            · go_wp2_with fail
                              go_roundw
                              case rel => exact ⟨i, steps + 1, ⟨n1, s.nm, s.vl, s.al⟩, x, y, rs, _, rfl, rfl, by go_num, HIR.out.go HIN.out HRI.out HST2.out HNN.out hn99 (stepT_none hnr) rfl HIR.out.xc HIR.out.yc HIR.out.rc HIR.out.mem.drew⟩
                              case measure => simp [intOf]; omega
                      exact ReadyL.nil
                    exact ReadyL.nil
                  · have hk2 : ¬ (steps : Int) < 4 * (n : Int) + 9 := by omega
                    have HT := Lib.hid (HTnone.out (by rw [hI.run, show 4 * L.length + 9 - steps = 0 by have := HN.out; omega]; rfl))
                    have HBx := Lib.hid hI.mem.below
                    clear hI
                    go_wp2_with fail
                    refine bodyPost_ret (v := .tuple #[.agg #[.int .i64 0, .slice none 0 0, .slice none 0 0, .bool false, .slice none 0 0], .int .i64 0]) ?_ rfl ?_
                    · simp [results, Tryz.results15, go_sem, k0, k1, k2, k3, k4]
                    · exact tellsRT_zero HT.out (set5_below HBx.out _ _ _ _ _)
                · have hk1 : ¬ (i : Int) < (n : Int) := by omega
                  have HT := Lib.hid (HTnone.out (by rw [hI.run]; exact runT_out (List.getElem?_eq_none (by rw [HN.out]; omega))))
                  have HBx := Lib.hid hI.mem.below
                  clear hI
                  go_wp2_with fail
                  refine bodyPost_ret (v := .tuple #[.agg #[.int .i64 0, .slice none 0 0, .slice none 0 0, .bool false, .slice none 0 0], .int .i64 0]) ?_ rfl ?_
                  · simp [results, Tryz.results15, go_sem, k0, k1, k2, k3, k4]
                  · exact tellsRT_zero HT.out (set5_below HBx.out _ _ _ _ _)
    · have HT := Lib.hid (tagP_first HR0.out h60)
      have n60 : ((b0.toNat : Int) == 60) = false := by
        have e60 : ((b0.toNat : Int) == 60) = (b0 == 60) := byte_beq b0 60
        rw [e60]; exact beq_eq_false_iff_ne.2 h60
      have m60 : ((b0.toNat : Int) != 60) = true := byte_bne (k := 60) h60
      simp only [Nat.zero_mul] at hc0
      rw [show ad.add 0 = ad by unfold Addr.add; rfl] at hc0
      have hp2 : ¬ (n : Int) ≤ 1 := by omega
      clear hl hn hin HR0 HR1 hc1 h60
      go_enter Tryz.func15, Tryz.ntmps15
      go_upto_if 29 with fail
      generalize hw0 : (w.alloc (.cells #[.int .i64 0, .slice none 0 0, .slice none 0 0, .bool false, .slice none 0 0] 39)).alloc (.cells #[.int .i64 1, .slice none 0 0, .slice none 0 0, .bool false, .slice none 0 0] 39) = w0
      have y0 : Whole w0 w.heap.size 39 #[.int .i64 0, .slice none 0 0, .slice none 0 0, .bool false, .slice none 0 0] := by rw [← hw0]; exact (Whole.made w _ _).alloc _
      have hbx : Below w.heap.size w w0 := by rw [← hw0]; exact ((Below.refl _ _).alloc (Nat.le_refl _) _).alloc (by simp) _
      have c0 : w0.cell? ad = some (.int .u8 b0.toNat) := (hbx.cell hb0).trans hc0
      have k0 := y0.at_ 0
      have k1 := y0.at_ 1
      have k2 := y0.at_ 2
      have k3 := y0.at_ 3
      have k4 := y0.at_ 4
      have kf0 := y0.free 0
      have kf1 := y0.free 1
      have kf2 := y0.free 2
      have kf3 := y0.free 3
      have kf4 := y0.free 4
      clear hw0 hc0
      go_wp2_with fail
      refine bodyPost_ret (v := .tuple #[.agg #[.int .i64 0, .slice none 0 0, .slice none 0 0, .bool false, .slice none 0 0], .int .i64 0]) ?_ rfl ?_
      · simp [results, Tryz.results15, go_sem, k0, k1, k2, k3, k4]
      · exact tellsRT_zero HT.out (set5_below hbx _ _ _ _ _)

end Go.Proofs.YtdiifkmcbnhliaaGreat.mk

namespace Go.Proofs.YtdiifkmcbnhliaaGreat.mk
open Go.RowKit

set_option maxHeartbeats 8000000 in
set_option maxRecDepth 100000 in
theorem refTokTag (L : Ch) (w : World) (n : Nat) (X : Exit → Act → World → Prop) (K : Act → World → Prop) (hend : EndT L w n X) (hret : RetT L w X)
    (toks1 : List PTok) (l1 : Ch) (ad1 : Addr) (A2 : Option Addr) (n1 c1' n2 c2 : Nat) (wc : World) (hLZ : L.length ≤ 1000000) (hB : Below w.heap.size w wc) (hl1 : Lies wc w.heap.size (some ad1) (chCells l1)) (hin1 : InR l1) (hn1' : l1.length = n1) (hn1p : 0 < n1) (hnc1 : n1 ≤ c1') (hn1z : n1 ≤ 1000000) (hn1n : n1 ≤ n)
    (hr2 : RTk wc w.heap.size toks1 (.slice A2 n2 c2)) (hh : HdT L.length toks1 n1) (hnx : ∀ o' l', markT toks1 l1 = some (o', l') → l'.length < n → TokTo L o' l')
    (hno : markT toks1 l1 = none → toks1 = toksP L)
    (b1 b2 : UInt8) (hq : (letB (byteT l1 1) || (byteT l1 1 == 47 && letB (byteT l1 2))) = true) (u2 u4 u7 u8 u9 u10 u11 u12 u13 u14 u15 u16 u17 u18 u19 u20 u21 u22 u23 u24 u25 u26 u27 u28 u29 u30 u31 u32 u33 u34 u35 u36 u37 u38 u39 u40 u41 u42 u43 u44 u45 u46 u47 u48 u49 u50 u51 u52 u53 u54 u55 u56 u57 u58 u59 u60 u61 u62 u63 u64 u65 u66 u67 u68 u69 u70 u71 u72 u73 u74 u75 u76 u77 u78 u79 u80 u81 u82 u83 u84 u85 u86 u87 u88 u89 u90 u91 u92 u93 u94 u95 u96 u97 u98 u99 u100 u101 u102 u103 u104 u105 u106 u107 u108 u109 u110 u111 u112 u113 u114 u115 u116 u117 u118 u119 u120 u121 u122 u123 u124 u125 u126 u127 u128 u129 u130 u131 u132 u133 u134 u135 u136 u137 u138 u139 u140 u141 u142 u143 u144 u145 u146 u147 u148 u149 u150 u151 u152 u153 u154 u155 u156 u157 u158 u159 u160 u161 u162 u163 u164 u165 u166 u167 u168 u169 u170 u171 u172 u173 u174 u175 u176 u177 u178 u179 u180 u181 u182 u183 u184 u185 u186 u187 u188 u189 : Value)
    (hK : ∀ a wx, Code.wp Tryz.prog (nav [.sr, .sr, .sl, .bl, .lo, .sr, .bl, .sr, .sr, .sr, .sr, .sr, .sr, .sr, .sr, .bl, .sr, .th, .sr] (Tryz.f8.body.getD .skip)) X a wx → K a wx) :
    Code.wp Tryz.prog (nav [.sr, .sr, .sl, .bl, .lo, .sr, .bl, .sr, .sr, .sr, .sr, .sr, .sr, .sr, .sr, .bl, .sr, .th, .sl] (Tryz.f8.body.getD .skip)) (Exit.then K X) ⟨#[.slice (some ad1) n1 c1', undef, u2, .slice A2 n2 c2, u4, .int .u8 (b1.toNat : Int), .int .u8 (b2.toNat : Int), u7, u8, u9, u10, u11, u12, u13, u14, u15, u16, u17, u18, u19, u20, u21, u22, u23, u24, u25, u26, u27, u28, u29, u30, u31, u32, u33, u34, u35, u36, u37, u38, u39, u40, u41, u42, u43, u44, u45, u46, u47, u48, u49, u50, u51, u52, u53, u54, u55, u56, u57, u58, u59, u60, u61, u62, u63, u64, u65, u66, u67, u68, u69, u70, u71, u72, u73, u74, u75, u76, u77, u78, u79, u80, u81, u82, u83, u84, u85, u86, u87, u88, u89, u90, u91, u92, u93, u94, u95, u96, u97, u98, u99, u100, u101, u102, u103, u104, u105, u106, u107, u108, u109, u110, u111, u112, u113, u114, u115, u116, u117, u118, u119, u120, u121, u122, u123, u124, u125, u126, u127, u128, u129, u130, u131, u132, u133, u134, u135, u136, u137, u138, u139, u140, u141, u142, u143, u144, u145, u146, u147, u148, u149, u150, u151, u152, u153, u154, u155, u156, u157, u158, u159, u160, u161, u162, u163, u164, u165, u166, u167, u168, u169, u170, u171, u172, u173, u174, u175, u176, u177, u178, u179, u180, u181, u182, u183, u184, u185, u186, u187, u188, u189, undef], []⟩ wc := by
  obtain ⟨i0, hi, hz0, hz1, hz2⟩ := info_parts rt_info
  have HLZ := Lib.hid hLZ
  have HB2 := Lib.hid hB
  have HL1 := Lib.hid hl1
  have HIN1 := Lib.hid hin1
  have HN1 := Lib.hid hn1'
  have HR2 := Lib.hid hr2
  have HH := Lib.hid hh
  have HNX := Lib.hid hnx
  have HEND := Lib.hid hend
  let _bp := bodyPost Tryz.prog Tryz.f8 (TellsRTs (toksP L) w)
  have hzc : w.heap.size ≤ wc.heap.size := hB.size
  have HNO := Lib.hid hno
  have HRET := Lib.hid hret
  have HM1 := Lib.hid hq
  clear hno hret hq
  clear hLZ hB hl1 hin1 hn1' hr2 hh hnx hend
  dsimp only [nav, Tryz.f8, Option.getD] at hK ⊢
  have HTG := Lib.hid (refTag_any (some ad1) n1 c1' l1 wc (HL1.out.mono hzc) HN1.out HIN1.out hn1z)
  go_wp2_with fail
  refine HTG.out.mono ?_
  rintro e w3 ⟨t, rfl, ht, hb3⟩
  have HTT := Lib.hid ht.out
  have hz3 := hb3.size
  have HB3 : Hid (Below w.heap.size w w3) := HB2.out.trans (hb3.mono hzc)
  have HBW : Hid (Below w.heap.size wc w3) := hb3.mono hzc
  have HR3 : Hid (RTk w3 w.heap.size toks1 (.slice A2 n2 c2)) := HR2.out.keep hzc hb3
  have HT3 : Hid (t.ok w3 w.heap.size) := RT.ok.mono HTT.out.2.1 HTT.out.2.2.1 HTT.out.2.2.2 hzc
  obtain ⟨k, hk⟩ : ∃ k, (tagR l1).2 = k := ⟨_, rfl⟩
  rw [hk]
  have HK := Lib.hid hk
  clear ht hb3 HTG hk
  go_upto_if 79 with fail
  generalize hw4 : w3.alloc (.cells #[.int .i64 (t.kind : Int), .slice t.nm.A t.nm.n t.nm.c, .slice t.aA t.an t.ac, .bool t.close, .slice t.tx.A t.tx.n t.tx.c] 39) = w4
  have y4 : Hid (Whole w4 w3.heap.size 39 #[.int .i64 (t.kind : Int), .slice t.nm.A t.nm.n t.nm.c, .slice t.aA t.an t.ac, .bool t.close, .slice t.tx.A t.tx.n t.tx.c]) := by rw [← hw4]; exact Whole.made _ _ _
  have hb4 : Below w3.heap.size w3 w4 := by rw [← hw4]; exact (Below.refl _ _).alloc (Nat.le_refl _) _
  have HB4 : Hid (Below w.heap.size w w4) := HB3.out.trans (hb4.mono HB3.out.size)
  have HBW4 : Hid (Below w.heap.size wc w4) := HBW.out.trans (hb4.mono HB3.out.size)
  have HR4 : Hid (RTk w4 w.heap.size toks1 (.slice A2 n2 c2)) := HR3.out.keep HB3.out.size hb4
  have HT4 : Hid (t.ok w4 w.heap.size) := HT3.out.below HB3.out.size hb4
  have hz4 := hb4.size
  have hz40 := HB4.out.size
  have hz30 := HB3.out.size
  have hz34 : w3.heap.size < w4.heap.size := y4.out.lt
  clear hb4 hw4
  by_cases hk0 : k = 0
  · have HTN : Hid (tagP l1 = none) := by
      show _ = _
      have h1 := HK.out
      unfold tagR at h1
      cases h2 : tagP l1 with
      | none => rfl
      | some p =>
        obtain ⟨p1, p2⟩ := p
        rw [h2] at h1
        have h3 := (tagP_le h2).1
        have h4 : p2 = k := h1
        omega
    have hkz : ((k : Int) == 0) = true := by rw [hk0]; rfl
    have HE : Hid (toks1 = toksP L) := HNO.out (markT_no HM1.out HTN.out)
    have HRE := HRET.out
    unfold RetT at HRE
    clear hk0
    go_wp2_with fail
    apply HRE
    · rw [← HE.out]; exact HR4.out
    · exact HB4.out
  · have hkz : ((k : Int) == 0) = false := by rw [beq_eq_false_iff_ne]; omega
    have HTP : Hid (tagP l1 = some (t.pt, k)) := by
      show _ = _
      have h1 := HK.out
      have h5 := HTT.out.1
      unfold tagR at h1 h5
      cases h2 : tagP l1 with
      | none => rw [h2] at h1; exact absurd h1.symm hk0
      | some p =>
        obtain ⟨p1, p2⟩ := p
        rw [h2] at h1 h5
        have h3 : t.pt = p1 := h5
        have h4 : p2 = k := h1
        rw [h3, h4]
    have hk2 : 2 ≤ k := (tagP_le HTP.out).1
    have hkn : k ≤ n1 := by have := (tagP_le HTP.out).2; rw [HN1.out] at this; exact this
    have HTX : Hid (t.pt.text = []) := tagP_text HTP.out
    obtain ⟨_, _, ts, ex, ho, hp, hkk⟩ := HR4.out
    injection ex with e1 e2 e3
    subst e1 e2 e3
    have hts := (RTk.sizes hp hkk HH.out).1
    have HKK := Lib.hid hkk
    have HP := Lib.hid hp
    have HO := Lib.hid ho
    have hlz := HLZ.out
    have d0 := y4.out.at_ 0
    have d1 := y4.out.at_ 1
    have d2 := y4.out.at_ 2
    have d3 := y4.out.at_ 3
    have d4 := y4.out.at_ 4
    clear hk0 hp hkk
    go_wp2_with (at_builtin; refine wpList_append_own_at _ rfl _ _ 29 rfl w.heap.size 39 i0 _ 5 88 Tryz.underlying29 hi hz0 hz1 hz2 rfl (by decide) (.slice A2 ts.length c2) ts.length _ rfl (ho.alloc _) ⟨w4.heap.size, 0, none⟩ 1 1 (rtRow (t)) rfl rfl (cells_new w4 _ _) (by simp [Value.oneCell', rtRow]) (by simp only [maxLen]; omega) (by omega) (by simp; omega) ?_)
    intro v5 w5 hown5 hg5 _ hblk
    obtain ⟨A5, c5, rfl, _, _, _⟩ := own_form hown5
    have hba := Below.alloc (Below.refl w4.heap.size w4) (Nat.le_refl _) (.cells (rtRow t).toArray 39)
    obtain ⟨hr5, hb5⟩ := RTk.more (t := t) (Nat.le_trans hz40 hba.size) (HO.out.alloc _) HP.out (fun u hu => (HKK.out u hu).below hz40 hba) (HT4.out.below hz40 hba) hg5 hown5
    have HT5 : Hid (t.ok w5 w.heap.size) := RTk.more2 (t := t) (Nat.le_trans hz40 hba.size) (HO.out.alloc _) (HT4.out.below hz40 hba) hg5
    have hbw : Below w.heap.size w4 w5 := (hba.mono hz40).trans hb5
    have HB5 : Hid (Below w.heap.size w w5) := HB4.out.trans hbw
    have HBW5 : Hid (Below w.heap.size wc w5) := HBW4.out.trans hbw
    have y5 : Hid (Whole w5 w3.heap.size 39 #[.int .i64 (t.kind : Int), .slice t.nm.A t.nm.n t.nm.c, .slice t.aA t.an t.ac, .bool t.close, .slice t.tx.A t.tx.n t.tx.c]) := (y4.out.alloc _).grown hg5 (fun h => by
      obtain ⟨A0, c0, ts0, e0, h0, _, _⟩ := HR3.out
      rw [e0] at h
      have h9 := (h0.lt w3.heap.size h.symm).2
      omega)
    have HR5 := Lib.hid hr5
    have hz50 := HB5.out.size
    clear hr5 hb5 hba hg5 hown5 hblk ho hbw d0 d1 d2 d3 d4 HO HKK HP HR4 HR3 HT3 HT4 HTT y4
    generalize ts.length + 1 = n5 at *
    have hkc : (k : Int) ≤ (c1' : Int) := by omega
    have HL5 : Hid (Lies w5 w.heap.size (some ad1) (chCells l1)) := HL1.out.below HBW5.out
    go_upto_region 23 with fail
    go_cut [0] (fun s0 wx => SlT wx w.heap.size (l1.drop k) s0 ∧ wx = w5)
    case first =>
      (go_wp2_with fail) <;> (
        go_meet
        refine ⟨?_, rfl⟩
        first
        | exact SlT.stop (by rw [HN1.out]; omega) (by omega) (by omega)
        | (refine SlT.off (A' := _) HL5.out HN1.out hnc1 hkn ?_
           first | rfl | (rw [if_neg (by omega)]; rfl) | (rw [if_neg (by omega)])))
    case rest =>
      obtain ⟨⟨A4, c4, rfl, hl4, hlc4, hA4⟩, rfl⟩ := hcut
      have hn4' : (l1.drop k).length = n1 - k := by rw [List.length_drop, HN1.out]
      have HIN4 : Hid (InR (l1.drop k)) := HIN1.out.sub (fun x hx => List.mem_of_mem_drop hx)
      have HH4 : Hid (HdT L.length (toks1 ++ [t.pt]) (n1 - k)) := HdT.more (k := k) (HH.out.mono (by omega)) (by omega) (by rw [HTX.out]; exact Nat.zero_le _)
      have HNR : Hid (t.pt.kind = 1 ∧ (t.pt.name.map (·.1) = [115, 99, 114, 105, 112, 116] ∨ t.pt.name.map (·.1) = [115, 116, 121, 108, 101]) → ((l1.drop k).drop (rawT (t.pt.name.map (·.1)) (l1.drop k))).length < n → TokTo L (dataT (toks1 ++ [t.pt]) ((l1.drop k).take (rawT (t.pt.name.map (·.1)) (l1.drop k)))) ((l1.drop k).drop (rawT (t.pt.name.map (·.1)) (l1.drop k)))) := fun h => HNX.out _ _ (markT_raw HM1.out HTP.out h)
      have HNP : Hid (¬ (t.pt.kind = 1 ∧ (t.pt.name.map (·.1) = [115, 99, 114, 105, 112, 116] ∨ t.pt.name.map (·.1) = [115, 116, 121, 108, 101])) → (l1.drop k).length < n → TokTo L (toks1 ++ [t.pt]) (l1.drop k)) := fun h => HNX.out _ _ (markT_plain HM1.out HTP.out h)
      rw [hn4'] at hlc4 ⊢
      have HL4 := Lib.hid hl4
      have HN4 := Lib.hid hn4'
      generalize l1.drop k = l4 at *
      generalize hq4 : n1 - k = n4 at *
      have hn4n : n4 < n := by omega
      have hn4z : n4 ≤ 1000000 := by omega
      clear hl4 hn4' HL5 HL1 HNX HNO HTX HTP HH HIN1 HN1 hq4 HRET HM1
      generalize toks1 ++ [t.pt] = toks5 at *
      have d1 := y5.out.at_ 1
      have HNMO : Hid (t.nm.ok wc wc.heap.size) := HT5.out.1.ok hz50
      have HXT := Lib.hid (refText_any t.nm.A t.nm.n t.nm.c t.nm.ch wc HNMO.out.1 HNMO.out.2.1 (by have := HNMO.out.2.2.2.2; omega))
      have hnm0 := HNMO.out.2.2.2.2
      clear HNMO
      go_wp2_with fail
      refine HXT.out.mono ?_
      rintro e w6 ⟨rfl, hb6⟩
      obtain ⟨sn, hsn⟩ : ∃ sn : ByteArray, (⟨(t.nm.ch.map (·.1)).toArray⟩ : ByteArray) = sn := ⟨_, rfl⟩
      have HS1 : Hid (sn.toList = t.pt.name.map (·.1)) := by show _ = _; rw [← hsn]; exact name_list _
      have HS2 : Hid (sn.data.toList = t.pt.name.map (·.1)) := by show _ = _; rw [← hsn]; rfl
      have HSZ : sn.size ≤ 268435456 := by
        have h1 : sn.data.toList.length = sn.size := by rw [Array.length_toList]; rfl
        rw [← h1, HS2.out, List.length_map]
        show t.nm.ch.length ≤ _
        have h2 := HT5.out.1.ok hz50
        rw [h2.2.1]
        exact h2.2.2.2.2
      rw [hsn]
      have y6 := Lib.hid (y5.out.below hb6 y5.out.lt)
      have d0 := y6.out.at_ 0
      have HB6 : Hid (Below w.heap.size w w6) := HB5.out.trans (hb6.mono hz50)
      have HBW6 : Hid (Below w.heap.size wc w6) := hb6.mono hz50
      have HR6 : Hid (RTk w6 w.heap.size toks5 (.slice A5 n5 c5)) := HR5.out.keep hz50 hb6
      have HL6 : Hid (Lies w6 w.heap.size A4 (chCells l4)) := HL4.out.below HBW6.out
      have hz60 := HB6.out.size
      obtain ⟨pk, hpk⟩ : ∃ pk, decide (t.kind = 1) = pk := ⟨_, rfl⟩
      have epk : ((t.kind : Int) == 1) = pk := by
        rw [← hpk]
        by_cases h : t.kind = 1
        · rw [decide_eq_true h, h]; rfl
        · rw [decide_eq_false h, beq_eq_false_iff_ne]; omega
      obtain ⟨ps, hps⟩ : ∃ ps, (sn.toList == [115, 99, 114, 105, 112, 116]) = ps := ⟨_, rfl⟩
      obtain ⟨pt, hpt⟩ : ∃ pt, (sn.toList == [115, 116, 121, 108, 101]) = pt := ⟨_, rfl⟩
      obtain ⟨dr, hdr⟩ : ∃ dr, (pk && (ps || pt)) = dr := ⟨_, rfl⟩
      have HDR : Hid (dr = true ↔ t.pt.kind = 1 ∧ (t.pt.name.map (·.1) = [115, 99, 114, 105, 112, 116] ∨ t.pt.name.map (·.1) = [115, 116, 121, 108, 101])) := by
        show _ ↔ _
        rw [← hdr, ← hpk, ← hps, ← hpt, HS1.out]
        simp only [Bool.and_eq_true, Bool.or_eq_true, decide_eq_true_eq, beq_iff_eq]
        rfl
      have Hdr := Lib.hid hdr
      clear hb6 HXT d1 hpk hdr hsn y5 HL4 HR5 HB5 HBW5 HBW4 HB4 HB3 HBW HB2 HT5
      go_upto_region 25 with fail
      go_cut [101] (fun sx wx => sx = .bool dr ∧ wx = w6)
      case first =>
        cases pk
        · go_wp2_with fail
          go_meet
          exact ⟨by rw [← Hdr.out]; rfl, rfl⟩
        · cases ps
          · go_wp2_with fail
            go_meet
            exact ⟨by rw [← Hdr.out]; rfl, rfl⟩
          · go_wp2_with fail
            go_meet
            exact ⟨by rw [← Hdr.out]; rfl, rfl⟩
      case rest =>
        obtain ⟨rfl, rfl⟩ := hcut
        clear hps hpt epk d0
        cases dr
        · have HQ5 : Hid (InR l4 ∧ HdT L.length toks5 l4.length ∧ TokTo L toks5 l4) := ⟨HIN4.out, by rw [HN4.out]; exact HH4.out, HNP.out (fun h => absurd (HDR.out.2 h) (by decide)) (by rw [HN4.out]; exact hn4n)⟩
          have HE := HEND.out
          unfold EndT at HE
          go_wp2_with fail
          apply HE
          · exact ⟨l4, toks5, ⟨A4, c4, by rw [HN4.out], HL6.out, by rw [HN4.out]; exact hlc4, hA4⟩, HR6.out, HQ5.out, HB6.out⟩
          · simp only [lenV]; omega
        · have HDRT := Lib.hid (HDR.out.1 rfl)
          have HNR5 := Lib.hid (HNR.out HDRT.out)
          clear HNR HNP HDR HDRT
          generalize t.pt.name.map (·.1) = nmb at *
          go_upto_block 5 with fail
          go_cut [8] (fun sx wx => sx = .int .i64 (rawT nmb l4 : Int) ∧ Below wc.heap.size wc wx)
          case first =>
            obtain ⟨wd, hwd⟩ : ∃ wd : World, wd = wc := ⟨_, rfl⟩
            subst hwd
            go_wp2_with fail
            go_loopw [8] (fun sx wx => ∃ j : Nat, j ≤ rawT nmb l4 ∧ sx = .int .i64 (j : Int) ∧ Below wd.heap.size wd wx) (fun i _ => n4 - (intOf i).toNat)
            case atStart => exact ⟨0, Nat.zero_le _, rfl, Below.refl _ _⟩
            case round =>
              obtain ⟨j, hj, rfl, hbj⟩ := hrel
              have hj0 : (0 : Int) ≤ (j : Int) := Int.natCast_nonneg _
              have HAT := Lib.hid (rawT_stepR nmb l4 j hj)
              have HBJ := Lib.hid hbj
              clear hbj
              by_cases hjn : j < n4
              · obtain ⟨ad4, _, _, rfl, hba4, _, _, _⟩ := HL6.out.ch (k := j) (by rw [HN4.out]; exact hjn)
                have hj1 : (j : Int) < (n4 : Int) := by omega
                have hjc : (j : Int) ≤ (c4 : Int) := by omega
                have hcj : (c4 = j) = False := by simp; omega
                have HEN := Lib.hid (refEnds_any (some (ad4.add (j * 2))) (n4 - j) (c4 - j) (l4.drop j) sn wr (by rw [chCells_drop]; exact ((HL6.out.below (HBJ.out.mono hz60)).mono (Nat.le_trans hz60 HBJ.out.size)).drop _) (by rw [List.length_drop, HN4.out]) (by omega) HSZ)
                rw [HS2.out] at HEN
                obtain ⟨en, hen⟩ : ∃ en, endsT (l4.drop j) nmb = en := ⟨_, rfl⟩
                rw [hen] at HEN HAT
                clear hen
                cases en
                · have HJ2 : Hid (j + 1 ≤ rawT nmb l4) := HAT.out.2.2 rfl (by rw [HN4.out]; exact hjn)
                  clear HAT
                  go_wp2_with fail
                  refine HEN.out.mono ?_
                  rintro e wz ⟨rfl, hbz⟩
                  have HBZ : Hid (Below wd.heap.size wd wz) := below_next HBJ.out (Nat.le_refl _) hbz
                  clear hbz
                  go_wp2_with fail
                  go_roundw
                  case rel => exact ⟨j + 1, HJ2.out, by go_num, HBZ.out⟩
                  case measure => simp [intOf]; omega
                · have HJ2 : Hid (j = rawT nmb l4) := HAT.out.2.1 rfl (by rw [HN4.out]; exact hjn)
                  clear HAT
                  go_wp2_with fail
                  refine HEN.out.mono ?_
                  rintro e wz ⟨rfl, hbz⟩
                  have HBZ : Hid (Below wd.heap.size wd wz) := below_next HBJ.out (Nat.le_refl _) hbz
                  clear hbz
                  go_wp2_with fail
                  go_meet
                  exact ⟨by rw [HJ2.out], HBZ.out⟩
              · have HJ2 : Hid (j = rawT nmb l4) := HAT.out.1 (by rw [HN4.out]; omega)
                have hj1 : ¬ (j : Int) < (n4 : Int) := by omega
                clear HAT
                go_wp2_with fail
                go_meet
                exact ⟨by rw [HJ2.out], HBJ.out⟩
          case rest =>
            obtain ⟨rfl, hbr⟩ := hcut
            have hrl := rawT_le nmb l4
            rw [HN4.out] at hrl
            generalize rawT nmb l4 = r at *
            have hrc : (r : Int) ≤ (c4 : Int) := by omega
            have hr0 : (0 : Int) ≤ (r : Int) := Int.natCast_nonneg _
            have HBR : Hid (Below w.heap.size w wc) := HB6.out.trans (hbr.mono hz60)
            have HRR := Lib.hid (HR6.out.keep hz60 hbr)
            have HLR := Lib.hid (HL6.out.below (hbr.mono hz60))
            clear hbr HB6 HR6 HL6
            have hzc' := HBR.out.size
            have HTX := Lib.hid (refTextK_any w.heap.size A5 n5 c5 toks5 ⟨A4, r, c4, l4.take r⟩ L.length wc hzc' HRR.out (Or.inl ⟨by rw [chCells_take]; exact HLR.out.take _, by show (l4.take r).length = r; rw [List.length_take, HN4.out]; omega, by show r ≤ c4; omega, hA4, by show r ≤ _; omega⟩) (HH4.out.mono (by show r ≤ _; omega)) HLZ.out)
            go_wp2_with fail
            refine HTX.out.mono ?_
            rintro e w7 ⟨A7, c7, n7, rfl, hr7, hb7⟩
            have HR7 := Lib.hid hr7
            have HB7 : Hid (Below w.heap.size w w7) := HBR.out.trans hb7
            have HL7 : Hid (Lies w7 w.heap.size A4 (chCells l4)) := HLR.out.below hb7
            have HQ7 : Hid (InR (l4.drop r) ∧ HdT L.length (dataT toks5 (l4.take r)) (l4.drop r).length ∧ TokTo L (dataT toks5 (l4.take r)) (l4.drop r)) := by
              refine ⟨HIN4.out.sub (fun x hx => List.mem_of_mem_drop hx), ?_, HNR5.out (by rw [List.length_drop, HN4.out]; omega)⟩
              rw [List.length_drop, HN4.out]
              exact HdT.data (HH4.out.mono (by rw [List.length_take, HN4.out]; omega))
            have HE := HEND.out
            unfold EndT at HE
            clear hr7 hb7 HTX HLR HRR
            cases A4 with
            | none =>
              obtain rfl : c4 = 0 := hA4 rfl
              obtain rfl : n4 = 0 := by omega
              obtain rfl : r = 0 := by omega
              (go_wp2_with fail) <;> (
                apply HE
                · exact ⟨_, _, SlT.stop (by rw [HN4.out]; omega) (by omega) (by omega), HR7.out, HQ7.out, HB7.out⟩
                · simp only [lenV]; omega)
            | some ad4 =>
              (go_wp2_with fail) <;> (
                apply HE
                · refine ⟨_, _, ?_, HR7.out, HQ7.out, HB7.out⟩
                  first
                  | exact SlT.stop (by rw [HN4.out]; omega) (by omega) (by omega)
                  | (refine SlT.off (A' := _) HL7.out HN4.out hlc4 hrl ?_
                     first | rfl | (rw [if_neg (by omega)]; rfl) | (rw [if_neg (by omega)]))
                · simp only [lenV]; omega)


end Go.Proofs.YtdiifkmcbnhliaaGreat.mk

namespace Go.Proofs.YtdiifkmcbnhliaaGreat.mk
open Go.RowKit

set_option maxHeartbeats 8000000 in
set_option maxRecDepth 100000 in
theorem refTokens_any (A : Option Addr) (n c : Nat) (L : Ch) (w : World) (hl : Lies w w.heap.size A (chCells L)) (hn : L.length = n) (hnc : n ≤ c) (hA : A = none → c = 0) (hin : InR L) (hz : n ≤ 1000000) :
    Calls Tryz.prog 8 #[.slice A n c] w (TellsRTs (toksP L) w) := by
  obtain ⟨i0, hi, hz0, hz1, hz2⟩ := info_parts rt_info
  have HST : Hid (RTokRel L w (.slice A n c) (.slice none 0 0) w) := ⟨L, [], ⟨A, c, by rw [hn], hl, by omega, hA⟩, ⟨none, 0, [], rfl, World.ownsRow_nil _ _ _ _, rfl, fun t ht => by cases ht⟩, ⟨hin, ⟨by show 0 + _ ≤ _; omega, fun p hp => by cases hp⟩, TokTo.start L⟩, Below.refl _ _⟩
  have hLz : L.length ≤ 1000000 := by omega
  have HLZ := Lib.hid hLz
  clear hl hn hnc hA hin hz hLz
  go_enter Tryz.func8, Tryz.ntmps8
  go_wp2_with fail
  go_loopw [0, 3] (RTokRel L w) (fun s0 _ _ => lenV s0)
  case atStart => exact HST.out
  case round =>
    obtain ⟨l, toks, ⟨A, c, rfl, hl, hlc, hA⟩, hrt, hq, hb⟩ := hrel
    obtain ⟨Ao, co, ts, rfl, ho, hp, hk⟩ := hrt
    obtain ⟨wo, hwo⟩ : ∃ wo : World, wo = wr := ⟨_, rfl⟩
    subst hwo
    have HL := Lib.hid hl
    have HQ := Lib.hid hq.out
    have HB := Lib.hid hb
    have hbz := hb.size
    have HRT : Hid (RTk wo w.heap.size toks (.slice Ao ts.length co)) := ⟨Ao, co, ts, rfl, ho, hp, hk⟩
    obtain ⟨n, hn⟩ : ∃ n, l.length = n := ⟨_, rfl⟩
    rw [hn] at hlc ⊢
    have HN := Lib.hid hn
    have hnz : n ≤ 1000000 := by have h1 := HQ.out.2.1.1; have h2 := HLZ.out; omega
    clear hl hq hb ho hp hk hn HST
    generalize ts.length = no at *
    by_cases hn0 : n = 0
    · subst hn0
      have HE : Hid (toks = toksP L) := by
        have h1 : l = [] := List.length_eq_zero_iff.1 HN.out
        have h2 := HQ.out.2.2
        rw [h1] at h2
        exact h2.done
      go_wp2_with fail
      go_ret
      exact ⟨Ao, co, no, rfl, by rw [← HE.out]; exact HRT.out, HB.out⟩
    · have hn1 : (0 : Int) < (n : Int) := by omega
      have HNE : Hid (l ≠ []) := fun h => hn0 (by rw [← HN.out, h]; rfl)
      have HLT := Lib.hid (ltT_le l)
      go_upto_block 2 with fail
      rw [show decide (0 < n) = true from decide_eq_true (by omega)]
      go_cut [4] (fun s4 wx => s4 = .int .i64 (ltT l : Int) ∧ wx = wo)
      case first =>
        clear hn0 hn1
        go_wp2_with fail
        go_loopw [4] (fun s4 wx => ∃ k : Nat, k ≤ ltT l ∧ s4 = .int .i64 (k : Int) ∧ wx = wo) (fun i _ => n - (intOf i).toNat)
        case atStart => exact ⟨0, Nat.zero_le _, rfl, rfl⟩
        case round =>
          obtain ⟨k, hkl, rfl, rfl⟩ := hrel
          have hk0 : (0 : Int) ≤ (k : Int) := Int.natCast_nonneg _
          have HAT := Lib.hid (ltT_at hkl)
          by_cases hkn : k < n
          · obtain ⟨ad, b, o, rfl, hba, d0, _, HR⟩ := HL.out.ch (k := k) (by rw [HN.out]; exact hkn)
            have hk1 : (k : Int) < (n : Int) := by omega
            by_cases hb60 : b = 60
            · have hx : ((b.toNat : Int) != 60) = false := by subst hb60; rfl
              have HKE : Hid (k = ltT l) := HAT.out.2 (fun b' o' h => by rw [HR.out] at h; injection h with h; injection h with h _; rw [← h]; exact hb60)
              clear hb60
              go_wp2_with fail
              go_meet
              exact ⟨by rw [HKE.out], rfl⟩
            · have hx : ((b.toNat : Int) != 60) = true := by
                rw [bne_iff_ne]
                intro h
                exact hb60 (UInt8.toNat_inj.1 (by show b.toNat = 60; omega))
              have HKE : Hid (k + 1 ≤ ltT l) := HAT.out.1 b o HR.out hb60
              clear hb60
              go_wp2_with fail
              go_roundw
              case rel => exact ⟨k + 1, HKE.out, by go_num, by first | rfl | trivial⟩
              case measure => simp [intOf]; omega
          · have HKE : Hid (k = ltT l) := HAT.out.2 (fun b o h => by have := (List.getElem?_eq_some_iff.1 h).1; have h2 := HN.out; omega)
            have hk1 : ¬ (k : Int) < (n : Int) := by omega
            go_wp2_with fail
            go_meet
            exact ⟨by rw [HKE.out], rfl⟩
      case rest =>
        obtain ⟨rfl, rfl⟩ := hcut
        obtain ⟨m, hm⟩ : ∃ m, ltT l = m := ⟨_, rfl⟩
        rw [hm]
        have HM := Lib.hid hm
        have hmn : m ≤ n := by rw [← hm, ← HN.out]; exact HLT.out
        have hmc : m ≤ c := by omega
        have hmc' : (m : Int) ≤ (c : Int) := by omega
        have hm0 : (0 : Int) ≤ (m : Int) := Int.natCast_nonneg _
        have HD := Lib.hid (refDecode_any A m c (l.take m) wc (by rw [chCells_take]; exact (HL.out.mono hbz).take _) (by rw [List.length_take, HN.out]; omega) hA hmc (HQ.out.1.sub (fun x hx => List.mem_of_mem_take hx)) (by omega))
        have HDL : Hid ((decE (l.take m)).length ≤ m) := Nat.le_trans (decE_len _) (by rw [List.length_take]; omega)
        clear hm
        go_wp2_with fail
        refine HD.out.mono ?_
        rintro e w1 ⟨v1, rfl, ho1, hb1⟩
        obtain ⟨A1, c1, rfl, _, _, _⟩ := own_form ho1
        have HT := Lib.hid (refTextK_any w.heap.size Ao no co toks ⟨A1, (decE (l.take m)).length, c1, decE (l.take m)⟩ L.length w1 (Nat.le_trans hbz hb1.size) (HRT.out.keep hbz hb1) (Or.inr ⟨rfl, by show (decE (l.take m)).length ≤ _; have := HDL.out; omega, own_mono ho1 hbz⟩) (HQ.out.2.1.mono (by show (decE (l.take m)).length ≤ _; have := HDL.out; rw [HN.out]; omega)) HLZ.out)
        have HB1 : Hid (Below w.heap.size w w1) := HB.out.trans (hb1.mono hbz)
        have HBK : Hid (Below w.heap.size wc w1) := hb1.mono hbz
        clear ho1 hb1 HD
        go_wp2_with fail
        refine HT.out.mono ?_
        rintro e w2 ⟨A2, c2, n2, rfl, hr2, hb2⟩
        have HR2 := Lib.hid hr2
        have HB2 : Hid (Below w.heap.size w w2) := HB1.out.trans hb2
        have HBC : Hid (Below w.heap.size wc w2) := HBK.out.trans hb2
        have HH : Hid (HdT L.length (dataT toks (decE (l.take m))) (n - m)) := HdT.data (HQ.out.2.1.mono (by have := HDL.out; rw [HN.out]; omega))
        clear hr2 hb2 HT
        by_cases hmeq : m = n
        · have HE : Hid (dataT toks (decE (l.take m)) = toksP L) := by
            have h1 := HQ.out.2.2.far HNE.out (List.drop_of_length_le (by rw [HM.out, HN.out]; omega))
            rw [HM.out] at h1
            exact h1
          subst hmeq
          go_wp2_with fail
          · go_ret
            exact ⟨A2, c2, n2, rfl, by rw [← HE.out]; exact HR2.out, HB2.out⟩
          · go_ret
            exact ⟨A2, c2, n2, rfl, by rw [← HE.out]; exact HR2.out, HB2.out⟩
        · have hmlt : m < n := by omega
          obtain ⟨ad, b0, o0, rfl, hba, _, _, HR0⟩ := HL.out.ch (k := m) (by rw [HN.out]; exact hmlt)
          have hlb : Below w.heap.size wc w2 := HBC.out
          have hl1 : Lies w2 w.heap.size (some (ad.add (m * 2))) (chCells (l.drop m)) := by rw [chCells_drop]; exact (HL.out.below hlb).drop _
          have hd1 : l.drop m ≠ [] := fun h => by have h2 := congrArg List.length h; rw [List.length_drop, HN.out] at h2; have : ([] : Ch).length = 0 := rfl; omega
          have hn1' : (l.drop m).length = n - m := by rw [List.length_drop, HN.out]
          have HNO : Hid (markT (dataT toks (decE (l.take m))) (l.drop m) = none → dataT toks (decE (l.take m)) = toksP L) := fun h => by
            have h1 := HQ.out.2.2.none HNE.out (by rw [HM.out]; exact hd1) (by rw [HM.out]; exact h)
            rw [HM.out] at h1
            exact h1
          have HNX : Hid (∀ o' l', markT (dataT toks (decE (l.take m))) (l.drop m) = some (o', l') → l'.length < n → TokTo L o' l') := fun o' l' h hlt => HQ.out.2.2.next HNE.out (by rw [HM.out]; exact hd1) (by rw [HM.out]; exact h) (by rw [HN.out]; exact hlt)
          have HIN1 : Hid (InR (l.drop m)) := HQ.out.1.sub (fun x hx => List.mem_of_mem_drop hx)
          generalize dataT toks (decE (l.take m)) = toks1 at *
          have HL1 := Lib.hid hl1
          have HN1 := Lib.hid hn1'
          have HD1 := Lib.hid hd1
          generalize l.drop m = l1 at *
          clear hl1 hn1' hd1 HR0 HL HN HM HQ HDL HB1 HRT HLT hlb
          have hcm : (m = c) = False := by simp; omega
          have hnm : (n - m = 0) = False := by simp; omega
          go_upto_region 10 with fail
          generalize hq1 : n - m = n1 at *
          generalize hq2 : c - m = c1' at *
          have hn1p : 0 < n1 := by omega
          have hnc1 : n1 ≤ c1' := by omega
          have hn1z : n1 ≤ 1000000 := by omega
          have hn1n : n1 ≤ n := by omega
          have hadb : (ad.add (m * 2)).block < w.heap.size := by rw [addr_block]; exact hba
          generalize ad.add (m * 2) = ad1 at *
          clear hcm hnm hq1 hq2 hba hmc hmc' hmn hmeq hmlt hm0
          go_upto_if 46 with fail
          go_cut [5] (fun sx wx => sx = .int .u8 ((byteT l1 1).toNat : Int) ∧ wx = w2)
          case first =>
            by_cases hx : 1 < n1
            · obtain ⟨ad', bx, ox, ex, _, dx, _, HRX⟩ := HL1.out.ch (k := 1) (by rw [HN1.out]; exact hx)
              injection ex with ex
              subst ex
              have dx2 : w2.cell? ⟨ad1.block, ad1.off + 2, none⟩ = some (.int .u8 bx.toNat) := by rw [← dx]; unfold Addr.add; rfl
              have HBX := Lib.hid (byteT_some HRX.out)
              have hx' : (1 : Int) < (n1 : Int) := by omega
              clear dx
              go_wp2_with fail
              go_meet
              exact ⟨by rw [HBX.out], rfl⟩
            · have hx' : ¬ (1 : Int) < (n1 : Int) := by omega
              have HBX := Lib.hid (byteT_none (l := l1) (i := 1) (by rw [HN1.out]; omega))
              go_wp2_with fail
              go_meet
              exact ⟨by rw [HBX.out]; rfl, rfl⟩
          case rest =>
            obtain ⟨rfl, rfl⟩ := hcut
            go_upto_if 53 with fail
            go_cut [6] (fun sx wx => sx = .int .u8 ((byteT l1 2).toNat : Int) ∧ wx = wc)
            case first =>
              by_cases hx : 2 < n1
              · obtain ⟨ad', bx, ox, ex, _, dx, _, HRX⟩ := HL1.out.ch (k := 2) (by rw [HN1.out]; exact hx)
                injection ex with ex
                subst ex
                have dx2 : wc.cell? ⟨ad1.block, ad1.off + 4, none⟩ = some (.int .u8 bx.toNat) := by rw [← dx]; unfold Addr.add; rfl
                have HBX := Lib.hid (byteT_some HRX.out)
                have hx' : (2 : Int) < (n1 : Int) := by omega
                clear dx
                go_wp2_with fail
                go_meet
                exact ⟨by rw [HBX.out], rfl⟩
              · have hx' : ¬ (2 : Int) < (n1 : Int) := by omega
                have HBX := Lib.hid (byteT_none (l := l1) (i := 2) (by rw [HN1.out]; omega))
                go_wp2_with fail
                go_meet
                exact ⟨by rw [HBX.out]; rfl, rfl⟩
            case rest =>
              obtain ⟨rfl, rfl⟩ := hcut
              obtain ⟨b1, hy1⟩ : ∃ b1, byteT l1 1 = b1 := ⟨_, rfl⟩
              obtain ⟨b2, hy2⟩ : ∃ b2, byteT l1 2 = b2 := ⟨_, rfl⟩
              rw [hy1, hy2]
              have HLT1 := Lib.hid (refLetter_any b1)
              have HLT2 := Lib.hid (refLetter_any b2)
              obtain ⟨q, hq⟩ : ∃ q, (letB (byteT l1 1) || (byteT l1 1 == 47 && letB (byteT l1 2))) = q := ⟨_, rfl⟩
              have HQQ := Lib.hid hq
              rw [hy1, hy2] at hq
              obtain ⟨q1, hq1⟩ : ∃ q1, letB b1 = q1 := ⟨_, rfl⟩
              obtain ⟨q2, hq2⟩ : ∃ q2, letB b2 = q2 := ⟨_, rfl⟩
              rw [hq1] at HLT1 hq
              rw [hq2] at HLT2 hq
              have HQV := Lib.hid hq
              have HY1 := Lib.hid hy1
              have HY2 := Lib.hid hy2
              clear hq hq1 hq2 hy1 hy2
              go_wp2_with fail
              refine (HLT1.out _).mono ?_
              rintro e wy ⟨rfl, rfl⟩
              go_upto_if 64 with fail
              go_cut [64] (fun sx wx => sx = .bool q ∧ wx = wc)
              case first =>
                cases q1
                · obtain ⟨r, hr⟩ : ∃ r, (b1 == 47) = r := ⟨_, rfl⟩
                  have e47 : ((b1.toNat : Int) == 47) = r := by rw [← hr]; exact byte_beq b1 47
                  have HR47 := Lib.hid hr
                  clear hr
                  cases r
                  · go_wp2_with fail
                    go_meet
                    exact ⟨by rw [← HQV.out, HR47.out]; rfl, rfl⟩
                  · go_wp2_with fail
                    refine (HLT2.out _).mono ?_
                    rintro e wy ⟨rfl, rfl⟩
                    go_wp2_with fail
                    go_meet
                    exact ⟨by rw [← HQV.out, HR47.out]; rfl, rfl⟩
                · go_wp2_with fail
                  go_meet
                  exact ⟨by rw [← HQV.out]; rfl, rfl⟩
              case rest =>
                obtain ⟨rfl, rfl⟩ := hcut
                have hzc : w.heap.size ≤ wc.heap.size := HB2.out.size
                clear HLT1 HLT2
                cases q
                · go_upto_region 31 with fail
                  refine refTokOther L w n _ _ ?_ toks1 l1 ad1 A2 n1 c1' n2 c2 wc HLZ.out HB2.out HL1.out HIN1.out HN1.out hn1p hnc1 hn1z hn1n HR2.out HH.out HNX.out b1 b2 HY1.out HY2.out HQQ.out _ _ _ _ _ _ _ _ _ _ _ _ _ _ _ _ _ _ _ _ _ _ _ _ _ _ _ _ _ _ _ _ _ _ _ _ _ _ _ _ _ _ _ _ _ _ _ _ _ _ _ _ _ _ _ _ _ _ _ _ _ _ _ _ _ _ _ _ _ _ _ _ _ _ _ _ _ _ _ _ _ _ _ _ _ _ _ _ _ _ _ _ _ _ _ _ _ _ _ _ _ _ _ _ _ _ _ _ _ _ _ _ _ _ _ _ _ _ _ _ _ _ _ _ _ _ _ _ _ _ _ _ _ _ _ _ _ _ _ _ _ _ _ _ _ _ _ _ _ _ _ _ _ _ _ _ _ _ _ _ _ _ _ _ _ _ _ _ _ _ _ _ _ _ _ _ _ _ _ _ _ _ _ _ _ (by assumption)
                  unfold EndT
                  dsimp only
                  intro u0 u2 u3 u4 u5 u6 u7 u8 u9 u10 u11 u12 u13 u14 u15 u16 u17 u18 u19 u20 u21 u22 u23 u24 u25 u26 u27 u28 u29 u30 u31 u32 u33 u34 u35 u36 u37 u38 u39 u40 u41 u42 u43 u44 u45 u46 u47 u48 u49 u50 u51 u52 u53 u54 u55 u56 u57 u58 u59 u60 u61 u62 u63 u64 u65 u66 u67 u68 u69 u70 u71 u72 u73 u74 u75 u76 u77 u78 u79 u80 u81 u82 u83 u84 u85 u86 u87 u88 u89 u90 u91 u92 u93 u94 u95 u96 u97 u98 u99 u100 u101 u102 u103 u104 u105 u106 u107 u108 u109 u110 u111 u112 u113 u114 u115 u116 u117 u118 u119 u120 u121 u122 u123 u124 u125 u126 u127 u128 u129 u130 u131 u132 u133 u134 u135 u136 u137 u138 u139 u140 u141 u142 u143 u144 u145 u146 u147 u148 u149 u150 u151 u152 u153 u154 u155 u156 u157 u158 u159 u160 u161 u162 u163 u164 u165 u166 u167 u168 u169 u170 u171 u172 u173 u174 u175 u176 u177 u178 u179 u180 u181 u182 u183 u184 u185 u186 u187 u188 u189 w' hr hm
                  refine And.intro ?_ ?_
                  · (repeat apply Exists.intro)
                    exact ⟨hr, rfl⟩
                  · exact hm
                · go_upto_region 19 with fail
                  refine refTokTag L w n _ _ ?_ ?_ toks1 l1 ad1 A2 n1 c1' n2 c2 wc HLZ.out HB2.out HL1.out HIN1.out HN1.out hn1p hnc1 hn1z hn1n HR2.out HH.out HNX.out HNO.out b1 b2 HQQ.out _ _ _ _ _ _ _ _ _ _ _ _ _ _ _ _ _ _ _ _ _ _ _ _ _ _ _ _ _ _ _ _ _ _ _ _ _ _ _ _ _ _ _ _ _ _ _ _ _ _ _ _ _ _ _ _ _ _ _ _ _ _ _ _ _ _ _ _ _ _ _ _ _ _ _ _ _ _ _ _ _ _ _ _ _ _ _ _ _ _ _ _ _ _ _ _ _ _ _ _ _ _ _ _ _ _ _ _ _ _ _ _ _ _ _ _ _ _ _ _ _ _ _ _ _ _ _ _ _ _ _ _ _ _ _ _ _ _ _ _ _ _ _ _ _ _ _ _ _ _ _ _ _ _ _ _ _ _ _ _ _ _ _ _ _ _ _ _ _ _ _ _ _ _ _ _ _ _ _ _ _ _ _ _ _ (by assumption)
                  · unfold EndT
                    dsimp only
                    intro u0 u2 u3 u4 u5 u6 u7 u8 u9 u10 u11 u12 u13 u14 u15 u16 u17 u18 u19 u20 u21 u22 u23 u24 u25 u26 u27 u28 u29 u30 u31 u32 u33 u34 u35 u36 u37 u38 u39 u40 u41 u42 u43 u44 u45 u46 u47 u48 u49 u50 u51 u52 u53 u54 u55 u56 u57 u58 u59 u60 u61 u62 u63 u64 u65 u66 u67 u68 u69 u70 u71 u72 u73 u74 u75 u76 u77 u78 u79 u80 u81 u82 u83 u84 u85 u86 u87 u88 u89 u90 u91 u92 u93 u94 u95 u96 u97 u98 u99 u100 u101 u102 u103 u104 u105 u106 u107 u108 u109 u110 u111 u112 u113 u114 u115 u116 u117 u118 u119 u120 u121 u122 u123 u124 u125 u126 u127 u128 u129 u130 u131 u132 u133 u134 u135 u136 u137 u138 u139 u140 u141 u142 u143 u144 u145 u146 u147 u148 u149 u150 u151 u152 u153 u154 u155 u156 u157 u158 u159 u160 u161 u162 u163 u164 u165 u166 u167 u168 u169 u170 u171 u172 u173 u174 u175 u176 u177 u178 u179 u180 u181 u182 u183 u184 u185 u186 u187 u188 u189 w' hr hm
                    refine And.intro ?_ ?_
                    · (repeat apply Exists.intro)
                      exact ⟨hr, rfl⟩
                    · exact hm
                  · unfold RetT
                    dsimp only
                    intro u0 u3 u4 u5 u6 u7 u8 u9 u10 u11 u12 u13 u14 u15 u16 u17 u18 u19 u20 u21 u22 u23 u24 u25 u26 u27 u28 u29 u30 u31 u32 u33 u34 u35 u36 u37 u38 u39 u40 u41 u42 u43 u44 u45 u46 u47 u48 u49 u50 u51 u52 u53 u54 u55 u56 u57 u58 u59 u60 u61 u62 u63 u64 u65 u66 u67 u68 u69 u70 u71 u72 u73 u74 u75 u76 u77 u78 u79 u80 u81 u82 u83 u84 u85 u86 u87 u88 u89 u90 u91 u92 u93 u94 u95 u96 u97 u98 u99 u100 u101 u102 u103 u104 u105 u106 u107 u108 u109 u110 u111 u112 u113 u114 u115 u116 u117 u118 u119 u120 u121 u122 u123 u124 u125 u126 u127 u128 u129 u130 u131 u132 u133 u134 u135 u136 u137 u138 u139 u140 u141 u142 u143 u144 u145 u146 u147 u148 u149 u150 u151 u152 u153 u154 u155 u156 u157 u158 u159 u160 u161 u162 u163 u164 u165 u166 u167 u168 u169 u170 u171 u172 u173 u174 u175 u176 u177 u178 u179 u180 u181 u182 u183 u184 u185 u186 u187 u188 u189 A n c w' hr hb
                    show bodyPost Tryz.prog Tryz.f8 (TellsRTs (toksP L) w) .ret _ w'
                    go_ret
                    exact ⟨A, c, n, rfl, hr, hb⟩

end Go.Proofs.YtdiifkmcbnhliaaGreat.mk
