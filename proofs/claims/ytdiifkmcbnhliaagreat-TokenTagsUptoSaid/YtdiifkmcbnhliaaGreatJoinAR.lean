/-
  The reference's Tag.
-/
import Derived.Test.YtdiifkmcbnhliaaGreatJoinAQ
import Derived.Test.YtdiifkmcbnhliaaGreatJoinAI
import Derived.Test.YtdiifkmcbnhliaaGreatJoinAA
import Derived.Test.YtdiifkmcbnhliaaGreatJoinAP
import Derived.Test.YtdiifkmcbnhliaaGreatJoinH
import Derived.Deep.DeepCutAuto
import Derived.Deep.RegionHeld3
namespace Go.Proofs.YtdiifkmcbnhliaaGreat.mk
open Go.RowKit

/-- the tag that bytes begin with, and how many they are; no tag and none -/
def tagR (L : Ch) : PTok × Nat := (tagP L).getD (⟨0, [], [], false, []⟩, 0)
/-- a token of the reference is told, in memory of its own -/
def TellsRT (L : Ch) (w : World) (e : Ending) (w' : World) : Prop :=
  ∃ t : RT, e = .returned (.tuple #[.agg #[.int .i64 (t.kind : Int), .slice t.nm.A t.nm.n t.nm.c, .slice t.aA t.an t.ac, .bool t.close, .slice t.tx.A t.tx.n t.tx.c], .int .i64 ((tagR L).2 : Int)]) ∧ Hid (t.pt = (tagR L).1 ∧ t.ok w' w.heap.size ∧ t.nm.own w' w.heap.size ∧ t.tx.own w' w.heap.size) ∧ Below w.heap.size w w'
theorem tagP_of {L : Ch} {f : Nat} {b : UInt8 × Int} {o0 : Int} (h0 : L[0]? = some (60, o0)) (hF : fromT L = f) (hb : L[f]? = some b) :
    tagP L = if letB b.1 = true then (match runT L (4 * L.length + 9) (f + nameT (L.drop f)) ⟨0, [], [], []⟩ with
      | none => none
      | some (j, s) => some (⟨f, lowL ((L.drop f).take (nameT (L.drop f))), if f = 1 then doneT s.al (s.nm, s.vl) else [], decide (f = 1) && ((L[j - 1]?).map (·.1) == some 47), []⟩, j + 1)) else none := by
  subst hF
  have e1 : (L.map (·.1)).take 1 = [60] := by
    cases L with
    | nil => simp at h0
    | cons x L =>
      rw [List.getElem?_cons_zero] at h0
      injection h0 with h0
      rw [List.map_cons, List.take_succ_cons, List.take_zero, h0]
  unfold tagP
  rw [hb]
  by_cases h : letB b.1 = true
  · rw [if_pos h]
    show (if _ then _ else _) = _
    rw [if_pos ⟨e1, h⟩]
    generalize runT L _ _ _ = r
    cases r <;> rfl
  · rw [if_neg h]
    show (if _ then _ else _) = _
    rw [if_neg (fun hh => h hh.2)]
theorem tagP_none_of {L : Ch} {f : Nat} (hF : fromT L = f) (hb : L[f]? = none) : tagP L = none := by
  subst hF
  unfold tagP
  rw [hb]
theorem fromT_of {L : Ch} {a b : UInt8 × Int} (h0 : L[0]? = some a) (h1 : L[1]? = some b) : fromT L = if a.1 = 60 ∧ b.1 = 47 then 2 else 1 := by
  rcases L with _ | ⟨x, _ | ⟨y, L⟩⟩
  · simp at h0
  · simp at h1
  · simp at h0 h1
    subst h0 h1
    unfold fromT
    simp
theorem tagP_first {L : Ch} {a : UInt8 × Int} (h0 : L[0]? = some a) (h : ¬ a.1 = 60) : tagP L = none := by
  have e1 : ¬ (L.map (·.1)).take 1 = [60] := by
    cases L with
    | nil => simp at h0
    | cons x L =>
      rw [List.getElem?_cons_zero] at h0
      injection h0 with h0
      rw [List.map_cons, List.take_succ_cons, List.take_zero, h0]
      simpa using h
  unfold tagP
  split
  · rfl
  · rw [if_neg (fun hh => e1 hh.1)]
theorem tagP_short {L : Ch} (h : L.length ≤ 1) : tagP L = none := by
  refine tagP_none_of rfl (List.getElem?_eq_none ?_)
  have := fromT_le L
  omega
/-- the name's relation -/
def TagNmRel (f : Nat) (L : Ch) (w : World) (v : Value) (wr : World) : Prop :=
  ∃ (i : Nat) (x : RW), f ≤ i ∧ i - f ≤ nameT (L.drop f) ∧ v = .int .i64 (i : Int) ∧ NmS w (f : Int) x wr ∧ x.ch = (L.drop f).take (i - f) ∧ x.n = i - f
theorem nameT_at {L : Ch} {f i : Nat} (hf : f ≤ i) (hi : i - f ≤ nameT (L.drop f)) :
    (∀ c, L[i]? = some c → (!(spcB c.1) && (!(c.1 == 47) && !(c.1 == 62))) = true → i + 1 - f ≤ nameT (L.drop f)) ∧ ((∀ c, L[i]? = some c → (!(spcB c.1) && (!(c.1 == 47) && !(c.1 == 62))) = false) → i - f = nameT (L.drop f)) := by
  have e : (L.drop f)[i - f]? = L[i]? := by rw [List.getElem?_drop]; congr 1; omega
  have h := takeW_at (fun c : UInt8 × Int => !(spcB c.1) && (!(c.1 == 47) && !(c.1 == 62))) (L.drop f) (i - f) hi
  rw [e] at h
  exact ⟨fun c hc hp => by have := h.1 c hc hp; show _ ≤ List.length _; omega, fun hh => h.2 hh⟩
theorem byte_bne {b k : UInt8} (h : ¬ b = k) : ((b.toNat : Int) != (k.toNat : Int)) = true := by
  unfold bne
  rw [byte_beq b k, beq_eq_false_iff_ne.2 h]
  rfl
def zeroRT : RT := ⟨0, noRW, none, 0, 0, [], false, noRW⟩
theorem tellsRT_zero {L : Ch} {w w' : World} (h : tagP L = none) (hb : Below w.heap.size w w') :
    TellsRT L w (.returned (.tuple #[.agg #[.int .i64 0, .slice none 0 0, .slice none 0 0, .bool false, .slice none 0 0], .int .i64 0])) w' := by
  have e : tagR L = (⟨0, [], [], false, []⟩, 0) := by unfold tagR; rw [h]; rfl
  exact ⟨zeroRT, by rw [e]; rfl, ⟨by rw [e]; rfl, ⟨Or.inr (noRW_own _ _), Or.inr (noRW_own _ _), World.ownsRow_nil _ _ _ _, rfl, fun r hr => by cases hr⟩, noRW_own _ _, noRW_own _ _⟩, hb⟩
theorem set5_below {w wr : World} {g : Nat} (h : Below g w wr) (q0 q1 q2 q3 q4 : Value) : Below g w (((((wr.setCell ⟨g, 0, none⟩ q0).setCell ⟨g, 1, none⟩ q1).setCell ⟨g, 2, none⟩ q2).setCell ⟨g, 3, none⟩ q3).setCell ⟨g, 4, none⟩ q4) :=
  ((((h.setCell (p := ⟨g, 0, none⟩) (Nat.le_refl _) _).setCell (p := ⟨g, 1, none⟩) (Nat.le_refl _) _).setCell (p := ⟨g, 2, none⟩) (Nat.le_refl _) _).setCell (p := ⟨g, 3, none⟩) (Nat.le_refl _) _).setCell (p := ⟨g, 4, none⟩) (Nat.le_refl _) _
theorem runT_step {l : Ch} {f i : Nat} {s : TkS} {c : UInt8 × Int} (h : l[i]? = some c) (h99 : ¬ (nextS s c).1 = 99) : runT l (f + 1) i s = runT l f (if (nextS s c).2.2 then i else i + 1) (stepT s c (nextS s c)) := by
  rw [runT, h]
  show (if _ then _ else _) = _
  rw [if_neg h99]
theorem runT_end {l : Ch} {f i : Nat} {s : TkS} {c : UInt8 × Int} (h : l[i]? = some c) (h99 : (nextS s c).1 = 99) : runT l (f + 1) i s = some (i, s) := by
  rw [runT, h]
  show (if _ then _ else _) = _
  rw [if_pos h99]
theorem runT_out {l : Ch} {f i : Nat} {s : TkS} (h : l[i]? = none) : runT l f i s = none := by
  cases f with
  | zero => rfl
  | succ f => rw [runT, h]
/-- while a tag's attributes are read -/
structure TgI (L : Ch) (w : World) (g7 f : Nat) (nm : RW) (i0 i steps : Nat) (s : TkS) (x y : RW) (rs : List RA) (v : Value) (wr : World) : Prop where
  st : steps ≤ 4 * L.length + 9
  run : runT L (4 * L.length + 9) i0 ⟨0, [], [], []⟩ = runT L (4 * L.length + 9 - steps) i s
  fits : s.fits i steps
  pos : 1 ≤ i
  ile : i ≤ L.length
  xc : x.ch = s.nm
  yc : y.ch = s.vl
  rc : rs.map RA.pa = s.al
  mem : TgS w g7 (f : Int) nm x y rs v false wr
def TgRel (L : Ch) (w : World) (g7 f : Nat) (nm : RW) (i0 : Nat) (v5 v6 v8 : Value) (wr : World) : Prop :=
  ∃ (i steps : Nat) (s : TkS) (x y : RW) (rs : List RA) (v : Value), v5 = .int .i64 (i : Int) ∧ v6 = .int .i64 (s.st : Int) ∧ v8 = .int .i64 (steps : Int) ∧ TgI L w g7 f nm i0 i steps s x y rs v wr
theorem TgI.go {L : Ch} {w : World} {g7 f : Nat} {nm : RW} {i0 i steps : Nat} {s : TkS} {x y : RW} {rs : List RA} {v : Value} {wr : World} (h : TgI L w g7 f nm i0 i steps s x y rs v wr) (hin : InR L) {c : UInt8 × Int} (hc : L[i]? = some c) (hs : steps < 4 * L.length + 9)
    {N : Nat × Bool × Bool} (hN : nextS s c = N) (h99 : ¬ N.1 = 99) {s' : TkS} (hs' : stepT s c N = s') {i' : Nat} (hi' : (if N.2.2 then i else i + 1) = i') {x' y' : RW} {rs' : List RA} {v' : Value} {wr' : World}
    (hx : x'.ch = s'.nm) (hy : y'.ch = s'.vl) (hr : rs'.map RA.pa = s'.al) (hm : TgS w g7 (f : Int) nm x' y' rs' v' false wr') : TgI L w g7 f nm i0 i' (steps + 1) s' x' y' rs' v' wr' := by
  subst hN hs' hi'
  have hlt : i < L.length := (List.getElem?_eq_some_iff.1 hc).1
  have hco : 0 ≤ c.2 ∧ c.2 ≤ 65536 := hin c.2 (List.mem_map.2 ⟨c, List.mem_of_getElem? hc, rfl⟩)
  have hp := h.pos
  refine ⟨by omega, ?_, stepT_fits h.fits hco h99, by split <;> omega, by split <;> omega, hx, hy, hr, hm⟩
  rw [h.run, show 4 * L.length + 9 - steps = (4 * L.length + 9 - (steps + 1)) + 1 by omega, runT_step hc h99]
theorem tellsRT_of {L : Ch} {w wr : World} {g7 f k : Nat} {nm : RW} {rs : List RA} {A' : Option Addr} {c' : Nat} {cl : Bool} (h : TgD w g7 (f : Int) nm rs (.slice A' rs.length c') cl wr) (ht : tagP L = some (⟨f, nm.ch, rs.map RA.pa, cl, []⟩, k)) (q0 q1 q2 q3 q4 : Value) :
    TellsRT L w (.returned (.tuple #[.agg #[.int .i64 (f : Int), .slice nm.A nm.n nm.c, .slice A' rs.length c', .bool cl, .slice none 0 0], .int .i64 (k : Int)])) (((((wr.setCell ⟨w.heap.size, 0, none⟩ q0).setCell ⟨w.heap.size, 1, none⟩ q1).setCell ⟨w.heap.size, 2, none⟩ q2).setCell ⟨w.heap.size, 3, none⟩ q3).setCell ⟨w.heap.size, 4, none⟩ q4) := by
  have e : tagR L = (⟨f, nm.ch, rs.map RA.pa, cl, []⟩, k) := by unfold tagR; rw [ht]; rfl
  obtain ⟨h1, h2, h3, h4⟩ := h.told q0 q1 q2 q3 q4
  exact ⟨⟨f, nm, A', rs.length, c', rs, cl, noRW⟩, by rw [e]; rfl, ⟨by rw [e]; rfl, ⟨Or.inr h2, Or.inr (noRW_own _ _), h3, rfl, h4⟩, h2, noRW_own _ _⟩, h1⟩

set_option maxHeartbeats 40000000 in
set_option maxRecDepth 100000 in
theorem refTag_any (A : Option Addr) (n c : Nat) (L : Ch) (w : World) (hl : Lies w w.heap.size A (chCells L)) (hn : L.length = n) (hin : InR L) (hz : n ≤ 1000000) :
    Calls Tryz.prog 15 #[.slice A n c] w (TellsRT L w) := by
  obtain ⟨i0, hi, hz0, hz1, hz2⟩ := info_parts ch_info
  by_cases hn1 : n ≤ 1
  · have HT : Hid (tagP L = none) := by
      show _ = _
      exact tagP_short (by omega)
    have hp : ¬ (1 : Int) < (n : Int) := by omega
    have hp2 : (n : Int) ≤ 1 := by omega
    have HR : Hid (∀ wx q0 q1 q2 q3 q4, Below w.heap.size w wx → TellsRT L w (.returned (.tuple #[.agg #[.int .i64 0, .slice none 0 0, .slice none 0 0, .bool false, .slice none 0 0], .int .i64 0])) (((((wx.setCell ⟨w.heap.size, 0, none⟩ q0).setCell ⟨w.heap.size, 1, none⟩ q1).setCell ⟨w.heap.size, 2, none⟩ q2).setCell ⟨w.heap.size, 3, none⟩ q3).setCell ⟨w.heap.size, 4, none⟩ q4)) := fun wx q0 q1 q2 q3 q4 hb => tellsRT_zero HT.out (set5_below hb _ _ _ _ _)
    clear hl hn hin
    go_enter Tryz.func15, Tryz.ntmps15
    go_upto_if 29 with fail
    generalize hw0 : (w.alloc (.cells #[.int .i64 0, .slice none 0 0, .slice none 0 0, .bool false, .slice none 0 0] 39)).alloc (.cells #[.int .i64 1, .slice none 0 0, .slice none 0 0, .bool false, .slice none 0 0] 39) = w0
    have y0 : Whole w0 w.heap.size 39 #[.int .i64 0, .slice none 0 0, .slice none 0 0, .bool false, .slice none 0 0] := by rw [← hw0]; exact (Whole.made w _ _).alloc _
    have hb0 : Below w.heap.size w w0 := by rw [← hw0]; exact ((Below.refl _ _).alloc (Nat.le_refl _) _).alloc (by simp) _
    have k0 := y0.at_ 0
    have k1 := y0.at_ 1
    have k2 := y0.at_ 2
    have k3 := y0.at_ 3
    have k4 := y0.at_ 4
    have kf0 := y0.free 0
    have kf1 := y0.free 1
    have kf2 := y0.free 2
    have kf3 := y0.free 3
    have kf4 := y0.free 4
    clear hw0
    go_wp2_with fail
    refine bodyPost_ret (v := .tuple #[.agg #[.int .i64 0, .slice none 0 0, .slice none 0 0, .bool false, .slice none 0 0], .int .i64 0]) ?_ rfl ?_
    · simp [results, Tryz.results15, go_sem, k0, k1, k2, k3, k4]
    · exact HR.out _ _ _ _ _ _ hb0
  · obtain ⟨ad, b0, o0, rfl, hb0, hc0, _, HR0⟩ := hl.ch (k := 0) (by omega)
    obtain ⟨ad', b1, o1, e, hb1, hc1, _, HR1⟩ := hl.ch (k := 1) (by omega)
    injection e with e
    subst e
    have hp : (1 : Int) < (n : Int) := by omega
    by_cases h60 : b0 = 60
    · subst h60
      obtain ⟨q, hq⟩ : ∃ q, (b1 == 47) = q := ⟨_, rfl⟩
      have e47 : ((b1.toNat : Int) == 47) = q := by rw [← hq]; exact byte_beq b1 47
      obtain ⟨f, hf⟩ : ∃ f : Nat, f = if q then 2 else 1 := ⟨_, rfl⟩
      have HF : Hid (fromT L = f) := by
        show _ = _
        rw [fromT_of HR0.out HR1.out, hf, ← hq]
        by_cases h : b1 = 47
        · rw [if_pos ⟨rfl, h⟩, if_pos (beq_iff_eq.2 h)]
        · rw [if_neg (fun hh => h hh.2), if_neg (fun hh => h (beq_iff_eq.1 hh))]
      have HR60 := Lib.hid HR0.out
      have HL := Lib.hid hl
      have HN := Lib.hid hn
      have HIN := Lib.hid hin
      simp only [Nat.zero_mul, Nat.one_mul] at hc0 hc1
      rw [show ad.add 0 = ad by unfold Addr.add; rfl] at hc0
      have d0 : w.cell? ad = some (.int .u8 60) := hc0
      have d1 : w.cell? ⟨ad.block, ad.off + 2, none⟩ = some (.int .u8 b1.toNat) := by rw [← hc1]; unfold Addr.add; rfl
      clear hc0 hc1
      clear hl hn hin HR0 HR1 hq
      go_enter Tryz.func15, Tryz.ntmps15
      go_upto_if 29 with fail
      go_cut [5] (fun s5 wx => s5 = .int .i64 (f : Int) ∧ Below w.heap.size w wx ∧ Whole wx w.heap.size 39 #[.int .i64 0, .slice none 0 0, .slice none 0 0, .bool false, .slice none 0 0] ∧ Whole wx (w.heap.size + 1) 39 #[.int .i64 (f : Int), .slice none 0 0, .slice none 0 0, .bool false, .slice none 0 0])
      case first =>
        generalize hw0 : (w.alloc (.cells #[.int .i64 0, .slice none 0 0, .slice none 0 0, .bool false, .slice none 0 0] 39)).alloc (.cells #[.int .i64 1, .slice none 0 0, .slice none 0 0, .bool false, .slice none 0 0] 39) = w0
        have y0 : Whole w0 w.heap.size 39 #[.int .i64 0, .slice none 0 0, .slice none 0 0, .bool false, .slice none 0 0] := by rw [← hw0]; exact (Whole.made w _ _).alloc _
        have y1 : Whole w0 (w.heap.size + 1) 39 #[.int .i64 1, .slice none 0 0, .slice none 0 0, .bool false, .slice none 0 0] := by
          rw [← hw0]
          have h := Whole.made (w.alloc (.cells #[.int .i64 0, .slice none 0 0, .slice none 0 0, .bool false, .slice none 0 0] 39)) 39 #[.int .i64 1, .slice none 0 0, .slice none 0 0, .bool false, .slice none 0 0]
          simp only [World.size_alloc] at h
          exact h
        have hb0 : Below w.heap.size w w0 := by rw [← hw0]; exact ((Below.refl _ _).alloc (Nat.le_refl _) _).alloc (by simp) _
        have c4 := y1.at_ 0
        have f4 := y1.free 0
        clear hw0
        cases q
        · obtain rfl := hf
          go_wp2_with fail
          go_meet
          exact ⟨rfl, hb0, y0, y1⟩
        · obtain rfl := hf
          go_wp2_with fail
          go_meet
          exact ⟨rfl, hb0.setCell (p := ⟨w.heap.size + 1, 0, none⟩) (Nat.le_succ _) _, y0.far _ (by show w.heap.size ≠ w.heap.size + 1; omega) _, y1.put 0 _⟩
      case rest =>
        obtain ⟨rfl, hB, hRes, hTok⟩ := hcut
        have HB := Lib.hid hB
        have HS0 : Hid (NmS w (f : Int) noRW wc) := ⟨hB, hRes, hTok, noRW_own _ _⟩
        have hws := hB.size
        have c0 : wc.cell? ad = some (.int .u8 60) := (hB.cell hb0).trans d0
        have k0 := hRes.at_ 0
        have k1 := hRes.at_ 1
        have k2 := hRes.at_ 2
        have k3 := hRes.at_ 3
        have k4 := hRes.at_ 4
        have kf0 := hRes.free 0
        have kf1 := hRes.free 1
        have kf2 := hRes.free 2
        have kf3 := hRes.free 3
        have kf4 := hRes.free 4
        have HZ : Hid (tagP L = none → ∀ wx q0 q1 q2 q3 q4, Below w.heap.size w wx → TellsRT L w (.returned (.tuple #[.agg #[.int .i64 0, .slice none 0 0, .slice none 0 0, .bool false, .slice none 0 0], .int .i64 0])) (((((wx.setCell ⟨w.heap.size, 0, none⟩ q0).setCell ⟨w.heap.size, 1, none⟩ q1).setCell ⟨w.heap.size, 2, none⟩ q2).setCell ⟨w.heap.size, 3, none⟩ q3).setCell ⟨w.heap.size, 4, none⟩ q4)) := fun hT wx q0 q1 q2 q3 q4 hb => tellsRT_zero hT (set5_below hb _ _ _ _ _)
        have hf12 : 1 ≤ f ∧ f ≤ 2 := by have := fromT_le L; rw [HF.out] at this; exact this
        clear d0 d1 hB hRes hTok e47 hf
        by_cases hfn : n ≤ f
        · have HT := Lib.hid (tagP_none_of HF.out (List.getElem?_eq_none (by rw [HN.out]; exact hfn)))
          have hg1 : (n : Int) ≤ (f : Int) := by omega
          go_wp2_with fail
          refine bodyPost_ret (v := .tuple #[.agg #[.int .i64 0, .slice none 0 0, .slice none 0 0, .bool false, .slice none 0 0], .int .i64 0]) ?_ rfl ?_
          · simp [results, Tryz.results15, go_sem, k0, k1, k2, k3, k4]
          · exact HZ.out HT.out _ _ _ _ _ _ HB.out
        · obtain ⟨ad', bf, of, e, _, df, _, HRF⟩ := HL.out.ch (k := f) (by rw [HN.out]; omega)
          injection e with e
          subst e
          have df' : wc.cell? (ad.add (f * 2)) = some (.int .u8 bf.toNat) := (HB.out.cell (by rw [addr_block]; exact hb0)).trans df
          have hg1 : ¬ (n : Int) ≤ (f : Int) := by omega
          have hg2 : (f : Int) < (n : Int) := by omega
          have hg3 : (0 : Int) ≤ (f : Int) := by omega
          have HTY := Lib.hid (fun h => (tagP_of HR60.out HF.out HRF.out).trans (if_pos h))
          have HTN := Lib.hid (fun h => (tagP_of HR60.out HF.out HRF.out).trans (if_neg h))
          have HLT := Lib.hid (refLetter_any bf wc)
          obtain ⟨lb, hlb⟩ : ∃ lb, letB bf = lb := ⟨_, rfl⟩
          rw [hlb] at HLT
          cases lb
          · go_wp2_with fail
            refine HLT.out.mono ?_
            rintro e wy ⟨rfl, rfl⟩
            have HT : Hid (tagP L = none) := HTN.out (by rw [hlb]; decide)
            go_wp2_with fail
            refine bodyPost_ret (v := .tuple #[.agg #[.int .i64 0, .slice none 0 0, .slice none 0 0, .bool false, .slice none 0 0], .int .i64 0]) ?_ rfl ?_
            · simp [results, Tryz.results15, go_sem, k0, k1, k2, k3, k4]
            · exact HZ.out HT.out _ _ _ _ _ _ HB.out
          · go_wp2_with fail
            refine HLT.out.mono ?_
            rintro e wy ⟨rfl, rfl⟩
            go_upto_block 0 with fail
            go_cut [5] (fun s5 wx => ∃ x : RW, s5 = .int .i64 ((f + nameT (L.drop f) : Nat) : Int) ∧ NmS w (f : Int) x wx ∧ x.ch = (L.drop f).take (nameT (L.drop f)) ∧ x.n = nameT (L.drop f))
            case first =>
              clear k0 k1 k2 k3 k4 kf0 kf1 kf2 kf3 kf4 HLT c0 df df' hg1 hg2 hg3
              go_wp2_with fail
              go_loopw [5] (TagNmRel f L w) (fun i _ => n - (intOf i).toNat)
              case atStart => exact ⟨f, noRW, Nat.le_refl _, by omega, rfl, HS0.out, by rw [Nat.sub_self]; rfl, by rw [Nat.sub_self]; rfl⟩
              case round =>
                obtain ⟨i, x, hfi, hin2, rfl, hS, hxc, hxn⟩ := hrel
                have HSr := Lib.hid hS
                have HXC := Lib.hid hxc
                have HNA := Lib.hid (nameT_at hfi hin2)
                have hws := hS.below.size
                have HEX : Hid (i - f = nameT (L.drop f) → ∃ x : RW, Value.int .i64 (i : Int) = .int .i64 ((f + nameT (L.drop f) : Nat) : Int) ∧ NmS w (f : Int) x wr ∧ x.ch = (L.drop f).take (nameT (L.drop f)) ∧ x.n = nameT (L.drop f)) := fun he =>
                  ⟨x, by rw [← he, show f + (i - f) = i by omega], hS, by rw [hxc, he], by rw [hxn, he]⟩
                have htok := Lib.hid hS.tok
                have HXN := Lib.hid hxn
                have hxle : x.n ≤ i := by omega
                clear hS hxc hin2 hxn
                have hk0 : (0 : Int) ≤ (i : Int) := Int.natCast_nonneg _
                by_cases hlt : i < n
                · obtain ⟨ad', b, o, e, _, e0, e1, HRI⟩ := (HL.out.below HSr.out.below).ch (k := i) (by rw [HN.out]; omega)
                  injection e with e
                  subst e
                  have hk1 : (i : Int) < (n : Int) := by omega
                  have HSP := Lib.hid (refSpace_any b)
                  obtain ⟨sp, hsp⟩ : ∃ sp, spcB b = sp := ⟨_, rfl⟩
                  rw [hsp] at HSP
                  cases sp
                  · by_cases h47 : b = 47
                    · have n47 : ((b.toNat : Int) != 47) = false := by subst h47; rfl
                      have HE := Lib.hid (HEX.out (HNA.out.2 (fun c hc => by rw [HRI.out] at hc; injection hc with hc; subst hc; subst h47; rfl)))
                      clear HEX HNA h47
                      go_wp2_with fail
                      refine (HSP.out _).mono ?_
                      rintro e w' ⟨rfl, rfl⟩
                      go_wp2_with fail
                      go_meet
                      exact HE.out
                    · by_cases h62 : b = 62
                      · have n47 : ((b.toNat : Int) != 47) = true := by subst h62; rfl
                        have n62 : ((b.toNat : Int) != 62) = false := by subst h62; rfl
                        have HE := Lib.hid (HEX.out (HNA.out.2 (fun c hc => by rw [HRI.out] at hc; injection hc with hc; subst hc; subst h62; rfl)))
                        clear HEX HNA h47 h62
                        go_wp2_with fail
                        refine (HSP.out _).mono ?_
                        rintro e w' ⟨rfl, rfl⟩
                        go_wp2_with fail
                        go_meet
                        exact HE.out
                      · have n47 : ((b.toNat : Int) != 47) = true := byte_bne (k := 47) h47
                        have n62 : ((b.toNat : Int) != 62) = true := byte_bne (k := 62) h62
                        have HE := Lib.hid (HNA.out.1 (b, o) HRI.out (by show (!(spcB b) && (!(b == 47) && !(b == 62))) = true; rw [hsp, beq_eq_false_iff_ne.2 h47, beq_eq_false_iff_ne.2 h62]; rfl))
                        clear HEX HNA h47 h62
                        go_wp2_with fail
                        refine (HSP.out _).mono ?_
                        rintro e w' ⟨rfl, rfl⟩
                        have t1 : wr.cell? ⟨w.heap.size + 1, 1, none⟩ = some (.slice x.A x.n x.c) := htok.out.at_ 1
                        have hbA : (ad.add (i * 2)).block < w.heap.size := by rw [addr_block]; exact hb0
                        have hzx : x.n < 268435456 := by omega
                        go_wp2_with fail
                        have hS : wr.drew.cell? ⟨w.heap.size + 1, 1, none⟩ = some (.slice x.A x.n x.c) ∧ wr.drew.cell? (ad.add (i * 2)) = some (.int .u8 b.toNat) ∧ wr.drew.cell? ⟨(ad.add (i * 2)).block, (ad.add (i * 2)).off + 1, none⟩ = some (.int .i64 o) := ⟨t1, e0, e1⟩
                        refine wp_region_last13 (S := (fun V => V.cell? ⟨w.heap.size + 1, 1, none⟩ = some (.slice x.A x.n x.c) ∧ V.cell? (ad.add (i * 2)) = some (.int .u8 b.toNat) ∧ V.cell? ⟨(ad.add (i * 2)).block, (ad.add (i * 2)).off + 1, none⟩ = some (.int .i64 o))) (Z := (fun i => decide (8 ≤ i))) (by kernel_rfl) ?_
                        refine' wpAnyL_take (i := 0) ?hi1 (by kernel_rfl) (by kernel_rfl) (by kernel_rfl) (by kernel_rfl) ?hQ1 ?hy1 hS ?rest1
                        case hi1 => simp only [List.getElem?_toArray, List.getElem?_cons_zero]; rfl
                        case hQ1 => exact fun _ _ _ h => h
                        case hy1 =>
                          refine Or.inl ⟨by rfl, ?_⟩
                          intro wq hq
                          try dsimp only at hq
                          try obtain ⟨hq0, hq1, hq2, hq3, hq4, hq5, hq6⟩ := hq
                          try obtain ⟨hq0, hq1, hq2, hq3, hq4, hq5⟩ := hq
                          try obtain ⟨hq0, hq1, hq2, hq3, hq4⟩ := hq
                          try obtain ⟨hq0, hq1, hq2, hq3⟩ := hq
                          try obtain ⟨hq0, hq1, hq2⟩ := hq
                          try obtain ⟨hq0, hq1⟩ := hq
                          go_simp
                          try with_reducible rfl
                        try simp only [Act.put, List.setIfInBounds_toArray, List.set_cons_zero, List.set_cons_succ]
                        refine' wpAnyL_take (i := 1) ?hi2 (by kernel_rfl) (by kernel_rfl) (by kernel_rfl) (by kernel_rfl) ?hQ2 ?hy2 hS ?rest2
                        case hi2 => simp only [List.getElem?_toArray, List.getElem?_cons_succ, List.getElem?_cons_zero]; rfl
                        case hQ2 => exact fun _ _ _ h => h
                        case hy2 =>
                          refine Or.inl ⟨by rfl, ?_⟩
                          intro wq hq
                          try dsimp only at hq
                          try obtain ⟨hq0, hq1, hq2, hq3, hq4, hq5, hq6⟩ := hq
                          try obtain ⟨hq0, hq1, hq2, hq3, hq4, hq5⟩ := hq
                          try obtain ⟨hq0, hq1, hq2, hq3, hq4⟩ := hq
                          try obtain ⟨hq0, hq1, hq2, hq3⟩ := hq
                          try obtain ⟨hq0, hq1, hq2⟩ := hq
                          try obtain ⟨hq0, hq1⟩ := hq
                          go_simp
                          try with_reducible rfl
                        try simp only [Act.put, List.setIfInBounds_toArray, List.set_cons_zero, List.set_cons_succ]
                        refine' wpAnyL_take (i := 2) ?hi3 (by kernel_rfl) (by kernel_rfl) (by kernel_rfl) (by kernel_rfl) ?hQ3 ?hy3 hS ?rest3
                        case hi3 => simp only [List.getElem?_toArray, List.getElem?_cons_succ, List.getElem?_cons_zero]; rfl
                        case hQ3 => exact fun _ _ _ h => h
                        case hy3 =>
                          refine Or.inl ⟨by rfl, ?_⟩
                          intro wq hq
                          try dsimp only at hq
                          try obtain ⟨hq0, hq1, hq2, hq3, hq4, hq5, hq6⟩ := hq
                          try obtain ⟨hq0, hq1, hq2, hq3, hq4, hq5⟩ := hq
                          try obtain ⟨hq0, hq1, hq2, hq3, hq4⟩ := hq
                          try obtain ⟨hq0, hq1, hq2, hq3⟩ := hq
                          try obtain ⟨hq0, hq1, hq2⟩ := hq
                          try obtain ⟨hq0, hq1⟩ := hq
                          go_simp
                          try with_reducible rfl
                        try simp only [Act.put, List.setIfInBounds_toArray, List.set_cons_zero, List.set_cons_succ]
                        refine' wpAnyL_take (i := 3) ?hi4 (by kernel_rfl) (by kernel_rfl) (by kernel_rfl) (by kernel_rfl) ?hQ4 ?hy4 hS ?rest4
                        case hi4 => simp only [List.getElem?_toArray, List.getElem?_cons_succ, List.getElem?_cons_zero]; rfl
                        case hQ4 => exact fun _ _ _ h => h
                        case hy4 =>
                          refine Or.inl ⟨by rfl, ?_⟩
                          intro wq hq
                          try dsimp only at hq
                          try obtain ⟨hq0, hq1, hq2, hq3, hq4, hq5, hq6⟩ := hq
                          try obtain ⟨hq0, hq1, hq2, hq3, hq4, hq5⟩ := hq
                          try obtain ⟨hq0, hq1, hq2, hq3, hq4⟩ := hq
                          try obtain ⟨hq0, hq1, hq2, hq3⟩ := hq
                          try obtain ⟨hq0, hq1, hq2⟩ := hq
                          try obtain ⟨hq0, hq1⟩ := hq
                          go_simp
                          try with_reducible rfl
                        try simp only [Act.put, List.setIfInBounds_toArray, List.set_cons_zero, List.set_cons_succ]
                        refine' wpAnyL_take (i := 4) ?hi5 (by kernel_rfl) (by kernel_rfl) (by kernel_rfl) (by kernel_rfl) ?hQ5 ?hy5 hS ?rest5
                        case hi5 => simp only [List.getElem?_toArray, List.getElem?_cons_succ, List.getElem?_cons_zero]; rfl
                        case hQ5 => exact fun _ _ _ h => h
                        case hy5 =>
                          refine Or.inl ⟨by rfl, ?_⟩
                          intro wq hq
                          try dsimp only at hq
                          try obtain ⟨hq0, hq1, hq2, hq3, hq4, hq5, hq6⟩ := hq
                          try obtain ⟨hq0, hq1, hq2, hq3, hq4, hq5⟩ := hq
                          try obtain ⟨hq0, hq1, hq2, hq3, hq4⟩ := hq
                          try obtain ⟨hq0, hq1, hq2, hq3⟩ := hq
                          try obtain ⟨hq0, hq1, hq2⟩ := hq
                          try obtain ⟨hq0, hq1⟩ := hq
                          go_simp
                          try with_reducible rfl
                        try simp only [Act.put, List.setIfInBounds_toArray, List.set_cons_zero, List.set_cons_succ]
                        refine' wpAnyL_take (i := 5) ?hi6 (by kernel_rfl) (by kernel_rfl) (by kernel_rfl) (by kernel_rfl) ?hQ6 ?hy6 hS ?rest6
                        case hi6 => simp only [List.getElem?_toArray, List.getElem?_cons_succ, List.getElem?_cons_zero]; rfl
                        case hQ6 => exact fun _ _ _ h => h
                        case hy6 =>
                          refine Or.inl ⟨by rfl, ?_⟩
                          intro wq hq
                          try dsimp only at hq
                          try obtain ⟨hq0, hq1, hq2, hq3, hq4, hq5, hq6⟩ := hq
                          try obtain ⟨hq0, hq1, hq2, hq3, hq4, hq5⟩ := hq
                          try obtain ⟨hq0, hq1, hq2, hq3, hq4⟩ := hq
                          try obtain ⟨hq0, hq1, hq2, hq3⟩ := hq
                          try obtain ⟨hq0, hq1, hq2⟩ := hq
                          try obtain ⟨hq0, hq1⟩ := hq
                          go_simp
                          try with_reducible rfl
                        try simp only [Act.put, List.setIfInBounds_toArray, List.set_cons_zero, List.set_cons_succ]
                        refine wpAnyL_ready (rs := [6]) (by kernel_rfl) (by simp) ?_
                        refine' ReadyL.cons ?ho7 (fun K hK => ?step7) ?more7
                        case ho7 => simp only [List.getElem?_toArray, List.getElem?_cons_succ, List.getElem?_cons_zero]; rfl
                        case step7 =>
                          go_simp
                          have hba : Below wr.heap.size wr (wr.drew.alloc (.cells #[.int .u8 b.toNat, .int .i64 o] 65)) := Below.trans (Below.drew (Below.refl wr.heap.size wr)) ((Below.refl _ wr.drew).alloc (Nat.le_refl _) _)
                          have HSa := Lib.hid (HSr.out.next hba)
                          refine hK.out _ _ (.inr ⟨HSa.out.tok.at_ 1, (hba.cell (by omega)).trans e0, (hba.cell (p := ⟨(ad.add (i * 2)).block, (ad.add (i * 2)).off + 1, none⟩) (by show (ad.add (i * 2)).block < _; omega)).trans e1⟩) ?_
                          clear hK K hS
                          try simp only [Act.put, List.setIfInBounds_toArray, List.set_cons_zero, List.set_cons_succ]
                          refine wpAnyL_ready (rs := [7]) (by kernel_rfl) (by simp) ?_
                          refine' ReadyL.cons ?ho8 (fun K hK => ?step8) ?more8
                          case ho8 => simp only [List.getElem?_toArray, List.getElem?_cons_succ, List.getElem?_cons_zero]; rfl
                          case step8 =>
                            refine step_append_src _ (by rfl) (.tmp 82) (.tmp 87) 31 (by rfl) (w.heap.size + 2) 65 i0 _ 2 16 Tryz.underlying31 hi hz0 hz1 hz2 rfl (by omega) (.slice x.A x.n x.c) x.n _ (by rfl) HSa.out.xo.2.2 _ (some ⟨wr.heap.size, 0, none⟩) 1 1 [.int .u8 b.toNat, .int .i64 o] (by rfl) (by simp) (by rfl) (lies_wholeR (Whole.made wr.drew _ _) rfl) (by simp [Value.oneCell']) (by simp only [maxLen]; omega) (by omega) (by have := htok.out.lt; simp; omega) ?_
                            intro v2 w2 hown2 hgr2 hbl2
                            obtain ⟨A2, c2, rfl, _, _, _⟩ := own_form hown2
                            have HM2 := Lib.hid (HSr.out.add (c := (b, o)) hba hzx hgr2 hown2)
                            have hlo : ∀ k, (Value.slice x.A x.n x.c).ownBlock = some k → w.heap.size + 2 ≤ k := fun k hk => (HSr.out.xo.lt hk).1
                            have hW2 := HSa.out.tok.grown hgr2 (fun e => by have := hlo _ e.symm; omega)
                            have hb2 : Below w.heap.size wr w2 := (hba.mono hws).grown hgr2 (by have := hba.size; omega) (fun k hk => by have := hlo k hk; omega)
                            have k1 : w2.cell? ⟨w.heap.size + 1, 1, none⟩ = some (.slice x.A x.n x.c) := hW2.at_ 1
                            have kf1 := hW2.free 1
                            refine hK.out _ _ (.inr ⟨k1, (hb2.cell hbA).trans e0, (hb2.cell (p := ⟨(ad.add (i * 2)).block, (ad.add (i * 2)).off + 1, none⟩) hbA).trans e1⟩) ?_
                            clear hK K hown2 hgr2 hbl2 hb2 hW2 hlo hba
                            try simp only [Act.put, List.setIfInBounds_toArray, List.set_cons_zero, List.set_cons_succ]
                            refine wpAnyL_ready (rs := [8]) (by kernel_rfl) (by simp) ?_
                            refine' ReadyL.cons ?ho9 (fun K hK => ?step9) ?more9
                            case ho9 => simp only [List.getElem?_toArray, List.getElem?_cons_succ, List.getElem?_cons_zero]; rfl
                            case step9 =>
                              go_simp
                              refine hK.out _ _ (.inl (by decide)) ?_
                              clear hK K
                              try simp only [Act.put, List.setIfInBounds_toArray, List.set_cons_zero, List.set_cons_succ]
                              refine wpAnyL_ready (rs := [9]) (by kernel_rfl) (by simp) ?_
                              refine' ReadyL.cons ?ho10 (fun K hK => ?step10) ?more10
                              case ho10 => simp only [List.getElem?_toArray, List.getElem?_cons_succ, List.getElem?_cons_zero]; rfl
                              case step10 =>
                                go_simp
                                refine hK.out _ _ (.inl (by decide)) ?_
                                clear hK K
                                try simp only [Act.put, List.setIfInBounds_toArray, List.set_cons_zero, List.set_cons_succ]
                                refine wpAnyL_done (by kernel_rfl) ?_ _
                                go_wp2_with fail
                                go_roundw
                                case rel => exact ⟨i + 1, _, by omega, HE.out, by go_num, HM2.out, by show x.ch ++ [(b, o)] = _; rw [HXC.out, show i + 1 - f = (i - f) + 1 by omega, take_next (show (L.drop f)[i - f]? = some (b, o) by rw [List.getElem?_drop, show f + (i - f) = i by omega]; exact HRI.out)], by show x.n + 1 = _; rw [HXN.out]; omega⟩
                                case measure => simp [intOf]; omega
                              exact ReadyL.nil
                            exact ReadyL.nil
                          exact ReadyL.nil
                        exact ReadyL.nil
                  · have HE := Lib.hid (HEX.out (HNA.out.2 (fun c hc => by rw [HRI.out] at hc; injection hc with hc; subst hc; rw [hsp]; rfl)))
                    clear HEX HNA
                    go_wp2_with fail
                    refine (HSP.out _).mono ?_
                    rintro e w' ⟨rfl, rfl⟩
                    go_wp2_with fail
                    go_meet
                    exact HE.out
                · have hk1 : ¬ (i : Int) < (n : Int) := by omega
                  have HE := Lib.hid (HEX.out (HNA.out.2 (fun c hc => by rw [List.getElem?_eq_none (by rw [HN.out]; omega)] at hc; cases hc)))
                  clear HEX HNA
                  go_wp2_with fail
                  go_meet
                  exact HE.out
            case rest =>
              obtain ⟨x, rfl, hS, hxc, hxn⟩ := hcut
              obtain ⟨wd, rfl⟩ : ∃ wd : World, wd = wc := ⟨_, rfl⟩
              have HSd := Lib.hid hS
              have hnl := nameT_le (L.drop f)
              rw [List.length_drop, HN.out] at hnl
              have hxo := hS.xo
              have t1 := hS.tok.at_ 1
              have tf1 := hS.tok.free 1
              have HTP2 := Lib.hid (HTY.out hlb)
              have HXC : Hid (lowL x.ch = lowL ((L.drop f).take (nameT (L.drop f)))) := by show _ = _; rw [hxc]
              rw [← hxn] at hnl ⊢
              have HNE : Hid (nameT (L.drop f) = x.n) := hxn.symm
              have hwz := hS.below.size
              have hrz := hS.tok.lt
              have HLW : Hid (Calls Tryz.prog 38 #[.slice x.A x.n x.c] wd fun e w' => (∃ r : RW, e = .returned (.slice r.A r.n r.c) ∧ r.ch = lowL x.ch ∧ r.own w' (w.heap.size + 2)) ∧ Below wd.heap.size wd w') := by
                refine (refLower_any x.A x.n x.c x.ch wd (Lies.own hxo.2.2) hxo.1 (by omega)).mono ?_
                rintro e w3 ⟨v3, rfl, ho3, hb3⟩
                rw [show (lowCh x.ch).length = x.n by rw [show lowCh x.ch = lowL x.ch from rfl, lowL_length, hxo.1]] at ho3
                obtain ⟨A3, c3, rfl, _, _, _⟩ := own_form ho3
                exact ⟨⟨⟨A3, x.n, c3, lowL x.ch⟩, rfl, rfl, by show (lowL x.ch).length = _; rw [lowL_length, hxo.1], by show x.n ≤ _; omega, own_mono ho3 (by omega)⟩, hb3⟩
              clear hS hxc hxo HZ hxn k0 k1 k2 k3 k4 kf0 kf1 kf2 kf3 kf4 HLT c0 df df' hg1 hg2 hg3 HTY HTN HR60
              go_wp2_with fail
              refine HLW.out.mono ?_
              rintro e w3 ⟨⟨nm, rfl, hnc, hno⟩, hb3⟩
              have HS3 := Lib.hid (HSd.out.next hb3)
              have t31 := HS3.out.tok.at_ 1
              have tf31 := HS3.out.tok.free 1
              have HNC := Lib.hid (hnc.trans HXC.out)
              have HNO := Lib.hid hno
              clear hb3 hnc hno t1 tf1 HLW
              go_wp2_with fail
              generalize hw4 : (w3.setCell ⟨w.heap.size + 1, 1, none⟩ (.slice nm.A nm.n nm.c)).alloc (.cells #[.slice none 0 0, .slice none 0 0] 75) = w4
              have HT4 : Hid (TgS w w3.heap.size (f : Int) nm noRW noRW [] (.slice none 0 0) false w4) := by rw [← hw4]; exact HS3.out.start HNO.out
              clear hw4 t31 tf31 HS3 HNO HSd
              have HNL := Lib.hid hnl
              have HTnone : Hid (runT L (4 * L.length + 9) (f + x.n) ⟨0, [], [], []⟩ = none → tagP L = none) := fun h => by rw [HTP2.out, HNE.out, h]
              have HTsome : Hid (∀ j s, runT L (4 * L.length + 9) (f + x.n) ⟨0, [], [], []⟩ = some (j, s) → tagP L = some (⟨f, nm.ch, if f = 1 then doneT s.al (s.nm, s.vl) else [], decide (f = 1) && ((L[j - 1]?).map (·.1) == some 47), []⟩, j + 1)) := fun j s h => by rw [HTP2.out, HNE.out, h, HNC.out, HNE.out]
              clear HTP2 HNE HNC HXC hwz hrz
              generalize x.n = m at *
              generalize w3.heap.size = g7 at *
              go_loopw [5, 6, 8] (TgRel L w g7 f nm (f + m)) (fun _ _ s8 _ => 4 * n + 9 - (intOf s8).toNat)
              case atStart => exact ⟨f + m, 0, ⟨0, [], [], []⟩, noRW, noRW, [], .slice none 0 0, by go_num, rfl, rfl, by omega, rfl, ⟨InR.nil, InR.nil, Nat.zero_le _, Nat.zero_le _, (fun p hp => by cases hp), Nat.zero_le _, by decide⟩, by omega, by rw [HN.out]; omega, rfl, rfl, rfl, HT4.out⟩
              case round =>
                obtain ⟨i, steps, s, x, y, rs, v, rfl, rfl, rfl, hI⟩ := hrel
                have HIR := Lib.hid hI
                have k0 := hI.mem.res.at_ 0
                have k1 := hI.mem.res.at_ 1
                have k2 := hI.mem.res.at_ 2
                have k3 := hI.mem.res.at_ 3
                have k4 := hI.mem.res.at_ 4
                have kf0 := hI.mem.res.free 0
                have kf1 := hI.mem.res.free 1
                have kf2 := hI.mem.res.free 2
                have kf3 := hI.mem.res.free 3
                have kf4 := hI.mem.res.free 4
                have hk0 : (0 : Int) ≤ (i : Int) := Int.natCast_nonneg _
                clear HT4
                by_cases hlt : i < n
                · have hk1 : (i : Int) < (n : Int) := by omega
                  by_cases hst : steps < 4 * n + 9
                  · have hk2 : (steps : Int) < 4 * (n : Int) + 9 := by omega
                    obtain ⟨ad', b, o, e, _, e0, e1, HRI⟩ := (HL.out.below hI.mem.below).ch (k := i) (by rw [HN.out]; omega)
                    injection e with e
                    subst e
                    have hbA : (ad.add (i * 2)).block < w.heap.size := by rw [addr_block]; exact hb0
                    have c70 : wr.cell? ⟨g7, 0, none⟩ = some (.slice x.A x.n x.c) := hI.mem.att.at_ 0
                    have hbg : (!s.nm.isEmpty) = decide (0 < x.n) := by
                      have h1 := hI.mem.xo.1
                      rw [hI.xc] at h1
                      rw [← h1]
                      cases s.nm with
                      | nil => rfl
                      | cons q r => simp
                    have HNX0 := Lib.hid (fun V => refNext13_any s.st b (decide (0 < x.n)) V hI.fits.2.2.2.2.2.2)
                    have HNS : Hid (nextS s (b, o) = nextT s.st b (decide (0 < x.n))) := by show nextT s.st b (!s.nm.isEmpty) = _; rw [hbg]
                    have hws := hI.mem.below.size
                    have hxn : x.n ≤ n := by rw [← hI.mem.xo.1, hI.xc]; have := hI.fits.2.2.1; omega
                    have hyn : y.n ≤ n := by rw [← hI.mem.yo.1, hI.yc]; have := hI.fits.2.2.2.1; omega
                    have hrn : rs.length ≤ 4 * n + 9 := by
                      have h1 := hI.fits.2.2.2.2.2.1
                      rw [← hI.rc, List.length_map] at h1
                      omega
                    have hst2 : steps < 4 * L.length + 9 := by rw [HN.out]; exact hst
                    have HST2 := Lib.hid hst2
                    have hst6 := hI.fits.2.2.2.2.2.2
                    have HVIN : Hid (InR s.vl ∧ InR s.nm) := ⟨hI.fits.2.1, hI.fits.1⟩
                    obtain ⟨Av, cv, rfl, _, _, _⟩ := own_form hI.mem.row
                    have HDN : Hid (∀ cl V, TgS w g7 (f : Int) nm x y rs (.slice Av rs.length cv) cl V → Calls Tryz.prog 40 #[.slice Av rs.length cv, .agg #[.slice x.A x.n x.c, .slice y.A y.n y.c]] V fun e w' => ∃ A' c' rs', e = .returned (.slice A' rs'.length c') ∧ rs'.map RA.pa = doneT s.al (s.nm, s.vl) ∧ (∃ g, w'.heap[w.heap.size + 1]? = V.heap[w.heap.size + 1]? ∧ w'.heap[g7]? = V.heap[g7]? ∧ g = 0) ∧ TgD w g7 (f : Int) nm rs' (.slice A' rs'.length c') cl (w'.setCell ⟨w.heap.size + 1, 2, none⟩ (.slice A' rs'.length c'))) := by
                      intro cl V hV
                      refine (refDone_any (g7 + 1) rs.length (.slice Av rs.length cv) rs ⟨x, y⟩ V hV.att.lt hV.row rfl (by omega) hV.ras ⟨hV.xo, hV.yo⟩ (by show InR y.ch; rw [HIR.out.yc]; exact HVIN.out.1)).mono ?_
                      rintro e w' ⟨v', rs', rfl, ho, hp, hr, hg⟩
                      obtain ⟨A', c', rfl, _, _, _⟩ := own_form ho
                      have hd := hV.done hg ho hr
                      have hlo : ∀ b, (Value.slice Av rs.length cv).ownBlock = some b → g7 + 1 ≤ b := fun b e => (hV.row.lt b e).1
                      have h7 := hV.hi7
                      exact ⟨A', c', rs', rfl, by rw [hp, HIR.out.rc, show RA.pa ⟨x, y⟩ = (x.ch, y.ch) from rfl, HIR.out.xc, HIR.out.yc], ⟨0, hg.1.block _ hV.tok.lt (fun e => by have := hlo _ e; omega), hg.1.block _ hV.att.lt (fun e => by have := hlo _ e; omega), rfl⟩, hd⟩
                    have k40 : wr.cell? ⟨w.heap.size + 1, 0, none⟩ = some (.int .i64 (f : Int)) := hI.mem.tok.at_ 0
                    have k42 : wr.cell? ⟨w.heap.size + 1, 2, none⟩ = some (.slice Av rs.length cv) := hI.mem.tok.at_ 2
                    have c71 : wr.cell? ⟨g7, 1, none⟩ = some (.slice y.A y.n y.c) := hI.mem.att.at_ 1
                    clear hbg hst2 hI
                    obtain ⟨⟨n1, ad1, ag⟩, hN⟩ : ∃ N : Nat × Bool × Bool, nextT s.st b (decide (0 < x.n)) = N := ⟨_, rfl⟩
                    have HCS := Lib.hid (nextT_cases s.st b (decide (0 < x.n)))
                    rw [hN] at HCS
                    have HNX : Hid (∀ V, Calls Tryz.prog 39 #[.int .i64 (s.st : Int), .int .u8 b.toNat, .bool (decide (0 < x.n))] V fun e w' => e = .returned (.tuple #[.int .i64 (n1 : Nat), .bool ad1, .bool ag]) ∧ V = w') := fun V => by
                      have h := HNX0.out V
                      rw [hN] at h
                      exact h
                    have HNN := Lib.hid (HNS.out.trans hN)
                    clear HNX0 HNS hN
                    go_wp2_with fail
                    have hS : wr.drew.cell? (ad.add (i * 2)) = some (.int .u8 b.toNat) ∧ wr.drew.cell? ⟨g7, 0, none⟩ = some (.slice x.A x.n x.c) := ⟨e0, c70⟩
                    refine wp_region_last13 (S := (fun V => V.cell? (ad.add (i * 2)) = some (.int .u8 b.toNat) ∧ V.cell? ⟨g7, 0, none⟩ = some (.slice x.A x.n x.c))) (Z := (fun _ => false)) (by kernel_rfl) ?_
                    refine' wpAnyL_take (i := 0) ?hi11 (by kernel_rfl) (by kernel_rfl) (by kernel_rfl) (by kernel_rfl) ?hQ11 ?hy11 hS ?rest11
                    case hi11 => simp only [List.getElem?_toArray, List.getElem?_cons_zero]; rfl
                    case hQ11 => exact fun _ _ _ h => h
                    case hy11 =>
                      refine Or.inl ⟨by rfl, ?_⟩
                      intro wq hq
                      try dsimp only at hq
                      try obtain ⟨hq0, hq1, hq2, hq3, hq4, hq5, hq6⟩ := hq
                      try obtain ⟨hq0, hq1, hq2, hq3, hq4, hq5⟩ := hq
                      try obtain ⟨hq0, hq1, hq2, hq3, hq4⟩ := hq
                      try obtain ⟨hq0, hq1, hq2, hq3⟩ := hq
                      try obtain ⟨hq0, hq1, hq2⟩ := hq
                      try obtain ⟨hq0, hq1⟩ := hq
                      go_simp
                      try with_reducible rfl
                    try simp only [Act.put, List.setIfInBounds_toArray, List.set_cons_zero, List.set_cons_succ]
                    refine' wpAnyL_take (i := 1) ?hi12 (by kernel_rfl) (by kernel_rfl) (by kernel_rfl) (by kernel_rfl) ?hQ12 ?hy12 hS ?rest12
                    case hi12 => simp only [List.getElem?_toArray, List.getElem?_cons_succ, List.getElem?_cons_zero]; rfl
                    case hQ12 => exact fun _ _ _ h => h
                    case hy12 =>
                      refine Or.inl ⟨by rfl, ?_⟩
                      intro wq hq
                      try dsimp only at hq
                      try obtain ⟨hq0, hq1, hq2, hq3, hq4, hq5, hq6⟩ := hq
                      try obtain ⟨hq0, hq1, hq2, hq3, hq4, hq5⟩ := hq
                      try obtain ⟨hq0, hq1, hq2, hq3, hq4⟩ := hq
                      try obtain ⟨hq0, hq1, hq2, hq3⟩ := hq
                      try obtain ⟨hq0, hq1, hq2⟩ := hq
                      try obtain ⟨hq0, hq1⟩ := hq
                      go_simp
                      try with_reducible rfl
                    try simp only [Act.put, List.setIfInBounds_toArray, List.set_cons_zero, List.set_cons_succ]
                    refine' wpAnyL_take (i := 2) ?hi13 (by kernel_rfl) (by kernel_rfl) (by kernel_rfl) (by kernel_rfl) ?hQ13 ?hy13 hS ?rest13
                    case hi13 => simp only [List.getElem?_toArray, List.getElem?_cons_succ, List.getElem?_cons_zero]; rfl
                    case hQ13 => exact fun _ _ _ h => h
                    case hy13 =>
                      refine Or.inl ⟨by rfl, ?_⟩
                      intro wq hq
                      try dsimp only at hq
                      try obtain ⟨hq0, hq1, hq2, hq3, hq4, hq5, hq6⟩ := hq
                      try obtain ⟨hq0, hq1, hq2, hq3, hq4, hq5⟩ := hq
                      try obtain ⟨hq0, hq1, hq2, hq3, hq4⟩ := hq
                      try obtain ⟨hq0, hq1, hq2, hq3⟩ := hq
                      try obtain ⟨hq0, hq1, hq2⟩ := hq
                      try obtain ⟨hq0, hq1⟩ := hq
                      go_simp
                      try with_reducible rfl
                    try simp only [Act.put, List.setIfInBounds_toArray, List.set_cons_zero, List.set_cons_succ]
                    refine' wpAnyL_take (i := 3) ?hi14 (by kernel_rfl) (by kernel_rfl) (by kernel_rfl) (by kernel_rfl) ?hQ14 ?hy14 hS ?rest14
                    case hi14 => simp only [List.getElem?_toArray, List.getElem?_cons_succ, List.getElem?_cons_zero]; rfl
                    case hQ14 => exact fun _ _ _ h => h
                    case hy14 =>
                      refine Or.inl ⟨by rfl, ?_⟩
                      intro wq hq
                      try dsimp only at hq
                      try obtain ⟨hq0, hq1, hq2, hq3, hq4, hq5, hq6⟩ := hq
                      try obtain ⟨hq0, hq1, hq2, hq3, hq4, hq5⟩ := hq
                      try obtain ⟨hq0, hq1, hq2, hq3, hq4⟩ := hq
                      try obtain ⟨hq0, hq1, hq2, hq3⟩ := hq
                      try obtain ⟨hq0, hq1, hq2⟩ := hq
                      try obtain ⟨hq0, hq1⟩ := hq
                      go_simp
                      try with_reducible rfl
                    try simp only [Act.put, List.setIfInBounds_toArray, List.set_cons_zero, List.set_cons_succ]
                    refine' wpAnyL_take (i := 4) ?hi15 (by kernel_rfl) (by kernel_rfl) (by kernel_rfl) (by kernel_rfl) ?hQ15 ?hy15 hS ?rest15
                    case hi15 => simp only [List.getElem?_toArray, List.getElem?_cons_succ, List.getElem?_cons_zero]; rfl
                    case hQ15 => exact fun _ _ _ h => h
                    case hy15 =>
                      refine Or.inl ⟨by rfl, ?_⟩
                      intro wq hq
                      try dsimp only at hq
                      try obtain ⟨hq0, hq1, hq2, hq3, hq4, hq5, hq6⟩ := hq
                      try obtain ⟨hq0, hq1, hq2, hq3, hq4, hq5⟩ := hq
                      try obtain ⟨hq0, hq1, hq2, hq3, hq4⟩ := hq
                      try obtain ⟨hq0, hq1, hq2, hq3⟩ := hq
                      try obtain ⟨hq0, hq1, hq2⟩ := hq
                      try obtain ⟨hq0, hq1⟩ := hq
                      go_simp
                      try with_reducible rfl
                    try simp only [Act.put, List.setIfInBounds_toArray, List.set_cons_zero, List.set_cons_succ]
                    refine' wpAnyL_take (i := 5) ?hi16 (by kernel_rfl) (by kernel_rfl) (by kernel_rfl) (by kernel_rfl) ?hQ16 ?hy16 hS ?rest16
                    case hi16 => simp only [List.getElem?_toArray, List.getElem?_cons_succ, List.getElem?_cons_zero]; rfl
                    case hQ16 => exact fun _ _ _ h => h
                    case hy16 =>
                      refine Or.inl ⟨by rfl, ?_⟩
                      intro wq hq
                      try dsimp only at hq
                      try obtain ⟨hq0, hq1, hq2, hq3, hq4, hq5, hq6⟩ := hq
                      try obtain ⟨hq0, hq1, hq2, hq3, hq4, hq5⟩ := hq
                      try obtain ⟨hq0, hq1, hq2, hq3, hq4⟩ := hq
                      try obtain ⟨hq0, hq1, hq2, hq3⟩ := hq
                      try obtain ⟨hq0, hq1, hq2⟩ := hq
                      try obtain ⟨hq0, hq1⟩ := hq
                      go_simp
                      try with_reducible rfl
                    try simp only [Act.put, List.setIfInBounds_toArray, List.set_cons_zero, List.set_cons_succ]
                    refine' wpAnyL_take (i := 6) ?hi17 (by kernel_rfl) (by kernel_rfl) (by kernel_rfl) (by kernel_rfl) ?hQ17 ?hy17 hS ?rest17
                    case hi17 => simp only [List.getElem?_toArray, List.getElem?_cons_succ, List.getElem?_cons_zero]; rfl
                    case hQ17 => exact fun _ _ _ h => h
                    case hy17 =>
                      refine Or.inl ⟨by rfl, ?_⟩
                      intro wq hq
                      try dsimp only at hq
                      try obtain ⟨hq0, hq1, hq2, hq3, hq4, hq5, hq6⟩ := hq
                      try obtain ⟨hq0, hq1, hq2, hq3, hq4, hq5⟩ := hq
                      try obtain ⟨hq0, hq1, hq2, hq3, hq4⟩ := hq
                      try obtain ⟨hq0, hq1, hq2, hq3⟩ := hq
                      try obtain ⟨hq0, hq1, hq2⟩ := hq
                      try obtain ⟨hq0, hq1⟩ := hq
                      go_simp
                      try with_reducible rfl
                    try simp only [Act.put, List.setIfInBounds_toArray, List.set_cons_zero, List.set_cons_succ]
                    refine' wpAnyL_take (i := 7) ?hi18 (by kernel_rfl) (by kernel_rfl) (by kernel_rfl) (by kernel_rfl) ?hQ18 ?hy18 hS ?rest18
                    case hi18 => simp only [List.getElem?_toArray, List.getElem?_cons_succ, List.getElem?_cons_zero]; rfl
                    case hQ18 => exact fun _ _ _ h => h
                    case hy18 =>
                      refine Or.inl ⟨by rfl, ?_⟩
                      intro wq hq
                      try dsimp only at hq
                      try obtain ⟨hq0, hq1, hq2, hq3, hq4, hq5, hq6⟩ := hq
                      try obtain ⟨hq0, hq1, hq2, hq3, hq4, hq5⟩ := hq
                      try obtain ⟨hq0, hq1, hq2, hq3, hq4⟩ := hq
                      try obtain ⟨hq0, hq1, hq2, hq3⟩ := hq
                      try obtain ⟨hq0, hq1, hq2⟩ := hq
                      try obtain ⟨hq0, hq1⟩ := hq
                      go_simp
                      try with_reducible rfl
                    try simp only [Act.put, List.setIfInBounds_toArray, List.set_cons_zero, List.set_cons_succ]
                    refine' wpAnyL_take (i := 8) ?hi19 (by kernel_rfl) (by kernel_rfl) (by kernel_rfl) (by kernel_rfl) ?hQ19 ?hy19 hS ?rest19
                    case hi19 => simp only [List.getElem?_toArray, List.getElem?_cons_succ, List.getElem?_cons_zero]; rfl
                    case hQ19 => exact fun _ _ _ h => h
                    case hy19 =>
                      refine Or.inl ⟨by rfl, ?_⟩
                      intro wq hq
                      try dsimp only at hq
                      try obtain ⟨hq0, hq1, hq2, hq3, hq4, hq5, hq6⟩ := hq
                      try obtain ⟨hq0, hq1, hq2, hq3, hq4, hq5⟩ := hq
                      try obtain ⟨hq0, hq1, hq2, hq3, hq4⟩ := hq
                      try obtain ⟨hq0, hq1, hq2, hq3⟩ := hq
                      try obtain ⟨hq0, hq1, hq2⟩ := hq
                      try obtain ⟨hq0, hq1⟩ := hq
                      go_simp
                      try with_reducible rfl
                    try simp only [Act.put, List.setIfInBounds_toArray, List.set_cons_zero, List.set_cons_succ]
                    refine wpAnyL_ready (rs := [9]) (by kernel_rfl) (by simp) ?_
                    refine' ReadyL.cons ?ho20 (fun K hK => ?step20) ?more20
                    case ho20 => simp only [List.getElem?_toArray, List.getElem?_cons_succ, List.getElem?_cons_zero]; rfl
                    case step20 =>
                      go_simp
                      refine hK.out _ _ (.inr ⟨e0, c70⟩) ?_
                      clear hK K
                      try simp only [Act.put, List.setIfInBounds_toArray, List.set_cons_zero, List.set_cons_succ]
                      refine wpAnyL_ready (rs := [10]) (by kernel_rfl) (by simp) ?_
                      refine' ReadyL.cons ?ho21 (fun K hK => ?step21) ?more21
                      case ho21 => simp only [List.getElem?_toArray, List.getElem?_cons_succ, List.getElem?_cons_zero]; rfl
                      case step21 =>
                        go_simp
                        refine (HNX.out _).mono ?_
                        rintro e wa ⟨rfl, rfl⟩
                        refine hK.out _ _ (.inr ⟨e0, c70⟩) ?_
                        clear hK K
                        try simp only [Act.put, List.setIfInBounds_toArray, List.set_cons_zero, List.set_cons_succ]
                        refine' wpAnyL_take (i := 11) ?hi22 (by kernel_rfl) (by kernel_rfl) (by kernel_rfl) (by kernel_rfl) ?hQ22 ?hy22 hS ?rest22
                        case hi22 => simp only [List.getElem?_toArray, List.getElem?_cons_succ, List.getElem?_cons_zero]; rfl
                        case hQ22 => exact fun _ _ _ h => h
                        case hy22 =>
                          refine Or.inl ⟨by rfl, ?_⟩
                          intro wq hq
                          try dsimp only at hq
                          try obtain ⟨hq0, hq1, hq2, hq3, hq4, hq5, hq6⟩ := hq
                          try obtain ⟨hq0, hq1, hq2, hq3, hq4, hq5⟩ := hq
                          try obtain ⟨hq0, hq1, hq2, hq3, hq4⟩ := hq
                          try obtain ⟨hq0, hq1, hq2, hq3⟩ := hq
                          try obtain ⟨hq0, hq1, hq2⟩ := hq
                          try obtain ⟨hq0, hq1⟩ := hq
                          go_simp
                          try with_reducible rfl
                        try simp only [Act.put, List.setIfInBounds_toArray, List.set_cons_zero, List.set_cons_succ]
                        refine' wpAnyL_take (i := 12) ?hi23 (by kernel_rfl) (by kernel_rfl) (by kernel_rfl) (by kernel_rfl) ?hQ23 ?hy23 hS ?rest23
                        case hi23 => simp only [List.getElem?_toArray, List.getElem?_cons_succ, List.getElem?_cons_zero]; rfl
                        case hQ23 => exact fun _ _ _ h => h
                        case hy23 =>
                          refine Or.inl ⟨by rfl, ?_⟩
                          intro wq hq
                          try dsimp only at hq
                          try obtain ⟨hq0, hq1, hq2, hq3, hq4, hq5, hq6⟩ := hq
                          try obtain ⟨hq0, hq1, hq2, hq3, hq4, hq5⟩ := hq
                          try obtain ⟨hq0, hq1, hq2, hq3, hq4⟩ := hq
                          try obtain ⟨hq0, hq1, hq2, hq3⟩ := hq
                          try obtain ⟨hq0, hq1, hq2⟩ := hq
                          try obtain ⟨hq0, hq1⟩ := hq
                          go_simp
                          try with_reducible rfl
                        try simp only [Act.put, List.setIfInBounds_toArray, List.set_cons_zero, List.set_cons_succ]
                        refine' wpAnyL_take (i := 13) ?hi24 (by kernel_rfl) (by kernel_rfl) (by kernel_rfl) (by kernel_rfl) ?hQ24 ?hy24 hS ?rest24
                        case hi24 => simp only [List.getElem?_toArray, List.getElem?_cons_succ, List.getElem?_cons_zero]; rfl
                        case hQ24 => exact fun _ _ _ h => h
                        case hy24 =>
                          refine Or.inl ⟨by rfl, ?_⟩
                          intro wq hq
                          try dsimp only at hq
                          try obtain ⟨hq0, hq1, hq2, hq3, hq4, hq5, hq6⟩ := hq
                          try obtain ⟨hq0, hq1, hq2, hq3, hq4, hq5⟩ := hq
                          try obtain ⟨hq0, hq1, hq2, hq3, hq4⟩ := hq
                          try obtain ⟨hq0, hq1, hq2, hq3⟩ := hq
                          try obtain ⟨hq0, hq1, hq2⟩ := hq
                          try obtain ⟨hq0, hq1⟩ := hq
                          go_simp
                          try with_reducible rfl
                        try simp only [Act.put, List.setIfInBounds_toArray, List.set_cons_zero, List.set_cons_succ]
                        refine' wpAnyL_take (i := 14) ?hi25 (by kernel_rfl) (by kernel_rfl) (by kernel_rfl) (by kernel_rfl) ?hQ25 ?hy25 hS ?rest25
                        case hi25 => simp only [List.getElem?_toArray, List.getElem?_cons_succ, List.getElem?_cons_zero]; rfl
                        case hQ25 => exact fun _ _ _ h => h
                        case hy25 =>
                          refine Or.inl ⟨by rfl, ?_⟩
                          intro wq hq
                          try dsimp only at hq
                          try obtain ⟨hq0, hq1, hq2, hq3, hq4, hq5, hq6⟩ := hq
                          try obtain ⟨hq0, hq1, hq2, hq3, hq4, hq5⟩ := hq
                          try obtain ⟨hq0, hq1, hq2, hq3, hq4⟩ := hq
                          try obtain ⟨hq0, hq1, hq2, hq3⟩ := hq
                          try obtain ⟨hq0, hq1, hq2⟩ := hq
                          try obtain ⟨hq0, hq1⟩ := hq
                          go_simp
                          try with_reducible rfl
                        try simp only [Act.put, List.setIfInBounds_toArray, List.set_cons_zero, List.set_cons_succ]
                        refine' wpAnyL_take (i := 15) ?hi26 (by kernel_rfl) (by kernel_rfl) (by kernel_rfl) (by kernel_rfl) ?hQ26 ?hy26 hS ?rest26
                        case hi26 => simp only [List.getElem?_toArray, List.getElem?_cons_succ, List.getElem?_cons_zero]; rfl
                        case hQ26 => exact fun _ _ _ h => h
                        case hy26 =>
                          refine Or.inl ⟨by rfl, ?_⟩
                          intro wq hq
                          try dsimp only at hq
                          try obtain ⟨hq0, hq1, hq2, hq3, hq4, hq5, hq6⟩ := hq
                          try obtain ⟨hq0, hq1, hq2, hq3, hq4, hq5⟩ := hq
                          try obtain ⟨hq0, hq1, hq2, hq3, hq4⟩ := hq
                          try obtain ⟨hq0, hq1, hq2, hq3⟩ := hq
                          try obtain ⟨hq0, hq1, hq2⟩ := hq
                          try obtain ⟨hq0, hq1⟩ := hq
                          go_simp
                          try with_reducible rfl
                        try simp only [Act.put, List.setIfInBounds_toArray, List.set_cons_zero, List.set_cons_succ]
                        refine' wpAnyL_take (i := 16) ?hi27 (by kernel_rfl) (by kernel_rfl) (by kernel_rfl) (by kernel_rfl) ?hQ27 ?hy27 hS ?rest27
                        case hi27 => simp only [List.getElem?_toArray, List.getElem?_cons_succ, List.getElem?_cons_zero]; rfl
                        case hQ27 => exact fun _ _ _ h => h
                        case hy27 =>
                          refine Or.inl ⟨by rfl, ?_⟩
                          intro wq hq
                          try dsimp only at hq
                          try obtain ⟨hq0, hq1, hq2, hq3, hq4, hq5, hq6⟩ := hq
                          try obtain ⟨hq0, hq1, hq2, hq3, hq4, hq5⟩ := hq
                          try obtain ⟨hq0, hq1, hq2, hq3, hq4⟩ := hq
                          try obtain ⟨hq0, hq1, hq2, hq3⟩ := hq
                          try obtain ⟨hq0, hq1, hq2⟩ := hq
                          try obtain ⟨hq0, hq1⟩ := hq
                          go_simp
                          try with_reducible rfl
                        try simp only [Act.put, List.setIfInBounds_toArray, List.set_cons_zero, List.set_cons_succ]
                        refine' wpAnyL_take (i := 17) ?hi28 (by kernel_rfl) (by kernel_rfl) (by kernel_rfl) (by kernel_rfl) ?hQ28 ?hy28 hS ?rest28
                        case hi28 => simp only [List.getElem?_toArray, List.getElem?_cons_succ, List.getElem?_cons_zero]; rfl
                        case hQ28 => exact fun _ _ _ h => h
                        case hy28 =>
                          refine Or.inl ⟨by rfl, ?_⟩
                          intro wq hq
                          try dsimp only at hq
                          try obtain ⟨hq0, hq1, hq2, hq3, hq4, hq5, hq6⟩ := hq
                          try obtain ⟨hq0, hq1, hq2, hq3, hq4, hq5⟩ := hq
                          try obtain ⟨hq0, hq1, hq2, hq3, hq4⟩ := hq
                          try obtain ⟨hq0, hq1, hq2, hq3⟩ := hq
                          try obtain ⟨hq0, hq1, hq2⟩ := hq
                          try obtain ⟨hq0, hq1⟩ := hq
                          go_simp
                          try with_reducible rfl
                        try simp only [Act.put, List.setIfInBounds_toArray, List.set_cons_zero, List.set_cons_succ]
                        refine wpAnyL_done (by kernel_rfl) ?_ _
                        clear hS HNX
                        rcases HCS.out with h99 | ⟨hs0, hN⟩ | ⟨hs1, hN⟩ | ⟨n1', hn1, hn99, hn6, hN⟩ | ⟨n1', g', hn99, hn6, hnr, hN⟩
                        · obtain rfl : n1 = 99 := h99
                          have HT := Lib.hid (HTsome.out i s (by rw [HIR.out.run, show 4 * L.length + 9 - steps = (4 * L.length + 9 - (steps + 1)) + 1 by have := HST2.out; omega]; exact runT_end HRI.out (by rw [HNN.out])))
                          clear HNN HCS HTnone HTsome
                          by_cases hf1 : f = 1
                          · subst hf1
                            obtain ⟨j, rfl⟩ : ∃ j, i = j + 1 := ⟨i - 1, by have := HIR.out.pos; omega⟩
                            obtain ⟨ad', b', o', e, _, j0, _, HRJ⟩ := (HL.out.below HIR.out.mem.below).ch (k := j) (by rw [HN.out]; omega)
                            injection e with e
                            subst e
                            have hj1 : ((j + 1 : Nat) : Int) - 1 = (j : Int) := by omega
                            have hj2 : (0 : Int) ≤ (j : Int) := Int.natCast_nonneg _
                            have hj3 : (j : Int) < (n : Int) := by omega
                            obtain ⟨q, hq⟩ : ∃ q, (b' == 47) = q := ⟨_, rfl⟩
                            have e47 : ((b'.toNat : Int) == 47) = q := by rw [← hq]; exact byte_beq b' 47
                            have HTJ : Hid (tagP L = some (⟨1, nm.ch, doneT s.al (s.nm, s.vl), q, []⟩, j + 1 + 1)) := by
                              show _ = _
                              rw [HT.out, if_pos rfl, show j + 1 - 1 = j from rfl, HRJ.out, ← hq]
                              congr 3
                            have HCL := Lib.hid (HIR.out.mem.drew.close q)
                            have m3 : wr.frozen? ⟨w.heap.size + 1, 3, none⟩ = false := HIR.out.mem.tok.free 3
                            have m33 := HIR.out.mem.tok.at_ 3
                            have z42 : (wr.drew.setCell ⟨w.heap.size + 1, 3, none⟩ (.bool q)).cell? ⟨w.heap.size + 1, 2, none⟩ = some (.slice Av rs.length cv) := HCL.out.tok.at_ 2
                            have z70 : (wr.drew.setCell ⟨w.heap.size + 1, 3, none⟩ (.bool q)).cell? ⟨g7, 0, none⟩ = some (.slice x.A x.n x.c) := HCL.out.att.at_ 0
                            have z71 : (wr.drew.setCell ⟨w.heap.size + 1, 3, none⟩ (.bool q)).cell? ⟨g7, 1, none⟩ = some (.slice y.A y.n y.c) := HCL.out.att.at_ 1
                            have HDQ := Lib.hid (HDN.out q _ HCL.out)
                            clear HT HDN hq
                            go_wp2_with fail
                            refine HDQ.out.mono ?_
                            rintro e w5 ⟨A', c', rs', rfl, hp', ⟨_, hh1, hh2, _⟩, hd⟩
                            have HD5 := Lib.hid hd
                            have HP5 := Lib.hid hp'
                            have Y5 := HCL.out.tok.same hh1
                            have R5 : Whole w5 w.heap.size 39 #[.int .i64 0, .slice none 0 0, .slice none 0 0, .bool false, .slice none 0 0] := hd.res.same (Below.heap_setCell w5 ⟨w.heap.size + 1, 2, none⟩ _ w.heap.size (by show w.heap.size ≠ w.heap.size + 1; omega)).symm
                            have b0 := R5.at_ 0
                            have b1' := R5.at_ 1
                            have b2' := R5.at_ 2
                            have b3' := R5.at_ 3
                            have b4' := R5.at_ 4
                            have bf0 := R5.free 0
                            have bf1 := R5.free 1
                            have bf2 := R5.free 2
                            have bf3 := R5.free 3
                            have bf4 := R5.free 4
                            have a0 := Y5.at_ 0
                            have a1 := Y5.at_ 1
                            have a2 := Y5.at_ 2
                            have a3 := Y5.at_ 3
                            have a4 := Y5.at_ 4
                            have af2 := Y5.free 2
                            clear hd hp' hh1 hh2 Y5 R5 HDQ
                            go_wp2_with fail
                            refine bodyPost_ret (v := .tuple #[.agg #[.int .i64 ((1 : Nat) : Int), .slice nm.A nm.n nm.c, .slice A' rs'.length c', .bool q, .slice none 0 0], .int .i64 ((j + 1 + 1 : Nat) : Int)]) ?_ rfl ?_
                            · simp [results, Tryz.results15, go_sem, b0, b1', b2', b3', b4']
                            · exact tellsRT_of HD5.out (by rw [HTJ.out, HP5.out]) _ _ _ _ _
                          · obtain rfl : f = 2 := by omega
                            have HT2 : Hid (tagP L = some (⟨2, nm.ch, [], false, []⟩, i + 1)) := by
                              show _ = _
                              rw [HT.out, if_neg (by decide)]
                              rfl
                            have HD5 := Lib.hid HIR.out.mem.drew.drop
                            have Y5 := HIR.out.mem.tok
                            have a1 := Y5.at_ 1
                            have a3 := Y5.at_ 3
                            have a4 := Y5.at_ 4
                            have af2 := Y5.free 2
                            clear HT HDN Y5
                            go_wp2_with fail
                            refine bodyPost_ret (v := .tuple #[.agg #[.int .i64 ((2 : Nat) : Int), .slice nm.A nm.n nm.c, .slice none 0 0, .bool false, .slice none 0 0], .int .i64 ((i + 1 : Nat) : Int)]) ?_ rfl ?_
                            · simp [results, Tryz.results15, go_sem, k0, k1, k2, k3, k4]
                            · exact tellsRT_of (rs := []) HD5.out (by rw [HT2.out]; rfl) _ _ _ _ _
                        · obtain ⟨rfl, rfl, rfl⟩ : n1 = 1 ∧ ad1 = false ∧ ag = true := by simpa using hN
                          have hsi : ((s.st : Int) == 0) = true := by rw [hs0]; rfl
                          have HS0' := Lib.hid hs0
                          have HDQ := Lib.hid (HDN.out false _ HIR.out.mem.drew)
                          clear hs0 hN HCS HTnone HTsome HDN
                          go_wp2_with fail
                          refine HDQ.out.mono ?_
                          rintro e w5 ⟨A', c', rs', rfl, hp', ⟨_, hh1, hh2, _⟩, hd⟩
                          have HP5 := Lib.hid hp'
                          have HD6 := Lib.hid hd.fresh
                          have Y5 := HIR.out.mem.drew.tok.same hh1
                          have Z5 := HIR.out.mem.drew.att.same hh2
                          have a2 := Y5.at_ 2
                          have af2 := Y5.free 2
                          have z0 := Z5.at_ 0
                          have z1 := Z5.at_ 1
                          have zf0 := Z5.free 0
                          have zf1 := Z5.free 1
                          clear hd hp' hh1 hh2 Y5 Z5 HDQ
                          go_wp2_with fail
                          go_roundw
                          case rel => exact ⟨i, steps + 1, ⟨1, [], [], doneT s.al (s.nm, s.vl)⟩, noRW, noRW, rs', .slice A' rs'.length c', rfl, rfl, by go_num, HIR.out.go HIN.out HRI.out HST2.out HNN.out (by decide) (stepT_reset HS0'.out) rfl rfl rfl HP5.out HD6.out⟩
                          case measure => simp [intOf]; omega
                        · obtain ⟨rfl, rfl, rfl⟩ : n1 = 1 ∧ ad1 = true ∧ ag = false := by simpa using hN
                          have hsi : ((s.st : Int) == 0) = false := by rw [hs1]; rfl
                          have HS1' := Lib.hid hs1
                          clear hs1
                          have HMQ : Hid (TgS w g7 (f : Int) nm x y rs (.slice Av rs.length cv) false wr.drew) := HIR.out.mem.drew
                          have q0 : wr.drew.cell? (ad.add (i * 2)) = some (.int .u8 b.toNat) := e0
                          have q1 : wr.drew.cell? ⟨(ad.add (i * 2)).block, (ad.add (i * 2)).off + 1, none⟩ = some (.int .i64 o) := e1
                          have q70 : wr.drew.cell? ⟨g7, 0, none⟩ = some (.slice x.A x.n x.c) := c70
                          clear e0 e1 c70 c71 k40 k42 k0 k1 k2 k3 k4 kf0 kf1 kf2 kf3 kf4 HCS HTnone HTsome HDN hN
                          generalize wr.drew = wq at *
                          have hwq : w.heap.size ≤ wq.heap.size := HMQ.out.below.size
                          have h7q : g7 < wq.heap.size := HMQ.out.att.lt
                          have h7w : w.heap.size + 2 ≤ g7 := HMQ.out.hi7
                          go_wp2_with fail
                          have hS : wq.drew.cell? ⟨g7, 0, none⟩ = some (.slice x.A x.n x.c) ∧ wq.drew.cell? (ad.add (i * 2)) = some (.int .u8 b.toNat) ∧ wq.drew.cell? ⟨(ad.add (i * 2)).block, (ad.add (i * 2)).off + 1, none⟩ = some (.int .i64 o) := ⟨q70, q0, q1⟩
                          refine wp_region_last13 (S := (fun V => V.cell? ⟨g7, 0, none⟩ = some (.slice x.A x.n x.c) ∧ V.cell? (ad.add (i * 2)) = some (.int .u8 b.toNat) ∧ V.cell? ⟨(ad.add (i * 2)).block, (ad.add (i * 2)).off + 1, none⟩ = some (.int .i64 o))) (Z := (fun i => decide (8 ≤ i))) (by kernel_rfl) ?_
                          refine' wpAnyL_take (i := 0) ?hi29 (by kernel_rfl) (by kernel_rfl) (by kernel_rfl) (by kernel_rfl) ?hQ29 ?hy29 hS ?rest29
                          case hi29 => simp only [List.getElem?_toArray, List.getElem?_cons_zero]; rfl
                          case hQ29 => exact fun _ _ _ h => h
                          case hy29 =>
                            refine Or.inl ⟨by rfl, ?_⟩
                            intro wq hq
                            try dsimp only at hq
                            try obtain ⟨hq0, hq1, hq2, hq3, hq4, hq5, hq6⟩ := hq
                            try obtain ⟨hq0, hq1, hq2, hq3, hq4, hq5⟩ := hq
                            try obtain ⟨hq0, hq1, hq2, hq3, hq4⟩ := hq
                            try obtain ⟨hq0, hq1, hq2, hq3⟩ := hq
                            try obtain ⟨hq0, hq1, hq2⟩ := hq
                            try obtain ⟨hq0, hq1⟩ := hq
                            go_simp
                            try with_reducible rfl
                          try simp only [Act.put, List.setIfInBounds_toArray, List.set_cons_zero, List.set_cons_succ]
                          refine' wpAnyL_take (i := 1) ?hi30 (by kernel_rfl) (by kernel_rfl) (by kernel_rfl) (by kernel_rfl) ?hQ30 ?hy30 hS ?rest30
                          case hi30 => simp only [List.getElem?_toArray, List.getElem?_cons_succ, List.getElem?_cons_zero]; rfl
                          case hQ30 => exact fun _ _ _ h => h
                          case hy30 =>
                            refine Or.inl ⟨by rfl, ?_⟩
                            intro wq hq
                            try dsimp only at hq
                            try obtain ⟨hq0, hq1, hq2, hq3, hq4, hq5, hq6⟩ := hq
                            try obtain ⟨hq0, hq1, hq2, hq3, hq4, hq5⟩ := hq
                            try obtain ⟨hq0, hq1, hq2, hq3, hq4⟩ := hq
                            try obtain ⟨hq0, hq1, hq2, hq3⟩ := hq
                            try obtain ⟨hq0, hq1, hq2⟩ := hq
                            try obtain ⟨hq0, hq1⟩ := hq
                            go_simp
                            try with_reducible rfl
                          try simp only [Act.put, List.setIfInBounds_toArray, List.set_cons_zero, List.set_cons_succ]
                          refine' wpAnyL_take (i := 2) ?hi31 (by kernel_rfl) (by kernel_rfl) (by kernel_rfl) (by kernel_rfl) ?hQ31 ?hy31 hS ?rest31
                          case hi31 => simp only [List.getElem?_toArray, List.getElem?_cons_succ, List.getElem?_cons_zero]; rfl
                          case hQ31 => exact fun _ _ _ h => h
                          case hy31 =>
                            refine Or.inl ⟨by rfl, ?_⟩
                            intro wq hq
                            try dsimp only at hq
                            try obtain ⟨hq0, hq1, hq2, hq3, hq4, hq5, hq6⟩ := hq
                            try obtain ⟨hq0, hq1, hq2, hq3, hq4, hq5⟩ := hq
                            try obtain ⟨hq0, hq1, hq2, hq3, hq4⟩ := hq
                            try obtain ⟨hq0, hq1, hq2, hq3⟩ := hq
                            try obtain ⟨hq0, hq1, hq2⟩ := hq
                            try obtain ⟨hq0, hq1⟩ := hq
                            go_simp
                            try with_reducible rfl
                          try simp only [Act.put, List.setIfInBounds_toArray, List.set_cons_zero, List.set_cons_succ]
                          refine' wpAnyL_take (i := 3) ?hi32 (by kernel_rfl) (by kernel_rfl) (by kernel_rfl) (by kernel_rfl) ?hQ32 ?hy32 hS ?rest32
                          case hi32 => simp only [List.getElem?_toArray, List.getElem?_cons_succ, List.getElem?_cons_zero]; rfl
                          case hQ32 => exact fun _ _ _ h => h
                          case hy32 =>
                            refine Or.inl ⟨by rfl, ?_⟩
                            intro wq hq
                            try dsimp only at hq
                            try obtain ⟨hq0, hq1, hq2, hq3, hq4, hq5, hq6⟩ := hq
                            try obtain ⟨hq0, hq1, hq2, hq3, hq4, hq5⟩ := hq
                            try obtain ⟨hq0, hq1, hq2, hq3, hq4⟩ := hq
                            try obtain ⟨hq0, hq1, hq2, hq3⟩ := hq
                            try obtain ⟨hq0, hq1, hq2⟩ := hq
                            try obtain ⟨hq0, hq1⟩ := hq
                            go_simp
                            try with_reducible rfl
                          try simp only [Act.put, List.setIfInBounds_toArray, List.set_cons_zero, List.set_cons_succ]
                          refine' wpAnyL_take (i := 4) ?hi33 (by kernel_rfl) (by kernel_rfl) (by kernel_rfl) (by kernel_rfl) ?hQ33 ?hy33 hS ?rest33
                          case hi33 => simp only [List.getElem?_toArray, List.getElem?_cons_succ, List.getElem?_cons_zero]; rfl
                          case hQ33 => exact fun _ _ _ h => h
                          case hy33 =>
                            refine Or.inl ⟨by rfl, ?_⟩
                            intro wq hq
                            try dsimp only at hq
                            try obtain ⟨hq0, hq1, hq2, hq3, hq4, hq5, hq6⟩ := hq
                            try obtain ⟨hq0, hq1, hq2, hq3, hq4, hq5⟩ := hq
                            try obtain ⟨hq0, hq1, hq2, hq3, hq4⟩ := hq
                            try obtain ⟨hq0, hq1, hq2, hq3⟩ := hq
                            try obtain ⟨hq0, hq1, hq2⟩ := hq
                            try obtain ⟨hq0, hq1⟩ := hq
                            go_simp
                            try with_reducible rfl
                          try simp only [Act.put, List.setIfInBounds_toArray, List.set_cons_zero, List.set_cons_succ]
                          refine' wpAnyL_take (i := 5) ?hi34 (by kernel_rfl) (by kernel_rfl) (by kernel_rfl) (by kernel_rfl) ?hQ34 ?hy34 hS ?rest34
                          case hi34 => simp only [List.getElem?_toArray, List.getElem?_cons_succ, List.getElem?_cons_zero]; rfl
                          case hQ34 => exact fun _ _ _ h => h
                          case hy34 =>
                            refine Or.inl ⟨by rfl, ?_⟩
                            intro wq hq
                            try dsimp only at hq
                            try obtain ⟨hq0, hq1, hq2, hq3, hq4, hq5, hq6⟩ := hq
                            try obtain ⟨hq0, hq1, hq2, hq3, hq4, hq5⟩ := hq
                            try obtain ⟨hq0, hq1, hq2, hq3, hq4⟩ := hq
                            try obtain ⟨hq0, hq1, hq2, hq3⟩ := hq
                            try obtain ⟨hq0, hq1, hq2⟩ := hq
                            try obtain ⟨hq0, hq1⟩ := hq
                            go_simp
                            try with_reducible rfl
                          try simp only [Act.put, List.setIfInBounds_toArray, List.set_cons_zero, List.set_cons_succ]
                          refine wpAnyL_ready (rs := [6]) (by kernel_rfl) (by simp) ?_
                          refine' ReadyL.cons ?ho35 (fun K hK => ?step35) ?more35
                          case ho35 => simp only [List.getElem?_toArray, List.getElem?_cons_succ, List.getElem?_cons_zero]; rfl
                          case step35 =>
                            go_simp
                            have hba : Below wq.heap.size wq (wq.drew.alloc (.cells #[.int .u8 b.toNat, .int .i64 o] 65)) := Below.trans (Below.drew (Below.refl wq.heap.size wq)) ((Below.refl _ wq.drew).alloc (Nat.le_refl _) _)
                            have HSa := Lib.hid (HMQ.out.next hba)
                            refine hK.out _ _ (.inr ⟨HSa.out.att.at_ 0, (hba.cell (by omega)).trans q0, (hba.cell (p := ⟨(ad.add (i * 2)).block, (ad.add (i * 2)).off + 1, none⟩) (by show (ad.add (i * 2)).block < _; omega)).trans q1⟩) ?_
                            clear hK K hS
                            try simp only [Act.put, List.setIfInBounds_toArray, List.set_cons_zero, List.set_cons_succ]
                            refine wpAnyL_ready (rs := [7]) (by kernel_rfl) (by simp) ?_
                            refine' ReadyL.cons ?ho36 (fun K hK => ?step36) ?more36
                            case ho36 => simp only [List.getElem?_toArray, List.getElem?_cons_succ, List.getElem?_cons_zero]; rfl
                            case step36 =>
                              refine step_append_src _ (by rfl) (.tmp 165) (.tmp 170) 31 (by rfl) (g7 + 1) 65 i0 _ 2 16 Tryz.underlying31 hi hz0 hz1 hz2 rfl (by omega) (.slice x.A x.n x.c) x.n _ (by rfl) HSa.out.xo.2.2 _ (some ⟨wq.heap.size, 0, none⟩) 1 1 [.int .u8 b.toNat, .int .i64 o] (by rfl) (by simp) (by rfl) (lies_wholeR (Whole.made wq.drew _ _) rfl) (by simp [Value.oneCell']) (by simp only [maxLen]; omega) (by omega) (by simp; omega) ?_
                              intro v2 w2 hown2 hgr2 hbl2
                              obtain ⟨A2, c2, rfl, _, _, _⟩ := own_form hown2
                              have HM2 := Lib.hid (HMQ.out.addX (c := (b, o)) hba (by omega) hgr2 hown2 hbl2)
                              have hlo : ∀ k, (Value.slice x.A x.n x.c).ownBlock = some k → g7 + 1 ≤ k := fun k hk => (HMQ.out.xo.lt hk).1
                              have hW2 := HSa.out.att.grown hgr2 (fun e => by have := hlo _ e.symm; omega)
                              have hb2 : Below w.heap.size wq w2 := (hba.mono hwq).grown hgr2 (by have := hba.size; omega) (fun k hk => by have := hlo k hk; omega)
                              have j1 : w2.cell? ⟨g7, 0, none⟩ = some (.slice x.A x.n x.c) := hW2.at_ 0
                              have jf1 := hW2.free 0
                              refine hK.out _ _ (.inr ⟨j1, (hb2.cell hbA).trans q0, (hb2.cell (p := ⟨(ad.add (i * 2)).block, (ad.add (i * 2)).off + 1, none⟩) hbA).trans q1⟩) ?_
                              clear hK K hown2 hgr2 hbl2 hb2 hW2 hlo hba
                              try simp only [Act.put, List.setIfInBounds_toArray, List.set_cons_zero, List.set_cons_succ]
                              refine wpAnyL_ready (rs := [8]) (by kernel_rfl) (by simp) ?_
                              refine' ReadyL.cons ?ho37 (fun K hK => ?step37) ?more37
                              case ho37 => simp only [List.getElem?_toArray, List.getElem?_cons_succ, List.getElem?_cons_zero]; rfl
                              case step37 =>
                                go_simp
                                refine hK.out _ _ (.inl (by decide)) ?_
                                clear hK K
                                try simp only [Act.put, List.setIfInBounds_toArray, List.set_cons_zero, List.set_cons_succ]
                                refine wpAnyL_ready (rs := [9]) (by kernel_rfl) (by simp) ?_
                                refine' ReadyL.cons ?ho38 (fun K hK => ?step38) ?more38
                                case ho38 => simp only [List.getElem?_toArray, List.getElem?_cons_succ, List.getElem?_cons_zero]; rfl
                                case step38 =>
                                  go_simp
                                  refine hK.out _ _ (.inl (by decide)) ?_
                                  clear hK K
                                  try simp only [Act.put, List.setIfInBounds_toArray, List.set_cons_zero, List.set_cons_succ]
                                  refine wpAnyL_done (by kernel_rfl) ?_ _
                                  go_wp2_with fail
                                  go_roundw
                                  case rel => exact ⟨i + 1, steps + 1, ⟨1, s.nm ++ [(b, o)], s.vl, s.al⟩, ⟨A2, x.n + 1, c2, x.ch ++ [(b, o)]⟩, y, rs, _, by go_num, rfl, by go_num, HIR.out.go HIN.out HRI.out HST2.out HNN.out (by decide) (stepT_name HS1'.out) rfl (by show x.ch ++ _ = s.nm ++ _; rw [HIR.out.xc]) HIR.out.yc HIR.out.rc HM2.out⟩
                                  case measure => simp [intOf]; omega
                                exact ReadyL.nil
                              exact ReadyL.nil
                            exact ReadyL.nil
                          exact ReadyL.nil
                        · obtain ⟨rfl, rfl, rfl⟩ : n1 = n1' ∧ ad1 = true ∧ ag = false := by simpa using hN
                          have q99 : ((n1 : Int) == 99) = false := by rw [beq_eq_false_iff_ne]; omega
                          have qn1 : ((n1 : Int) == 1) = false := by rw [beq_eq_false_iff_ne]; omega
                          have HMQ : Hid (TgS w g7 (f : Int) nm x y rs (.slice Av rs.length cv) false wr.drew) := HIR.out.mem.drew
                          have q0 : wr.drew.cell? (ad.add (i * 2)) = some (.int .u8 b.toNat) := e0
                          have q1 : wr.drew.cell? ⟨(ad.add (i * 2)).block, (ad.add (i * 2)).off + 1, none⟩ = some (.int .i64 o) := e1
                          have q70 : wr.drew.cell? ⟨g7, 1, none⟩ = some (.slice y.A y.n y.c) := c71
                          clear e0 e1 c70 c71 k40 k42 k0 k1 k2 k3 k4 kf0 kf1 kf2 kf3 kf4 HCS HTnone HTsome HDN hN
                          generalize wr.drew = wq at *
                          have hwq : w.heap.size ≤ wq.heap.size := HMQ.out.below.size
                          have h7q : g7 < wq.heap.size := HMQ.out.att.lt
                          have h7w : w.heap.size + 2 ≤ g7 := HMQ.out.hi7
                          go_wp2_with fail
                          have hS : wq.drew.cell? ⟨g7, 1, none⟩ = some (.slice y.A y.n y.c) ∧ wq.drew.cell? (ad.add (i * 2)) = some (.int .u8 b.toNat) ∧ wq.drew.cell? ⟨(ad.add (i * 2)).block, (ad.add (i * 2)).off + 1, none⟩ = some (.int .i64 o) := ⟨q70, q0, q1⟩
                          refine wp_region_last13 (S := (fun V => V.cell? ⟨g7, 1, none⟩ = some (.slice y.A y.n y.c) ∧ V.cell? (ad.add (i * 2)) = some (.int .u8 b.toNat) ∧ V.cell? ⟨(ad.add (i * 2)).block, (ad.add (i * 2)).off + 1, none⟩ = some (.int .i64 o))) (Z := (fun i => decide (8 ≤ i))) (by kernel_rfl) ?_
                          refine' wpAnyL_take (i := 0) ?hi39 (by kernel_rfl) (by kernel_rfl) (by kernel_rfl) (by kernel_rfl) ?hQ39 ?hy39 hS ?rest39
                          case hi39 => simp only [List.getElem?_toArray, List.getElem?_cons_zero]; rfl
                          case hQ39 => exact fun _ _ _ h => h
                          case hy39 =>
                            refine Or.inl ⟨by rfl, ?_⟩
                            intro wq hq
                            try dsimp only at hq
                            try obtain ⟨hq0, hq1, hq2, hq3, hq4, hq5, hq6⟩ := hq
                            try obtain ⟨hq0, hq1, hq2, hq3, hq4, hq5⟩ := hq
                            try obtain ⟨hq0, hq1, hq2, hq3, hq4⟩ := hq
                            try obtain ⟨hq0, hq1, hq2, hq3⟩ := hq
                            try obtain ⟨hq0, hq1, hq2⟩ := hq
                            try obtain ⟨hq0, hq1⟩ := hq
                            go_simp
                            try with_reducible rfl
                          try simp only [Act.put, List.setIfInBounds_toArray, List.set_cons_zero, List.set_cons_succ]
                          refine' wpAnyL_take (i := 1) ?hi40 (by kernel_rfl) (by kernel_rfl) (by kernel_rfl) (by kernel_rfl) ?hQ40 ?hy40 hS ?rest40
                          case hi40 => simp only [List.getElem?_toArray, List.getElem?_cons_succ, List.getElem?_cons_zero]; rfl
                          case hQ40 => exact fun _ _ _ h => h
                          case hy40 =>
                            refine Or.inl ⟨by rfl, ?_⟩
                            intro wq hq
                            try dsimp only at hq
                            try obtain ⟨hq0, hq1, hq2, hq3, hq4, hq5, hq6⟩ := hq
                            try obtain ⟨hq0, hq1, hq2, hq3, hq4, hq5⟩ := hq
                            try obtain ⟨hq0, hq1, hq2, hq3, hq4⟩ := hq
                            try obtain ⟨hq0, hq1, hq2, hq3⟩ := hq
                            try obtain ⟨hq0, hq1, hq2⟩ := hq
                            try obtain ⟨hq0, hq1⟩ := hq
                            go_simp
                            try with_reducible rfl
                          try simp only [Act.put, List.setIfInBounds_toArray, List.set_cons_zero, List.set_cons_succ]
                          refine' wpAnyL_take (i := 2) ?hi41 (by kernel_rfl) (by kernel_rfl) (by kernel_rfl) (by kernel_rfl) ?hQ41 ?hy41 hS ?rest41
                          case hi41 => simp only [List.getElem?_toArray, List.getElem?_cons_succ, List.getElem?_cons_zero]; rfl
                          case hQ41 => exact fun _ _ _ h => h
                          case hy41 =>
                            refine Or.inl ⟨by rfl, ?_⟩
                            intro wq hq
                            try dsimp only at hq
                            try obtain ⟨hq0, hq1, hq2, hq3, hq4, hq5, hq6⟩ := hq
                            try obtain ⟨hq0, hq1, hq2, hq3, hq4, hq5⟩ := hq
                            try obtain ⟨hq0, hq1, hq2, hq3, hq4⟩ := hq
                            try obtain ⟨hq0, hq1, hq2, hq3⟩ := hq
                            try obtain ⟨hq0, hq1, hq2⟩ := hq
                            try obtain ⟨hq0, hq1⟩ := hq
                            go_simp
                            try with_reducible rfl
                          try simp only [Act.put, List.setIfInBounds_toArray, List.set_cons_zero, List.set_cons_succ]
                          refine' wpAnyL_take (i := 3) ?hi42 (by kernel_rfl) (by kernel_rfl) (by kernel_rfl) (by kernel_rfl) ?hQ42 ?hy42 hS ?rest42
                          case hi42 => simp only [List.getElem?_toArray, List.getElem?_cons_succ, List.getElem?_cons_zero]; rfl
                          case hQ42 => exact fun _ _ _ h => h
                          case hy42 =>
                            refine Or.inl ⟨by rfl, ?_⟩
                            intro wq hq
                            try dsimp only at hq
                            try obtain ⟨hq0, hq1, hq2, hq3, hq4, hq5, hq6⟩ := hq
                            try obtain ⟨hq0, hq1, hq2, hq3, hq4, hq5⟩ := hq
                            try obtain ⟨hq0, hq1, hq2, hq3, hq4⟩ := hq
                            try obtain ⟨hq0, hq1, hq2, hq3⟩ := hq
                            try obtain ⟨hq0, hq1, hq2⟩ := hq
                            try obtain ⟨hq0, hq1⟩ := hq
                            go_simp
                            try with_reducible rfl
                          try simp only [Act.put, List.setIfInBounds_toArray, List.set_cons_zero, List.set_cons_succ]
                          refine' wpAnyL_take (i := 4) ?hi43 (by kernel_rfl) (by kernel_rfl) (by kernel_rfl) (by kernel_rfl) ?hQ43 ?hy43 hS ?rest43
                          case hi43 => simp only [List.getElem?_toArray, List.getElem?_cons_succ, List.getElem?_cons_zero]; rfl
                          case hQ43 => exact fun _ _ _ h => h
                          case hy43 =>
                            refine Or.inl ⟨by rfl, ?_⟩
                            intro wq hq
                            try dsimp only at hq
                            try obtain ⟨hq0, hq1, hq2, hq3, hq4, hq5, hq6⟩ := hq
                            try obtain ⟨hq0, hq1, hq2, hq3, hq4, hq5⟩ := hq
                            try obtain ⟨hq0, hq1, hq2, hq3, hq4⟩ := hq
                            try obtain ⟨hq0, hq1, hq2, hq3⟩ := hq
                            try obtain ⟨hq0, hq1, hq2⟩ := hq
                            try obtain ⟨hq0, hq1⟩ := hq
                            go_simp
                            try with_reducible rfl
                          try simp only [Act.put, List.setIfInBounds_toArray, List.set_cons_zero, List.set_cons_succ]
                          refine' wpAnyL_take (i := 5) ?hi44 (by kernel_rfl) (by kernel_rfl) (by kernel_rfl) (by kernel_rfl) ?hQ44 ?hy44 hS ?rest44
                          case hi44 => simp only [List.getElem?_toArray, List.getElem?_cons_succ, List.getElem?_cons_zero]; rfl
                          case hQ44 => exact fun _ _ _ h => h
                          case hy44 =>
                            refine Or.inl ⟨by rfl, ?_⟩
                            intro wq hq
                            try dsimp only at hq
                            try obtain ⟨hq0, hq1, hq2, hq3, hq4, hq5, hq6⟩ := hq
                            try obtain ⟨hq0, hq1, hq2, hq3, hq4, hq5⟩ := hq
                            try obtain ⟨hq0, hq1, hq2, hq3, hq4⟩ := hq
                            try obtain ⟨hq0, hq1, hq2, hq3⟩ := hq
                            try obtain ⟨hq0, hq1, hq2⟩ := hq
                            try obtain ⟨hq0, hq1⟩ := hq
                            go_simp
                            try with_reducible rfl
                          try simp only [Act.put, List.setIfInBounds_toArray, List.set_cons_zero, List.set_cons_succ]
                          refine wpAnyL_ready (rs := [6]) (by kernel_rfl) (by simp) ?_
                          refine' ReadyL.cons ?ho45 (fun K hK => ?step45) ?more45
                          case ho45 => simp only [List.getElem?_toArray, List.getElem?_cons_succ, List.getElem?_cons_zero]; rfl
                          case step45 =>
                            go_simp
                            have hba : Below wq.heap.size wq (wq.drew.alloc (.cells #[.int .u8 b.toNat, .int .i64 o] 65)) := Below.trans (Below.drew (Below.refl wq.heap.size wq)) ((Below.refl _ wq.drew).alloc (Nat.le_refl _) _)
                            have HSa := Lib.hid (HMQ.out.next hba)
                            refine hK.out _ _ (.inr ⟨HSa.out.att.at_ 1, (hba.cell (by omega)).trans q0, (hba.cell (p := ⟨(ad.add (i * 2)).block, (ad.add (i * 2)).off + 1, none⟩) (by show (ad.add (i * 2)).block < _; omega)).trans q1⟩) ?_
                            clear hK K hS
                            try simp only [Act.put, List.setIfInBounds_toArray, List.set_cons_zero, List.set_cons_succ]
                            refine wpAnyL_ready (rs := [7]) (by kernel_rfl) (by simp) ?_
                            refine' ReadyL.cons ?ho46 (fun K hK => ?step46) ?more46
                            case ho46 => simp only [List.getElem?_toArray, List.getElem?_cons_succ, List.getElem?_cons_zero]; rfl
                            case step46 =>
                              refine step_append_src _ (by rfl) (.tmp 175) (.tmp 180) 31 (by rfl) (g7 + 1) 65 i0 _ 2 16 Tryz.underlying31 hi hz0 hz1 hz2 rfl (by omega) (.slice y.A y.n y.c) y.n _ (by rfl) HSa.out.yo.2.2 _ (some ⟨wq.heap.size, 0, none⟩) 1 1 [.int .u8 b.toNat, .int .i64 o] (by rfl) (by simp) (by rfl) (lies_wholeR (Whole.made wq.drew _ _) rfl) (by simp [Value.oneCell']) (by simp only [maxLen]; omega) (by omega) (by simp; omega) ?_
                              intro v2 w2 hown2 hgr2 hbl2
                              obtain ⟨A2, c2, rfl, _, _, _⟩ := own_form hown2
                              have HM2 := Lib.hid (HMQ.out.addY (c := (b, o)) hba (by omega) hgr2 hown2 hbl2)
                              have hlo : ∀ k, (Value.slice y.A y.n y.c).ownBlock = some k → g7 + 1 ≤ k := fun k hk => (HMQ.out.yo.lt hk).1
                              have hW2 := HSa.out.att.grown hgr2 (fun e => by have := hlo _ e.symm; omega)
                              have hb2 : Below w.heap.size wq w2 := (hba.mono hwq).grown hgr2 (by have := hba.size; omega) (fun k hk => by have := hlo k hk; omega)
                              have j1 : w2.cell? ⟨g7, 1, none⟩ = some (.slice y.A y.n y.c) := hW2.at_ 1
                              have jf1 := hW2.free 1
                              refine hK.out _ _ (.inr ⟨j1, (hb2.cell hbA).trans q0, (hb2.cell (p := ⟨(ad.add (i * 2)).block, (ad.add (i * 2)).off + 1, none⟩) hbA).trans q1⟩) ?_
                              clear hK K hown2 hgr2 hbl2 hb2 hW2 hlo hba
                              try simp only [Act.put, List.setIfInBounds_toArray, List.set_cons_zero, List.set_cons_succ]
                              refine wpAnyL_ready (rs := [8]) (by kernel_rfl) (by simp) ?_
                              refine' ReadyL.cons ?ho47 (fun K hK => ?step47) ?more47
                              case ho47 => simp only [List.getElem?_toArray, List.getElem?_cons_succ, List.getElem?_cons_zero]; rfl
                              case step47 =>
                                go_simp
                                refine hK.out _ _ (.inl (by decide)) ?_
                                clear hK K
                                try simp only [Act.put, List.setIfInBounds_toArray, List.set_cons_zero, List.set_cons_succ]
                                refine wpAnyL_ready (rs := [9]) (by kernel_rfl) (by simp) ?_
                                refine' ReadyL.cons ?ho48 (fun K hK => ?step48) ?more48
                                case ho48 => simp only [List.getElem?_toArray, List.getElem?_cons_succ, List.getElem?_cons_zero]; rfl
                                case step48 =>
                                  go_simp
                                  refine hK.out _ _ (.inl (by decide)) ?_
                                  clear hK K
                                  try simp only [Act.put, List.setIfInBounds_toArray, List.set_cons_zero, List.set_cons_succ]
                                  refine wpAnyL_done (by kernel_rfl) ?_ _
                                  go_wp2_with fail
                                  go_roundw
                                  case rel => exact ⟨i + 1, steps + 1, ⟨n1, s.nm, s.vl ++ [(b, o)], s.al⟩, x, ⟨A2, y.n + 1, c2, y.ch ++ [(b, o)]⟩, rs, _, by go_num, rfl, by go_num, HIR.out.go HIN.out HRI.out HST2.out HNN.out hn99 (stepT_value hn1) rfl HIR.out.xc (by show y.ch ++ _ = s.vl ++ _; rw [HIR.out.yc]) HIR.out.rc HM2.out⟩
                                  case measure => simp [intOf]; omega
                                exact ReadyL.nil
                              exact ReadyL.nil
                            exact ReadyL.nil
                          exact ReadyL.nil
                        · obtain ⟨rfl, rfl, rfl⟩ : n1 = n1' ∧ ad1 = false ∧ ag = g' := by simpa using hN
                          have q99 : ((n1 : Int) == 99) = false := by rw [beq_eq_false_iff_ne]; omega
                          clear HCS HTnone HTsome HDN hN
                          by_cases hn1 : n1 = 1
                          · have hsi : ((s.st : Int) == 0) = false := by rw [beq_eq_false_iff_ne]; intro e; exact hnr ⟨hn1, by omega⟩
                            have qn1 : ((n1 : Int) == 1) = true := by rw [hn1]; rfl
                            clear hn1
                            cases ag
                            · go_wp2_with fail
                              go_roundw
                              case rel => exact ⟨i + 1, steps + 1, ⟨n1, s.nm, s.vl, s.al⟩, x, y, rs, _, by go_num, rfl, by go_num, HIR.out.go HIN.out HRI.out HST2.out HNN.out hn99 (stepT_none hnr) rfl HIR.out.xc HIR.out.yc HIR.out.rc HIR.out.mem.drew⟩
                              case measure => simp [intOf]; omega
                            · go_wp2_with fail
                              go_roundw
                              case rel => exact ⟨i, steps + 1, ⟨n1, s.nm, s.vl, s.al⟩, x, y, rs, _, rfl, rfl, by go_num, HIR.out.go HIN.out HRI.out HST2.out HNN.out hn99 (stepT_none hnr) rfl HIR.out.xc HIR.out.yc HIR.out.rc HIR.out.mem.drew⟩
                              case measure => simp [intOf]; omega
                          · have qn1 : ((n1 : Int) == 1) = false := by rw [beq_eq_false_iff_ne]; omega
                            clear hn1
                            cases ag
                            · go_wp2_with fail
                              go_roundw
                              case rel => exact ⟨i + 1, steps + 1, ⟨n1, s.nm, s.vl, s.al⟩, x, y, rs, _, by go_num, rfl, by go_num, HIR.out.go HIN.out HRI.out HST2.out HNN.out hn99 (stepT_none hnr) rfl HIR.out.xc HIR.out.yc HIR.out.rc HIR.out.mem.drew⟩
                              case measure => simp [intOf]; omega
                            · go_wp2_with fail
                              go_roundw
                              case rel => exact ⟨i, steps + 1, ⟨n1, s.nm, s.vl, s.al⟩, x, y, rs, _, rfl, rfl, by go_num, HIR.out.go HIN.out HRI.out HST2.out HNN.out hn99 (stepT_none hnr) rfl HIR.out.xc HIR.out.yc HIR.out.rc HIR.out.mem.drew⟩
                              case measure => simp [intOf]; omega
                      exact ReadyL.nil
                    exact ReadyL.nil
                  · have hk2 : ¬ (steps : Int) < 4 * (n : Int) + 9 := by omega
                    have HT := Lib.hid (HTnone.out (by rw [hI.run, show 4 * L.length + 9 - steps = 0 by have := HN.out; omega]; rfl))
                    have HBx := Lib.hid hI.mem.below
                    clear hI
                    go_wp2_with fail
                    refine bodyPost_ret (v := .tuple #[.agg #[.int .i64 0, .slice none 0 0, .slice none 0 0, .bool false, .slice none 0 0], .int .i64 0]) ?_ rfl ?_
                    · simp [results, Tryz.results15, go_sem, k0, k1, k2, k3, k4]
                    · exact tellsRT_zero HT.out (set5_below HBx.out _ _ _ _ _)
                · have hk1 : ¬ (i : Int) < (n : Int) := by omega
                  have HT := Lib.hid (HTnone.out (by rw [hI.run]; exact runT_out (List.getElem?_eq_none (by rw [HN.out]; omega))))
                  have HBx := Lib.hid hI.mem.below
                  clear hI
                  go_wp2_with fail
                  refine bodyPost_ret (v := .tuple #[.agg #[.int .i64 0, .slice none 0 0, .slice none 0 0, .bool false, .slice none 0 0], .int .i64 0]) ?_ rfl ?_
                  · simp [results, Tryz.results15, go_sem, k0, k1, k2, k3, k4]
                  · exact tellsRT_zero HT.out (set5_below HBx.out _ _ _ _ _)
    · have HT := Lib.hid (tagP_first HR0.out h60)
      have n60 : ((b0.toNat : Int) == 60) = false := by
        have e60 : ((b0.toNat : Int) == 60) = (b0 == 60) := byte_beq b0 60
        rw [e60]; exact beq_eq_false_iff_ne.2 h60
      have m60 : ((b0.toNat : Int) != 60) = true := byte_bne (k := 60) h60
      simp only [Nat.zero_mul] at hc0
      rw [show ad.add 0 = ad by unfold Addr.add; rfl] at hc0
      have hp2 : ¬ (n : Int) ≤ 1 := by omega
      clear hl hn hin HR0 HR1 hc1 h60
      go_enter Tryz.func15, Tryz.ntmps15
      go_upto_if 29 with fail
      generalize hw0 : (w.alloc (.cells #[.int .i64 0, .slice none 0 0, .slice none 0 0, .bool false, .slice none 0 0] 39)).alloc (.cells #[.int .i64 1, .slice none 0 0, .slice none 0 0, .bool false, .slice none 0 0] 39) = w0
      have y0 : Whole w0 w.heap.size 39 #[.int .i64 0, .slice none 0 0, .slice none 0 0, .bool false, .slice none 0 0] := by rw [← hw0]; exact (Whole.made w _ _).alloc _
      have hbx : Below w.heap.size w w0 := by rw [← hw0]; exact ((Below.refl _ _).alloc (Nat.le_refl _) _).alloc (by simp) _
      have c0 : w0.cell? ad = some (.int .u8 b0.toNat) := (hbx.cell hb0).trans hc0
      have k0 := y0.at_ 0
      have k1 := y0.at_ 1
      have k2 := y0.at_ 2
      have k3 := y0.at_ 3
      have k4 := y0.at_ 4
      have kf0 := y0.free 0
      have kf1 := y0.free 1
      have kf2 := y0.free 2
      have kf3 := y0.free 3
      have kf4 := y0.free 4
      clear hw0 hc0
      go_wp2_with fail
      refine bodyPost_ret (v := .tuple #[.agg #[.int .i64 0, .slice none 0 0, .slice none 0 0, .bool false, .slice none 0 0], .int .i64 0]) ?_ rfl ?_
      · simp [results, Tryz.results15, go_sem, k0, k1, k2, k3, k4]
      · exact tellsRT_zero HT.out (set5_below hbx _ _ _ _ _)

end Go.Proofs.YtdiifkmcbnhliaaGreat.mk
