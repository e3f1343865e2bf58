/-
  The walk of the statement SerialTags.
-/
import Derived.Test.YtkfbpigmchedeaaJoinAD
import Derived.Test.YtkfbpigmchedeaaJoinAE
import Derived.RegionTactic
import Derived.Deep.DeepCutAuto
namespace Go.Proofs.Ytkfbpigmchedeaa.mk
open Go.RowKit

/-- what is known while the answers and the variables are made, in whatever order -/
structure Tg (t : TT) (l4 l9 : List (UInt8 × Int)) (wc : World) (L : Nat → Bool) (x3 x4 x8 x9 x10 x11 : Value) (w : World) : Prop where
  bel : Below wc.heap.size wc w
  h0 : L 0 = true → x8 = .agg #[.string t.tag.s, .slice t.tag.A t.tag.n t.tag.c, .slice t.A t.n t.c, .slice t.K t.kn t.kc, .string t.text.s, .slice t.text.A t.text.n t.text.c]
  h1 : L 1 = true → ResO l4 wc.heap.size w x9
  h2 : L 2 = true → x10 = .agg #[.string t.tag.s, .slice t.tag.A t.tag.n t.tag.c, .slice t.A t.n t.c, .slice t.K t.kn t.kc, .string t.text.s, .slice t.text.A t.text.n t.text.c]
  h3 : L 3 = true → ResO l9 wc.heap.size w x11
  h4 : L 4 = true → VarT wc.heap.size w x3 (L 6) x9
  h5 : L 5 = true → VarT wc.heap.size w x4 (L 7) x11
  d4_5 : L 4 = true → L 5 = true → x3 ≠ x4
  o6 : L 6 = true → L 1 = true ∧ L 4 = true
  o7 : L 7 = true → L 3 = true ∧ L 5 = true
  c3_1 : L 3 = true → L 1 = true
theorem Tg.keep {t : TT} {l4 l9 : List (UInt8 × Int)} {wc : World} {L : Nat → Bool} {x3 x4 x8 x9 x10 x11 : Value} {w w' : World} (h : Tg t l4 l9 wc L x3 x4 x8 x9 x10 x11 w) (hb : Below w.heap.size w w') : Tg t l4 l9 wc L x3 x4 x8 x9 x10 x11 w' :=
  ⟨below_next h.bel (Nat.le_refl _) hb, h.h0, (fun e => (h.h1 e).below hb), h.h2, (fun e => (h.h3 e).below hb), (fun e => (h.h4 e).below hb), (fun e => (h.h5 e).below hb), h.d4_5, h.o6, h.o7, h.c3_1⟩

def TgRes (l4 l9 : Ch) (w1 : World) (s3 s4 : Value) (wx : World) : Prop :=
  Below w1.heap.size w1 wx ∧ InVarO l4 w1.heap.size wx s3 ∧ InVarO l9 w1.heap.size wx s4
/-- without kids -/
def TT.bare (t : TT) : TT := ⟨t.tag, t.A, t.n, t.c, t.atts, none, 0, 0, [], t.text⟩
theorem bare_in {w : World} {t : TT} (h : TreeIn w t) : TreeIn w t.bare := by
  refine ⟨⟨h.self.tag, h.self.text, h.self.att, h.self.an, h.self.ac, h.self.am, h.self.atts, LiesS.nil _ _ _, rfl, fun _ => rfl, Nat.zero_le _⟩, AllS.nil _ _, ?_⟩
  have h1 := h.bulk
  rw [PT.bk_eq, TT.ch_tag, TT.ch_attrs, TT.ch_text] at h1
  rw [PT.bk_eq, TT.ch_tag, TT.ch_attrs, TT.ch_kids, TT.ch_text]
  have e : bkL (chL t.bare.kids) = 0 := by show bkL (chL []) = 0; rw [chL, bkL]
  rw [e]
  show t.tag.ch.length + (t.atts.map AT.ch).length + t.text.ch.length + 1 + 0 ≤ _
  omega
theorem bare_sz (t : TT) : t.bare.ch.sz ≤ t.ch.sz := by
  rw [PT.sz_eq, PT.sz_eq t.ch, TT.ch_tag, TT.ch_attrs, TT.ch_kids, TT.ch_text, TT.ch_tag, TT.ch_attrs, TT.ch_kids, TT.ch_text]
  have e : szL (chL t.bare.kids) = 0 := by show szL (chL []) = 0; rw [chL, szL]
  rw [e]
  show t.tag.ch.length + atWs (t.atts.map AT.ch) + t.text.ch.length + 1 + 0 ≤ t.tag.ch.length + atWs (t.atts.map AT.ch) + t.text.ch.length + 1 + szL (chL t.kids)
  omega
theorem ch_empty {t : LT} (h : t.ch = []) : t.s.toList.isEmpty = true := by
  have h1 := LT.ch_length t
  rw [h] at h1
  have h2 : t.s.data.toList.length = t.s.size := by rw [Array.length_toList]; rfl
  rw [ByteArray.toList_eq, List.eq_nil_of_length_eq_zero (by rw [h2, ← h1]; rfl : t.s.data.toList.length = 0)]
  rfl

set_option maxHeartbeats 8000000 in
set_option maxRecDepth 100000 in
theorem serialTags_any (t : TT) (w : World) (h : TreeIn w t) (hsz : t.ch.sz ≤ 1048576) :
    Calls Try.prog 3 #[.agg #[.string t.tag.s, .slice t.tag.A t.tag.n t.tag.c, .slice t.A t.n t.c, .slice t.K t.kn t.kc, .string t.text.s, .slice t.text.A t.text.n t.text.c]] w fun e w' => e = .returned (.bool true) ∧ Below w.heap.size w w' := by
  have HI := Lib.hid h
  have HSZ := Lib.hid hsz
  obtain ⟨l4, E4⟩ : ∃ l4, l4 = startH t.tag.ch (t.atts.map AT.ch) := ⟨_, rfl⟩
  obtain ⟨l9, E9⟩ : ∃ l9, l9 = endH t.tag.ch := ⟨_, rfl⟩
  have HE4 := Lib.hid E4
  have HE9 := Lib.hid E9
  have HWW : Hid (∀ W, Below w.heap.size w W → Calls Try.prog 5 #[.agg #[.string t.tag.s, .slice t.tag.A t.tag.n t.tag.c, .slice t.A t.n t.c, .slice t.K t.kn t.kc, .string t.text.s, .slice t.text.A t.text.n t.text.c]] W (TellsO l4 W)) := fun W hb => by
    rw [E4]; exact start_any t W (h.next hb) hsz
  have HVV : Hid (∀ W, Below w.heap.size w W → Calls Try.prog 6 #[.agg #[.string t.tag.s, .slice t.tag.A t.tag.n t.tag.c, .slice t.A t.n t.c, .slice t.K t.kn t.kc, .string t.text.s, .slice t.text.A t.text.n t.text.c]] W (TellsO l9 W)) := fun W hb => by
    rw [E9]; exact end_any t W (h.next hb)
  have HN4 : Hid (l4.length ≤ 8388608) := by
    show _ ≤ _
    have h1 := startH_len t.tag.ch (t.atts.map AT.ch)
    have h2 := t.ch.sz_eq
    rw [TT.ch_attrs, TT.ch_tag] at h2
    rw [E4]
    omega
  have HN9 : Hid (l9.length ≤ 8388608) := by
    show _ ≤ _
    have h1 := endH_len t.tag.ch
    have h2 := t.ch.sz_eq
    rw [TT.ch_attrs, TT.ch_tag] at h2
    rw [E9]
    omega
  clear h hsz E4 E9
  go_enter Try.func3, Try.ntmps3
  go_wp2_with fail
  refine (alive12_any _).mono ?_
  rintro e w1 ⟨rfl, hb1⟩
  simp only [World.size_alloc] at hb1
  have hz1 : w.heap.size + 1 ≤ w1.heap.size := by have h := hb1.size; simpa using h
  have y0 : Whole w1 w.heap.size 28 #[.string t.tag.s, .slice t.tag.A t.tag.n t.tag.c, .slice t.A t.n t.c, .slice t.K t.kn t.kc, .string t.text.s, .slice t.text.A t.text.n t.text.c] := (Whole.made w _ _).below hb1 (Nat.lt_succ_self _)
  have hbw : Below w.heap.size w w1 := below_made hb1
  have HWO : Hid (∀ w', Below w1.heap.size w1 w' → Calls Try.prog 5 #[.agg #[.string t.tag.s, .slice t.tag.A t.tag.n t.tag.c, .slice t.A t.n t.c, .slice t.K t.kn t.kc, .string t.text.s, .slice t.text.A t.text.n t.text.c]] w' fun e w'' => ∃ x, e = .returned x ∧ ResO l4 w1.heap.size w'' x ∧ Below w'.heap.size w' w'') := fun w' hb' =>
    (HWW.out w' (hbw.trans (hb'.mono hbw.size))).mono fun e w'' h => resO_of hb'.size h
  have HVA : Hid (∀ w', Below w1.heap.size w1 w' → Calls Try.prog 6 #[.agg #[.string t.tag.s, .slice t.tag.A t.tag.n t.tag.c, .slice t.A t.n t.c, .slice t.K t.kn t.kc, .string t.text.s, .slice t.text.A t.text.n t.text.c]] w' fun e w'' => ∃ x, e = .returned x ∧ ResO l9 w1.heap.size w'' x ∧ Below w'.heap.size w' w'') := fun w' hb' =>
    (HVV.out w' (hbw.trans (hb'.mono hbw.size))).mono fun e w'' h => resO_of hb'.size h
  clear hb1 HWW HVV
  go_wp2_with fail
  go_upto_region 3 with (fail)
  go_cut [3, 4] (fun s3 s4 wx => TgRes l4 l9 w1 s3 s4 wx)
  case first =>
    refine wp_region_any (by kernel_rfl) ?_
    refine wpAny_inv (fun listed a w' => listed.size = 8 ∧ ∃ x3 x4 x8 x9 x10 x11, a = ⟨#[.agg #[.string t.tag.s, .slice t.tag.A t.tag.n t.tag.c, .slice t.A t.n t.c, .slice t.K t.kn t.kc, .string t.text.s, .slice t.text.A t.text.n t.text.c], .pointer (some ⟨w.heap.size, 0, none⟩), .bool false, x3, x4, undef, .bool true, .bool false, x8, x9, x10, x11, undef, undef, undef, undef, undef, undef, undef, undef, undef, undef, undef, undef, undef, undef, undef, undef, undef, undef, undef, undef, undef, undef, undef, undef, undef, undef, undef, undef, undef, undef, undef, undef], []⟩ ∧ Tg t l4 l9 w1 (fun k => listed.getD k false) x3 x4 x8 x9 x10 x11 w') ?_ ?_ _ _ _ _ (by rfl) (by decide) ⟨rfl, _, _, _, _, _, _, rfl, ?_⟩
    · rintro listed a w' ⟨hsz, x3, x4, x8, x9, x10, x11, rfl, h⟩ hr
      have al := ready_nil (md := .any) hsz (by kernel_rfl) hr
      have al' : ∀ k, k < 8 → listed.getD k false = true := al
      go_wp2_with fail
      go_meet
      exact ⟨h.bel, ⟨_, h.h1 (al' 1 (by decide)), by have h1 := h.h4 (al' 4 (by decide)); rw [al' 6 (by decide)] at h1; exact h1⟩, ⟨_, h.h3 (al' 3 (by decide)), by have h1 := h.h5 (al' 5 (by decide)); rw [al' 7 (by decide)] at h1; exact h1⟩⟩
    · rintro listed a w' i ⟨hsz, x3, x4, x8, x9, x10, x11, rfl, h⟩ hi
      obtain ⟨hi1, hi2, hrd⟩ := ready_mem hi
      have d0 : w'.cell? ⟨w.heap.size, 0, none⟩ = some (.string t.tag.s) := (h.bel.cell y0.lt).trans (y0.at_ 0)
      have d1 : w'.cell? ⟨w.heap.size, 1, none⟩ = some (.slice t.tag.A t.tag.n t.tag.c) := (h.bel.cell y0.lt).trans (y0.at_ 1)
      have d2 : w'.cell? ⟨w.heap.size, 2, none⟩ = some (.slice t.A t.n t.c) := (h.bel.cell y0.lt).trans (y0.at_ 2)
      have d3 : w'.cell? ⟨w.heap.size, 3, none⟩ = some (.slice t.K t.kn t.kc) := (h.bel.cell y0.lt).trans (y0.at_ 3)
      have d4 : w'.cell? ⟨w.heap.size, 4, none⟩ = some (.string t.text.s) := (h.bel.cell y0.lt).trans (y0.at_ 4)
      have d5 : w'.cell? ⟨w.heap.size, 5, none⟩ = some (.slice t.text.A t.text.n t.text.c) := (h.bel.cell y0.lt).trans (y0.at_ 5)
      have hN : i = 0 ∨ i = 1 ∨ i = 2 ∨ i = 3 ∨ i = 4 ∨ i = 5 ∨ i = 6 ∨ i = 7 := by have : i < 8 := hi1; omega
      rcases hN with rfl | rfl | rfl | rfl | rfl | rfl | rfl | rfl
      · have hlt : 0 < listed.size := by rw [hsz]; decide
        have nme := getD2_tf hi2
        clear hrd hi
        refine wpOp_step (i := 0) rfl (fun K' hK => ?_)
        go_simp
        refine hK _ _ ⟨by simpa using hsz, x3, x4, _, x9, x10, x11, rfl, ?_⟩
        rw [getD2_upd hlt]
        exact ⟨h.bel, (fun _ => rfl), h.h1, h.h2, h.h3, h.h4, h.h5, h.d4_5, (fun e => ⟨upd2_of (h.o6 e).1, upd2_of (h.o6 e).2⟩), (fun e => ⟨upd2_of (h.o7 e).1, upd2_of (h.o7 e).2⟩), (fun e => upd2_of (h.c3_1 e))⟩
      · have hlt : 1 < listed.size := by rw [hsz]; decide
        have nme := getD2_tf hi2
        have hd : listed.getD 0 false = true := by simp [Region.binds] at hrd; simp [hrd]
        have e0 := hd
        clear hrd hi
        obtain rfl := h.h0 e0
        have nl : listed.getD 6 false = false := by cases hx : listed.getD 6 false with | false => rfl | true => exact absurd (h.o6 hx).1 (by rw [nme]; decide)
        refine wpOp_step (i := 1) rfl (fun K' hK => ?_)
        go_simp
        refine (HWO.out _ h.bel).mono ?_
        rintro e w' ⟨x, rfl, hr, hb⟩
        refine hK _ _ ⟨by simpa using hsz, x3, x4, _, _, x10, x11, rfl, ?_⟩
        rw [getD2_upd hlt]
        have h' := h.keep hb
        exact ⟨h'.bel, h'.h0, (fun _ => hr), h'.h2, h'.h3, (fun e => by obtain ⟨p, u, v, g1, g2, g3, g4⟩ := h'.h4 e; exact ⟨p, u, v, g1, g2, g3, fun e' => absurd (show listed.getD 6 false = true from e') (by rw [nl]; decide)⟩), h'.h5, h'.d4_5, (fun e => ⟨upd2_of (h.o6 e).1, upd2_of (h.o6 e).2⟩), (fun e => ⟨upd2_of (h.o7 e).1, upd2_of (h.o7 e).2⟩), (fun e => upd2_of (h.c3_1 e))⟩
      · have hlt : 2 < listed.size := by rw [hsz]; decide
        have nme := getD2_tf hi2
        clear hrd hi
        refine wpOp_step (i := 2) rfl (fun K' hK => ?_)
        go_simp
        refine hK _ _ ⟨by simpa using hsz, x3, x4, x8, x9, _, x11, rfl, ?_⟩
        rw [getD2_upd hlt]
        exact ⟨h.bel, h.h0, h.h1, (fun _ => rfl), h.h3, h.h4, h.h5, h.d4_5, (fun e => ⟨upd2_of (h.o6 e).1, upd2_of (h.o6 e).2⟩), (fun e => ⟨upd2_of (h.o7 e).1, upd2_of (h.o7 e).2⟩), (fun e => upd2_of (h.c3_1 e))⟩
      · have hlt : 3 < listed.size := by rw [hsz]; decide
        have nme := getD2_tf hi2
        have hd : listed.getD 2 false = true ∧ listed.getD 1 false = true := by simp [Region.binds] at hrd; simp [hrd]
        obtain ⟨e2, e1⟩ := hd
        clear hrd hi
        obtain rfl := h.h2 e2
        have nl : listed.getD 7 false = false := by cases hx : listed.getD 7 false with | false => rfl | true => exact absurd (h.o7 hx).1 (by rw [nme]; decide)
        refine wpOp_step (i := 3) rfl (fun K' hK => ?_)
        go_simp
        refine (HVA.out _ h.bel).mono ?_
        rintro e w' ⟨x, rfl, hr, hb⟩
        refine hK _ _ ⟨by simpa using hsz, x3, x4, x8, x9, _, _, rfl, ?_⟩
        rw [getD2_upd hlt]
        have h' := h.keep hb
        exact ⟨h'.bel, h'.h0, h'.h1, h'.h2, (fun _ => hr), h'.h4, (fun e => by obtain ⟨p, u, v, g1, g2, g3, g4⟩ := h'.h5 e; exact ⟨p, u, v, g1, g2, g3, fun e' => absurd (show listed.getD 7 false = true from e') (by rw [nl]; decide)⟩), h'.d4_5, (fun e => ⟨upd2_of (h.o6 e).1, upd2_of (h.o6 e).2⟩), (fun e => ⟨upd2_of (h.o7 e).1, upd2_of (h.o7 e).2⟩), (fun _ => upd2_of e1)⟩
      · have hlt : 4 < listed.size := by rw [hsz]; decide
        have nme := getD2_tf hi2
        clear hrd hi
        have nl : listed.getD 6 false = false := by cases hx : listed.getD 6 false with | false => rfl | true => exact absurd (h.o6 hx).2 (by rw [nme]; decide)
        refine wpOp_step (i := 4) rfl (fun K' hK => ?_)
        go_simp
        refine hK _ _ ⟨by simpa using hsz, _, x4, x8, x9, x10, x11, rfl, ?_⟩
        rw [getD2_upd hlt]
        have h' := h.keep ((Below.refl _ _).alloc (Nat.le_refl _) (.cells #[.string ⟨#[]⟩, .slice none 0 0] 24))
        exact ⟨h'.bel, h'.h0, h'.h1, h'.h2, h'.h3, (fun _ => ⟨_, _, _, rfl, h.bel.size, Whole.made _ _ _, fun e' => absurd (show listed.getD 6 false = true from e') (by rw [nl]; decide)⟩), h'.h5, (fun _ e => (h.h5 e).old.symm), (fun e => ⟨upd2_of (h.o6 e).1, upd2_of (h.o6 e).2⟩), (fun e => ⟨upd2_of (h.o7 e).1, upd2_of (h.o7 e).2⟩), (fun e => upd2_of (h.c3_1 e))⟩
      · have hlt : 5 < listed.size := by rw [hsz]; decide
        have nme := getD2_tf hi2
        clear hrd hi
        have nl : listed.getD 7 false = false := by cases hx : listed.getD 7 false with | false => rfl | true => exact absurd (h.o7 hx).2 (by rw [nme]; decide)
        refine wpOp_step (i := 5) rfl (fun K' hK => ?_)
        go_simp
        refine hK _ _ ⟨by simpa using hsz, x3, _, x8, x9, x10, x11, rfl, ?_⟩
        rw [getD2_upd hlt]
        have h' := h.keep ((Below.refl _ _).alloc (Nat.le_refl _) (.cells #[.string ⟨#[]⟩, .slice none 0 0] 24))
        exact ⟨h'.bel, h'.h0, h'.h1, h'.h2, h'.h3, h'.h4, (fun _ => ⟨_, _, _, rfl, h.bel.size, Whole.made _ _ _, fun e' => absurd (show listed.getD 7 false = true from e') (by rw [nl]; decide)⟩), (fun e _ => (h.h4 e).old), (fun e => ⟨upd2_of (h.o6 e).1, upd2_of (h.o6 e).2⟩), (fun e => ⟨upd2_of (h.o7 e).1, upd2_of (h.o7 e).2⟩), (fun e => upd2_of (h.c3_1 e))⟩
      · have hlt : 6 < listed.size := by rw [hsz]; decide
        have nme := getD2_tf hi2
        have hd : listed.getD 4 false = true ∧ listed.getD 1 false = true ∧ listed.getD 3 false = true := by simp [Region.binds] at hrd; simp [hrd]
        obtain ⟨e4, e1, e3⟩ := hd
        clear hrd hi
        obtain ⟨p, u, v, hx, hp1, hp2, _⟩ := h.h4 e4
        obtain ⟨t', hy', hyo⟩ := h.h1 e1
        subst hx
        subst hy'
        have k0 : w'.cell? ⟨p, 0, none⟩ = some u := hp2.at_ 0
        have k1 : w'.cell? ⟨p, 1, none⟩ = some v := hp2.at_ 1
        have k2 := hp2.free 0
        have k3 := hp2.free 1
        refine wpOp_step (i := 6) rfl (fun K' hK => ?_)
        go_simp
        refine hK _ _ ⟨by simpa using hsz, _, x4, x8, _, x10, x11, rfl, ?_⟩
        rw [getD2_upd hlt]
        exact ⟨(below_put2 h.bel hp1), h.h0, (fun e => (h.h1 e).put hp2), h.h2, (fun e => (h.h3 e).put hp2), (fun _ => ⟨p, _, _, rfl, hp1, (hp2.put 0 _).put 1 _, fun _ => rfl⟩), (fun e => (h.h5 e).put (fun hh => h.d4_5 e4 e hh.symm)), h.d4_5, (fun _ => ⟨upd2_of e1, upd2_of e4⟩), (fun e => ⟨upd2_of (h.o7 e).1, upd2_of (h.o7 e).2⟩), (fun e => upd2_of (h.c3_1 e))⟩
      · have hlt : 7 < listed.size := by rw [hsz]; decide
        have nme := getD2_tf hi2
        have hd : listed.getD 5 false = true ∧ listed.getD 3 false = true := by simp [Region.binds] at hrd; simp [hrd]
        obtain ⟨e5, e3⟩ := hd
        clear hrd hi
        obtain ⟨p, u, v, hx, hp1, hp2, _⟩ := h.h5 e5
        obtain ⟨t', hy', hyo⟩ := h.h3 e3
        subst hx
        subst hy'
        have k0 : w'.cell? ⟨p, 0, none⟩ = some u := hp2.at_ 0
        have k1 : w'.cell? ⟨p, 1, none⟩ = some v := hp2.at_ 1
        have k2 := hp2.free 0
        have k3 := hp2.free 1
        refine wpOp_step (i := 7) rfl (fun K' hK => ?_)
        go_simp
        refine hK _ _ ⟨by simpa using hsz, x3, _, x8, x9, x10, _, rfl, ?_⟩
        rw [getD2_upd hlt]
        exact ⟨(below_put2 h.bel hp1), h.h0, (fun e => (h.h1 e).put hp2), h.h2, (fun e => (h.h3 e).put hp2), (fun e => (h.h4 e).put (fun hh => h.d4_5 e e5 hh)), (fun _ => ⟨p, _, _, rfl, hp1, (hp2.put 0 _).put 1 _, fun _ => rfl⟩), h.d4_5, (fun e => ⟨upd2_of (h.o6 e).1, upd2_of (h.o6 e).2⟩), (fun _ => ⟨upd2_of e3, upd2_of e5⟩), (fun e => upd2_of (h.c3_1 e))⟩
    · exact ⟨Below.drew (Below.refl _ _), (fun e => absurd e (by decide)), (fun e => absurd e (by decide)), (fun e => absurd e (by decide)), (fun e => absurd e (by decide)), (fun e => absurd e (by decide)), (fun e => absurd e (by decide)), (fun e => absurd e (by decide)), (fun e => absurd e (by decide)), (fun e => absurd e (by decide)), (fun e => absurd e (by decide))⟩
  case rest =>
    obtain ⟨hbc, hr1, hr2⟩ := hcut
    obtain ⟨p3, ta, rfl, hp3, hW3, hta⟩ := hr1.get
    obtain ⟨p4, tb, rfl, hp4, hW4, htb⟩ := hr2.get
    clear hr1 hr2
    have HBC : Hid (Below w.heap.size w wc) := hbw.trans (hbc.mono hbw.size)
    have hW0 := y0.below hbc y0.lt
    have W3 := Lib.hid hW3
    have W4 := Lib.hid hW4
    have W0 := Lib.hid hW0
    have d0 : wc.cell? ⟨w.heap.size, 0, none⟩ = some (.string t.tag.s) := hW0.at_ 0
    clear HWO HVA hbc hbw y0
    have hl0 := hW0.lt
    cases hq : elH t with
    | false =>
      have he : t.tag.s.toList.isEmpty = true := by
        unfold elH at hq
        simpa using hq
      have ha : ta.ch = [] := by
        have h1 := startH_of t (t.atts.map AT.ch)
        rw [hq, if_neg (by decide)] at h1
        rw [hta.out.1, HE4.out, h1]
      have hb : tb.ch = [] := by
        have h1 := elH_tag t
        rw [hq] at h1
        have h2 : t.tag.ch = [] := by simpa using h1.symm
        rw [htb.out.1, HE9.out]
        unfold endH
        rw [if_pos (.inl h2)]
      have ea := ch_empty ha
      have eb := ch_empty hb
      have q3 : wc.cell? ⟨p3, 0, none⟩ = some (.string ta.s) := W3.out.at_ 0
      have q4 : wc.cell? ⟨p4, 0, none⟩ = some (.string tb.s) := W4.out.at_ 0
      clear hq hta htb ha hb hW0 hW3 hW4
      go_wp2_with fail
      go_ret
      exact ⟨rfl, HBC.out⟩
    | true =>
      have he : t.tag.s.toList.isEmpty = false := by
        unfold elH at hq
        simpa using hq
      have HEQ : Hid (ta.ch ++ tb.ch = startH t.bare.tag.ch (t.bare.atts.map AT.ch) ++ endH t.bare.tag.ch) := by
        show _ = _
        rw [hta.out.1, htb.out.1, HE4.out, HE9.out]
        rfl
      have HVE : Hid (voidH t.tag.s.data.toList = true → tb.s.toList.isEmpty = true) := fun hv => by
        refine ch_empty ?_
        rw [htb.out.1, HE9.out]
        unfold endH
        rw [if_pos (.inr (by rw [LT.ch_fst]; exact hv))]
      have HBE : Hid (elH t.bare = true) := hq
      have f3 := hW0.free 3
      have d3 : wc.cell? ⟨w.heap.size, 3, none⟩ = some (.slice t.K t.kn t.kc) := hW0.at_ 3
      clear hq hW0 hW3 hW4
      obtain ⟨wd, hwd⟩ : ∃ wd, wc.setCell ⟨w.heap.size, 3, none⟩ (.slice none 0 0) = wd := ⟨_, rfl⟩
      have W0d : Hid (Whole wd w.heap.size 28 #[.string t.tag.s, .slice t.tag.A t.tag.n t.tag.c, .slice t.A t.n t.c, .slice none 0 0, .string t.text.s, .slice t.text.A t.text.n t.text.c]) := by
        show Whole _ _ _ _
        rw [← hwd]
        exact W0.out.put 3 _
      have W3d : Hid (Whole wd p3 24 #[.string ta.s, .slice ta.A ta.n ta.c]) := by
        show Whole _ _ _ _
        rw [← hwd]
        exact W3.out.far _ (by show p3 ≠ w.heap.size; omega) _
      have W4d : Hid (Whole wd p4 24 #[.string tb.s, .slice tb.A tb.n tb.c]) := by
        show Whole _ _ _ _
        rw [← hwd]
        exact W4.out.far _ (by show p4 ≠ w.heap.size; omega) _
      have OAd : Hid (OwnL wd w1.heap.size ta) := by
        show OwnL _ _ _
        rw [← hwd]
        exact ⟨hta.out.2.1, hta.out.2.2.1, hta.out.2.2.2.1, own_far hta.out.2.2.2.2 _ (fun e => by have := (hta.out.2.2.2.2.lt _ e).1; have hx : w1.heap.size ≤ w.heap.size := this; omega) _⟩
      have OBd : Hid (OwnL wd w1.heap.size tb) := by
        show OwnL _ _ _
        rw [← hwd]
        exact ⟨htb.out.2.1, htb.out.2.2.1, htb.out.2.2.2.1, own_far htb.out.2.2.2.2 _ (fun e => by have := (htb.out.2.2.2.2.lt _ e).1; have hx : w1.heap.size ≤ w.heap.size := this; omega) _⟩
      have HBd : Hid (Below w.heap.size w wd) := by
        show Below _ _ _
        rw [← hwd]
        exact HBC.out.setCell (p := ⟨w.heap.size, 3, none⟩) (Nat.le_refl _) _
      have HWD := Lib.hid hwd
      have HNA : Hid (ta.ch.length ≤ 8388608) := by show _ ≤ _; rw [hta.out.1]; exact HN4.out
      have HNB : Hid (tb.ch.length ≤ 8388608) := by show _ ≤ _; rw [htb.out.1]; exact HN9.out
      clear hwd W0 W3 W4 hta htb HE4 HE9
      go_wp2_with fail
      rw [HWD.out]
      have HKS : Hid (∀ w', Below wd.heap.size wd w' → (w'.cell? ⟨p3, 0, none⟩ = some (.string ta.s) ∧ w'.cell? ⟨p3, 1, none⟩ = some (.slice ta.A ta.n ta.c) ∧ w'.cell? ⟨p4, 0, none⟩ = some (.string tb.s) ∧ w'.cell? ⟨p4, 1, none⟩ = some (.slice tb.A tb.n tb.c) ∧ Below wd.heap.size wd w')) := fun w' hb =>
        ⟨(W3d.out.below hb W3d.out.lt).at_ 0, (W3d.out.below hb W3d.out.lt).at_ 1, (W4d.out.below hb W4d.out.lt).at_ 0, (W4d.out.below hb W4d.out.lt).at_ 1, hb⟩
      obtain ⟨k0, k1, k2, k3, _⟩ := HKS.out wd (Below.refl _ _)
      have HOA : Hid (∀ w', Below wd.heap.size wd w' → Calls Try.prog 8 #[.agg #[.string ta.s, .slice ta.A ta.n ta.c]] w' (TellsC ta.ch w')) := fun w' hb => ofC_any ta w' (OAd.out.ok.next hb (Nat.le_refl _))
      have HOB : Hid (∀ w', Below wd.heap.size wd w' → Calls Try.prog 8 #[.agg #[.string tb.s, .slice tb.A tb.n tb.c]] w' (TellsC tb.ch w')) := fun w' hb => ofC_any tb w' (OBd.out.ok.next hb (Nat.le_refl _))
      clear d0 d3 f3 he
      go_region_held3 (fun w' => w'.cell? ⟨p3, 0, none⟩ = some (.string ta.s) ∧ w'.cell? ⟨p3, 1, none⟩ = some (.slice ta.A ta.n ta.c) ∧ w'.cell? ⟨p4, 0, none⟩ = some (.string tb.s) ∧ w'.cell? ⟨p4, 1, none⟩ = some (.slice tb.A tb.n tb.c) ∧ Below wd.heap.size wd w')
        (first
          | exact HKS.out _ (Below.drew (Below.refl _ _))
          | exact HKS.out _ hK)
        (first
          | (go_at_call_of 8 (ta.s); refine (HOA.out _ (Below.drew (Below.refl _ _))).mono ?_; rintro e wa ⟨Aa, na, ca, rfl, hra, hba⟩; have HBa := Lib.hid (below_next (Below.drew (Below.refl wd.heap.size wd)) (Nat.le_refl _) hba); have hK := HBa.out; clear hba)
          | (go_at_call_of 8 (tb.s); refine (HOB.out _ HBa.out).mono ?_; rintro e wb ⟨Ab, nb, cb, rfl, hrb, hbb⟩; have HBb := Lib.hid (below_next HBa.out (Nat.le_refl _) hbb); have HRA := Lib.hid (hra.out.next hbb); have hK := HBb.out; clear hbb)
          | (go_at_call 7; refine (catC_any _ HRA.out hrb.out (by have := HNA.out; omega) (by have := HNB.out; omega)).mono ?_; rintro e we ⟨Ae, ne, ce, rfl, hre, hbe⟩; have HBe := Lib.hid (below_next HBb.out (Nat.le_refl _) hbe); have hK := HBe.out; clear hbe))
      all_goals
        have W0e := Lib.hid (W0d.out.below HBe.out W0d.out.lt)
        have W4e := W4d.out.below HBe.out W4d.out.lt
        have HBF : Hid (Below w.heap.size w we) := below_next HBd.out (Nat.le_refl _) HBe.out
        have e0 : we.cell? ⟨w.heap.size, 0, none⟩ = some (.string t.tag.s) := W0e.out.at_ 0
        have e1 : we.cell? ⟨w.heap.size, 1, none⟩ = some (.slice t.tag.A t.tag.n t.tag.c) := W0e.out.at_ 1
        have e2 : we.cell? ⟨w.heap.size, 2, none⟩ = some (.slice t.A t.n t.c) := W0e.out.at_ 2
        have e3 : we.cell? ⟨w.heap.size, 3, none⟩ = some (.slice none 0 0) := W0e.out.at_ 3
        have e4 : we.cell? ⟨w.heap.size, 4, none⟩ = some (.string t.text.s) := W0e.out.at_ 4
        have e5 : we.cell? ⟨w.heap.size, 5, none⟩ = some (.slice t.text.A t.text.n t.text.c) := W0e.out.at_ 5
        have e6 : we.cell? ⟨p4, 0, none⟩ = some (.string tb.s) := W4e.at_ 0
        clear W4e k0 k1 k2 k3 hK HKS
        obtain ⟨wg, hwg⟩ : ∃ wg, we.alloc (.cells #[.string t.tag.s, .slice t.tag.A t.tag.n t.tag.c, .slice t.A t.n t.c, .slice none 0 0, .string t.text.s, .slice t.text.A t.text.n t.text.c] 28) = wg := ⟨_, rfl⟩
        have hbg : Below we.heap.size we wg := by rw [← hwg]; exact (Below.refl _ _).alloc (Nat.le_refl _) _
        have hyg : Whole wg we.heap.size 28 #[.string t.tag.s, .slice t.tag.A t.tag.n t.tag.c, .slice t.A t.n t.c, .slice none 0 0, .string t.text.s, .slice t.text.A t.text.n t.text.c] := by rw [← hwg]; exact Whole.made _ _ _
        have HBG : Hid (Below w.heap.size w wg) := below_next HBF.out (Nat.le_refl _) hbg
        have HHT : Hid (Calls Try.prog 11 #[.slice (some ⟨we.heap.size, 0, none⟩) 1 1, .bool false] wg (TellsC (ta.ch ++ tb.ch) wg)) := by
          show Calls _ _ _ _ _
          rw [HEQ.out]
          refine lawHtml_one t.bare ⟨we.heap.size, 0, none⟩ 1 wg ?_ (bare_in (HI.out.next HBG.out)) (Nat.le_trans (bare_sz t) HSZ.out) HBE.out rfl
          have h : Whole wg we.heap.size 28 (treeCells [t.bare]).toArray := hyg
          exact lies_whole h
        have HRE := Lib.hid (hre.out.next hbg)
        have HWG := Lib.hid hwg
        have HVO := Lib.hid (law12void_any t.tag.s we)
        clear hwg hbg hyg hre
        go_wp2_with fail
        refine HVO.out.mono ?_
        rintro e w' ⟨rfl, rfl⟩
        have HSAME : Hid (∀ (w' : World) (B : Option Addr) (m d : Nat), RC (ta.ch ++ tb.ch) B m d w' → Below wg.heap.size wg w' → Calls Try.prog 10 #[.slice Ae ne ce, .slice B m d] w' fun e w'' => e = .returned (.bool true) ∧ Below w'.heap.size w' w'') := fun w' B m d h1 h2 => by
          have h3 := HRE.out.next h2
          refine (refSame_any Ae B ne m ce d (ta.ch ++ tb.ch) (ta.ch ++ tb.ch) w' h3.lies h1.lies h3.len h1.len (by rw [← h3.len, List.length_append]; have := HNA.out; have := HNB.out; omega)).mono ?_
          rintro e w'' ⟨rfl, hb⟩
          exact ⟨by rw [decide_eq_true rfl], hb⟩
        cases hv : voidH t.tag.s.data.toList with
        | true =>
          have hem := HVE.out hv
          clear hv
          go_wp2_with fail
          rw [HWG.out]
          refine HHT.out.mono ?_
          rintro e wh ⟨Ah, nh, ch, rfl, hrh, hbh⟩
          have HBH := Lib.hid hbh
          clear e0 e1 e2 e3 e4 e5 e6 hem
          go_wp2_with fail
          refine (HSAME.out wh Ah nh ch hrh.out HBH.out).mono ?_
          rintro e wi ⟨rfl, hbi⟩
          go_wp2_with fail
          go_ret
          exact ⟨rfl, below_next (below_next HBG.out (Nat.le_refl _) HBH.out) (Nat.le_refl _) hbi⟩
        | false =>
          clear hv
          go_wp2_with fail
          rw [HWG.out]
          refine HHT.out.mono ?_
          rintro e wh ⟨Ah, nh, ch, rfl, hrh, hbh⟩
          have HBH := Lib.hid hbh
          clear e0 e1 e2 e3 e4 e5 e6
          go_wp2_with fail
          refine (HSAME.out wh Ah nh ch hrh.out HBH.out).mono ?_
          rintro e wi ⟨rfl, hbi⟩
          go_wp2_with fail
          go_ret
          exact ⟨rfl, below_next (below_next HBG.out (Nat.le_refl _) HBH.out) (Nat.le_refl _) hbi⟩

end Go.Proofs.Ytkfbpigmchedeaa.mk
