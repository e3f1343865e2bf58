/-
  The walk of the statement PercentParts.
-/
import Derived.Test.YtpjbhjebjebbjaaPctAlive
import Derived.Test.YtpjbhjebjebbjaaVars
import Derived.Test.YtpjbhjebjebbjaaMarkWorst
namespace Go.Proofs.Ytpjbhjebjebbjaa.mk
open Go.RowKit

/-- what is known while the answers and the variables are made, in whatever order -/
structure Pp (sa : ByteArray) (Aa : Option Addr) (na ca : Nat) (sb : ByteArray) (Ab : Option Addr) (nb cb : Nat) (l3 l4 l6 : List (UInt8 × Int)) (wc : World) (L : Nat → Bool) (x5 x6 x9 x10 x11 x12 x13 x14 x15 : Value) (w : World) : Prop where
  bel : Below wc.heap.size wc w
  h0 : L 0 = true → x9 = .agg #[.string sa, .slice Aa na ca]
  h1 : L 1 = true → x10 = .agg #[.string sb, .slice Ab nb cb]
  h2 : L 2 = true → L 3 = false → LitT [.string sa, .slice Aa na ca, .string sb, .slice Ab nb cb] 2 wc.heap.size w x11
  h3 : L 3 = true → ResT l3 wc.heap.size w x12
  h4 : L 4 = true → ResT l4 wc.heap.size w x13
  h5 : L 5 = true → x14 = .agg #[.string sa, .slice Aa na ca]
  h6 : L 6 = true → ResT l6 wc.heap.size w x15
  h7 : L 7 = true → VarT wc.heap.size w x5 (L 9) x13
  h8 : L 8 = true → VarT wc.heap.size w x6 (L 10) x15
  d7_8 : L 7 = true → L 8 = true → x5 ≠ x6
  o9 : L 9 = true → L 4 = true ∧ L 7 = true
  o10 : L 10 = true → L 6 = true ∧ L 8 = true
  p9_3 : L 9 = true → L 3 = true
  p10_3 : L 10 = true → L 3 = true
theorem Pp.keep {sa : ByteArray} {Aa : Option Addr} {na ca : Nat} {sb : ByteArray} {Ab : Option Addr} {nb cb : Nat} {l3 l4 l6 : List (UInt8 × Int)} {wc : World} {L : Nat → Bool} {x5 x6 x9 x10 x11 x12 x13 x14 x15 : Value} {w w' : World} (h : Pp sa Aa na ca sb Ab nb cb l3 l4 l6 wc L x5 x6 x9 x10 x11 x12 x13 x14 x15 w) (hb : Below w.heap.size w w') : Pp sa Aa na ca sb Ab nb cb l3 l4 l6 wc L x5 x6 x9 x10 x11 x12 x13 x14 x15 w' :=
  ⟨below_next h.bel (Nat.le_refl _) hb, h.h0, h.h1, (fun e e2 => (h.h2 e e2).below hb), (fun e => (h.h3 e).below hb), (fun e => (h.h4 e).below hb), h.h5, (fun e => (h.h6 e).below hb), (fun e => (h.h7 e).below hb), (fun e => (h.h8 e).below hb), h.d7_8, h.o9, h.o10, h.p9_3, h.p10_3⟩

def PpRes (l4 l6 : List (UInt8 × Int)) (w1 : World) (s5 s6 : Value) (wx : World) : Prop :=
  Below w1.heap.size w1 wx ∧ InVar l4 w1.heap.size wx s5 ∧ InVar l6 w1.heap.size wx s6

set_option maxHeartbeats 2000000 in
set_option maxRecDepth 100000 in
theorem parts5_any (a b : LT) (w : World) (ha : a.ok w w.heap.size) (hb : b.ok w w.heap.size) (hsza : a.s.size ≤ 1048576) (hszb : b.s.size ≤ 1048576) :
    Calls Try.prog 5 #[a.v, b.v] w fun e w' => e = .returned (.bool true) ∧ Below w.heap.size w w' := by
  obtain ⟨sa, Aa, na, ca, ra⟩ := a
  obtain ⟨sb, Ab, nb, cb, rb⟩ := b
  have HA := Lib.hid ha
  have HB := Lib.hid hb
  simp only at hsza hszb
  clear ha hb
  show Calls Try.prog 5 #[.agg #[.string sa, .slice Aa na ca], .agg #[.string sb, .slice Ab nb cb]] w _
  go_enter Try.func5, Try.ntmps5
  go_wp2_with fail
  refine (alive5_any _).mono ?_
  rintro e w1 ⟨rfl, hb1⟩
  simp only [World.size_alloc] at hb1
  have hz1 := hb1.size
  simp only [World.size_alloc] at hz1
  have y0 : Whole w1 w.heap.size 24 #[.string sa, .slice Aa na ca] := ((Whole.made w _ _).alloc _).below hb1 (by omega)
  have y1 : Whole w1 (w.heap.size + 1) 24 #[.string sb, .slice Ab nb cb] := by
    have h := Whole.made (w.alloc (.cells #[.string sa, .slice Aa na ca] 24)) 24 #[.string sb, .slice Ab nb cb]
    simp only [World.size_alloc] at h
    exact h.below hb1 (by omega)
  have hbw : Below w.heap.size w w1 := (((Below.refl _ _).alloc (Nat.le_refl _) _).alloc (by simp) _).trans (hb1.mono (by omega))
  have OA := Lib.hid (HA.out.next hbw (Nat.le_refl _))
  have OB := Lib.hid (HB.out.next hbw (Nat.le_refl _))
  have hA1 : (LT.ch ⟨sa, Aa, na, ca, ra⟩).length = sa.size := LT.ch_length _
  have hB1 : (LT.ch ⟨sb, Ab, nb, cb, rb⟩).length = sb.size := LT.ch_length _
  have iA : InR (LT.ch ⟨sa, Aa, na, ca, ra⟩) := InR.chars _ _
  have iB : InR (LT.ch ⟨sb, Ab, nb, cb, rb⟩) := InR.chars _ _
  have hcat : ∀ (L : Option Addr) (k : Nat) (W : World), Below w1.heap.size w1 W → Lies W W.heap.size L [.string sa, .slice Aa na ca, .string sb, .slice Ab nb cb] → Calls Try.prog 18 #[.slice L 2 k] W (Tells ⟨((LT.ch ⟨sa, Aa, na, ca, ra⟩ ++ LT.ch ⟨sb, Ab, nb, cb, rb⟩).map (·.1)).toArray⟩ (comp ((LT.ch ⟨sa, Aa, na, ca, ra⟩ ++ LT.ch ⟨sb, Ab, nb, cb, rb⟩).map (·.2))) W) := fun L k W hb' hL =>
    cat2_any ⟨sa, Aa, na, ca, ra⟩ ⟨sb, Ab, nb, cb, rb⟩ L k W hL (OA.out.next hb' (Nat.le_refl _)) (OB.out.next hb' (Nat.le_refl _)) (by show sa.size + sb.size ≤ _; omega)
  have hena : ∀ W, Below w1.heap.size w1 W → Calls Try.prog 13 #[.agg #[.string sa, .slice Aa na ca]] W (Tells ⟨((encL (LT.ch ⟨sa, Aa, na, ca, ra⟩)).map (·.1)).toArray⟩ (comp ((encL (LT.ch ⟨sa, Aa, na, ca, ra⟩)).map (·.2))) W) := fun W hb' =>
    encode_any sa Aa na ca ra W (OA.out.1.next hb' (Nat.le_refl _)) OA.out.2.1 (by omega) OA.out.2.2.1
  have henb : ∀ W, Below w1.heap.size w1 W → Calls Try.prog 13 #[.agg #[.string sb, .slice Ab nb cb]] W (Tells ⟨((encL (LT.ch ⟨sb, Ab, nb, cb, rb⟩)).map (·.1)).toArray⟩ (comp ((encL (LT.ch ⟨sb, Ab, nb, cb, rb⟩)).map (·.2))) W) := fun W hb' =>
    encode_any sb Ab nb cb rb W (OB.out.1.next hb' (Nat.le_refl _)) OB.out.2.1 (by omega) OB.out.2.2.1
  have hdea : ∀ W, Below w1.heap.size w1 W → Calls Try.prog 14 #[.agg #[.string sa, .slice Aa na ca]] W (Tells ⟨((dec (LT.ch ⟨sa, Aa, na, ca, ra⟩)).map (·.1)).toArray⟩ (comp ((dec (LT.ch ⟨sa, Aa, na, ca, ra⟩)).map (·.2))) W) := fun W hb' =>
    decode_any sa Aa na ca ra W (OA.out.1.next hb' (Nat.le_refl _)) OA.out.2.1 (by omega) OA.out.2.2.1
  have hwoa : ∀ W, Below w1.heap.size w1 W → Calls Try.prog 19 #[.agg #[.string sa, .slice Aa na ca]] W fun e w' => e = .returned (.int .i64 (worstO ((LT.ch ⟨sa, Aa, na, ca, ra⟩).map (·.2)))) ∧ Below W.heap.size W w' := fun W hb' => by
    have h := worst_any sa Aa na ca ra W (OA.out.1.next hb' (Nat.le_refl _)) OA.out.2.1 (by omega) OA.out.2.2.1
    rw [show origins sa.size ra = (LT.ch ⟨sa, Aa, na, ca, ra⟩).map (·.2) from (LT.ch_snd ⟨sa, Aa, na, ca, ra⟩).symm] at h
    exact h
  generalize LT.ch ⟨sa, Aa, na, ca, ra⟩ = La at *
  generalize LT.ch ⟨sb, Ab, nb, cb, rb⟩ = Lb at *
  have lA := (encL_len La).2
  have lB := (encL_len Lb).2
  have lD := dec_len La
  have HCAT := Lib.hid hcat
  have HENA := Lib.hid hena
  have HENB := Lib.hid henb
  have HDEA := Lib.hid hdea
  have HWOA := Lib.hid hwoa
  have IA := Lib.hid iA
  have IB := Lib.hid iB
  clear hcat hena henb hdea hwoa iA iB
  have HCT : Hid (∀ w', Below w1.heap.size w1 w' → ∀ g, Whole w' g 24 (List.toArray [.string sa, .slice Aa na ca, .string sb, .slice Ab nb cb]) → Calls Try.prog 18 #[.slice (some ⟨g, 0, none⟩) 2 2] w' fun e w'' => ∃ x, e = .returned x ∧ ResT (La ++ Lb) w1.heap.size w'' x ∧ Below w'.heap.size w' w'') := fun w' hb' g hW =>
    (HCAT.out (some ⟨g, 0, none⟩) 2 w' hb' (lies_at2 hW)).mono fun e w'' h => resT_of hb'.size h
  have HEN : Hid (∀ w', Below w1.heap.size w1 w' → ∀ (B : Option Addr) (c : Nat), w'.ownsRow w1.heap.size 43 2 (.slice B (runN (La ++ Lb)) c) (runN (La ++ Lb)) (runCells (comp ((La ++ Lb).map (·.2)))) → Calls Try.prog 13 #[.agg #[.string (txtOf (La ++ Lb)), .slice B (runN (La ++ Lb)) c]] w' fun e w'' => ∃ x, e = .returned x ∧ ResT (encL (La ++ Lb)) w1.heap.size w'' x ∧ Below w'.heap.size w' w'') := fun w' hb' B c ho => by
    have hz : (La ++ Lb).length ≤ 2097152 := by rw [List.length_append]; omega
    have h := encode_any (txtOf (La ++ Lb)) B (runN (La ++ Lb)) c (comp ((La ++ Lb).map (·.2))) w' (Lies.own ho) rfl (by rw [txtOf_size]; omega) (by have := runN_le (La ++ Lb); omega)
    rw [txtOf_chars (IA.out.append IB.out)] at h
    exact h.mono fun e w'' h => resT_of hb'.size h
  have HDE : Hid (∀ w', Below w1.heap.size w1 w' → Calls Try.prog 14 #[.agg #[.string sa, .slice Aa na ca]] w' fun e w'' => ∃ x, e = .returned x ∧ ResT (dec La) w1.heap.size w'' x ∧ Below w'.heap.size w' w'') := fun w' hb' =>
    (HDEA.out w' hb').mono fun e w'' h => resT_of hb'.size h
  obtain ⟨l3, E3⟩ : ∃ l3, l3 = La ++ Lb := ⟨_, rfl⟩
  rw [← E3] at HCT HEN
  obtain ⟨l4, E4⟩ : ∃ l4, l4 = encL l3 := ⟨_, rfl⟩
  rw [← E4] at HEN
  obtain ⟨l6, E6⟩ : ∃ l6, l6 = dec La := ⟨_, rfl⟩
  rw [← E6] at HDE
  have G3 := Lib.hid E3
  have G4 := Lib.hid E4
  have G6 := Lib.hid E6
  clear E3 E4 E6
  go_wp2_with fail
  go_upto_region 4 with (fail)
  go_cut [5, 6] (fun s5 s6 wx => PpRes l4 l6 w1 s5 s6 wx)
  case first =>
    refine wp_region_any (by kernel_rfl) ?_
    refine wpAny_inv (fun listed a w' => listed.size = 11 ∧ ∃ x5 x6 x9 x10 x11 x12 x13 x14 x15, a = ⟨#[.agg #[.string sa, .slice Aa na ca], .agg #[.string sb, .slice Ab nb cb], .pointer (some ⟨w.heap.size, 0, none⟩), .pointer (some ⟨w.heap.size + 1, 0, none⟩), .bool false, x5, x6, .bool true, .bool false, x9, x10, x11, x12, x13, x14, x15, undef, undef, undef, undef, undef, undef, undef, undef, undef, undef, undef, undef, undef, undef, undef, undef, undef, undef, undef, undef, undef, undef, undef, undef], []⟩ ∧ Pp sa Aa na ca sb Ab nb cb l3 l4 l6 w1 (fun k => listed.getD k false) x5 x6 x9 x10 x11 x12 x13 x14 x15 w') ?_ ?_ _ _ _ _ (by rfl) (by decide) ⟨rfl, _, _, _, _, _, _, _, _, _, rfl, ?_⟩
    · rintro listed a w' ⟨hsz, x5, x6, x9, x10, x11, x12, x13, x14, x15, rfl, h⟩ hr
      have al := ready_nil (md := .any) hsz (by kernel_rfl) hr
      have al' : ∀ k, k < 11 → listed.getD k false = true := al
      go_wp2_with fail
      go_meet
      exact ⟨h.bel, ⟨_, h.h4 (al' 4 (by decide)), by have h1 := h.h7 (al' 7 (by decide)); rw [al' 9 (by decide)] at h1; exact h1⟩, ⟨_, h.h6 (al' 6 (by decide)), by have h1 := h.h8 (al' 8 (by decide)); rw [al' 10 (by decide)] at h1; exact h1⟩⟩
    · rintro listed a w' i ⟨hsz, x5, x6, x9, x10, x11, x12, x13, x14, x15, rfl, h⟩ hi
      obtain ⟨hi1, hi2, hrd⟩ := ready_mem hi
      have d0 : w'.cell? ⟨w.heap.size, 0, none⟩ = some (.string sa) := (h.bel.cell y0.lt).trans (y0.at_ 0)
      have d1 : w'.cell? ⟨w.heap.size, 1, none⟩ = some (.slice Aa na ca) := (h.bel.cell y0.lt).trans (y0.at_ 1)
      have d2 : w'.cell? ⟨w.heap.size + 1, 0, none⟩ = some (.string sb) := (h.bel.cell y1.lt).trans (y1.at_ 0)
      have d3 : w'.cell? ⟨w.heap.size + 1, 1, none⟩ = some (.slice Ab nb cb) := (h.bel.cell y1.lt).trans (y1.at_ 1)
      have hN : i = 0 ∨ i = 1 ∨ i = 2 ∨ i = 3 ∨ i = 4 ∨ i = 5 ∨ i = 6 ∨ i = 7 ∨ i = 8 ∨ i = 9 ∨ i = 10 := by have : i < 11 := hi1; omega
      rcases hN with rfl | rfl | rfl | rfl | rfl | rfl | rfl | rfl | rfl | rfl | rfl
      · have hlt : 0 < listed.size := by rw [hsz]; decide
        have nme := getD2_tf hi2
        clear hrd hi
        refine wpOp_step (i := 0) rfl (fun K' hK => ?_)
        go_simp
        refine hK _ _ ⟨by simpa using hsz, x5, x6, _, x10, x11, x12, x13, x14, x15, rfl, ?_⟩
        rw [getD2_upd hlt]
        exact ⟨h.bel, (fun _ => rfl), h.h1, h.h2, h.h3, h.h4, h.h5, h.h6, h.h7, h.h8, h.d7_8, (fun e => ⟨upd2_of (h.o9 e).1, upd2_of (h.o9 e).2⟩), (fun e => ⟨upd2_of (h.o10 e).1, upd2_of (h.o10 e).2⟩), (fun e => upd2_of (h.p9_3 e)), (fun e => upd2_of (h.p10_3 e))⟩
      · have hlt : 1 < listed.size := by rw [hsz]; decide
        have nme := getD2_tf hi2
        clear hrd hi
        refine wpOp_step (i := 1) rfl (fun K' hK => ?_)
        go_simp
        refine hK _ _ ⟨by simpa using hsz, x5, x6, x9, _, x11, x12, x13, x14, x15, rfl, ?_⟩
        rw [getD2_upd hlt]
        exact ⟨h.bel, h.h0, (fun _ => rfl), h.h2, h.h3, h.h4, h.h5, h.h6, h.h7, h.h8, h.d7_8, (fun e => ⟨upd2_of (h.o9 e).1, upd2_of (h.o9 e).2⟩), (fun e => ⟨upd2_of (h.o10 e).1, upd2_of (h.o10 e).2⟩), (fun e => upd2_of (h.p9_3 e)), (fun e => upd2_of (h.p10_3 e))⟩
      · have hlt : 2 < listed.size := by rw [hsz]; decide
        have nme := getD2_tf hi2
        have hd : listed.getD 0 false = true ∧ listed.getD 1 false = true := by simp [Region.binds] at hrd; simp [hrd]
        obtain ⟨e0, e1⟩ := hd
        clear hrd hi
        obtain rfl := h.h0 e0
        obtain rfl := h.h1 e1
        refine wpOp_step (i := 2) rfl (fun K' hK => ?_)
        go_simp
        refine hK _ _ ⟨by simpa using hsz, x5, x6, _, _, _, x12, x13, x14, x15, rfl, ?_⟩
        rw [getD2_upd hlt]
        have h' := h.keep ((Below.refl _ _).alloc (Nat.le_refl _) (.cells (List.toArray [.string sa, .slice Aa na ca, .string sb, .slice Ab nb cb]) 24))
        exact ⟨h'.bel, h'.h0, h'.h1, (fun _ _ => ⟨_, rfl, Whole.made _ _ _, h.bel.size⟩), h'.h3, h'.h4, h'.h5, h'.h6, h'.h7, h'.h8, h'.d7_8, (fun e => ⟨upd2_of (h.o9 e).1, upd2_of (h.o9 e).2⟩), (fun e => ⟨upd2_of (h.o10 e).1, upd2_of (h.o10 e).2⟩), (fun e => upd2_of (h.p9_3 e)), (fun e => upd2_of (h.p10_3 e))⟩
      · have hlt : 3 < listed.size := by rw [hsz]; decide
        have nme := getD2_tf hi2
        have hd : listed.getD 2 false = true := by simp [Region.binds] at hrd; simp [hrd]
        have e2 := hd
        clear hrd hi
        obtain ⟨g2, hg2, hW2, _⟩ := h.h2 e2 nme
        subst hg2
        refine wpOp_step (i := 3) rfl (fun K' hK => ?_)
        go_simp
        refine (HCT.out _ h.bel g2 hW2).mono ?_
        rintro e w' ⟨x, rfl, hr, hb⟩
        refine hK _ _ ⟨by simpa using hsz, x5, x6, x9, x10, _, _, x13, x14, x15, rfl, ?_⟩
        rw [getD2_upd hlt]
        have h' := h.keep hb
        exact ⟨h'.bel, h'.h0, h'.h1, (fun _ e => absurd e (by simp [upd2])), (fun _ => hr), h'.h4, h'.h5, h'.h6, h'.h7, h'.h8, h'.d7_8, (fun e => ⟨upd2_of (h.o9 e).1, upd2_of (h.o9 e).2⟩), (fun e => ⟨upd2_of (h.o10 e).1, upd2_of (h.o10 e).2⟩), (fun e => upd2_of (h.p9_3 e)), (fun e => upd2_of (h.p10_3 e))⟩
      · have hlt : 4 < listed.size := by rw [hsz]; decide
        have nme := getD2_tf hi2
        have hd : listed.getD 3 false = true := by simp [Region.binds] at hrd; simp [hrd]
        have e3 := hd
        clear hrd hi
        obtain ⟨B3, b3, hy3, ho3⟩ := h.h3 e3
        subst hy3
        have nl : listed.getD 9 false = false := by cases hx : listed.getD 9 false with | false => rfl | true => exact absurd (h.o9 hx).1 (by rw [nme]; decide)
        refine wpOp_step (i := 4) rfl (fun K' hK => ?_)
        go_simp
        refine (HEN.out _ h.bel B3 b3 ho3).mono ?_
        rintro e w' ⟨x, rfl, hr, hb⟩
        refine hK _ _ ⟨by simpa using hsz, x5, x6, x9, x10, x11, _, _, x14, x15, rfl, ?_⟩
        rw [getD2_upd hlt]
        have h' := h.keep hb
        exact ⟨h'.bel, h'.h0, h'.h1, h'.h2, h'.h3, (fun _ => hr), h'.h5, h'.h6, (fun e => by obtain ⟨p, u, v, g1, g2, g3, g4⟩ := h'.h7 e; exact ⟨p, u, v, g1, g2, g3, fun e' => absurd (show listed.getD 9 false = true from e') (by rw [nl]; decide)⟩), h'.h8, h'.d7_8, (fun e => ⟨upd2_of (h.o9 e).1, upd2_of (h.o9 e).2⟩), (fun e => ⟨upd2_of (h.o10 e).1, upd2_of (h.o10 e).2⟩), (fun e => upd2_of (h.p9_3 e)), (fun e => upd2_of (h.p10_3 e))⟩
      · have hlt : 5 < listed.size := by rw [hsz]; decide
        have nme := getD2_tf hi2
        clear hrd hi
        refine wpOp_step (i := 5) rfl (fun K' hK => ?_)
        go_simp
        refine hK _ _ ⟨by simpa using hsz, x5, x6, x9, x10, x11, x12, x13, _, x15, rfl, ?_⟩
        rw [getD2_upd hlt]
        exact ⟨h.bel, h.h0, h.h1, h.h2, h.h3, h.h4, (fun _ => rfl), h.h6, h.h7, h.h8, h.d7_8, (fun e => ⟨upd2_of (h.o9 e).1, upd2_of (h.o9 e).2⟩), (fun e => ⟨upd2_of (h.o10 e).1, upd2_of (h.o10 e).2⟩), (fun e => upd2_of (h.p9_3 e)), (fun e => upd2_of (h.p10_3 e))⟩
      · have hlt : 6 < listed.size := by rw [hsz]; decide
        have nme := getD2_tf hi2
        have hd : listed.getD 5 false = true := by simp [Region.binds] at hrd; simp [hrd]
        have e5 := hd
        clear hrd hi
        obtain rfl := h.h5 e5
        have nl : listed.getD 10 false = false := by cases hx : listed.getD 10 false with | false => rfl | true => exact absurd (h.o10 hx).1 (by rw [nme]; decide)
        refine wpOp_step (i := 6) rfl (fun K' hK => ?_)
        go_simp
        refine (HDE.out _ h.bel).mono ?_
        rintro e w' ⟨x, rfl, hr, hb⟩
        refine hK _ _ ⟨by simpa using hsz, x5, x6, x9, x10, x11, x12, x13, _, _, rfl, ?_⟩
        rw [getD2_upd hlt]
        have h' := h.keep hb
        exact ⟨h'.bel, h'.h0, h'.h1, h'.h2, h'.h3, h'.h4, h'.h5, (fun _ => hr), h'.h7, (fun e => by obtain ⟨p, u, v, g1, g2, g3, g4⟩ := h'.h8 e; exact ⟨p, u, v, g1, g2, g3, fun e' => absurd (show listed.getD 10 false = true from e') (by rw [nl]; decide)⟩), h'.d7_8, (fun e => ⟨upd2_of (h.o9 e).1, upd2_of (h.o9 e).2⟩), (fun e => ⟨upd2_of (h.o10 e).1, upd2_of (h.o10 e).2⟩), (fun e => upd2_of (h.p9_3 e)), (fun e => upd2_of (h.p10_3 e))⟩
      · have hlt : 7 < listed.size := by rw [hsz]; decide
        have nme := getD2_tf hi2
        clear hrd hi
        have nl : listed.getD 9 false = false := by cases hx : listed.getD 9 false with | false => rfl | true => exact absurd (h.o9 hx).2 (by rw [nme]; decide)
        refine wpOp_step (i := 7) rfl (fun K' hK => ?_)
        go_simp
        refine hK _ _ ⟨by simpa using hsz, _, x6, x9, x10, x11, x12, x13, x14, x15, rfl, ?_⟩
        rw [getD2_upd hlt]
        have h' := h.keep ((Below.refl _ _).alloc (Nat.le_refl _) (.cells #[.string ⟨#[]⟩, .slice none 0 0] 24))
        exact ⟨h'.bel, h'.h0, h'.h1, h'.h2, h'.h3, h'.h4, h'.h5, h'.h6, (fun _ => ⟨_, _, _, rfl, h.bel.size, Whole.made _ _ _, fun e' => absurd (show listed.getD 9 false = true from e') (by rw [nl]; decide)⟩), h'.h8, (fun _ e => (h.h8 e).old.symm), (fun e => ⟨upd2_of (h.o9 e).1, upd2_of (h.o9 e).2⟩), (fun e => ⟨upd2_of (h.o10 e).1, upd2_of (h.o10 e).2⟩), (fun e => upd2_of (h.p9_3 e)), (fun e => upd2_of (h.p10_3 e))⟩
      · have hlt : 8 < listed.size := by rw [hsz]; decide
        have nme := getD2_tf hi2
        clear hrd hi
        have nl : listed.getD 10 false = false := by cases hx : listed.getD 10 false with | false => rfl | true => exact absurd (h.o10 hx).2 (by rw [nme]; decide)
        refine wpOp_step (i := 8) rfl (fun K' hK => ?_)
        go_simp
        refine hK _ _ ⟨by simpa using hsz, x5, _, x9, x10, x11, x12, x13, x14, x15, rfl, ?_⟩
        rw [getD2_upd hlt]
        have h' := h.keep ((Below.refl _ _).alloc (Nat.le_refl _) (.cells #[.string ⟨#[]⟩, .slice none 0 0] 24))
        exact ⟨h'.bel, h'.h0, h'.h1, h'.h2, h'.h3, h'.h4, h'.h5, h'.h6, h'.h7, (fun _ => ⟨_, _, _, rfl, h.bel.size, Whole.made _ _ _, fun e' => absurd (show listed.getD 10 false = true from e') (by rw [nl]; decide)⟩), (fun e _ => (h.h7 e).old), (fun e => ⟨upd2_of (h.o9 e).1, upd2_of (h.o9 e).2⟩), (fun e => ⟨upd2_of (h.o10 e).1, upd2_of (h.o10 e).2⟩), (fun e => upd2_of (h.p9_3 e)), (fun e => upd2_of (h.p10_3 e))⟩
      · have hlt : 9 < listed.size := by rw [hsz]; decide
        have nme := getD2_tf hi2
        have hd : listed.getD 7 false = true ∧ listed.getD 4 false = true ∧ listed.getD 3 false = true := by simp [Region.binds] at hrd; simp [hrd]
        obtain ⟨e7, e4, e3⟩ := hd
        clear hrd hi
        obtain ⟨p, u, v, hx, hp1, hp2, _⟩ := h.h7 e7
        obtain ⟨A', c', hy', hyo⟩ := h.h4 e4
        subst hx
        subst hy'
        have k0 : w'.cell? ⟨p, 0, none⟩ = some u := hp2.at_ 0
        have k1 : w'.cell? ⟨p, 1, none⟩ = some v := hp2.at_ 1
        have k2 := hp2.free 0
        have k3 := hp2.free 1
        refine wpOp_step (i := 9) rfl (fun K' hK => ?_)
        go_simp
        refine hK _ _ ⟨by simpa using hsz, _, x6, x9, x10, x11, x12, _, x14, x15, rfl, ?_⟩
        rw [getD2_upd hlt]
        exact ⟨(below_put2 h.bel hp1), h.h0, h.h1, (fun _ e => absurd (show listed.getD 3 false = false from e) (by rw [e3]; decide)), (fun e => (h.h3 e).put hp2), (fun e => (h.h4 e).put hp2), h.h5, (fun e => (h.h6 e).put hp2), (fun _ => ⟨p, _, _, rfl, hp1, (hp2.put 0 _).put 1 _, fun _ => rfl⟩), (fun e => (h.h8 e).put (fun hh => h.d7_8 e7 e hh.symm)), h.d7_8, (fun _ => ⟨upd2_of e4, upd2_of e7⟩), (fun e => ⟨upd2_of (h.o10 e).1, upd2_of (h.o10 e).2⟩), (fun _ => upd2_of e3), (fun e => upd2_of (h.p10_3 e))⟩
      · have hlt : 10 < listed.size := by rw [hsz]; decide
        have nme := getD2_tf hi2
        have hd : listed.getD 8 false = true ∧ listed.getD 6 false = true ∧ listed.getD 3 false = true := by simp [Region.binds] at hrd; simp [hrd]
        obtain ⟨e8, e6, e3⟩ := hd
        clear hrd hi
        obtain ⟨p, u, v, hx, hp1, hp2, _⟩ := h.h8 e8
        obtain ⟨A', c', hy', hyo⟩ := h.h6 e6
        subst hx
        subst hy'
        have k0 : w'.cell? ⟨p, 0, none⟩ = some u := hp2.at_ 0
        have k1 : w'.cell? ⟨p, 1, none⟩ = some v := hp2.at_ 1
        have k2 := hp2.free 0
        have k3 := hp2.free 1
        refine wpOp_step (i := 10) rfl (fun K' hK => ?_)
        go_simp
        refine hK _ _ ⟨by simpa using hsz, x5, _, x9, x10, x11, x12, x13, x14, _, rfl, ?_⟩
        rw [getD2_upd hlt]
        exact ⟨(below_put2 h.bel hp1), h.h0, h.h1, (fun _ e => absurd (show listed.getD 3 false = false from e) (by rw [e3]; decide)), (fun e => (h.h3 e).put hp2), (fun e => (h.h4 e).put hp2), h.h5, (fun e => (h.h6 e).put hp2), (fun e => (h.h7 e).put (fun hh => h.d7_8 e e8 hh)), (fun _ => ⟨p, _, _, rfl, hp1, (hp2.put 0 _).put 1 _, fun _ => rfl⟩), h.d7_8, (fun e => ⟨upd2_of (h.o9 e).1, upd2_of (h.o9 e).2⟩), (fun _ => ⟨upd2_of e6, upd2_of e8⟩), (fun e => upd2_of (h.p9_3 e)), (fun _ => upd2_of e3)⟩
    · exact ⟨Below.drew (Below.refl _ _), (fun e => absurd e (by decide)), (fun e => absurd e (by decide)), (fun e => absurd e (by decide)), (fun e => absurd e (by decide)), (fun e => absurd e (by decide)), (fun e => absurd e (by decide)), (fun e => absurd e (by decide)), (fun e => absurd e (by decide)), (fun e => absurd e (by decide)), (fun e => absurd e (by decide)), (fun e => absurd e (by decide)), (fun e => absurd e (by decide)), (fun e => absurd e (by decide)), (fun e => absurd e (by decide))⟩
  case rest =>
    obtain ⟨hbc, hr1, hr2⟩ := hcut
    obtain ⟨p5, A5, c5, rfl, hW5, hL5⟩ := hr1.get
    obtain ⟨p6, A6, c6, rfl, hW6, hL6⟩ := hr2.get
    clear hr1 hr2
    have hbF : Below w.heap.size w wc := hbw.trans (hbc.mono hbw.size)
    have hW0 := y0.below hbc y0.lt
    have hW1 := y1.below hbc y1.lt
    have e45 : l4 = encL La ++ encL Lb := by rw [G4.out, G3.out, encL_append]
    have n4 : l4.length ≤ 6291456 := by rw [e45, List.length_append]; omega
    have n6 : l6.length ≤ 1048576 := by rw [G6.out]; omega
    have i4 : InR l4 := by rw [G4.out, G3.out]; exact (IA.out.append IB.out).enc
    have i6 : InR l6 := by rw [G6.out]; exact InR.dec IA.out
    have r4 := runN_le l4
    have r6 := runN_le l6
    have F1 : Hid (∀ W, Below wc.heap.size wc W → Calls Try.prog 13 #[.agg #[.string sa, .slice Aa na ca]] W (TellsL (encL La) W)) := fun W hb' => (HENA.out W (below_next hbc (Nat.le_refl _) hb')).mono fun e w' h => tellsL_of h
    have F2 : Hid (∀ W, Below wc.heap.size wc W → Calls Try.prog 13 #[.agg #[.string sb, .slice Ab nb cb]] W (TellsL (encL Lb) W)) := fun W hb' => (HENB.out W (below_next hbc (Nat.le_refl _) hb')).mono fun e w' h => tellsL_of h
    have FC : Hid (∀ (W : World) (g : Nat) (D1 D2 : Option Addr) (k1 k2 : Nat), Whole W g 24 (List.toArray [.string (txtOf (encL La)), .slice D1 (runN (encL La)) k1, .string (txtOf (encL Lb)), .slice D2 (runN (encL Lb)) k2]) → Lies W W.heap.size D1 (runCells (comp ((encL La).map (·.2)))) → Lies W W.heap.size D2 (runCells (comp ((encL Lb).map (·.2)))) → Calls Try.prog 18 #[.slice (some ⟨g, 0, none⟩) 2 2] W (TellsL l4 W)) := fun W g D1 D2 k1 k2 hW h1 h2 => by
      have h := cat2_any (toldT (encL La) D1 k1) (toldT (encL Lb) D2 k2) (some ⟨g, 0, none⟩) 2 W (lies_at2 hW) (toldT_ok k1 h1 (by omega)) (toldT_ok k2 h2 (by omega)) (by show (txtOf (encL La)).size + (txtOf (encL Lb)).size ≤ _; rw [txtOf_size, txtOf_size]; omega)
      rw [toldT_ch IA.out.enc, toldT_ch IB.out.enc, ← e45] at h
      exact h.mono fun e w' h => tellsL_of h
    have FS : Hid (∀ (W : World) (D : Option Addr) (k : Nat), Lies W W.heap.size D (runCells (comp (l4.map (·.2)))) → Lies W W.heap.size A5 (runCells (comp (l4.map (·.2)))) → Calls Try.prog 17 #[.agg #[.string (txtOf l4), .slice A5 (runN l4) c5], .agg #[.string (txtOf l4), .slice D (runN l4) k]] W (SaysB (.bool true) W)) := fun W D k h1 h2 => by
      refine (same_any (toldT l4 A5 c5) (toldT l4 D k) W (toldT_ok c5 h2 (by omega)) (toldT_ok k h1 (by omega))).mono ?_
      rintro e w' ⟨rfl, hb'⟩
      refine ⟨ret_bool ?_, hb'⟩
      unfold sameB
      rw [decide_eq_true_iff]
      exact ⟨rfl, rfl⟩
    obtain ⟨wv, hwv⟩ : ∃ wv, wv = worstO (La.map (·.2)) := ⟨_, rfl⟩
    have FA : Hid (∀ W, Below wc.heap.size wc W → Calls Try.prog 19 #[.agg #[.string sa, .slice Aa na ca]] W (SaysB (.int .i64 wv) W)) := fun W hb' => by
      have h := HWOA.out W (below_next hbc (Nat.le_refl _) hb')
      rw [← hwv] at h
      exact h
    have FD : Hid (∀ W, Below wc.heap.size wc W → Calls Try.prog 19 #[.agg #[.string (txtOf l6), .slice A6 (runN l6) c6]] W (SaysB (.int .i64 wv) W)) := fun W hb' => by
      have h := worst_any (txtOf l6) A6 (runN l6) c6 (comp (l6.map (·.2))) W (hL6.next hb' (Nat.le_refl _)) rfl (by rw [txtOf_size]; omega) (by omega)
      have h3 := origins_told i6
      rw [List.length_map] at h3
      have hw : worstO (l6.map (·.2)) = wv := by rw [G6.out, dec_worst, ← hwv]
      rw [txtOf_size, h3, hw] at h
      exact h
    have hle : ((txtOf l6).size : Int) ≤ (sa.size : Int) := by rw [txtOf_size, G6.out]; omega
    have M5 := Lib.hid hL5
    have KS : ∀ w', Below wc.heap.size wc w' → (w'.cell? ⟨p5, 0, none⟩ = some (.string (txtOf l4)) ∧ w'.cell? ⟨p5, 1, none⟩ = some (.slice A5 (runN l4) c5) ∧ w'.cell? ⟨p6, 0, none⟩ = some (.string (txtOf l6)) ∧ w'.cell? ⟨p6, 1, none⟩ = some (.slice A6 (runN l6) c6) ∧ w'.cell? ⟨w.heap.size, 0, none⟩ = some (.string sa) ∧ w'.cell? ⟨w.heap.size, 1, none⟩ = some (.slice Aa na ca) ∧ w'.cell? ⟨w.heap.size + 1, 0, none⟩ = some (.string sb) ∧ w'.cell? ⟨w.heap.size + 1, 1, none⟩ = some (.slice Ab nb cb) ∧ Below wc.heap.size wc w') := fun w' h =>
      ⟨(h.cell hW5.lt).trans (hW5.at_ 0), (h.cell hW5.lt).trans (hW5.at_ 1), (h.cell hW6.lt).trans (hW6.at_ 0), (h.cell hW6.lt).trans (hW6.at_ 1), (h.cell hW0.lt).trans (hW0.at_ 0), (h.cell hW0.lt).trans (hW0.at_ 1), (h.cell hW1.lt).trans (hW1.at_ 0), (h.cell hW1.lt).trans (hW1.at_ 1), h⟩
    have HKS := Lib.hid KS
    have HBF := Lib.hid hbF
    clear KS hbF hL5 hL6 hbw hbc e45 n4 n6 i4 i6 r4 r6 hwv
    obtain ⟨q1, q2, q3, q4, q5, q6, q7, q8, _⟩ := HKS.out _ (Below.refl _ _)
    go_wp2_with fail
    go_region_held3 (fun w' => w'.cell? ⟨p5, 0, none⟩ = some (.string (txtOf l4)) ∧ w'.cell? ⟨p5, 1, none⟩ = some (.slice A5 (runN l4) c5) ∧ w'.cell? ⟨p6, 0, none⟩ = some (.string (txtOf l6)) ∧ w'.cell? ⟨p6, 1, none⟩ = some (.slice A6 (runN l6) c6) ∧ w'.cell? ⟨w.heap.size, 0, none⟩ = some (.string sa) ∧ w'.cell? ⟨w.heap.size, 1, none⟩ = some (.slice Aa na ca) ∧ w'.cell? ⟨w.heap.size + 1, 0, none⟩ = some (.string sb) ∧ w'.cell? ⟨w.heap.size + 1, 1, none⟩ = some (.slice Ab nb cb) ∧ Below wc.heap.size wc w')
      (first
        | exact HKS.out _ (Below.drew (Below.refl _ _))
        | exact HKS.out _ hK
        | (go_split_ands; exact HKS.out _ (by assumption))
        | (go_split_ands; exact HKS.out _ (Below.alloc (by assumption) (Below.size (by assumption)) _)))
      (first
        | (go_at_call_of 13 (Aa); refine (F1.out _ ?_).mono ?_; (go_split_ands; assumption); rintro e wa1 ⟨D1, k1, rfl, hd1, hb1⟩; have HD1 := Lib.hid hd1; clear hd1; have hK : Below wc.heap.size wc wa1 := (by go_split_ands; exact below_next (by assumption) (Nat.le_refl _) hb1))
        | (go_at_call_of 13 (Ab); refine (F2.out _ ?_).mono ?_; (go_split_ands; assumption); rintro e wa2 ⟨D2, k2, rfl, hd2, hb2⟩; have HD2 := Lib.hid hd2; clear hd2; have hK : Below wc.heap.size wc wa2 := (by go_split_ands; exact below_next (by assumption) (Nat.le_refl _) hb2))
        | (go_at_call 18; refine (FC.out _ _ D1 D2 k1 k2 (Whole.made _ _ _) ((HD1.out.next hb2 (Nat.le_refl _)).next ((Below.refl _ _).alloc (Nat.le_refl _) _) (Nat.le_refl _)) (HD2.out.next ((Below.refl _ _).alloc (Nat.le_refl _) _) (Nat.le_refl _))).mono ?_; rintro e wa3 ⟨D3, k3, rfl, hd3, hb3⟩; have HD3 := Lib.hid hd3; clear hd3; have hK : Below wc.heap.size wc wa3 := (by go_split_ands; exact below_next (by assumption) (Nat.le_refl _) hb3))
        | (go_at_call 17; refine (FS.out _ D3 k3 HD3.out (M5.out.next (by go_split_ands; assumption) (Nat.le_refl _))).mono ?_; rintro e wa4 ⟨rfl, hb4⟩; have hK : Below wc.heap.size wc wa4 := (by go_split_ands; exact below_next (by assumption) (Nat.le_refl _) hb4))
        | (go_at_call_of 19 (A6); refine (FD.out _ ?_).mono ?_; (go_split_ands; assumption); rintro e wa5 ⟨rfl, hb5⟩; have hK : Below wc.heap.size wc wa5 := (by go_split_ands; exact below_next (by assumption) (Nat.le_refl _) hb5))
        | (go_at_call_of 19 (Aa); refine (FA.out _ ?_).mono ?_; (go_split_ands; assumption); rintro e wa6 ⟨rfl, hb6⟩; have hK : Below wc.heap.size wc wa6 := (by go_split_ands; exact below_next (by assumption) (Nat.le_refl _) hb6)))
    all_goals
      go_wp2_with fail
      go_ret
      exact ⟨by first | rfl | exact ret_bool (by simp), HBF.out.trans (hK.mono (by have := HBF.out.size; omega))⟩

end Go.Proofs.Ytpjbhjebjebbjaa.mk
