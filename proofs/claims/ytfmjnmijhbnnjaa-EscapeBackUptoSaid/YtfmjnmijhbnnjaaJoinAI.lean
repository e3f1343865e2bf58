/-
  EscapeBack, where what comes in is of bulk at most 1048576: what is escaped of any labelled text, decoded, is that text, byte by byte, with its origins; it has no < and no >, and, as a value, no return and no quote either.
  Conditions: none beside the bound that the statement itself names.
-/
import Derived.Test.YtfmjnmijhbnnjaaJoinX
import Derived.Test.YtfmjnmijhbnnjaaJoinAC
import Derived.Test.YtfmjnmijhbnnjaaJoinAG
import Derived.Test.YtfmjnmijhbnnjaaJoinW
import Derived.Test.YtfmjnmijhbnnjaaJoinAE
import Derived.Test.YtfmjnmijhbnnjaaJoinC
import Derived.Test.YtfmjnmijhbnnjaaJoinQ
import Derived.Test.YtfmjnmijhbnnjaaJoinAH
import Derived.Test.YtfmjnmijhbnnjaaJoinAB
import Derived.Test.YtfmjnmijhbnnjaaJoinI
import Derived.Test.YtfmjnmijhbnnjaaJoinD
namespace Go.Proofs.Ytfmjnmijhbnnjaa.mk
open Go.RowKit

/-- what is known while the answers and the variables are made, in whatever order -/
structure Eb (s : ByteArray) (A : Option Addr) (n c : Nat) (l4 l9 : List (UInt8 × Int)) (wc : World) (L : Nat → Bool) (x3 x4 x8 x9 x10 x11 : Value) (w : World) : Prop where
  bel : Below wc.heap.size wc w
  h0 : L 0 = true → x8 = .agg #[.string s, .slice A n c]
  h1 : L 1 = true → ResT l4 wc.heap.size w x9
  h2 : L 2 = true → x10 = .agg #[.string s, .slice A n c]
  h3 : L 3 = true → ResT l9 wc.heap.size w x11
  h4 : L 4 = true → VarT wc.heap.size w x3 (L 6) x9
  h5 : L 5 = true → VarT wc.heap.size w x4 (L 7) x11
  d4_5 : L 4 = true → L 5 = true → x3 ≠ x4
  o6 : L 6 = true → L 1 = true ∧ L 4 = true
  o7 : L 7 = true → L 3 = true ∧ L 5 = true
  c3_1 : L 3 = true → L 1 = true
theorem Eb.keep {s : ByteArray} {A : Option Addr} {n c : Nat} {l4 l9 : List (UInt8 × Int)} {wc : World} {L : Nat → Bool} {x3 x4 x8 x9 x10 x11 : Value} {w w' : World} (h : Eb s A n c l4 l9 wc L x3 x4 x8 x9 x10 x11 w) (hb : Below w.heap.size w w') : Eb s A n c l4 l9 wc L x3 x4 x8 x9 x10 x11 w' :=
  ⟨below_next h.bel (Nat.le_refl _) hb, h.h0, (fun e => (h.h1 e).below hb), h.h2, (fun e => (h.h3 e).below hb), (fun e => (h.h4 e).below hb), (fun e => (h.h5 e).below hb), h.d4_5, h.o6, h.o7, h.c3_1⟩

def EbRes (l4 l9 : List (UInt8 × Int)) (w1 : World) (s3 s4 : Value) (wx : World) : Prop :=
  Below w1.heap.size w1 wx ∧ InVar l4 w1.heap.size wx s3 ∧ InVar l9 w1.heap.size wx s4
def UpTo9 (n : Nat) (i : Value) : Prop := ∃ k : Nat, k ≤ n ∧ i = .int .i64 (k : Int)
theorem findI_not {l : List UInt8} {b : UInt8} (h : ∀ x ∈ l, x ≠ b) : findI l [b] 0 = -1 := by
  refine findI_none (a := 0) (i := l.length) (by unfold atN; omega) (by simp) (fun j _ hj => ?_)
  rw [occ_one, List.getElem?_eq_getElem hj, beq_eq_false_iff_ne]
  intro e
  injection e with e
  exact h _ (List.getElem_mem hj) e

set_option maxHeartbeats 2000000 in
set_option maxRecDepth 100000 in
theorem back9_any (m : Int) (a : LT) (w : World) (hm : w.cell? ⟨0, 0, none⟩ = some (.int .i64 m)) (ha : a.ok w w.heap.size) (hsz : a.s.size ≤ 1048576) :
    Calls Try.prog 4 #[a.v] w fun e w' => e = .returned (.bool true) ∧ Below w.heap.size w w' := by
  have hin := a.ch_in
  have hcl := a.ch_length
  obtain ⟨l4, E4⟩ : ∃ l4, l4 = escL false a.ch := ⟨_, rfl⟩
  obtain ⟨l9, E9⟩ : ∃ l9, l9 = escL true a.ch := ⟨_, rfl⟩
  have n4 : l4.length ≤ 6291456 := by have := (escL_len false a.ch).2; rw [E4]; omega
  have n9 : l9.length ≤ 6291456 := by have := (escL_len true a.ch).2; rw [E9]; omega
  have HWW : Hid (∀ W, Below w.heap.size w W → Calls Try.prog 13 #[.agg #[.string a.s, .slice a.A a.n a.c]] W (Tells (txtOf l4) (comp (l4.map (·.2))) W)) := fun W h => by
    rw [E4]; exact words_any a W (ha.next h (Nat.le_refl _)) (by omega)
  have HVV : Hid (∀ W, Below w.heap.size w W → Calls Try.prog 14 #[.agg #[.string a.s, .slice a.A a.n a.c]] W (Tells (txtOf l9) (comp (l9.map (·.2))) W)) := fun W h => by
    rw [E9]; exact value_any a W (ha.next h (Nat.le_refl _)) (by omega)
  have hdec : ∀ (v : Bool) (l : List (UInt8 × Int)), l = escL v a.ch → l.length ≤ 6291456 → ∀ (W : World) (B : Option Addr) (c : Nat), Lies W W.heap.size B (runCells (comp (l.map (·.2)))) → Calls Try.prog 20 #[.agg #[.string (txtOf l), .slice B (runN l) c]] W (TellsL a.ch W) := fun v l e hl W B c h => by
    have hr := runN_le l
    have e2 : chars (txtOf l).data.toList (comp (l.map (·.2))) = l := txtOf_chars (by rw [e]; exact hin.esc)
    have hh : Calls Try.prog 20 #[.agg #[.string (txtOf l), .slice B (runN l) c]] W (TellsL (decE (chars (txtOf l).data.toList (comp (l.map (·.2))))) W) := (entDecode_any (txtOf l) B (runN l) c (comp (l.map (·.2))) W h rfl (by rw [txtOf_size]; omega) (by omega)).mono fun e w' h => tellsL_of (l := decE (chars (txtOf l).data.toList (comp (l.map (·.2))))) h
    rw [e2, show decE l = a.ch from by rw [e]; exact decE_esc hin] at hh
    exact hh
  have HD4 : Hid (∀ (W : World) (B : Option Addr) (c : Nat), Lies W W.heap.size B (runCells (comp (l4.map (·.2)))) → Calls Try.prog 20 #[.agg #[.string (txtOf l4), .slice B (runN l4) c]] W (TellsL a.ch W)) := hdec false l4 E4 n4
  have HD9 : Hid (∀ (W : World) (B : Option Addr) (c : Nat), Lies W W.heap.size B (runCells (comp (l9.map (·.2)))) → Calls Try.prog 20 #[.agg #[.string (txtOf l9), .slice B (runN l9) c]] W (TellsL a.ch W)) := hdec true l9 E9 n9
  have HSA : Hid (∀ (W : World) (D : Option Addr) (c : Nat), Below w.heap.size w W → Lies W W.heap.size D (runCells (comp (a.ch.map (·.2)))) → Calls Try.prog 19 #[.agg #[.string (txtOf a.ch), .slice D (runN a.ch) c], .agg #[.string a.s, .slice a.A a.n a.c]] W (SaysB (.bool true) W)) := fun W D c hb h =>
    same_as a.ch a rfl (by omega) W D c (ha.next hb (Nat.le_refl _)) h
  have hix : ∀ (x : UInt8), (∀ y ∈ l4.map (·.1), y ≠ x) → ∀ (W : World) (B : Option Addr) (c : Nat), Below w.heap.size w W → Calls Try.prog 21 #[.agg #[.string (txtOf l4), .slice B (runN l4) c], .string ⟨#[x]⟩, .int .i64 0] W (SaysB (.int .i64 (-1)) W) := fun x hx W B c hb => by
    have hh := index_any (txtOf l4) B (runN l4) c ⟨#[x]⟩ 0 m W (by rw [txtOf_size]; omega) ((hb.cell (block_zero _ _ _ hm)).trans hm)
    rw [show findI (txtOf l4).data.toList (ByteArray.mk #[x]).data.toList 0 = -1 from findI_not hx] at hh
    exact hh
  have HI1 : Hid (∀ (W : World) (B : Option Addr) (c : Nat), Below w.heap.size w W → Calls Try.prog 21 #[.agg #[.string (txtOf l4), .slice B (runN l4) c], .string ⟨#[60]⟩, .int .i64 0] W (SaysB (.int .i64 (-1)) W)) := hix 60 (fun y hy => by rw [E4] at hy; exact (escL_no hy).1)
  have HI2 : Hid (∀ (W : World) (B : Option Addr) (c : Nat), Below w.heap.size w W → Calls Try.prog 21 #[.agg #[.string (txtOf l4), .slice B (runN l4) c], .string ⟨#[62]⟩, .int .i64 0] W (SaysB (.int .i64 (-1)) W)) := hix 62 (fun y hy => by rw [E4] at hy; exact (escL_no hy).2.1)
  have HIN : Hid (∀ (k : Nat) (h : k < (txtOf l9).size) (W : World), Calls Try.prog 18 #[.int .u8 ((txtOf l9)[k]'h).toNat, .string ⟨#[60, 62, 13, 34]⟩] W fun e w' => e = .returned (.bool false) ∧ W = w') := fun k h W => by
    have hh := refIn_any ((txtOf l9)[k]'h) ⟨#[60, 62, 13, 34]⟩ W (by show (4 : Nat) ≤ _; omega)
    have hmem : (txtOf l9)[k]'h ∈ l9.map (·.1) := by
      show (l9.map (·.1)).toArray[k]'h ∈ _
      exact List.mem_toArray.1 (Array.getElem_mem h)
    obtain ⟨y1, y2, y3, y4⟩ := escL_no (v := true) (l := a.ch) (x := (txtOf l9)[k]'h) (by rw [← E9]; exact hmem)
    have y4 := y4 rfl
    rw [show isIn (ByteArray.mk #[60, 62, 13, 34]).data.toList ((txtOf l9)[k]'h) = false from by unfold isIn; simp [y1, y2, y3, y4]] at hh
    exact hh
  have ht9 : (txtOf l9).size ≤ 6291456 := by rw [txtOf_size]; omega
  clear hin hcl E4 E9 n4 n9 hdec hix hsz ha hm
  obtain ⟨s, A, n, c, rs⟩ := a
  simp only at HWW HVV HSA
  generalize LT.ch ⟨s, A, n, c, rs⟩ = L at *
  show Calls Try.prog 4 #[.agg #[.string s, .slice A n c]] w _
  go_enter Try.func4, Try.ntmps4
  go_wp2_with fail
  refine (alive9_any _).mono ?_
  rintro e w1 ⟨rfl, hb1⟩
  simp only [World.size_alloc] at hb1
  have hz1 := hb1.size
  have y0 : Whole w1 w.heap.size 24 #[.string s, .slice A n c] := (Whole.made w _ _).below hb1 (Nat.lt_succ_self _)
  have hbw : Below w.heap.size w w1 := below_made hb1
  have HWO : Hid (∀ w', Below w1.heap.size w1 w' → Calls Try.prog 13 #[.agg #[.string s, .slice A n c]] w' fun e w'' => ∃ x, e = .returned x ∧ ResT l4 w1.heap.size w'' x ∧ Below w'.heap.size w' w'') := fun w' hb' =>
    (HWW.out w' (hbw.trans (hb'.mono hbw.size))).mono fun e w'' h => resT_of hb'.size h
  have HVA : Hid (∀ w', Below w1.heap.size w1 w' → Calls Try.prog 14 #[.agg #[.string s, .slice A n c]] w' fun e w'' => ∃ x, e = .returned x ∧ ResT l9 w1.heap.size w'' x ∧ Below w'.heap.size w' w'') := fun w' hb' =>
    (HVV.out w' (hbw.trans (hb'.mono hbw.size))).mono fun e w'' h => resT_of hb'.size h
  have HT9 := Lib.hid ht9
  clear hb1 ht9 HWW HVV
  go_wp2_with fail
  go_upto_region 4 with (fail)
  go_cut [3, 4] (fun s3 s4 wx => EbRes l4 l9 w1 s3 s4 wx)
  case first =>
    refine wp_region_any (by kernel_rfl) ?_
    refine wpAny_inv (fun listed a w' => listed.size = 8 ∧ ∃ x3 x4 x8 x9 x10 x11, a = ⟨#[.agg #[.string s, .slice A n c], .pointer (some ⟨w.heap.size, 0, none⟩), .bool false, x3, x4, undef, .bool true, .bool false, x8, x9, x10, x11, undef, undef, undef, undef, undef, undef, undef, undef, undef, undef, undef, undef, undef, undef, undef, undef, undef, undef, undef, undef, undef, undef, undef, undef, undef, undef, undef, undef, undef, undef, undef, undef], []⟩ ∧ Eb s A n c l4 l9 w1 (fun k => listed.getD k false) x3 x4 x8 x9 x10 x11 w') ?_ ?_ _ _ _ _ (by rfl) (by decide) ⟨rfl, _, _, _, _, _, _, rfl, ?_⟩
    · rintro listed a w' ⟨hsz, x3, x4, x8, x9, x10, x11, rfl, h⟩ hr
      have al := ready_nil (md := .any) hsz (by kernel_rfl) hr
      have al' : ∀ k, k < 8 → listed.getD k false = true := al
      go_wp2_with fail
      go_meet
      exact ⟨h.bel, ⟨_, h.h1 (al' 1 (by decide)), by have h1 := h.h4 (al' 4 (by decide)); rw [al' 6 (by decide)] at h1; exact h1⟩, ⟨_, h.h3 (al' 3 (by decide)), by have h1 := h.h5 (al' 5 (by decide)); rw [al' 7 (by decide)] at h1; exact h1⟩⟩
    · rintro listed a w' i ⟨hsz, x3, x4, x8, x9, x10, x11, rfl, h⟩ hi
      obtain ⟨hi1, hi2, hrd⟩ := ready_mem hi
      have d0 : w'.cell? ⟨w.heap.size, 0, none⟩ = some (.string s) := (h.bel.cell y0.lt).trans (y0.at_ 0)
      have d1 : w'.cell? ⟨w.heap.size, 1, none⟩ = some (.slice A n c) := (h.bel.cell y0.lt).trans (y0.at_ 1)
      have hN : i = 0 ∨ i = 1 ∨ i = 2 ∨ i = 3 ∨ i = 4 ∨ i = 5 ∨ i = 6 ∨ i = 7 := by have : i < 8 := hi1; omega
      rcases hN with rfl | rfl | rfl | rfl | rfl | rfl | rfl | rfl
      · have hlt : 0 < listed.size := by rw [hsz]; decide
        have nme := getD2_tf hi2
        clear hrd hi
        refine wpOp_step (i := 0) rfl (fun K' hK => ?_)
        go_simp
        refine hK _ _ ⟨by simpa using hsz, x3, x4, _, x9, x10, x11, rfl, ?_⟩
        rw [getD2_upd hlt]
        exact ⟨h.bel, (fun _ => rfl), h.h1, h.h2, h.h3, h.h4, h.h5, h.d4_5, (fun e => ⟨upd2_of (h.o6 e).1, upd2_of (h.o6 e).2⟩), (fun e => ⟨upd2_of (h.o7 e).1, upd2_of (h.o7 e).2⟩), (fun e => upd2_of (h.c3_1 e))⟩
      · have hlt : 1 < listed.size := by rw [hsz]; decide
        have nme := getD2_tf hi2
        have hd : listed.getD 0 false = true := by simp [Region.binds] at hrd; simp [hrd]
        have e0 := hd
        clear hrd hi
        obtain rfl := h.h0 e0
        have nl : listed.getD 6 false = false := by cases hx : listed.getD 6 false with | false => rfl | true => exact absurd (h.o6 hx).1 (by rw [nme]; decide)
        refine wpOp_step (i := 1) rfl (fun K' hK => ?_)
        go_simp
        refine (HWO.out _ h.bel).mono ?_
        rintro e w' ⟨x, rfl, hr, hb⟩
        refine hK _ _ ⟨by simpa using hsz, x3, x4, _, _, x10, x11, rfl, ?_⟩
        rw [getD2_upd hlt]
        have h' := h.keep hb
        exact ⟨h'.bel, h'.h0, (fun _ => hr), h'.h2, h'.h3, (fun e => by obtain ⟨p, u, v, g1, g2, g3, g4⟩ := h'.h4 e; exact ⟨p, u, v, g1, g2, g3, fun e' => absurd (show listed.getD 6 false = true from e') (by rw [nl]; decide)⟩), h'.h5, h'.d4_5, (fun e => ⟨upd2_of (h.o6 e).1, upd2_of (h.o6 e).2⟩), (fun e => ⟨upd2_of (h.o7 e).1, upd2_of (h.o7 e).2⟩), (fun e => upd2_of (h.c3_1 e))⟩
      · have hlt : 2 < listed.size := by rw [hsz]; decide
        have nme := getD2_tf hi2
        clear hrd hi
        refine wpOp_step (i := 2) rfl (fun K' hK => ?_)
        go_simp
        refine hK _ _ ⟨by simpa using hsz, x3, x4, x8, x9, _, x11, rfl, ?_⟩
        rw [getD2_upd hlt]
        exact ⟨h.bel, h.h0, h.h1, (fun _ => rfl), h.h3, h.h4, h.h5, h.d4_5, (fun e => ⟨upd2_of (h.o6 e).1, upd2_of (h.o6 e).2⟩), (fun e => ⟨upd2_of (h.o7 e).1, upd2_of (h.o7 e).2⟩), (fun e => upd2_of (h.c3_1 e))⟩
      · have hlt : 3 < listed.size := by rw [hsz]; decide
        have nme := getD2_tf hi2
        have hd : listed.getD 2 false = true ∧ listed.getD 1 false = true := by simp [Region.binds] at hrd; simp [hrd]
        obtain ⟨e2, e1⟩ := hd
        clear hrd hi
        obtain rfl := h.h2 e2
        have nl : listed.getD 7 false = false := by cases hx : listed.getD 7 false with | false => rfl | true => exact absurd (h.o7 hx).1 (by rw [nme]; decide)
        refine wpOp_step (i := 3) rfl (fun K' hK => ?_)
        go_simp
        refine (HVA.out _ h.bel).mono ?_
        rintro e w' ⟨x, rfl, hr, hb⟩
        refine hK _ _ ⟨by simpa using hsz, x3, x4, x8, x9, _, _, rfl, ?_⟩
        rw [getD2_upd hlt]
        have h' := h.keep hb
        exact ⟨h'.bel, h'.h0, h'.h1, h'.h2, (fun _ => hr), h'.h4, (fun e => by obtain ⟨p, u, v, g1, g2, g3, g4⟩ := h'.h5 e; exact ⟨p, u, v, g1, g2, g3, fun e' => absurd (show listed.getD 7 false = true from e') (by rw [nl]; decide)⟩), h'.d4_5, (fun e => ⟨upd2_of (h.o6 e).1, upd2_of (h.o6 e).2⟩), (fun e => ⟨upd2_of (h.o7 e).1, upd2_of (h.o7 e).2⟩), (fun _ => upd2_of e1)⟩
      · have hlt : 4 < listed.size := by rw [hsz]; decide
        have nme := getD2_tf hi2
        clear hrd hi
        have nl : listed.getD 6 false = false := by cases hx : listed.getD 6 false with | false => rfl | true => exact absurd (h.o6 hx).2 (by rw [nme]; decide)
        refine wpOp_step (i := 4) rfl (fun K' hK => ?_)
        go_simp
        refine hK _ _ ⟨by simpa using hsz, _, x4, x8, x9, x10, x11, rfl, ?_⟩
        rw [getD2_upd hlt]
        have h' := h.keep ((Below.refl _ _).alloc (Nat.le_refl _) (.cells #[.string ⟨#[]⟩, .slice none 0 0] 24))
        exact ⟨h'.bel, h'.h0, h'.h1, h'.h2, h'.h3, (fun _ => ⟨_, _, _, rfl, h.bel.size, Whole.made _ _ _, fun e' => absurd (show listed.getD 6 false = true from e') (by rw [nl]; decide)⟩), h'.h5, (fun _ e => (h.h5 e).old.symm), (fun e => ⟨upd2_of (h.o6 e).1, upd2_of (h.o6 e).2⟩), (fun e => ⟨upd2_of (h.o7 e).1, upd2_of (h.o7 e).2⟩), (fun e => upd2_of (h.c3_1 e))⟩
      · have hlt : 5 < listed.size := by rw [hsz]; decide
        have nme := getD2_tf hi2
        clear hrd hi
        have nl : listed.getD 7 false = false := by cases hx : listed.getD 7 false with | false => rfl | true => exact absurd (h.o7 hx).2 (by rw [nme]; decide)
        refine wpOp_step (i := 5) rfl (fun K' hK => ?_)
        go_simp
        refine hK _ _ ⟨by simpa using hsz, x3, _, x8, x9, x10, x11, rfl, ?_⟩
        rw [getD2_upd hlt]
        have h' := h.keep ((Below.refl _ _).alloc (Nat.le_refl _) (.cells #[.string ⟨#[]⟩, .slice none 0 0] 24))
        exact ⟨h'.bel, h'.h0, h'.h1, h'.h2, h'.h3, h'.h4, (fun _ => ⟨_, _, _, rfl, h.bel.size, Whole.made _ _ _, fun e' => absurd (show listed.getD 7 false = true from e') (by rw [nl]; decide)⟩), (fun e _ => (h.h4 e).old), (fun e => ⟨upd2_of (h.o6 e).1, upd2_of (h.o6 e).2⟩), (fun e => ⟨upd2_of (h.o7 e).1, upd2_of (h.o7 e).2⟩), (fun e => upd2_of (h.c3_1 e))⟩
      · have hlt : 6 < listed.size := by rw [hsz]; decide
        have nme := getD2_tf hi2
        have hd : listed.getD 4 false = true ∧ listed.getD 1 false = true ∧ listed.getD 3 false = true := by simp [Region.binds] at hrd; simp [hrd]
        obtain ⟨e4, e1, e3⟩ := hd
        clear hrd hi
        obtain ⟨p, u, v, hx, hp1, hp2, _⟩ := h.h4 e4
        obtain ⟨A', c', hy', hyo⟩ := h.h1 e1
        subst hx
        subst hy'
        have k0 : w'.cell? ⟨p, 0, none⟩ = some u := hp2.at_ 0
        have k1 : w'.cell? ⟨p, 1, none⟩ = some v := hp2.at_ 1
        have k2 := hp2.free 0
        have k3 := hp2.free 1
        refine wpOp_step (i := 6) rfl (fun K' hK => ?_)
        go_simp
        refine hK _ _ ⟨by simpa using hsz, _, x4, x8, _, x10, x11, rfl, ?_⟩
        rw [getD2_upd hlt]
        exact ⟨(below_put2 h.bel hp1), h.h0, (fun e => (h.h1 e).put hp2), h.h2, (fun e => (h.h3 e).put hp2), (fun _ => ⟨p, _, _, rfl, hp1, (hp2.put 0 _).put 1 _, fun _ => rfl⟩), (fun e => (h.h5 e).put (fun hh => h.d4_5 e4 e hh.symm)), h.d4_5, (fun _ => ⟨upd2_of e1, upd2_of e4⟩), (fun e => ⟨upd2_of (h.o7 e).1, upd2_of (h.o7 e).2⟩), (fun e => upd2_of (h.c3_1 e))⟩
      · have hlt : 7 < listed.size := by rw [hsz]; decide
        have nme := getD2_tf hi2
        have hd : listed.getD 5 false = true ∧ listed.getD 3 false = true := by simp [Region.binds] at hrd; simp [hrd]
        obtain ⟨e5, e3⟩ := hd
        clear hrd hi
        obtain ⟨p, u, v, hx, hp1, hp2, _⟩ := h.h5 e5
        obtain ⟨A', c', hy', hyo⟩ := h.h3 e3
        subst hx
        subst hy'
        have k0 : w'.cell? ⟨p, 0, none⟩ = some u := hp2.at_ 0
        have k1 : w'.cell? ⟨p, 1, none⟩ = some v := hp2.at_ 1
        have k2 := hp2.free 0
        have k3 := hp2.free 1
        refine wpOp_step (i := 7) rfl (fun K' hK => ?_)
        go_simp
        refine hK _ _ ⟨by simpa using hsz, x3, _, x8, x9, x10, _, rfl, ?_⟩
        rw [getD2_upd hlt]
        exact ⟨(below_put2 h.bel hp1), h.h0, (fun e => (h.h1 e).put hp2), h.h2, (fun e => (h.h3 e).put hp2), (fun e => (h.h4 e).put (fun hh => h.d4_5 e e5 hh)), (fun _ => ⟨p, _, _, rfl, hp1, (hp2.put 0 _).put 1 _, fun _ => rfl⟩), h.d4_5, (fun e => ⟨upd2_of (h.o6 e).1, upd2_of (h.o6 e).2⟩), (fun _ => ⟨upd2_of e3, upd2_of e5⟩), (fun e => upd2_of (h.c3_1 e))⟩
    · exact ⟨Below.drew (Below.refl _ _), (fun e => absurd e (by decide)), (fun e => absurd e (by decide)), (fun e => absurd e (by decide)), (fun e => absurd e (by decide)), (fun e => absurd e (by decide)), (fun e => absurd e (by decide)), (fun e => absurd e (by decide)), (fun e => absurd e (by decide)), (fun e => absurd e (by decide)), (fun e => absurd e (by decide))⟩
  case rest =>
    obtain ⟨hbc, hr1, hr2⟩ := hcut
    obtain ⟨p3, A3, c3, rfl, hW3, hL3⟩ := hr1.get
    obtain ⟨p4, A4, c4, rfl, hW4, hL4⟩ := hr2.get
    clear hr1 hr2
    have hbF : Below w.heap.size w wc := hbw.trans (hbc.mono hbw.size)
    have hW0 := y0.below hbc y0.lt
    have M3 := Lib.hid hL3
    have M4 := Lib.hid hL4
    have KS : ∀ w', Below wc.heap.size wc w' → (w'.cell? ⟨p3, 0, none⟩ = some (.string (txtOf l4)) ∧ w'.cell? ⟨p3, 1, none⟩ = some (.slice A3 (runN l4) c3) ∧ w'.cell? ⟨p4, 0, none⟩ = some (.string (txtOf l9)) ∧ w'.cell? ⟨p4, 1, none⟩ = some (.slice A4 (runN l9) c4) ∧ w'.cell? ⟨w.heap.size, 0, none⟩ = some (.string s) ∧ w'.cell? ⟨w.heap.size, 1, none⟩ = some (.slice A n c) ∧ Below wc.heap.size wc w') := fun w' h =>
      ⟨(h.cell hW3.lt).trans (hW3.at_ 0), (h.cell hW3.lt).trans (hW3.at_ 1), (h.cell hW4.lt).trans (hW4.at_ 0), (h.cell hW4.lt).trans (hW4.at_ 1), (h.cell hW0.lt).trans (hW0.at_ 0), (h.cell hW0.lt).trans (hW0.at_ 1), h⟩
    have HKS := Lib.hid KS
    have HBB : Hid (∀ W, Below wc.heap.size wc W → Below w.heap.size w W) := fun W h => hbF.trans (h.mono hbF.size)
    clear KS hbF hL3 hL4 hbw hbc hW3 hW4 hW0 y0 hz1 HWO HVA
    obtain ⟨q1, q2, q3, q4, q5, q6, _⟩ := HKS.out _ (Below.refl _ _)
    have ht9 := HT9.out
    generalize hT : txtOf l9 = T at *
    go_wp2_with fail
    go_loop [5] (UpTo9 T.size) (fun i => T.size - (intOf i).toNat)
    case atStart => exact ⟨0, Nat.zero_le _, rfl⟩
    case round =>
      obtain ⟨k, hk, rfl⟩ := hrel
      have hk0 : (0 : Int) ≤ (k : Int) := Int.natCast_nonneg _
      by_cases hlt : k < T.size
      · have hk1 : (k : Int) < (T.size : Int) := by omega
        have HX := Lib.hid (HIN.out k hlt)
        generalize hsk : T[k]'hlt = x at *
        go_wp2_with fail
        refine (HX.out _).mono ?_
        rintro e w' ⟨rfl, rfl⟩
        go_wp2_with fail
        go_round
        case rel => exact ⟨k + 1, by omega, by go_num⟩
        case measure => simp [intOf]; omega
      · have hk1 : ¬ (k : Int) < (T.size : Int) := by omega
        clear ht9
        go_wp2_with fail
        go_region_held3 (fun w' => w'.cell? ⟨p3, 0, none⟩ = some (.string (txtOf l4)) ∧ w'.cell? ⟨p3, 1, none⟩ = some (.slice A3 (runN l4) c3) ∧ w'.cell? ⟨p4, 0, none⟩ = some (.string T) ∧ w'.cell? ⟨p4, 1, none⟩ = some (.slice A4 (runN l9) c4) ∧ w'.cell? ⟨w.heap.size, 0, none⟩ = some (.string s) ∧ w'.cell? ⟨w.heap.size, 1, none⟩ = some (.slice A n c) ∧ Below wc.heap.size wc w')
          (first
            | exact HKS.out _ (Below.drew (Below.refl _ _))
            | exact HKS.out _ hK
            | (go_split_ands; exact HKS.out _ (by assumption)))
          (first
            | (go_at_call_of 20 (A3); refine (HD4.out _ A3 c3 (M3.out.next (by go_split_ands; assumption) (Nat.le_refl _))).mono ?_; rintro e wa1 ⟨D1, k1, rfl, hd1, hb1⟩; have HD1 := Lib.hid hd1; clear hd1; have hK : Below wc.heap.size wc wa1 := (by go_split_ands; exact below_next (by assumption) (Nat.le_refl _) hb1))
            | (go_at_call_of 19 (D1); refine (HSA.out _ D1 k1 (HBB.out _ ?_) HD1.out).mono ?_; (go_split_ands; assumption); rintro e wa2 ⟨rfl, hb2⟩; have hK : Below wc.heap.size wc wa2 := (by go_split_ands; exact below_next (by assumption) (Nat.le_refl _) hb2))
            | (go_at_call_of 20 (A4); refine (HD9.out _ A4 c4 (M4.out.next (by go_split_ands; assumption) (Nat.le_refl _))).mono ?_; rintro e wa3 ⟨D3, k3, rfl, hd3, hb3⟩; have HD3 := Lib.hid hd3; clear hd3; have hK : Below wc.heap.size wc wa3 := (by go_split_ands; exact below_next (by assumption) (Nat.le_refl _) hb3))
            | (go_at_call_of 19 (D3); refine (HSA.out _ D3 k3 (HBB.out _ ?_) HD3.out).mono ?_; (go_split_ands; assumption); rintro e wa4 ⟨rfl, hb4⟩; have hK : Below wc.heap.size wc wa4 := (by go_split_ands; exact below_next (by assumption) (Nat.le_refl _) hb4))
            | (go_at_call_of 21 (ByteArray.mk #[60]); refine (HI1.out _ A3 c3 (HBB.out _ ?_)).mono ?_; (go_split_ands; assumption); rintro e wa5 ⟨rfl, hb5⟩; have hK : Below wc.heap.size wc wa5 := (by go_split_ands; exact below_next (by assumption) (Nat.le_refl _) hb5))
            | (go_at_call_of 21 (ByteArray.mk #[62]); refine (HI2.out _ A3 c3 (HBB.out _ ?_)).mono ?_; (go_split_ands; assumption); rintro e wa6 ⟨rfl, hb6⟩; have hK : Below wc.heap.size wc wa6 := (by go_split_ands; exact below_next (by assumption) (Nat.le_refl _) hb6)))
        all_goals
          go_wp2_with fail
          go_ret
          exact ⟨by first | rfl | exact ret_bool (by simp), HBB.out _ hK⟩

end Go.Proofs.Ytfmjnmijhbnnjaa.mk

namespace Go.Proofs.Ytfmjnmijhbnnjaa.escapeBack
open Go.ChangeShapes Go.WideShapes Go.ChangeAt Go.RowKit Go.Proofs.Ytfmjnmijhbnnjaa.mk

set_option maxRecDepth 100000 in
theorem contract (H : Type) (enc : TypeId × Value → H) (W : World) (args : Array Value) (ds gs : List (DataW H)) (before : List MemPlace) (base : Nat) (hsh : W.ShapedOpen Try.prog)
    (hval : ∀ (j : Nat) t v, Try.f4.params[j]? = some t → args[j]? = some v → Value.okWide Try.prog W .any base t v)
    (hW : DataW.Whole enc Try.prog Try.f4.params.toList Rows.escapeBackSpec.vars false W args.toList ds gs before) (hk : Rows.uptoSmall H (ds ++ gs) = true) :
    Calls Try.prog 4 args W fun e W' => ∃ v, e = .returned v ∧ Rows.escapeBackSpec.post enc Try.prog Try.f4 false true false false W args v W' := by
  obtain ⟨p, q, hA0, hV, rfl, hfz, hnd⟩ := id hW
  have hA : DataW.TrodAll enc Try.prog W 0 (fun _ => true) true Try.f4.params.toList args.toList ds p := hA0
  rw [Try.params4] at hA hval
  obtain ⟨v0, vs0, d0, ds0, p0, q0, hargs, rfl, rfl, h0, r0⟩ := trodAll_cons hA
  obtain ⟨rfl, rfl, rfl⟩ := trodAll_nil r0
  obtain rfl : args = #[v0] := by cases args; simp_all
  obtain ⟨rfl, rfl⟩ := trodVars_none hV
  have hbk := bulk_bound hk
  simp only [List.append_nil, Rows.uptoBulkAll] at hbk
  have hbk2 : Rows.uptoBulk d0 ≤ 1048576 := by omega
  obtain ⟨a0, rfl, hok0, _, _, hs0⟩ := open_str (hval 0 24 v0 rfl rfl) h0 (by omega)
  obtain ⟨mx, hmx⟩ := Try.maxLen_cell hsh
  refine (back9_any mx a0 W hmx hok0 (by omega)).mono fun e W' ⟨he, hb⟩ => ?_
  subst he
  exact ⟨_, rfl, law_post (tb := 4) laidOut hW rfl ⟨rfl, rfl, rfl⟩ (by rw [Try.params4]; exact readable_all (by kernel_rfl)) rfl Try.underlying4 hb⟩

set_option maxRecDepth 100000 in
theorem lifted (os : Os) (started : os.Started) (H : Type) (enc : TypeId × Value → H) (F : Stop.Interp) :
    ReturnsInHanded {} Try.checked os 4 .any ((Rows.OpenSpec.upto Rows.escapeBackSpec).pre6 enc Try.prog Try.f4 Rows.escapeBackUptoRow.domain false) (((Rows.OpenSpec.upto Rows.escapeBackSpec).at F).post enc Try.prog Try.f4 false true false false) := by
  refine handed_shaped (C := Try.checked) (s := Rows.OpenSpec.upto Rows.escapeBackSpec) (k := Rows.uptoSmall) rfl own started (by kernel_rfl) Try.func4
    (OpenSpec.witness (enc := enc) (C := Try.checked) (s := Rows.OpenSpec.upto Rows.escapeBackSpec) (k := Rows.uptoSmall) rfl false ⟨#[], #[.agg #[.string .empty, .slice none 0 0]], []⟩ 8 (by kernel_rfl) (by kernel_rfl) (by kernel_rfl)
      (x := ([.agg [.lit (.string []), .nil]], [], [])) (by kernel_rfl) rfl (by kernel_rfl)) ?_
  intro W base args ds gs before hsh hval hW hk
  exact contract H enc W args ds gs before base hsh hval hW hk

theorem proved : Rows.EscapeBackUptoSaid :=
  OpenClaim.holds_of_cond 4 Try.f4 rfl rfl rfl rfl rfl rfl rfl ⟨rfl, rfl, rfl, rfl, rfl⟩ rfl rfl rfl rfl rfl (by kernel_rfl) Try.func4 (by kernel_rfl)
    (of_decide_eq_true (by kernel_rfl)) (by unfold Func.isWrapper; first | (rw [if_pos (by decide +kernel)]; kernel_rfl) | (rw [if_neg (by decide +kernel)]; exact ⟨rfl, rfl⟩))
    (fun os started H enc _ F => lifted os started H enc F)

end Go.Proofs.Ytfmjnmijhbnnjaa.escapeBack
