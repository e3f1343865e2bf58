/-
  The walk of the statement EscapeParts.
-/
import Derived.Test.YtfmjnmijhbnnjaaEscAlive
import Derived.Test.YtfmjnmijhbnnjaaEscWorst
import Derived.Test.YtfmjnmijhbnnjaaVars
import Derived.Test.YtfmjnmijhbnnjaaMarkWorst
namespace Go.Proofs.Ytfmjnmijhbnnjaa.mk
open Go.RowKit

/-- what is known while the answers and the variables are made, in whatever order -/
structure Ep (sa : ByteArray) (Aa : Option Addr) (na ca : Nat) (sb : ByteArray) (Ab : Option Addr) (nb cb : Nat) (l3 l4 l9 : List (UInt8 × Int)) (wc : World) (L : Nat → Bool) (x5 x6 x9 x10 x11 x12 x13 x14 x15 x16 x17 x18 : Value) (w : World) : Prop where
  bel : Below wc.heap.size wc w
  h0 : L 0 = true → x9 = .agg #[.string sa, .slice Aa na ca]
  h1 : L 1 = true → x10 = .agg #[.string sb, .slice Ab nb cb]
  h2 : L 2 = true → L 3 = false → LitT [.string sa, .slice Aa na ca, .string sb, .slice Ab nb cb] 2 wc.heap.size w x11
  h3 : L 3 = true → ResT l3 wc.heap.size w x12
  h4 : L 4 = true → ResT l4 wc.heap.size w x13
  h5 : L 5 = true → x14 = .agg #[.string sa, .slice Aa na ca]
  h6 : L 6 = true → x15 = .agg #[.string sb, .slice Ab nb cb]
  h7 : L 7 = true → L 8 = false → LitT [.string sa, .slice Aa na ca, .string sb, .slice Ab nb cb] 2 wc.heap.size w x16
  h8 : L 8 = true → ResT l3 wc.heap.size w x17
  h9 : L 9 = true → ResT l9 wc.heap.size w x18
  h10 : L 10 = true → VarT wc.heap.size w x5 (L 12) x13
  h11 : L 11 = true → VarT wc.heap.size w x6 (L 13) x18
  d10_11 : L 10 = true → L 11 = true → x5 ≠ x6
  o12 : L 12 = true → L 4 = true ∧ L 10 = true
  o13 : L 13 = true → L 9 = true ∧ L 11 = true
  p12_3 : L 12 = true → L 3 = true
  p12_8 : L 12 = true → L 8 = true
  p13_3 : L 13 = true → L 3 = true
  p13_8 : L 13 = true → L 8 = true
  c4_3 : L 4 = true → L 3 = true
  c8_4 : L 8 = true → L 4 = true
  c9_8 : L 9 = true → L 8 = true
theorem Ep.keep {sa : ByteArray} {Aa : Option Addr} {na ca : Nat} {sb : ByteArray} {Ab : Option Addr} {nb cb : Nat} {l3 l4 l9 : List (UInt8 × Int)} {wc : World} {L : Nat → Bool} {x5 x6 x9 x10 x11 x12 x13 x14 x15 x16 x17 x18 : Value} {w w' : World} (h : Ep sa Aa na ca sb Ab nb cb l3 l4 l9 wc L x5 x6 x9 x10 x11 x12 x13 x14 x15 x16 x17 x18 w) (hb : Below w.heap.size w w') : Ep sa Aa na ca sb Ab nb cb l3 l4 l9 wc L x5 x6 x9 x10 x11 x12 x13 x14 x15 x16 x17 x18 w' :=
  ⟨below_next h.bel (Nat.le_refl _) hb, h.h0, h.h1, (fun e e2 => (h.h2 e e2).below hb), (fun e => (h.h3 e).below hb), (fun e => (h.h4 e).below hb), h.h5, h.h6, (fun e e2 => (h.h7 e e2).below hb), (fun e => (h.h8 e).below hb), (fun e => (h.h9 e).below hb), (fun e => (h.h10 e).below hb), (fun e => (h.h11 e).below hb), h.d10_11, h.o12, h.o13, h.p12_3, h.p12_8, h.p13_3, h.p13_8, h.c4_3, h.c8_4, h.c9_8⟩

def EpRes (l4 l9 : List (UInt8 × Int)) (w1 : World) (s5 s6 : Value) (wx : World) : Prop :=
  Below w1.heap.size w1 wx ∧ InVar l4 w1.heap.size wx s5 ∧ InVar l9 w1.heap.size wx s6

set_option maxHeartbeats 2000000 in
set_option maxRecDepth 100000 in
theorem parts9_any (a b : LT) (w : World) (ha : a.ok w w.heap.size) (hb : b.ok w w.heap.size) (hsza : a.s.size ≤ 1048576) (hszb : b.s.size ≤ 1048576) :
    Calls Try.prog 5 #[a.v, b.v] w fun e w' => e = .returned (.bool true) ∧ Below w.heap.size w w' := by
  obtain ⟨La, hLa⟩ : ∃ L, L = a.ch := ⟨_, rfl⟩
  obtain ⟨Lb, hLb⟩ : ∃ L, L = b.ch := ⟨_, rfl⟩
  have hlA : La.length ≤ 1048576 := by rw [hLa, LT.ch_length]; exact hsza
  have hlB : Lb.length ≤ 1048576 := by rw [hLb, LT.ch_length]; exact hszb
  have IA : Hid (InR La) := by rw [hLa]; exact a.ch_in
  have IB : Hid (InR Lb) := by rw [hLb]; exact b.ch_in
  have HWA : Hid (∀ W, Below w.heap.size w W → Calls Try.prog 13 #[.agg #[.string a.s, .slice a.A a.n a.c]] W (TellsL (escL false La) W)) := fun W h => by
    rw [hLa]; exact (words_any a W (ha.next h (Nat.le_refl _)) (by omega)).mono fun e w' h => tellsL_of h
  have HWB : Hid (∀ W, Below w.heap.size w W → Calls Try.prog 13 #[.agg #[.string b.s, .slice b.A b.n b.c]] W (TellsL (escL false Lb) W)) := fun W h => by
    rw [hLb]; exact (words_any b W (hb.next h (Nat.le_refl _)) (by omega)).mono fun e w' h => tellsL_of h
  have HVVA : Hid (∀ W, Below w.heap.size w W → Calls Try.prog 14 #[.agg #[.string a.s, .slice a.A a.n a.c]] W (TellsL (escL true La) W)) := fun W h => by
    rw [hLa]; exact (value_any a W (ha.next h (Nat.le_refl _)) (by omega)).mono fun e w' h => tellsL_of h
  have HVVB : Hid (∀ W, Below w.heap.size w W → Calls Try.prog 14 #[.agg #[.string b.s, .slice b.A b.n b.c]] W (TellsL (escL true Lb) W)) := fun W h => by
    rw [hLb]; exact (value_any b W (hb.next h (Nat.le_refl _)) (by omega)).mono fun e w' h => tellsL_of h
  obtain ⟨l3, E3⟩ : ∃ l3, l3 = La ++ Lb := ⟨_, rfl⟩
  have hl3 : l3.length ≤ 2097152 := by rw [E3, List.length_append]; omega
  have I3 : Hid (InR l3) := by rw [E3]; exact IA.out.append IB.out
  have HCAT : Hid (∀ (W : World) (g : Nat), Below w.heap.size w W → Whole W g 24 (List.toArray [.string a.s, .slice a.A a.n a.c, .string b.s, .slice b.A b.n b.c]) → Calls Try.prog 22 #[.slice (some ⟨g, 0, none⟩) 2 2] W (Tells (txtOf l3) (comp (l3.map (·.2))) W)) := fun W g h hW => by
    have hh := cat2_any a b (some ⟨g, 0, none⟩) 2 W (lies_at2 hW) (ha.next h (Nat.le_refl _)) (hb.next h (Nat.le_refl _)) (by omega)
    rw [← hLa, ← hLb, ← E3] at hh
    exact hh
  obtain ⟨sa, Aa, na, ca, ra⟩ := a
  obtain ⟨sb, Ab, nb, cb, rb⟩ := b
  simp only at HWA HWB HVVA HVVB HCAT
  clear ha hb hsza hszb hLa hLb
  show Calls Try.prog 5 #[.agg #[.string sa, .slice Aa na ca], .agg #[.string sb, .slice Ab nb cb]] w _
  have l30 := (escL_len false l3).2
  have l31 := (escL_len true l3).2
  have lA0 := (escL_len false La).2
  have lB0 := (escL_len false Lb).2
  have lA1 := (escL_len true La).2
  have lB1 := (escL_len true Lb).2
  obtain ⟨l4, E4⟩ : ∃ l4, l4 = escL false l3 := ⟨_, rfl⟩
  obtain ⟨l9, E9⟩ : ∃ l9, l9 = escL true l3 := ⟨_, rfl⟩
  have e4 : l4 = escL false La ++ escL false Lb := by rw [E4, E3, escL_append]
  have e9 : l9 = escL true La ++ escL true Lb := by rw [E9, E3, escL_append]
  have n4 : l4.length ≤ 12582912 := by rw [E4]; omega
  have n9 : l9.length ≤ 12582912 := by rw [E9]; omega
  have hwE : worstO (l4.map (·.2)) = worstO (l3.map (·.2)) := by rw [E4]; exact worst_esc I3.out
  have i4 : InR l4 := by rw [E4]; exact I3.out.esc
  have hWO : ∀ w' (B : Option Addr) (c : Nat), Lies w' w'.heap.size B (runCells (comp (l3.map (·.2)))) → Calls Try.prog 13 #[.agg #[.string (txtOf l3), .slice B (runN l3) c]] w' (Tells (txtOf l4) (comp (l4.map (·.2))) w') := fun w' B c h => by
    have hh := words_any (toldT l3 B c) w' (toldT_ok c h (by omega)) (by show (txtOf l3).size ≤ _; rw [txtOf_size]; omega)
    rw [toldT_ch I3.out, ← E4] at hh
    exact hh
  have hVA : ∀ w' (B : Option Addr) (c : Nat), Lies w' w'.heap.size B (runCells (comp (l3.map (·.2)))) → Calls Try.prog 14 #[.agg #[.string (txtOf l3), .slice B (runN l3) c]] w' (Tells (txtOf l9) (comp (l9.map (·.2))) w') := fun w' B c h => by
    have hh := value_any (toldT l3 B c) w' (toldT_ok c h (by omega)) (by show (txtOf l3).size ≤ _; rw [txtOf_size]; omega)
    rw [toldT_ch I3.out, ← E9] at hh
    exact hh
  obtain ⟨wv, hwv⟩ : ∃ wv, wv = worstO (l3.map (·.2)) := ⟨_, rfl⟩
  have FC1 : Hid (∀ (W : World) (g : Nat) (D1 D2 : Option Addr) (k1 k2 : Nat), Whole W g 24 (List.toArray [.string (txtOf (escL false La)), .slice D1 (runN (escL false La)) k1, .string (txtOf (escL false Lb)), .slice D2 (runN (escL false Lb)) k2]) → Lies W W.heap.size D1 (runCells (comp ((escL false La).map (·.2)))) → Lies W W.heap.size D2 (runCells (comp ((escL false Lb).map (·.2)))) → Calls Try.prog 22 #[.slice (some ⟨g, 0, none⟩) 2 2] W (TellsL l4 W)) := fun W g D1 D2 k1 k2 hW h1 h2 => by
    have h := cat2_any (toldT (escL false La) D1 k1) (toldT (escL false Lb) D2 k2) (some ⟨g, 0, none⟩) 2 W (lies_at2 hW) (toldT_ok k1 h1 (by omega)) (toldT_ok k2 h2 (by omega)) (by show (txtOf (escL false La)).size + (txtOf (escL false Lb)).size ≤ _; rw [txtOf_size, txtOf_size]; omega)
    rw [toldT_ch IA.out.esc, toldT_ch IB.out.esc, ← e4] at h
    exact h.mono fun e w' h => tellsL_of h
  have FC2 : Hid (∀ (W : World) (g : Nat) (D1 D2 : Option Addr) (k1 k2 : Nat), Whole W g 24 (List.toArray [.string (txtOf (escL true La)), .slice D1 (runN (escL true La)) k1, .string (txtOf (escL true Lb)), .slice D2 (runN (escL true Lb)) k2]) → Lies W W.heap.size D1 (runCells (comp ((escL true La).map (·.2)))) → Lies W W.heap.size D2 (runCells (comp ((escL true Lb).map (·.2)))) → Calls Try.prog 22 #[.slice (some ⟨g, 0, none⟩) 2 2] W (TellsL l9 W)) := fun W g D1 D2 k1 k2 hW h1 h2 => by
    have h := cat2_any (toldT (escL true La) D1 k1) (toldT (escL true Lb) D2 k2) (some ⟨g, 0, none⟩) 2 W (lies_at2 hW) (toldT_ok k1 h1 (by omega)) (toldT_ok k2 h2 (by omega)) (by show (txtOf (escL true La)).size + (txtOf (escL true Lb)).size ≤ _; rw [txtOf_size, txtOf_size]; omega)
    rw [toldT_ch IA.out.esc, toldT_ch IB.out.esc, ← e9] at h
    exact h.mono fun e w' h => tellsL_of h
  have FS : Hid (∀ (l : List (UInt8 × Int)), l.length ≤ 12582912 → ∀ (W : World) (A D : Option Addr) (c k : Nat), Lies W W.heap.size A (runCells (comp (l.map (·.2)))) → Lies W W.heap.size D (runCells (comp (l.map (·.2)))) → Calls Try.prog 19 #[.agg #[.string (txtOf l), .slice A (runN l) c], .agg #[.string (txtOf l), .slice D (runN l) k]] W (SaysB (.bool true) W)) := fun l hl W A D c k h1 h2 => by
    refine (same_any (toldT l A c) (toldT l D k) W (toldT_ok c h1 (by omega)) (toldT_ok k h2 (by omega))).mono ?_
    rintro e w' ⟨rfl, hb'⟩
    refine ⟨ret_bool ?_, hb'⟩
    unfold sameB
    rw [decide_eq_true_iff]
    exact ⟨rfl, rfl⟩
  have hworst : ∀ (l : List (UInt8 × Int)), l.length ≤ 12582912 → InR l → worstO (l.map (·.2)) = wv → ∀ (W : World) (A : Option Addr) (c : Nat), Lies W W.heap.size A (runCells (comp (l.map (·.2)))) → Calls Try.prog 23 #[.agg #[.string (txtOf l), .slice A (runN l) c]] W (SaysB (.int .i64 wv) W) := fun l hl hi hw W A c h => by
    have hr := runN_le l
    have hh := worst_any (txtOf l) A (runN l) c (comp (l.map (·.2))) W h rfl (by rw [txtOf_size]; omega) (by omega)
    have h3 := origins_told hi
    rw [List.length_map] at h3
    rw [txtOf_size, h3, hw] at hh
    exact hh
  have FW4 : Hid (∀ (W : World) (A : Option Addr) (c : Nat), Lies W W.heap.size A (runCells (comp (l4.map (·.2)))) → Calls Try.prog 23 #[.agg #[.string (txtOf l4), .slice A (runN l4) c]] W (SaysB (.int .i64 wv) W)) := hworst l4 n4 i4 (by rw [hwE, hwv])
  have FW3 : Hid (∀ (W : World) (A : Option Addr) (c : Nat), Lies W W.heap.size A (runCells (comp (l3.map (·.2)))) → Calls Try.prog 23 #[.agg #[.string (txtOf l3), .slice A (runN l3) c]] W (SaysB (.int .i64 wv) W)) := hworst l3 (by omega) I3.out hwv.symm
  have FS4 := Lib.hid (FS.out l4 n4)
  have FS9 := Lib.hid (FS.out l9 n9)
  have HWO1 := Lib.hid hWO
  have HVA1 := Lib.hid hVA
  clear hlA hlB hl3 l30 l31 lA0 lB0 lA1 lB1 e4 e9 n4 n9 hwE i4 hworst hwv E3 E4 E9 hWO hVA FS
  go_enter Try.func5, Try.ntmps5
  go_wp2_with fail
  refine (alive9_any _).mono ?_
  rintro e w1 ⟨rfl, hb1⟩
  simp only [World.size_alloc] at hb1
  have hz1 := hb1.size
  simp only [World.size_alloc] at hz1
  have y0 : Whole w1 w.heap.size 24 #[.string sa, .slice Aa na ca] := ((Whole.made w _ _).alloc _).below hb1 (by omega)
  have y1 : Whole w1 (w.heap.size + 1) 24 #[.string sb, .slice Ab nb cb] := by
    have h := Whole.made (w.alloc (.cells #[.string sa, .slice Aa na ca] 24)) 24 #[.string sb, .slice Ab nb cb]
    simp only [World.size_alloc] at h
    exact h.below hb1 (by omega)
  have hbw : Below w.heap.size w w1 := (((Below.refl _ _).alloc (Nat.le_refl _) _).alloc (by simp) _).trans (hb1.mono (by omega))
  have HCT : Hid (∀ w', Below w1.heap.size w1 w' → ∀ g, Whole w' g 24 (List.toArray [.string sa, .slice Aa na ca, .string sb, .slice Ab nb cb]) → Calls Try.prog 22 #[.slice (some ⟨g, 0, none⟩) 2 2] w' fun e w'' => ∃ x, e = .returned x ∧ ResT l3 w1.heap.size w'' x ∧ Below w'.heap.size w' w'') := fun w' hb' g hW =>
    (HCAT.out w' g (hbw.trans (hb'.mono hbw.size)) hW).mono fun e w'' h => resT_of hb'.size h
  have HWO : Hid (∀ w', Below w1.heap.size w1 w' → ∀ (B : Option Addr) (c : Nat), w'.ownsRow w1.heap.size 45 2 (.slice B (runN l3) c) (runN l3) (runCells (comp (l3.map (·.2)))) → Calls Try.prog 13 #[.agg #[.string (txtOf l3), .slice B (runN l3) c]] w' fun e w'' => ∃ x, e = .returned x ∧ ResT l4 w1.heap.size w'' x ∧ Below w'.heap.size w' w'') := fun w' hb' B c ho =>
    (HWO1.out w' B c (Lies.own ho)).mono fun e w'' h => resT_of hb'.size h
  have HVA : Hid (∀ w', Below w1.heap.size w1 w' → ∀ (B : Option Addr) (c : Nat), w'.ownsRow w1.heap.size 45 2 (.slice B (runN l3) c) (runN l3) (runCells (comp (l3.map (·.2)))) → Calls Try.prog 14 #[.agg #[.string (txtOf l3), .slice B (runN l3) c]] w' fun e w'' => ∃ x, e = .returned x ∧ ResT l9 w1.heap.size w'' x ∧ Below w'.heap.size w' w'') := fun w' hb' B c ho =>
    (HVA1.out w' B c (Lies.own ho)).mono fun e w'' h => resT_of hb'.size h
  clear hb1
  go_wp2_with fail
  go_upto_region 4 with (fail)
  go_cut [5, 6] (fun s5 s6 wx => EpRes l4 l9 w1 s5 s6 wx)
  case first =>
    refine wp_region_any (by kernel_rfl) ?_
    refine wpAny_inv (fun listed a w' => listed.size = 14 ∧ ∃ x5 x6 x9 x10 x11 x12 x13 x14 x15 x16 x17 x18, a = ⟨#[.agg #[.string sa, .slice Aa na ca], .agg #[.string sb, .slice Ab nb cb], .pointer (some ⟨w.heap.size, 0, none⟩), .pointer (some ⟨w.heap.size + 1, 0, none⟩), .bool false, x5, x6, .bool true, .bool false, x9, x10, x11, x12, x13, x14, x15, x16, x17, x18, undef, undef, undef, undef, undef, undef, undef, undef, undef, undef, undef, undef, undef, undef, undef, undef, undef, undef, undef, undef, undef, undef, undef, undef, undef, undef, undef, undef], []⟩ ∧ Ep sa Aa na ca sb Ab nb cb l3 l4 l9 w1 (fun k => listed.getD k false) x5 x6 x9 x10 x11 x12 x13 x14 x15 x16 x17 x18 w') ?_ ?_ _ _ _ _ (by rfl) (by decide) ⟨rfl, _, _, _, _, _, _, _, _, _, _, _, _, rfl, ?_⟩
    · rintro listed a w' ⟨hsz, x5, x6, x9, x10, x11, x12, x13, x14, x15, x16, x17, x18, rfl, h⟩ hr
      have al := ready_nil (md := .any) hsz (by kernel_rfl) hr
      have al' : ∀ k, k < 14 → listed.getD k false = true := al
      go_wp2_with fail
      go_meet
      exact ⟨h.bel, ⟨_, h.h4 (al' 4 (by decide)), by have h1 := h.h10 (al' 10 (by decide)); rw [al' 12 (by decide)] at h1; exact h1⟩, ⟨_, h.h9 (al' 9 (by decide)), by have h1 := h.h11 (al' 11 (by decide)); rw [al' 13 (by decide)] at h1; exact h1⟩⟩
    · rintro listed a w' i ⟨hsz, x5, x6, x9, x10, x11, x12, x13, x14, x15, x16, x17, x18, rfl, h⟩ hi
      obtain ⟨hi1, hi2, hrd⟩ := ready_mem hi
      have d0 : w'.cell? ⟨w.heap.size, 0, none⟩ = some (.string sa) := (h.bel.cell y0.lt).trans (y0.at_ 0)
      have d1 : w'.cell? ⟨w.heap.size, 1, none⟩ = some (.slice Aa na ca) := (h.bel.cell y0.lt).trans (y0.at_ 1)
      have d2 : w'.cell? ⟨w.heap.size + 1, 0, none⟩ = some (.string sb) := (h.bel.cell y1.lt).trans (y1.at_ 0)
      have d3 : w'.cell? ⟨w.heap.size + 1, 1, none⟩ = some (.slice Ab nb cb) := (h.bel.cell y1.lt).trans (y1.at_ 1)
      have hN : i = 0 ∨ i = 1 ∨ i = 2 ∨ i = 3 ∨ i = 4 ∨ i = 5 ∨ i = 6 ∨ i = 7 ∨ i = 8 ∨ i = 9 ∨ i = 10 ∨ i = 11 ∨ i = 12 ∨ i = 13 := by have : i < 14 := hi1; omega
      rcases hN with rfl | rfl | rfl | rfl | rfl | rfl | rfl | rfl | rfl | rfl | rfl | rfl | rfl | rfl
      · have hlt : 0 < listed.size := by rw [hsz]; decide
        have nme := getD2_tf hi2
        clear hrd hi
        refine wpOp_step (i := 0) rfl (fun K' hK => ?_)
        go_simp
        refine hK _ _ ⟨by simpa using hsz, x5, x6, _, x10, x11, x12, x13, x14, x15, x16, x17, x18, rfl, ?_⟩
        rw [getD2_upd hlt]
        exact ⟨h.bel, (fun _ => rfl), h.h1, h.h2, h.h3, h.h4, h.h5, h.h6, h.h7, h.h8, h.h9, h.h10, h.h11, h.d10_11, (fun e => ⟨upd2_of (h.o12 e).1, upd2_of (h.o12 e).2⟩), (fun e => ⟨upd2_of (h.o13 e).1, upd2_of (h.o13 e).2⟩), (fun e => upd2_of (h.p12_3 e)), (fun e => upd2_of (h.p12_8 e)), (fun e => upd2_of (h.p13_3 e)), (fun e => upd2_of (h.p13_8 e)), (fun e => upd2_of (h.c4_3 e)), (fun e => upd2_of (h.c8_4 e)), (fun e => upd2_of (h.c9_8 e))⟩
      · have hlt : 1 < listed.size := by rw [hsz]; decide
        have nme := getD2_tf hi2
        clear hrd hi
        refine wpOp_step (i := 1) rfl (fun K' hK => ?_)
        go_simp
        refine hK _ _ ⟨by simpa using hsz, x5, x6, x9, _, x11, x12, x13, x14, x15, x16, x17, x18, rfl, ?_⟩
        rw [getD2_upd hlt]
        exact ⟨h.bel, h.h0, (fun _ => rfl), h.h2, h.h3, h.h4, h.h5, h.h6, h.h7, h.h8, h.h9, h.h10, h.h11, h.d10_11, (fun e => ⟨upd2_of (h.o12 e).1, upd2_of (h.o12 e).2⟩), (fun e => ⟨upd2_of (h.o13 e).1, upd2_of (h.o13 e).2⟩), (fun e => upd2_of (h.p12_3 e)), (fun e => upd2_of (h.p12_8 e)), (fun e => upd2_of (h.p13_3 e)), (fun e => upd2_of (h.p13_8 e)), (fun e => upd2_of (h.c4_3 e)), (fun e => upd2_of (h.c8_4 e)), (fun e => upd2_of (h.c9_8 e))⟩
      · have hlt : 2 < listed.size := by rw [hsz]; decide
        have nme := getD2_tf hi2
        have hd : listed.getD 0 false = true ∧ listed.getD 1 false = true := by simp [Region.binds] at hrd; simp [hrd]
        obtain ⟨e0, e1⟩ := hd
        clear hrd hi
        obtain rfl := h.h0 e0
        obtain rfl := h.h1 e1
        refine wpOp_step (i := 2) rfl (fun K' hK => ?_)
        go_simp
        refine hK _ _ ⟨by simpa using hsz, x5, x6, _, _, _, x12, x13, x14, x15, x16, x17, x18, rfl, ?_⟩
        rw [getD2_upd hlt]
        have h' := h.keep ((Below.refl _ _).alloc (Nat.le_refl _) (.cells (List.toArray [.string sa, .slice Aa na ca, .string sb, .slice Ab nb cb]) 24))
        exact ⟨h'.bel, h'.h0, h'.h1, (fun _ _ => ⟨_, rfl, Whole.made _ _ _, h.bel.size⟩), h'.h3, h'.h4, h'.h5, h'.h6, h'.h7, h'.h8, h'.h9, h'.h10, h'.h11, h'.d10_11, (fun e => ⟨upd2_of (h.o12 e).1, upd2_of (h.o12 e).2⟩), (fun e => ⟨upd2_of (h.o13 e).1, upd2_of (h.o13 e).2⟩), (fun e => upd2_of (h.p12_3 e)), (fun e => upd2_of (h.p12_8 e)), (fun e => upd2_of (h.p13_3 e)), (fun e => upd2_of (h.p13_8 e)), (fun e => upd2_of (h.c4_3 e)), (fun e => upd2_of (h.c8_4 e)), (fun e => upd2_of (h.c9_8 e))⟩
      · have hlt : 3 < listed.size := by rw [hsz]; decide
        have nme := getD2_tf hi2
        have hd : listed.getD 2 false = true := by simp [Region.binds] at hrd; simp [hrd]
        have e2 := hd
        clear hrd hi
        obtain ⟨g2, hg2, hW2, _⟩ := h.h2 e2 nme
        subst hg2
        refine wpOp_step (i := 3) rfl (fun K' hK => ?_)
        go_simp
        refine (HCT.out _ h.bel g2 hW2).mono ?_
        rintro e w' ⟨x, rfl, hr, hb⟩
        refine hK _ _ ⟨by simpa using hsz, x5, x6, x9, x10, _, _, x13, x14, x15, x16, x17, x18, rfl, ?_⟩
        rw [getD2_upd hlt]
        have h' := h.keep hb
        exact ⟨h'.bel, h'.h0, h'.h1, (fun _ e => absurd e (by simp [upd2])), (fun _ => hr), h'.h4, h'.h5, h'.h6, h'.h7, h'.h8, h'.h9, h'.h10, h'.h11, h'.d10_11, (fun e => ⟨upd2_of (h.o12 e).1, upd2_of (h.o12 e).2⟩), (fun e => ⟨upd2_of (h.o13 e).1, upd2_of (h.o13 e).2⟩), (fun e => upd2_of (h.p12_3 e)), (fun e => upd2_of (h.p12_8 e)), (fun e => upd2_of (h.p13_3 e)), (fun e => upd2_of (h.p13_8 e)), (fun e => upd2_of (h.c4_3 e)), (fun e => upd2_of (h.c8_4 e)), (fun e => upd2_of (h.c9_8 e))⟩
      · have hlt : 4 < listed.size := by rw [hsz]; decide
        have nme := getD2_tf hi2
        have hd : listed.getD 3 false = true := by simp [Region.binds] at hrd; simp [hrd]
        have e3 := hd
        clear hrd hi
        obtain ⟨B3, b3, hy3, ho3⟩ := h.h3 e3
        subst hy3
        have nl : listed.getD 12 false = false := by cases hx : listed.getD 12 false with | false => rfl | true => exact absurd (h.o12 hx).1 (by rw [nme]; decide)
        refine wpOp_step (i := 4) rfl (fun K' hK => ?_)
        go_simp
        refine (HWO.out _ h.bel B3 b3 ho3).mono ?_
        rintro e w' ⟨x, rfl, hr, hb⟩
        refine hK _ _ ⟨by simpa using hsz, x5, x6, x9, x10, x11, _, _, x14, x15, x16, x17, x18, rfl, ?_⟩
        rw [getD2_upd hlt]
        have h' := h.keep hb
        exact ⟨h'.bel, h'.h0, h'.h1, h'.h2, h'.h3, (fun _ => hr), h'.h5, h'.h6, h'.h7, h'.h8, h'.h9, (fun e => by obtain ⟨p, u, v, g1, g2, g3, g4⟩ := h'.h10 e; exact ⟨p, u, v, g1, g2, g3, fun e' => absurd (show listed.getD 12 false = true from e') (by rw [nl]; decide)⟩), h'.h11, h'.d10_11, (fun e => ⟨upd2_of (h.o12 e).1, upd2_of (h.o12 e).2⟩), (fun e => ⟨upd2_of (h.o13 e).1, upd2_of (h.o13 e).2⟩), (fun e => upd2_of (h.p12_3 e)), (fun e => upd2_of (h.p12_8 e)), (fun e => upd2_of (h.p13_3 e)), (fun e => upd2_of (h.p13_8 e)), (fun _ => upd2_of e3), (fun e => upd2_of (h.c8_4 e)), (fun e => upd2_of (h.c9_8 e))⟩
      · have hlt : 5 < listed.size := by rw [hsz]; decide
        have nme := getD2_tf hi2
        clear hrd hi
        refine wpOp_step (i := 5) rfl (fun K' hK => ?_)
        go_simp
        refine hK _ _ ⟨by simpa using hsz, x5, x6, x9, x10, x11, x12, x13, _, x15, x16, x17, x18, rfl, ?_⟩
        rw [getD2_upd hlt]
        exact ⟨h.bel, h.h0, h.h1, h.h2, h.h3, h.h4, (fun _ => rfl), h.h6, h.h7, h.h8, h.h9, h.h10, h.h11, h.d10_11, (fun e => ⟨upd2_of (h.o12 e).1, upd2_of (h.o12 e).2⟩), (fun e => ⟨upd2_of (h.o13 e).1, upd2_of (h.o13 e).2⟩), (fun e => upd2_of (h.p12_3 e)), (fun e => upd2_of (h.p12_8 e)), (fun e => upd2_of (h.p13_3 e)), (fun e => upd2_of (h.p13_8 e)), (fun e => upd2_of (h.c4_3 e)), (fun e => upd2_of (h.c8_4 e)), (fun e => upd2_of (h.c9_8 e))⟩
      · have hlt : 6 < listed.size := by rw [hsz]; decide
        have nme := getD2_tf hi2
        clear hrd hi
        refine wpOp_step (i := 6) rfl (fun K' hK => ?_)
        go_simp
        refine hK _ _ ⟨by simpa using hsz, x5, x6, x9, x10, x11, x12, x13, x14, _, x16, x17, x18, rfl, ?_⟩
        rw [getD2_upd hlt]
        exact ⟨h.bel, h.h0, h.h1, h.h2, h.h3, h.h4, h.h5, (fun _ => rfl), h.h7, h.h8, h.h9, h.h10, h.h11, h.d10_11, (fun e => ⟨upd2_of (h.o12 e).1, upd2_of (h.o12 e).2⟩), (fun e => ⟨upd2_of (h.o13 e).1, upd2_of (h.o13 e).2⟩), (fun e => upd2_of (h.p12_3 e)), (fun e => upd2_of (h.p12_8 e)), (fun e => upd2_of (h.p13_3 e)), (fun e => upd2_of (h.p13_8 e)), (fun e => upd2_of (h.c4_3 e)), (fun e => upd2_of (h.c8_4 e)), (fun e => upd2_of (h.c9_8 e))⟩
      · have hlt : 7 < listed.size := by rw [hsz]; decide
        have nme := getD2_tf hi2
        have hd : listed.getD 5 false = true ∧ listed.getD 6 false = true := by simp [Region.binds] at hrd; simp [hrd]
        obtain ⟨e5, e6⟩ := hd
        clear hrd hi
        obtain rfl := h.h5 e5
        obtain rfl := h.h6 e6
        refine wpOp_step (i := 7) rfl (fun K' hK => ?_)
        go_simp
        refine hK _ _ ⟨by simpa using hsz, x5, x6, x9, x10, x11, x12, x13, _, _, _, x17, x18, rfl, ?_⟩
        rw [getD2_upd hlt]
        have h' := h.keep ((Below.refl _ _).alloc (Nat.le_refl _) (.cells (List.toArray [.string sa, .slice Aa na ca, .string sb, .slice Ab nb cb]) 24))
        exact ⟨h'.bel, h'.h0, h'.h1, h'.h2, h'.h3, h'.h4, h'.h5, h'.h6, (fun _ _ => ⟨_, rfl, Whole.made _ _ _, h.bel.size⟩), h'.h8, h'.h9, h'.h10, h'.h11, h'.d10_11, (fun e => ⟨upd2_of (h.o12 e).1, upd2_of (h.o12 e).2⟩), (fun e => ⟨upd2_of (h.o13 e).1, upd2_of (h.o13 e).2⟩), (fun e => upd2_of (h.p12_3 e)), (fun e => upd2_of (h.p12_8 e)), (fun e => upd2_of (h.p13_3 e)), (fun e => upd2_of (h.p13_8 e)), (fun e => upd2_of (h.c4_3 e)), (fun e => upd2_of (h.c8_4 e)), (fun e => upd2_of (h.c9_8 e))⟩
      · have hlt : 8 < listed.size := by rw [hsz]; decide
        have nme := getD2_tf hi2
        have hd : listed.getD 7 false = true ∧ listed.getD 4 false = true := by simp [Region.binds] at hrd; simp [hrd]
        obtain ⟨e7, e4⟩ := hd
        clear hrd hi
        obtain ⟨g7, hg7, hW7, _⟩ := h.h7 e7 nme
        subst hg7
        refine wpOp_step (i := 8) rfl (fun K' hK => ?_)
        go_simp
        refine (HCT.out _ h.bel g7 hW7).mono ?_
        rintro e w' ⟨x, rfl, hr, hb⟩
        refine hK _ _ ⟨by simpa using hsz, x5, x6, x9, x10, x11, x12, x13, x14, x15, _, _, x18, rfl, ?_⟩
        rw [getD2_upd hlt]
        have h' := h.keep hb
        exact ⟨h'.bel, h'.h0, h'.h1, h'.h2, h'.h3, h'.h4, h'.h5, h'.h6, (fun _ e => absurd e (by simp [upd2])), (fun _ => hr), h'.h9, h'.h10, h'.h11, h'.d10_11, (fun e => ⟨upd2_of (h.o12 e).1, upd2_of (h.o12 e).2⟩), (fun e => ⟨upd2_of (h.o13 e).1, upd2_of (h.o13 e).2⟩), (fun e => upd2_of (h.p12_3 e)), (fun e => upd2_of (h.p12_8 e)), (fun e => upd2_of (h.p13_3 e)), (fun e => upd2_of (h.p13_8 e)), (fun e => upd2_of (h.c4_3 e)), (fun _ => upd2_of e4), (fun e => upd2_of (h.c9_8 e))⟩
      · have hlt : 9 < listed.size := by rw [hsz]; decide
        have nme := getD2_tf hi2
        have hd : listed.getD 8 false = true := by simp [Region.binds] at hrd; simp [hrd]
        have e8 := hd
        clear hrd hi
        obtain ⟨B8, b8, hy8, ho8⟩ := h.h8 e8
        subst hy8
        have nl : listed.getD 13 false = false := by cases hx : listed.getD 13 false with | false => rfl | true => exact absurd (h.o13 hx).1 (by rw [nme]; decide)
        refine wpOp_step (i := 9) rfl (fun K' hK => ?_)
        go_simp
        refine (HVA.out _ h.bel B8 b8 ho8).mono ?_
        rintro e w' ⟨x, rfl, hr, hb⟩
        refine hK _ _ ⟨by simpa using hsz, x5, x6, x9, x10, x11, x12, x13, x14, x15, x16, _, _, rfl, ?_⟩
        rw [getD2_upd hlt]
        have h' := h.keep hb
        exact ⟨h'.bel, h'.h0, h'.h1, h'.h2, h'.h3, h'.h4, h'.h5, h'.h6, h'.h7, h'.h8, (fun _ => hr), h'.h10, (fun e => by obtain ⟨p, u, v, g1, g2, g3, g4⟩ := h'.h11 e; exact ⟨p, u, v, g1, g2, g3, fun e' => absurd (show listed.getD 13 false = true from e') (by rw [nl]; decide)⟩), h'.d10_11, (fun e => ⟨upd2_of (h.o12 e).1, upd2_of (h.o12 e).2⟩), (fun e => ⟨upd2_of (h.o13 e).1, upd2_of (h.o13 e).2⟩), (fun e => upd2_of (h.p12_3 e)), (fun e => upd2_of (h.p12_8 e)), (fun e => upd2_of (h.p13_3 e)), (fun e => upd2_of (h.p13_8 e)), (fun e => upd2_of (h.c4_3 e)), (fun e => upd2_of (h.c8_4 e)), (fun _ => upd2_of e8)⟩
      · have hlt : 10 < listed.size := by rw [hsz]; decide
        have nme := getD2_tf hi2
        clear hrd hi
        have nl : listed.getD 12 false = false := by cases hx : listed.getD 12 false with | false => rfl | true => exact absurd (h.o12 hx).2 (by rw [nme]; decide)
        refine wpOp_step (i := 10) rfl (fun K' hK => ?_)
        go_simp
        refine hK _ _ ⟨by simpa using hsz, _, x6, x9, x10, x11, x12, x13, x14, x15, x16, x17, x18, rfl, ?_⟩
        rw [getD2_upd hlt]
        have h' := h.keep ((Below.refl _ _).alloc (Nat.le_refl _) (.cells #[.string ⟨#[]⟩, .slice none 0 0] 24))
        exact ⟨h'.bel, h'.h0, h'.h1, h'.h2, h'.h3, h'.h4, h'.h5, h'.h6, h'.h7, h'.h8, h'.h9, (fun _ => ⟨_, _, _, rfl, h.bel.size, Whole.made _ _ _, fun e' => absurd (show listed.getD 12 false = true from e') (by rw [nl]; decide)⟩), h'.h11, (fun _ e => (h.h11 e).old.symm), (fun e => ⟨upd2_of (h.o12 e).1, upd2_of (h.o12 e).2⟩), (fun e => ⟨upd2_of (h.o13 e).1, upd2_of (h.o13 e).2⟩), (fun e => upd2_of (h.p12_3 e)), (fun e => upd2_of (h.p12_8 e)), (fun e => upd2_of (h.p13_3 e)), (fun e => upd2_of (h.p13_8 e)), (fun e => upd2_of (h.c4_3 e)), (fun e => upd2_of (h.c8_4 e)), (fun e => upd2_of (h.c9_8 e))⟩
      · have hlt : 11 < listed.size := by rw [hsz]; decide
        have nme := getD2_tf hi2
        clear hrd hi
        have nl : listed.getD 13 false = false := by cases hx : listed.getD 13 false with | false => rfl | true => exact absurd (h.o13 hx).2 (by rw [nme]; decide)
        refine wpOp_step (i := 11) rfl (fun K' hK => ?_)
        go_simp
        refine hK _ _ ⟨by simpa using hsz, x5, _, x9, x10, x11, x12, x13, x14, x15, x16, x17, x18, rfl, ?_⟩
        rw [getD2_upd hlt]
        have h' := h.keep ((Below.refl _ _).alloc (Nat.le_refl _) (.cells #[.string ⟨#[]⟩, .slice none 0 0] 24))
        exact ⟨h'.bel, h'.h0, h'.h1, h'.h2, h'.h3, h'.h4, h'.h5, h'.h6, h'.h7, h'.h8, h'.h9, h'.h10, (fun _ => ⟨_, _, _, rfl, h.bel.size, Whole.made _ _ _, fun e' => absurd (show listed.getD 13 false = true from e') (by rw [nl]; decide)⟩), (fun e _ => (h.h10 e).old), (fun e => ⟨upd2_of (h.o12 e).1, upd2_of (h.o12 e).2⟩), (fun e => ⟨upd2_of (h.o13 e).1, upd2_of (h.o13 e).2⟩), (fun e => upd2_of (h.p12_3 e)), (fun e => upd2_of (h.p12_8 e)), (fun e => upd2_of (h.p13_3 e)), (fun e => upd2_of (h.p13_8 e)), (fun e => upd2_of (h.c4_3 e)), (fun e => upd2_of (h.c8_4 e)), (fun e => upd2_of (h.c9_8 e))⟩
      · have hlt : 12 < listed.size := by rw [hsz]; decide
        have nme := getD2_tf hi2
        have hd : listed.getD 10 false = true ∧ listed.getD 4 false = true ∧ listed.getD 9 false = true := by simp [Region.binds] at hrd; simp [hrd]
        obtain ⟨e10, e4, e9⟩ := hd
        clear hrd hi
        have e8 := h.c9_8 e9
        have e3 := h.c4_3 e4
        obtain ⟨p, u, v, hx, hp1, hp2, _⟩ := h.h10 e10
        obtain ⟨A', c', hy', hyo⟩ := h.h4 e4
        subst hx
        subst hy'
        have k0 : w'.cell? ⟨p, 0, none⟩ = some u := hp2.at_ 0
        have k1 : w'.cell? ⟨p, 1, none⟩ = some v := hp2.at_ 1
        have k2 := hp2.free 0
        have k3 := hp2.free 1
        refine wpOp_step (i := 12) rfl (fun K' hK => ?_)
        go_simp
        refine hK _ _ ⟨by simpa using hsz, _, x6, x9, x10, x11, x12, _, x14, x15, x16, x17, x18, rfl, ?_⟩
        rw [getD2_upd hlt]
        exact ⟨(below_put2 h.bel hp1), h.h0, h.h1, (fun _ e => absurd (show listed.getD 3 false = false from e) (by rw [e3]; decide)), (fun e => (h.h3 e).put hp2), (fun e => (h.h4 e).put hp2), h.h5, h.h6, (fun _ e => absurd (show listed.getD 8 false = false from e) (by rw [e8]; decide)), (fun e => (h.h8 e).put hp2), (fun e => (h.h9 e).put hp2), (fun _ => ⟨p, _, _, rfl, hp1, (hp2.put 0 _).put 1 _, fun _ => rfl⟩), (fun e => (h.h11 e).put (fun hh => h.d10_11 e10 e hh.symm)), h.d10_11, (fun _ => ⟨upd2_of e4, upd2_of e10⟩), (fun e => ⟨upd2_of (h.o13 e).1, upd2_of (h.o13 e).2⟩), (fun _ => upd2_of e3), (fun _ => upd2_of e8), (fun e => upd2_of (h.p13_3 e)), (fun e => upd2_of (h.p13_8 e)), (fun e => upd2_of (h.c4_3 e)), (fun e => upd2_of (h.c8_4 e)), (fun e => upd2_of (h.c9_8 e))⟩
      · have hlt : 13 < listed.size := by rw [hsz]; decide
        have nme := getD2_tf hi2
        have hd : listed.getD 11 false = true ∧ listed.getD 9 false = true := by simp [Region.binds] at hrd; simp [hrd]
        obtain ⟨e11, e9⟩ := hd
        clear hrd hi
        have e8 := h.c9_8 e9
        have e4 := h.c8_4 e8
        have e3 := h.c4_3 e4
        obtain ⟨p, u, v, hx, hp1, hp2, _⟩ := h.h11 e11
        obtain ⟨A', c', hy', hyo⟩ := h.h9 e9
        subst hx
        subst hy'
        have k0 : w'.cell? ⟨p, 0, none⟩ = some u := hp2.at_ 0
        have k1 : w'.cell? ⟨p, 1, none⟩ = some v := hp2.at_ 1
        have k2 := hp2.free 0
        have k3 := hp2.free 1
        refine wpOp_step (i := 13) rfl (fun K' hK => ?_)
        go_simp
        refine hK _ _ ⟨by simpa using hsz, x5, _, x9, x10, x11, x12, x13, x14, x15, x16, x17, _, rfl, ?_⟩
        rw [getD2_upd hlt]
        exact ⟨(below_put2 h.bel hp1), h.h0, h.h1, (fun _ e => absurd (show listed.getD 3 false = false from e) (by rw [e3]; decide)), (fun e => (h.h3 e).put hp2), (fun e => (h.h4 e).put hp2), h.h5, h.h6, (fun _ e => absurd (show listed.getD 8 false = false from e) (by rw [e8]; decide)), (fun e => (h.h8 e).put hp2), (fun e => (h.h9 e).put hp2), (fun e => (h.h10 e).put (fun hh => h.d10_11 e e11 hh)), (fun _ => ⟨p, _, _, rfl, hp1, (hp2.put 0 _).put 1 _, fun _ => rfl⟩), h.d10_11, (fun e => ⟨upd2_of (h.o12 e).1, upd2_of (h.o12 e).2⟩), (fun _ => ⟨upd2_of e9, upd2_of e11⟩), (fun e => upd2_of (h.p12_3 e)), (fun e => upd2_of (h.p12_8 e)), (fun _ => upd2_of e3), (fun _ => upd2_of e8), (fun e => upd2_of (h.c4_3 e)), (fun e => upd2_of (h.c8_4 e)), (fun e => upd2_of (h.c9_8 e))⟩
    · exact ⟨Below.drew (Below.refl _ _), (fun e => absurd e (by decide)), (fun e => absurd e (by decide)), (fun e => absurd e (by decide)), (fun e => absurd e (by decide)), (fun e => absurd e (by decide)), (fun e => absurd e (by decide)), (fun e => absurd e (by decide)), (fun e => absurd e (by decide)), (fun e => absurd e (by decide)), (fun e => absurd e (by decide)), (fun e => absurd e (by decide)), (fun e => absurd e (by decide)), (fun e => absurd e (by decide)), (fun e => absurd e (by decide)), (fun e => absurd e (by decide)), (fun e => absurd e (by decide)), (fun e => absurd e (by decide)), (fun e => absurd e (by decide)), (fun e => absurd e (by decide)), (fun e => absurd e (by decide)), (fun e => absurd e (by decide)), (fun e => absurd e (by decide))⟩
  case rest =>
    obtain ⟨hbc, hr1, hr2⟩ := hcut
    obtain ⟨p5, A5, c5, rfl, hW5, hL5⟩ := hr1.get
    obtain ⟨p6, A6, c6, rfl, hW6, hL6⟩ := hr2.get
    clear hr1 hr2
    have hbF : Below w.heap.size w wc := hbw.trans (hbc.mono hbw.size)
    have hW0 := y0.below hbc y0.lt
    have hW1 := y1.below hbc y1.lt
    have M5 := Lib.hid hL5
    have M6 := Lib.hid hL6
    have KS : ∀ w', Below wc.heap.size wc w' → (w'.cell? ⟨p5, 0, none⟩ = some (.string (txtOf l4)) ∧ w'.cell? ⟨p5, 1, none⟩ = some (.slice A5 (runN l4) c5) ∧ w'.cell? ⟨p6, 0, none⟩ = some (.string (txtOf l9)) ∧ w'.cell? ⟨p6, 1, none⟩ = some (.slice A6 (runN l9) c6) ∧ w'.cell? ⟨w.heap.size, 0, none⟩ = some (.string sa) ∧ w'.cell? ⟨w.heap.size, 1, none⟩ = some (.slice Aa na ca) ∧ w'.cell? ⟨w.heap.size + 1, 0, none⟩ = some (.string sb) ∧ w'.cell? ⟨w.heap.size + 1, 1, none⟩ = some (.slice Ab nb cb) ∧ Below wc.heap.size wc w') := fun w' h =>
      ⟨(h.cell hW5.lt).trans (hW5.at_ 0), (h.cell hW5.lt).trans (hW5.at_ 1), (h.cell hW6.lt).trans (hW6.at_ 0), (h.cell hW6.lt).trans (hW6.at_ 1), (h.cell hW0.lt).trans (hW0.at_ 0), (h.cell hW0.lt).trans (hW0.at_ 1), (h.cell hW1.lt).trans (hW1.at_ 0), (h.cell hW1.lt).trans (hW1.at_ 1), h⟩
    have HKS := Lib.hid KS
    have HBF := Lib.hid hbF
    have HBB : Hid (∀ W, Below wc.heap.size wc W → Below w.heap.size w W) := fun W h => hbF.trans (h.mono hbF.size)
    clear KS hbF hL5 hL6 hbw hbc
    obtain ⟨q1, q2, q3, q4, q5, q6, q7, q8, _⟩ := HKS.out _ (Below.refl _ _)
    go_wp2_with fail
    go_region_held3 (fun w' => w'.cell? ⟨p5, 0, none⟩ = some (.string (txtOf l4)) ∧ w'.cell? ⟨p5, 1, none⟩ = some (.slice A5 (runN l4) c5) ∧ w'.cell? ⟨p6, 0, none⟩ = some (.string (txtOf l9)) ∧ w'.cell? ⟨p6, 1, none⟩ = some (.slice A6 (runN l9) c6) ∧ w'.cell? ⟨w.heap.size, 0, none⟩ = some (.string sa) ∧ w'.cell? ⟨w.heap.size, 1, none⟩ = some (.slice Aa na ca) ∧ w'.cell? ⟨w.heap.size + 1, 0, none⟩ = some (.string sb) ∧ w'.cell? ⟨w.heap.size + 1, 1, none⟩ = some (.slice Ab nb cb) ∧ Below wc.heap.size wc w')
      (first
        | exact HKS.out _ (Below.drew (Below.refl _ _))
        | exact HKS.out _ hK
        | (go_split_ands; exact HKS.out _ (by assumption))
        | (go_split_ands; exact HKS.out _ (Below.alloc (by assumption) (Below.size (by assumption)) _)))
      (first
        | (go_at_call_of 13 (Aa); refine (HWA.out _ (HBB.out _ ?_)).mono ?_; (go_split_ands; assumption); rintro e wa1 ⟨D1, k1, rfl, hd1, hb1⟩; have HD1 := Lib.hid hd1; clear hd1; have hK : Below wc.heap.size wc wa1 := (by go_split_ands; exact below_next (by assumption) (Nat.le_refl _) hb1))
        | (go_at_call_of 13 (Ab); refine (HWB.out _ (HBB.out _ ?_)).mono ?_; (go_split_ands; assumption); rintro e wa2 ⟨D2, k2, rfl, hd2, hb2⟩; have HD2 := Lib.hid hd2; clear hd2; have HE1 := Lib.hid (HD1.out.next hb2 (Nat.le_refl _)); have hK : Below wc.heap.size wc wa2 := (by go_split_ands; exact below_next (by assumption) (Nat.le_refl _) hb2))
        | (go_at_call_of 22 (wa2.heap.size); refine (FC1.out _ _ D1 D2 k1 k2 (Whole.made _ _ _) (HE1.out.next ((Below.refl _ _).alloc (Nat.le_refl _) _) (Nat.le_refl _)) (HD2.out.next ((Below.refl _ _).alloc (Nat.le_refl _) _) (Nat.le_refl _))).mono ?_; rintro e wa3 ⟨D3, k3, rfl, hd3, hb3⟩; have HD3 := Lib.hid hd3; clear hd3; have hK : Below wc.heap.size wc wa3 := (by go_split_ands; exact below_next (by assumption) (Nat.le_refl _) hb3))
        | (go_at_call_of 19 (D3); refine (FS4.out _ A5 D3 c5 k3 (M5.out.next (by go_split_ands; assumption) (Nat.le_refl _)) HD3.out).mono ?_; rintro e wa4 ⟨rfl, hb4⟩; have hK : Below wc.heap.size wc wa4 := (by go_split_ands; exact below_next (by assumption) (Nat.le_refl _) hb4))
        | (go_at_call_of 14 (Aa); refine (HVVA.out _ (HBB.out _ ?_)).mono ?_; (go_split_ands; assumption); rintro e wa5 ⟨D5, k5, rfl, hd5, hb5⟩; have HD5 := Lib.hid hd5; clear hd5; have hK : Below wc.heap.size wc wa5 := (by go_split_ands; exact below_next (by assumption) (Nat.le_refl _) hb5))
        | (go_at_call_of 14 (Ab); refine (HVVB.out _ (HBB.out _ ?_)).mono ?_; (go_split_ands; assumption); rintro e wa6 ⟨D6, k6, rfl, hd6, hb6⟩; have HD6 := Lib.hid hd6; clear hd6; have HE5 := Lib.hid (HD5.out.next hb6 (Nat.le_refl _)); have hK : Below wc.heap.size wc wa6 := (by go_split_ands; exact below_next (by assumption) (Nat.le_refl _) hb6))
        | (go_at_call_of 22 (wa6.heap.size); refine (FC2.out _ _ D5 D6 k5 k6 (Whole.made _ _ _) (HE5.out.next ((Below.refl _ _).alloc (Nat.le_refl _) _) (Nat.le_refl _)) (HD6.out.next ((Below.refl _ _).alloc (Nat.le_refl _) _) (Nat.le_refl _))).mono ?_; rintro e wa7 ⟨D7, k7, rfl, hd7, hb7⟩; have HD7 := Lib.hid hd7; clear hd7; have hK : Below wc.heap.size wc wa7 := (by go_split_ands; exact below_next (by assumption) (Nat.le_refl _) hb7))
        | (go_at_call_of 19 (D7); refine (FS9.out _ A6 D7 c6 k7 (M6.out.next (by go_split_ands; assumption) (Nat.le_refl _)) HD7.out).mono ?_; rintro e wa8 ⟨rfl, hb8⟩; have hK : Below wc.heap.size wc wa8 := (by go_split_ands; exact below_next (by assumption) (Nat.le_refl _) hb8))
        | (go_at_call_of 23 (A5); refine (FW4.out _ A5 c5 (M5.out.next (by go_split_ands; assumption) (Nat.le_refl _))).mono ?_; rintro e wa9 ⟨rfl, hb9⟩; have hK : Below wc.heap.size wc wa9 := (by go_split_ands; exact below_next (by assumption) (Nat.le_refl _) hb9))
        | (go_at_call_of 22 (wa9.heap.size); refine (HCAT.out _ _ (HBB.out _ ?_) (Whole.made _ _ _)).mono ?_; (go_split_ands; exact Below.alloc (by assumption) (Below.size (by assumption)) _); rintro e wa10 hh10; obtain ⟨D10, k10, rfl, hd10, hb10⟩ := tellsL_of hh10; have HD10 := Lib.hid hd10; clear hd10 hh10; have hK : Below wc.heap.size wc wa10 := (by go_split_ands; exact below_next (by assumption) (Nat.le_refl _) hb10))
        | (go_at_call_of 22 (wa8.heap.size); refine (HCAT.out _ _ (HBB.out _ ?_) ((Whole.made _ _ _).below hb9 (by simp))).mono ?_; (go_split_ands; assumption); rintro e wa10 hh10; obtain ⟨D10, k10, rfl, hd10, hb10⟩ := tellsL_of hh10; have HD10 := Lib.hid hd10; clear hd10 hh10; have hK : Below wc.heap.size wc wa10 := (by go_split_ands; exact below_next (by assumption) (Nat.le_refl _) hb10))
        | (go_at_call_of 23 (D10); refine (FW3.out _ D10 k10 HD10.out).mono ?_; rintro e wa11 ⟨rfl, hb11⟩; have hK : Below wc.heap.size wc wa11 := (by go_split_ands; exact below_next (by assumption) (Nat.le_refl _) hb11)))
    all_goals
      go_wp2_with fail
      go_ret
      exact ⟨by first | rfl | exact ret_bool (by simp), HBB.out _ hK⟩

end Go.Proofs.Ytfmjnmijhbnnjaa.mk
