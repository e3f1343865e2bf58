/-
  The walk of the statement EscapeTells.
-/
import Derived.Test.YtfmjnmijhbnnjaaEscAlive
import Derived.Test.YtfmjnmijhbnnjaaEscLaw
import Derived.Test.YtfmjnmijhbnnjaaEscQuoted
import Derived.Test.YtfmjnmijhbnnjaaEscRaw
import Derived.Test.YtfmjnmijhbnnjaaUtfRef
import Derived.Test.YtfmjnmijhbnnjaaMarkRefOf
import Derived.Test.YtfmjnmijhbnnjaaMarkRefCat
namespace Go.Proofs.Ytfmjnmijhbnnjaa.mk
open Go.RowKit

/-- a row of bytes with their origins that was told, with its length -/
def RowN (l : List (UInt8 × Int)) (n : Nat) (W : World) (e : Ending) (w' : World) : Prop :=
  ∃ D k, e = .returned (.slice D n k) ∧ (D = none → k = 0) ∧ Lies w' w'.heap.size D (chCells l) ∧ Below W.heap.size W w'
theorem rowN_of {l : List (UInt8 × Int)} {n : Nat} {W : World} {e : Ending} {w' : World} (h : ∃ v, e = .returned v ∧ w'.ownsRow W.heap.size 33 2 v n (chCells l) ∧ Below W.heap.size W w') : RowN l n W e w' := by
  obtain ⟨v, rfl, ho, hb⟩ := h
  obtain ⟨D, k, rfl, hk, _, _⟩ := own_form ho
  exact ⟨D, k, rfl, hk, Lies.own ho, hb⟩
theorem all_one (b : UInt8) (W : World) : Calls Try.prog 8 #[.string ⟨#[b]⟩, .int .i64 0] W (RowN [(b, 0)] 1 W) := by
  refine (all_any ⟨#[b]⟩ 0 W (by show (1 : Nat) ≤ _; omega)).mono fun e w' h => rowN_of ?_
  rw [putE_all9 ⟨by omega, by omega⟩] at h
  exact h
theorem cat_n (xs ys : List (UInt8 × Int)) (n m q : Nat) (W : World) (D E : Option Addr) (k d : Nat) (hn : xs.length = n) (hm : ys.length = m) (hq : n + m = q) (h1 : n ≤ 4294967296) (h2 : m ≤ 4294967296) (hD : Lies W W.heap.size D (chCells xs)) (hk : D = none → k = 0) (hE : Lies W W.heap.size E (chCells ys)) (hd : E = none → d = 0) :
    Calls Try.prog 9 #[.slice D n k, .slice E m d] W (RowN (xs ++ ys) q W) := by
  subst hq
  exact (refCat_any D E n m k d xs ys W hD hE hk hd hn hm h1 h2).mono fun e w' h => rowN_of h
theorem is_n (l : List (UInt8 × Int)) (n : Nat) (hn : l.length = n) (hz : n ≤ 4294967296) (W : World) (D : Option Addr) (k : Nat) (E : Option Addr) (d : Nat) (h1 : Lies W W.heap.size D (runCells (comp (l.map (·.2))))) (h2 : Lies W W.heap.size E (chCells l)) :
    Calls Try.prog 12 #[.agg #[.string (txtOf l), .slice D (runN l) k], .slice E n d] W (SaysB (.bool true) W) := by
  subst hn
  have := runN_le l
  exact isL_true l (by omega) (by omega) W D k E d h1 h2
/-- may the first k bytes stand raw -/
def rk (vb : Bool) (L : List (UInt8 × Int)) (k : Nat) : Bool := vb && (L.take k).all fun x => x.1 != 60 && x.1 != 13
theorem rk_next {vb : Bool} {L : List (UInt8 × Int)} {k : Nat} {b : UInt8} {o : Int} (h : L[k]? = some (b, o)) : rk vb L (k + 1) = (rk vb L k && (b != 60 && b != 13)) := by
  unfold rk
  rw [take_next h, List.all_append, Bool.and_assoc]
  simp
theorem rk_all {s : ByteArray} {L : List (UInt8 × Int)} (h : L.map (·.1) = s.data.toList) {n : Nat} (hn : L.length = n) : rk (validB s.data.toList) L n = rawB s.data.toList := by
  unfold rk rawB
  rw [List.take_of_length_le (by omega), Bool.and_comm, ← h]
  congr 1
  induction L generalizing s n with
  | nil => rfl
  | cons x l ih =>
    have hq := ih (s := ⟨(l.map (·.1)).toArray⟩) rfl rfl
    rw [List.map_cons, List.all_cons, List.any_cons, hq, Bool.not_or]
    congr 1
    cases h1 : (x.1 != 60 && x.1 != 13) <;> cases h2 : ([60, 13].contains x.1) <;> simp_all

def RawRel (vb : Bool) (L : List (UInt8 × Int)) (n : Nat) (w0 : World) (r i : Value) (wr : World) : Prop :=
  ∃ k : Nat, k ≤ n ∧ i = .int .i64 (k : Int) ∧ r = .bool (rk vb L k) ∧ wr = w0

set_option maxHeartbeats 4000000 in
set_option maxRecDepth 100000 in
theorem tells9_any (a b : LT) (w : World) (ha : a.ok w w.heap.size) (hb : b.ok w w.heap.size) (hsza : a.s.size ≤ 1048576) (hszb : b.s.size ≤ 1048576) :
    Calls Try.prog 3 #[a.v, b.v] w fun e w' => e = .returned (.bool true) ∧ Below w.heap.size w w' := by
  obtain ⟨L, hL⟩ : ∃ L, L = a.ch := ⟨_, rfl⟩
  obtain ⟨N, hN⟩ : ∃ N, N = b.ch := ⟨_, rfl⟩
  have hlL : L.length = a.s.size := by rw [hL]; exact LT.ch_length _
  have hlN : N.length = b.s.size := by rw [hN]; exact LT.ch_length _
  have hiL : InR L := by rw [hL]; exact a.ch_in
  have hfL : L.map (·.1) = a.s.data.toList := by rw [hL]; exact LT.ch_fst a
  have HW : Hid (∀ W, Below w.heap.size w W → Calls Try.prog 13 #[.agg #[.string a.s, .slice a.A a.n a.c]] W (TellsL (escL false L) W)) := fun W h => by
    rw [hL]; exact (words_any a W (ha.next h (Nat.le_refl _)) (by omega)).mono fun e w' h => tellsL_of h
  have HV : Hid (∀ W, Below w.heap.size w W → Calls Try.prog 14 #[.agg #[.string a.s, .slice a.A a.n a.c]] W (TellsL (escL true L) W)) := fun W h => by
    rw [hL]; exact (value_any a W (ha.next h (Nat.le_refl _)) (by omega)).mono fun e w' h => tellsL_of h
  have HQ : Hid (∀ W, Below w.heap.size w W → Calls Try.prog 15 #[.agg #[.string a.s, .slice a.A a.n a.c]] W (TellsL (quoL L) W)) := fun W h => by
    rw [hL]; exact (quoted_any a W (ha.next h (Nat.le_refl _)) (by omega)).mono fun e w' h => tellsL_of h
  have HP : Hid (∀ W, Below w.heap.size w W → Calls Try.prog 16 #[.agg #[.string b.s, .slice b.A b.n b.c], .agg #[.string a.s, .slice a.A a.n a.c]] W (TellsL (pairL N L) W)) := fun W h => by
    rw [hL, hN]; exact (pair_any b a W (hb.next h (Nat.le_refl _)) (ha.next h (Nat.le_refl _)) (by omega) (by omega)).mono fun e w' h => tellsL_of h
  obtain ⟨vb, hvb⟩ : ∃ vb, vb = validB a.s.data.toList := ⟨_, rfl⟩
  have hrk : rk vb L a.s.size = rawB a.s.data.toList := by rw [hvb]; exact rk_all hfL hlL
  have HRW : Hid (∀ W, Calls Try.prog 17 #[.agg #[.string a.s, .slice a.A a.n a.c]] W (SaysB (.bool (rk vb L a.s.size)) W)) := fun W => by
    rw [hrk]; exact raw_any a.s a.A a.n a.c W (by omega)
  have HRV : Hid (∀ W, Calls Try.prog 11 #[.string a.s] W (SaysB (.bool vb) W)) := fun W => by
    rw [hvb]; exact refValid_any a.s W (by omega)
  have HOA : Hid (∀ W, Below w.heap.size w W → Calls Try.prog 7 #[.agg #[.string a.s, .slice a.A a.n a.c]] W (RowN L a.s.size W)) := fun W h => by
    rw [hL]
    have hk := ha.next h (Nat.le_refl _)
    exact (refOf_any a.s a.A a.n a.c a.rs W hk.1 hk.2.1 hk.2.2.2 hk.2.2.1).mono fun e w' h => rowN_of h
  have HOB : Hid (∀ W, Below w.heap.size w W → Calls Try.prog 7 #[.agg #[.string b.s, .slice b.A b.n b.c]] W (RowN N b.s.size W)) := fun W h => by
    rw [hN]
    have hk := hb.next h (Nat.le_refl _)
    exact (refOf_any b.s b.A b.n b.c b.rs W hk.1 hk.2.1 hk.2.2.2 hk.2.2.1).mono fun e w' h => rowN_of h
  have HA34 : Hid (∀ W, Calls Try.prog 8 #[.string ⟨#[34]⟩, .int .i64 0] W (RowN [(34, 0)] 1 W)) := fun W => all_one 34 W
  have HA32 : Hid (∀ W, Calls Try.prog 8 #[.string ⟨#[32]⟩, .int .i64 0] W (RowN [(32, 0)] 1 W)) := fun W => all_one 32 W
  have HA61 : Hid (∀ W, Calls Try.prog 8 #[.string ⟨#[61]⟩, .int .i64 0] W (RowN [(61, 0)] 1 W)) := fun W => all_one 61 W
  have hl0 := (escL_len false L).2
  have hl1 := (escL_len true L).2
  obtain ⟨T0, hT0⟩ : ∃ T, T = escL false L := ⟨_, rfl⟩
  obtain ⟨T1, hT1⟩ : ∃ T, T = escL true L := ⟨_, rfl⟩
  obtain ⟨TQ, hTQ⟩ : ∃ T, T = quoL L := ⟨_, rfl⟩
  obtain ⟨TP, hTP⟩ : ∃ T, T = pairL N L := ⟨_, rfl⟩
  have eQ : TQ = ([(34, 0)] ++ T1) ++ [(34, 0)] := by rw [hTQ, hT1]; rfl
  have eP : TP = ([(32, 0)] ++ N) ++ ([(61, 0)] ++ TQ) := by rw [hTP, hTQ]; rfl
  have HLW0 : Hid (∀ W D k, Lies W W.heap.size D (chCells L) → Calls Try.prog 10 #[.slice D a.s.size k, .bool false] W (RowN T0 T0.length W)) := fun W D k h => by
    rw [hT0]; exact (lawWords_any L D a.s.size k false W h hlL hiL (by omega)).mono fun e w' h => rowN_of h
  have HLW1 : Hid (∀ W D k, Lies W W.heap.size D (chCells L) → Calls Try.prog 10 #[.slice D a.s.size k, .bool true] W (RowN T1 T1.length W)) := fun W D k h => by
    rw [hT1]; exact (lawWords_any L D a.s.size k true W h hlL hiL (by omega)).mono fun e w' h => rowN_of h
  rw [← hT0] at HW hl0
  rw [← hT1] at HV hl1
  rw [← hTQ] at HQ
  rw [← hTP] at HP
  obtain ⟨n0, hn0⟩ : ∃ n, T0.length = n := ⟨_, rfl⟩
  obtain ⟨n1, hn1⟩ : ∃ n, T1.length = n := ⟨_, rfl⟩
  obtain ⟨nA, hnA⟩ : ∃ n, 1 + n1 = n := ⟨_, rfl⟩
  obtain ⟨nQ, hnQ⟩ : ∃ n, nA + 1 = n := ⟨_, rfl⟩
  obtain ⟨nC, hnC⟩ : ∃ n, 1 + b.s.size = n := ⟨_, rfl⟩
  obtain ⟨nD, hnD⟩ : ∃ n, 1 + nQ = n := ⟨_, rfl⟩
  obtain ⟨nP, hnP⟩ : ∃ n, nC + nD = n := ⟨_, rfl⟩
  have hlA : (([(34, 0)] : List (UInt8 × Int)) ++ T1).length = nA := by rw [List.length_append, hn1]; exact hnA
  have hlQ : TQ.length = nQ := by rw [eQ, List.length_append, hlA]; exact hnQ
  have hlC : (([(32, 0)] : List (UInt8 × Int)) ++ N).length = nC := by rw [List.length_append, hlN]; exact hnC
  have hlD : (([(61, 0)] : List (UInt8 × Int)) ++ TQ).length = nD := by rw [List.length_append, hlQ]; exact hnD
  have hlP : TP.length = nP := by rw [eP, List.length_append, hlC, hlD]; exact hnP
  rw [hn0] at HLW0
  rw [hn1] at HLW1
  have HC1 : Hid (∀ W D k E d, Lies W W.heap.size D (chCells [(34, 0)]) → (D = none → k = 0) → Lies W W.heap.size E (chCells T1) → (E = none → d = 0) → Calls Try.prog 9 #[.slice D 1 k, .slice E n1 d] W (RowN ([(34, 0)] ++ T1) nA W)) := fun W D k E d h1 h2 h3 h4 => cat_n _ _ 1 n1 nA W D E k d rfl hn1 hnA (by omega) (by omega) h1 h2 h3 h4
  have HC2 : Hid (∀ W D k E d, Lies W W.heap.size D (chCells ([(34, 0)] ++ T1)) → (D = none → k = 0) → Lies W W.heap.size E (chCells [(34, 0)]) → (E = none → d = 0) → Calls Try.prog 9 #[.slice D nA k, .slice E 1 d] W (RowN TQ nQ W)) := fun W D k E d h1 h2 h3 h4 => by
    rw [eQ]; exact cat_n _ _ nA 1 nQ W D E k d hlA rfl hnQ (by omega) (by omega) h1 h2 h3 h4
  have HC3 : Hid (∀ W D k E d, Lies W W.heap.size D (chCells [(32, 0)]) → (D = none → k = 0) → Lies W W.heap.size E (chCells N) → (E = none → d = 0) → Calls Try.prog 9 #[.slice D 1 k, .slice E b.s.size d] W (RowN ([(32, 0)] ++ N) nC W)) := fun W D k E d h1 h2 h3 h4 => cat_n _ _ 1 b.s.size nC W D E k d rfl hlN hnC (by omega) (by omega) h1 h2 h3 h4
  have HC4 : Hid (∀ W D k E d, Lies W W.heap.size D (chCells [(61, 0)]) → (D = none → k = 0) → Lies W W.heap.size E (chCells TQ) → (E = none → d = 0) → Calls Try.prog 9 #[.slice D 1 k, .slice E nQ d] W (RowN ([(61, 0)] ++ TQ) nD W)) := fun W D k E d h1 h2 h3 h4 => cat_n _ _ 1 nQ nD W D E k d rfl hlQ hnD (by omega) (by omega) h1 h2 h3 h4
  have HC5 : Hid (∀ W D k E d, Lies W W.heap.size D (chCells ([(32, 0)] ++ N)) → (D = none → k = 0) → Lies W W.heap.size E (chCells ([(61, 0)] ++ TQ)) → (E = none → d = 0) → Calls Try.prog 9 #[.slice D nC k, .slice E nD d] W (RowN TP nP W)) := fun W D k E d h1 h2 h3 h4 => by
    rw [eP]; exact cat_n _ _ nC nD nP W D E k d hlC hlD hnP (by omega) (by omega) h1 h2 h3 h4
  have HI0 : Hid (∀ W D k E d, Lies W W.heap.size D (runCells (comp (T0.map (·.2)))) → Lies W W.heap.size E (chCells T0) → Calls Try.prog 12 #[.agg #[.string (txtOf T0), .slice D (runN T0) k], .slice E n0 d] W (SaysB (.bool true) W)) := fun W D k E d h1 h2 => is_n T0 n0 hn0 (by omega) W D k E d h1 h2
  have HI1 : Hid (∀ W D k E d, Lies W W.heap.size D (runCells (comp (T1.map (·.2)))) → Lies W W.heap.size E (chCells T1) → Calls Try.prog 12 #[.agg #[.string (txtOf T1), .slice D (runN T1) k], .slice E n1 d] W (SaysB (.bool true) W)) := fun W D k E d h1 h2 => is_n T1 n1 hn1 (by omega) W D k E d h1 h2
  have HIQ : Hid (∀ W D k E d, Lies W W.heap.size D (runCells (comp (TQ.map (·.2)))) → Lies W W.heap.size E (chCells TQ) → Calls Try.prog 12 #[.agg #[.string (txtOf TQ), .slice D (runN TQ) k], .slice E nQ d] W (SaysB (.bool true) W)) := fun W D k E d h1 h2 => is_n TQ nQ hlQ (by omega) W D k E d h1 h2
  have HIP : Hid (∀ W D k E d, Lies W W.heap.size D (runCells (comp (TP.map (·.2)))) → Lies W W.heap.size E (chCells TP) → Calls Try.prog 12 #[.agg #[.string (txtOf TP), .slice D (runN TP) k], .slice E nP d] W (SaysB (.bool true) W)) := fun W D k E d h1 h2 => is_n TP nP hlP (by omega) W D k E d h1 h2
  have HLL := Lib.hid hlL
  clear hL hN hlL hlN hiL hfL hvb hrk hl0 hl1 hT0 hT1 hTQ hTP eQ eP hn0 hn1 hnA hnQ hnC hnD hnP hlA hlQ hlC hlD hlP ha hb
  obtain ⟨s, A, m, c, rs⟩ := a
  obtain ⟨t, B, p, d, qs⟩ := b
  simp only at HW HV HQ HP HRW HRV HOA HOB HLW0 HLW1 HC3 HLL hsza hszb
  show Calls Try.prog 3 #[.agg #[.string s, .slice A m c], .agg #[.string t, .slice B p d]] w _
  go_enter Try.func3, Try.ntmps3
  go_wp2_with fail
  refine (alive9_any _).mono ?_
  rintro e w1 ⟨rfl, hb1⟩
  simp only [World.size_alloc] at hb1
  have y0 : Whole w1 w.heap.size 24 #[.string s, .slice A m c] := ((Whole.made w _ _).alloc _).below hb1 (by omega)
  have y1 : Whole w1 (w.heap.size + 1) 24 #[.string t, .slice B p d] := by
    have h := Whole.made (w.alloc (.cells #[.string s, .slice A m c] 24)) 24 #[.string t, .slice B p d]
    simp only [World.size_alloc] at h
    exact h.below hb1 (by omega)
  have hbw : Below w.heap.size w w1 := (((Below.refl _ _).alloc (Nat.le_refl _) _).alloc (by simp) _).trans (hb1.mono (by omega))
  have HKS : Hid (∀ w', Below w1.heap.size w1 w' → w'.cell? ⟨w.heap.size, 0, none⟩ = some (.string s) ∧ w'.cell? ⟨w.heap.size, 1, none⟩ = some (.slice A m c) ∧ w'.cell? ⟨w.heap.size + 1, 0, none⟩ = some (.string t) ∧ w'.cell? ⟨w.heap.size + 1, 1, none⟩ = some (.slice B p d)) := fun w' h =>
    ⟨(h.cell y0.lt).trans (y0.at_ 0), (h.cell y0.lt).trans (y0.at_ 1), (h.cell y1.lt).trans (y1.at_ 0), (h.cell y1.lt).trans (y1.at_ 1)⟩
  have HBW : Hid (∀ w', Below w1.heap.size w1 w' → Below w.heap.size w w') := fun w' h => hbw.trans (h.mono hbw.size)
  have B1 := Below.refl w1.heap.size w1
  obtain ⟨e0, e1, e2, e3⟩ := HKS.out _ B1
  clear hb1 hbw
  go_wp2_with fail
  refine (HOA.out _ (HBW.out _ B1)).mono ?_
  rintro e w2 ⟨D2, k2, rfl, hk2, hl2, hb2⟩
  have B2 := below_next B1 (Nat.le_refl _) hb2
  clear B1 e0 e1 e2 e3
  obtain ⟨e0, e1, e2, e3⟩ := HKS.out _ B2
  go_wp2_with fail
  refine (HA34.out _).mono ?_
  rintro e w3 ⟨D3, k3, rfl, hk3, hl3, hb3⟩
  have B3 := below_next B2 (Nat.le_refl _) hb3
  have L2 := hl2.next hb3 (Nat.le_refl _)
  clear B2 e0 e1 e2 e3
  obtain ⟨e0, e1, e2, e3⟩ := HKS.out _ B3
  go_wp2_with fail
  refine (HLW1.out _ D2 k2 L2).mono ?_
  rintro e w4 ⟨D4, k4, rfl, hk4, hl4, hb4⟩
  have B4 := below_next B3 (Nat.le_refl _) hb4
  have M2 := L2.next hb4 (Nat.le_refl _)
  have M3 := hl3.next hb4 (Nat.le_refl _)
  clear B3 e0 e1 e2 e3
  obtain ⟨e0, e1, e2, e3⟩ := HKS.out _ B4
  go_wp2_with fail
  refine (HC1.out _ D3 k3 D4 k4 M3 hk3 hl4 hk4).mono ?_
  rintro e w5 ⟨D5, k5, rfl, hk5, hl5, hb5⟩
  have B5 := below_next B4 (Nat.le_refl _) hb5
  have N2 := M2.next hb5 (Nat.le_refl _)
  have N3 := M3.next hb5 (Nat.le_refl _)
  clear B4 e0 e1 e2 e3
  obtain ⟨e0, e1, e2, e3⟩ := HKS.out _ B5
  go_wp2_with fail
  refine (HC2.out _ D5 k5 D3 k3 hl5 hk5 N3 hk3).mono ?_
  rintro e w6 ⟨D7, k7, rfl, hk7, hl7, hb6⟩
  have B6 := below_next B5 (Nat.le_refl _) hb6
  have P2 := N2.next hb6 (Nat.le_refl _)
  clear B5 e0 e1 e2 e3 hl2 L2 M2 N2 hl3 M3 N3 hl4 hl5 hb2 hb3 hb4 hb5 hb6 y0 y1 hk4 hk5 hk3
  have G7 := Lib.hid hk7
  have L7 := Lib.hid hl7
  have G2 := Lib.hid hk2
  have L2 := Lib.hid P2
  clear hk7 hl7 hk2 P2
  have HK6 : Hid (∀ w', Below w6.heap.size w6 w' → w'.cell? ⟨w.heap.size + 1, 0, none⟩ = some (.string t) ∧ w'.cell? ⟨w.heap.size + 1, 1, none⟩ = some (.slice B p d) ∧ Below w6.heap.size w6 w') := fun w' h => by
    obtain ⟨_, _, h2, h3⟩ := HKS.out _ (below_next B6 (Nat.le_refl _) h)
    exact ⟨h2, h3, h⟩
  have HOB6 : Hid (∀ W, Below w6.heap.size w6 W → Calls Try.prog 7 #[.agg #[.string t, .slice B p d]] W (RowN N t.size W)) := fun W h => HOB.out W (HBW.out _ (below_next B6 (Nat.le_refl _) h))
  go_wp2_with fail
  obtain ⟨e2, e3, _⟩ := HK6.out _ (Below.refl _ _)
  go_region_held3 (fun w' => w'.cell? ⟨w.heap.size + 1, 0, none⟩ = some (.string t) ∧ w'.cell? ⟨w.heap.size + 1, 1, none⟩ = some (.slice B p d) ∧ Below w6.heap.size w6 w')
    (first
      | exact HK6.out _ (Below.drew (Below.refl _ _))
      | exact HK6.out _ hK
      | (go_split_ands; exact HK6.out _ (by assumption)))
    (first
      | (go_at_call_of 8 (ByteArray.mk #[32]); refine (HA32.out _).mono ?_; rintro e wa ⟨D22, k22, rfl, hk22, hl22, hb22⟩; have G22 := Lib.hid hk22; have H22 := Lib.hid hl22; clear hk22 hl22; have hK : Below w6.heap.size w6 wa := (by go_split_ands; exact below_next (by assumption) (Nat.le_refl _) hb22); clear hb22)
      | (go_at_call 7; refine (HOB6.out _ hK).mono ?_; rintro e wb ⟨D24, k24, rfl, hk24, hl24, hb24⟩; have G24 := Lib.hid hk24; have H24 := Lib.hid hl24; have I22 := Lib.hid (H22.out.next hb24 (Nat.le_refl _)); clear hk24 hl24; have hK : Below w6.heap.size w6 wb := (by go_split_ands; exact below_next (by assumption) (Nat.le_refl _) hb24); clear hb24)
      | (go_at_call_of 9 (D22); refine (HC3.out _ D22 k22 D24 k24 I22.out G22.out H24.out G24.out).mono ?_; rintro e wc ⟨D25, k25, rfl, hk25, hl25, hb25⟩; have G25 := Lib.hid hk25; have H25 := Lib.hid hl25; clear hk25 hl25; have hK : Below w6.heap.size w6 wc := (by go_split_ands; exact below_next (by assumption) (Nat.le_refl _) hb25); clear hb25)
      | (go_at_call_of 8 (ByteArray.mk #[61]); refine (HA61.out _).mono ?_; rintro e wd ⟨D26, k26, rfl, hk26, hl26, hb26⟩; have G26 := Lib.hid hk26; have H26 := Lib.hid hl26; have I25 := Lib.hid (H25.out.next hb26 (Nat.le_refl _)); clear hk26 hl26; have hK : Below w6.heap.size w6 wd := (by go_split_ands; exact below_next (by assumption) (Nat.le_refl _) hb26); clear hb26)
      | (go_at_call_of 9 (D26); refine (HC4.out _ D26 k26 D7 k7 H26.out G26.out (L7.out.next hK (Nat.le_refl _)) G7.out).mono ?_; rintro e we ⟨D28, k28, rfl, hk28, hl28, hb28⟩; have G28 := Lib.hid hk28; have H28 := Lib.hid hl28; have J25 := Lib.hid (I25.out.next hb28 (Nat.le_refl _)); clear hk28 hl28; have hK : Below w6.heap.size w6 we := (by go_split_ands; exact below_next (by assumption) (Nat.le_refl _) hb28); clear hb28)
      | (go_at_call_of 9 (D25); refine (HC5.out _ D25 k25 D28 k28 J25.out G25.out H28.out G28.out).mono ?_; rintro e wf ⟨D8, k8, rfl, hk8, hl8, hb8⟩; have L8 := Lib.hid hl8; clear hk8 hl8; have hK : Below w6.heap.size w6 wf := (by go_split_ands; exact below_next (by assumption) (Nat.le_refl _) hb8); clear hb8))
  all_goals
    have BF : Below w1.heap.size w1 wf := below_next B6 (Nat.le_refl _) hK
    have M2 := L2.out.next hK (Nat.le_refl _)
    have M7 := L7.out.next hK (Nat.le_refl _)
    clear e2 e3 hK
    obtain ⟨e0, e1, e2, e3⟩ := HKS.out _ BF
    go_wp2_with fail
    refine (HRV.out _).mono ?_
    rintro e wg ⟨rfl, hbg⟩
    have BG := below_next BF (Nat.le_refl _) hbg
    have Q2 := Lib.hid (M2.next hbg (Nat.le_refl _))
    have Q7 := Lib.hid (M7.next hbg (Nat.le_refl _))
    have Q8 := Lib.hid (L8.out.next hbg (Nat.le_refl _))
    clear e0 e1 e2 e3 hbg BF M2 M7
    obtain ⟨e0, e1, e2, e3⟩ := HKS.out _ BG
    go_wp2_with fail
    go_loopw [9, 10] (RawRel vb L s.size wg) (fun _ i _ => s.size - (intOf i).toNat)
    case atStart => exact ⟨0, Nat.zero_le _, rfl, by simp [rk], rfl⟩
    case round =>
      obtain ⟨k, hk, rfl, rfl, rfl⟩ := hrel
      by_cases hlt : k < s.size
      · obtain ⟨ad, x, o, rfl, hb, hc1, hc2, HR⟩ := Q2.out.ch (k := k) (by rw [HLL.out]; exact hlt)
        have hk0 : (0 : Int) ≤ (k : Int) := Int.natCast_nonneg _
        have hk1 : (k : Int) < (s.size : Int) := by omega
        have HNX := Lib.hid (rk_next (vb := vb) HR.out)
        generalize hq : rk vb L k = q at *
        have HQQ := Lib.hid hq
        clear hq
        cases q with
        | false =>
          go_wp2_with fail
          go_roundw
          case rel => exact ⟨k + 1, by omega, by go_num, by rw [HNX.out]; rfl, rfl⟩
          case measure => simp [intOf]; omega
        | true =>
          by_cases h1 : x = 60
          · subst h1
            go_wp2_with fail
            go_roundw
            case rel => exact ⟨k + 1, by omega, by go_num, by rw [HNX.out]; rfl, rfl⟩
            case measure => simp [intOf]; omega
          have n1 : ¬ ((x.toNat : Int) = 60) := fun e => h1 (UInt8.toNat_inj.1 (by show x.toNat = 60; omega))
          by_cases h2 : x = 13
          · subst h2
            go_wp2_with fail
            go_roundw
            case rel => exact ⟨k + 1, by omega, by go_num, by rw [HNX.out]; rfl, rfl⟩
            case measure => simp [intOf]; omega
          have n2 : ¬ ((x.toNat : Int) = 13) := fun e => h2 (UInt8.toNat_inj.1 (by show x.toNat = 13; omega))
          have HXX : Hid ((true && (x != 60 && x != 13)) = true) := by show _ = _; simp [h1, h2]
          clear h1 h2
          go_wp2_with fail
          go_roundw
          case rel => exact ⟨k + 1, by omega, by go_num, by rw [HNX.out, HXX.out]; simp [n1, n2], rfl⟩
          case measure => simp [intOf]; omega
      · have hkn : k = s.size := by omega
        subst hkn
        generalize rk vb L s.size = r at *
        go_wp2_with fail
        refine (HW.out _ (HBW.out _ BG)).mono ?_
        rintro e w20 ⟨F1, g1, rfl, hf1, hb1⟩
        have C1 := below_next BG (Nat.le_refl _) hb1
        have Q2_1 := Lib.hid (Q2.out.next hb1 (Nat.le_refl _))
        have Q7_1 := Lib.hid (Q7.out.next hb1 (Nat.le_refl _))
        have Q8_1 := Lib.hid (Q8.out.next hb1 (Nat.le_refl _))
        clear e0 e1 e2 e3
        obtain ⟨e0, e1, e2, e3⟩ := HKS.out _ C1
        go_wp2_with fail
        refine (HLW0.out _ D2 k2 Q2_1.out).mono ?_
        rintro e w21 ⟨F2, g2, rfl, hg2, hf2, hb2⟩
        have C2 := below_next C1 (Nat.le_refl _) hb2
        have Q2_2 := Lib.hid (Q2_1.out.next hb2 (Nat.le_refl _))
        have Q7_2 := Lib.hid (Q7_1.out.next hb2 (Nat.le_refl _))
        have Q8_2 := Lib.hid (Q8_1.out.next hb2 (Nat.le_refl _))
        clear e0 e1 e2 e3
        obtain ⟨e0, e1, e2, e3⟩ := HKS.out _ C2
        go_wp2_with fail
        refine (HI0.out _ F1 g1 F2 g2 (hf1.next hb2 (Nat.le_refl _)) hf2).mono ?_
        rintro e w22 ⟨rfl, hb3⟩
        have C3 := below_next C2 (Nat.le_refl _) hb3
        have Q2_3 := Lib.hid (Q2_2.out.next hb3 (Nat.le_refl _))
        have Q7_3 := Lib.hid (Q7_2.out.next hb3 (Nat.le_refl _))
        have Q8_3 := Lib.hid (Q8_2.out.next hb3 (Nat.le_refl _))
        clear e0 e1 e2 e3
        obtain ⟨e0, e1, e2, e3⟩ := HKS.out _ C3
        go_wp2_with fail
        refine (HV.out _ (HBW.out _ C3)).mono ?_
        rintro e w23 ⟨F4, g4, rfl, hf4, hb4⟩
        have C4 := below_next C3 (Nat.le_refl _) hb4
        have Q2_4 := Lib.hid (Q2_3.out.next hb4 (Nat.le_refl _))
        have Q7_4 := Lib.hid (Q7_3.out.next hb4 (Nat.le_refl _))
        have Q8_4 := Lib.hid (Q8_3.out.next hb4 (Nat.le_refl _))
        clear e0 e1 e2 e3
        obtain ⟨e0, e1, e2, e3⟩ := HKS.out _ C4
        go_wp2_with fail
        refine (HLW1.out _ D2 k2 Q2_4.out).mono ?_
        rintro e w24 ⟨F5, g5, rfl, hg5, hf5, hb5⟩
        have C5 := below_next C4 (Nat.le_refl _) hb5
        have Q2_5 := Lib.hid (Q2_4.out.next hb5 (Nat.le_refl _))
        have Q7_5 := Lib.hid (Q7_4.out.next hb5 (Nat.le_refl _))
        have Q8_5 := Lib.hid (Q8_4.out.next hb5 (Nat.le_refl _))
        clear e0 e1 e2 e3
        obtain ⟨e0, e1, e2, e3⟩ := HKS.out _ C5
        go_wp2_with fail
        refine (HI1.out _ F4 g4 F5 g5 (hf4.next hb5 (Nat.le_refl _)) hf5).mono ?_
        rintro e w25 ⟨rfl, hb6⟩
        have C6 := below_next C5 (Nat.le_refl _) hb6
        have Q2_6 := Lib.hid (Q2_5.out.next hb6 (Nat.le_refl _))
        have Q7_6 := Lib.hid (Q7_5.out.next hb6 (Nat.le_refl _))
        have Q8_6 := Lib.hid (Q8_5.out.next hb6 (Nat.le_refl _))
        clear e0 e1 e2 e3
        obtain ⟨e0, e1, e2, e3⟩ := HKS.out _ C6
        go_wp2_with fail
        refine (HQ.out _ (HBW.out _ C6)).mono ?_
        rintro e w26 ⟨F7, g7, rfl, hf7, hb7⟩
        have C7 := below_next C6 (Nat.le_refl _) hb7
        have Q2_7 := Lib.hid (Q2_6.out.next hb7 (Nat.le_refl _))
        have Q7_7 := Lib.hid (Q7_6.out.next hb7 (Nat.le_refl _))
        have Q8_7 := Lib.hid (Q8_6.out.next hb7 (Nat.le_refl _))
        clear e0 e1 e2 e3
        obtain ⟨e0, e1, e2, e3⟩ := HKS.out _ C7
        go_wp2_with fail
        refine (HIQ.out _ F7 g7 D7 k7 hf7 Q7_7.out).mono ?_
        rintro e w27 ⟨rfl, hb8⟩
        have C8 := below_next C7 (Nat.le_refl _) hb8
        have Q2_8 := Lib.hid (Q2_7.out.next hb8 (Nat.le_refl _))
        have Q7_8 := Lib.hid (Q7_7.out.next hb8 (Nat.le_refl _))
        have Q8_8 := Lib.hid (Q8_7.out.next hb8 (Nat.le_refl _))
        clear e0 e1 e2 e3
        obtain ⟨e0, e1, e2, e3⟩ := HKS.out _ C8
        go_wp2_with fail
        refine (HP.out _ (HBW.out _ C8)).mono ?_
        rintro e w28 ⟨F9, g9, rfl, hf9, hb9⟩
        have C9 := below_next C8 (Nat.le_refl _) hb9
        have Q2_9 := Lib.hid (Q2_8.out.next hb9 (Nat.le_refl _))
        have Q7_9 := Lib.hid (Q7_8.out.next hb9 (Nat.le_refl _))
        have Q8_9 := Lib.hid (Q8_8.out.next hb9 (Nat.le_refl _))
        clear e0 e1 e2 e3
        obtain ⟨e0, e1, e2, e3⟩ := HKS.out _ C9
        go_wp2_with fail
        refine (HIP.out _ F9 g9 D8 k8 hf9 Q8_9.out).mono ?_
        rintro e w29 ⟨rfl, hb10⟩
        have C10 := below_next C9 (Nat.le_refl _) hb10
        have Q2_10 := Lib.hid (Q2_9.out.next hb10 (Nat.le_refl _))
        have Q7_10 := Lib.hid (Q7_9.out.next hb10 (Nat.le_refl _))
        have Q8_10 := Lib.hid (Q8_9.out.next hb10 (Nat.le_refl _))
        clear e0 e1 e2 e3
        obtain ⟨e0, e1, e2, e3⟩ := HKS.out _ C10
        go_wp2_with fail
        refine (HRW.out _).mono ?_
        rintro e w30 ⟨rfl, hb11⟩
        have C11 := below_next C10 (Nat.le_refl _) hb11
        have Q2_11 := Lib.hid (Q2_10.out.next hb11 (Nat.le_refl _))
        have Q7_11 := Lib.hid (Q7_10.out.next hb11 (Nat.le_refl _))
        have Q8_11 := Lib.hid (Q8_10.out.next hb11 (Nat.le_refl _))
        clear e0 e1 e2 e3
        obtain ⟨e0, e1, e2, e3⟩ := HKS.out _ C11
        go_wp2_with fail
        go_ret
        exact ⟨by first | rfl | exact ret_bool (by simp), HBW.out _ C11⟩

end Go.Proofs.Ytfmjnmijhbnnjaa.mk
