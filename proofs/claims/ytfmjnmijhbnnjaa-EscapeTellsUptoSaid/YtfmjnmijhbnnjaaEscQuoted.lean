/-
  The contracts of escape's Quoted and Pair.
-/
import Derived.Test.YtfmjnmijhbnnjaaEscWords
import Derived.Test.YtfmjnmijhbnnjaaCatCh
import Derived.Deep.RegionHeld3
namespace Go.Proofs.Ytfmjnmijhbnnjaa.mk
open Go.RowKit

/-- as a value, with its quotes -/
def quoL (l : List (UInt8 × Int)) : List (UInt8 × Int) := ([(34, 0)] ++ escL true l) ++ [(34, 0)]
/-- a name and a value -/
def pairL (n l : List (UInt8 × Int)) : List (UInt8 × Int) := ([(32, 0)] ++ n) ++ ([(61, 0)] ++ quoL l)
theorem InR.one (b : UInt8) : InR [(b, 0)] := by
  intro o ho
  simp only [List.map_cons, List.map_nil, List.mem_cons, List.not_mem_nil, or_false] at ho
  subst ho
  decide
theorem InR.quo {l : List (UInt8 × Int)} (h : InR l) : InR (quoL l) := ((InR.one 34).append h.esc).append (InR.one 34)
theorem InR.pair {n l : List (UInt8 × Int)} (hn : InR n) (h : InR l) : InR (pairL n l) := ((InR.one 32).append hn).append ((InR.one 61).append h.quo)
theorem quoL_len (l : List (UInt8 × Int)) : (quoL l).length ≤ 6 * l.length + 2 := by
  have := (escL_len true l).2
  unfold quoL
  simp only [List.length_append, List.length_cons, List.length_nil]
  omega
theorem pairL_len (n l : List (UInt8 × Int)) : (pairL n l).length ≤ n.length + 6 * l.length + 4 := by
  have := quoL_len l
  unfold pairL
  simp only [List.length_append, List.length_cons, List.length_nil]
  omega
theorem of_one (b : UInt8) (w : World) : Calls Try.prog 24 #[.string ⟨#[b]⟩, .int .i64 0] w (Tells ⟨#[b]⟩ (comp ([((b, 0) : UInt8 × Int)].map (·.2))) w) := by
  have h := of_any ⟨#[b]⟩ 0 w (by show (1 : Nat) ≤ _; omega)
  have e : List.replicate (ByteArray.mk #[b]).size (nearO 0) = [((b, 0) : UInt8 × Int)].map (·.2) := by
    show List.replicate 1 (nearO 0) = [0]
    decide
  rw [e] at h
  exact h

/-- two variables, and the cell of the answer -/
structure QK (w : World) (b1 b2 r : Nat) (c1 c2 : Array Value) (w' : World) : Prop where
  h1 : Whole w' b1 24 c1
  h2 : Whole w' b2 24 c2
  bel : Below w.heap.size w w'
  n1 : b1 ≠ r
  n2 : b2 ≠ r
  nr : w.heap.size ≤ r
theorem QK.keep {w w' w'' : World} {b1 b2 r : Nat} {c1 c2 : Array Value} (h : QK w b1 b2 r c1 c2 w') (hb : Below w'.heap.size w' w'') : QK w b1 b2 r c1 c2 w'' :=
  ⟨h.h1.below hb h.h1.lt, h.h2.below hb h.h2.lt, below_next h.bel (Nat.le_refl _) hb, h.n1, h.n2, h.nr⟩
theorem QK.put {w w' : World} {b1 b2 r : Nat} {c1 c2 : Array Value} (h : QK w b1 b2 r c1 c2 w') (u v : Value) : QK w b1 b2 r c1 c2 ((w'.setCell ⟨r, 0, none⟩ u).setCell ⟨r, 1, none⟩ v) :=
  ⟨(h.h1.far _ h.n1 _).far _ h.n1 _, (h.h2.far _ h.n2 _).far _ h.n2 _, (h.bel.setCell h.nr _).setCell h.nr _, h.n1, h.n2, h.nr⟩

set_option maxHeartbeats 1000000 in
set_option maxRecDepth 100000 in
theorem quoted_any (a : LT) (w : World) (ha : a.ok w w.heap.size) (hs : a.s.size ≤ 3000000) :
    Calls Try.prog 15 #[.agg #[.string a.s, .slice a.A a.n a.c]] w (Tells (txtOf (quoL a.ch)) (comp ((quoL a.ch).map (·.2))) w) := by
  have HA := Lib.hid ha
  have hlen : a.ch.length = a.s.size := LT.ch_length a
  have hel := (escL_len true a.ch).2
  have hel2 : (escL true a.ch).length ≤ 18000000 := by omega
  have HI : Hid (InR (escL true a.ch)) := a.ch_in.esc
  clear ha hel
  go_enter Try.func15, Try.ntmps15
  go_wp2_with fail
  generalize hw0 : (w.alloc (.cells #[.string a.s, .slice a.A a.n a.c] 24)).alloc (.cells #[.string ⟨#[]⟩, .slice none 0 0] 24) = w0
  have y0 : Whole w0 w.heap.size 24 #[.string a.s, .slice a.A a.n a.c] := by rw [← hw0]; exact (Whole.made w _ _).alloc _
  have y1 : Whole w0 (w.heap.size + 1) 24 #[.string ⟨#[]⟩, .slice none 0 0] := by
    rw [← hw0]
    have h := Whole.made (w.alloc (.cells #[.string a.s, .slice a.A a.n a.c] 24)) 24 #[.string ⟨#[]⟩, .slice none 0 0]
    simp only [World.size_alloc] at h
    exact h
  have hz0 : w0.heap.size = w.heap.size + 2 := by rw [← hw0]; simp
  have hb0 : Below w.heap.size w w0 := by rw [← hw0]; exact ((Below.refl _ _).alloc (Nat.le_refl _) _).alloc (by simp) _
  clear hw0
  refine (of_one 34 w0).mono ?_
  generalize hq1 : comp ([((34, 0) : UInt8 × Int)].map (·.2)) = q1
  rintro e w1 ⟨v, rfl, ho1, hb1⟩
  obtain ⟨A1, c1, rfl, _, _, _⟩ := own_form ho1
  have hz1 := hb1.size
  go_wp2_with fail
  generalize hw2 : w1.alloc (.cells #[.string ⟨#[34]⟩, .slice A1 q1.length c1] 24) = w2
  have z0 : Whole w2 w.heap.size 24 #[.string a.s, .slice a.A a.n a.c] := by rw [← hw2]; exact (y0.below hb1 y0.lt).alloc _
  have z1 : Whole w2 (w.heap.size + 1) 24 #[.string ⟨#[]⟩, .slice none 0 0] := by rw [← hw2]; exact (y1.below hb1 y1.lt).alloc _
  have z2 : Whole w2 w1.heap.size 24 #[.string ⟨#[34]⟩, .slice A1 q1.length c1] := by rw [← hw2]; exact Whole.made w1 _ _
  have hb2 : Below w.heap.size w w2 := by rw [← hw2]; exact below_next (below_next hb0 (Nat.le_refl _) hb1) (Nat.le_refl _) ((Below.refl _ _).alloc (Nat.le_refl _) _)
  have hl2 : Lies w2 w2.heap.size A1 (runCells q1) := by rw [← hw2]; exact (Lies.own ho1).next ((Below.refl _ _).alloc (Nat.le_refl _) _) (Nat.le_refl _)
  have HL2 := Lib.hid hl2
  have HB2 := Lib.hid hb2
  have HK0 : Hid (QK w w.heap.size w1.heap.size (w.heap.size + 1) #[.string a.s, .slice a.A a.n a.c] #[.string ⟨#[34]⟩, .slice A1 q1.length c1] w2) := ⟨z0, z2, hb2, by omega, by omega, by omega⟩
  have HKS : Hid (∀ w', QK w w.heap.size w1.heap.size (w.heap.size + 1) #[.string a.s, .slice a.A a.n a.c] #[.string ⟨#[34]⟩, .slice A1 q1.length c1] w' → (w'.cell? ⟨w.heap.size, 0, none⟩ = some (.string a.s) ∧ w'.cell? ⟨w.heap.size, 1, none⟩ = some (.slice a.A a.n a.c) ∧ w'.cell? ⟨w1.heap.size, 0, none⟩ = some (.string ⟨#[34]⟩) ∧ w'.cell? ⟨w1.heap.size, 1, none⟩ = some (.slice A1 q1.length c1) ∧ QK w w.heap.size w1.heap.size (w.heap.size + 1) #[.string a.s, .slice a.A a.n a.c] #[.string ⟨#[34]⟩, .slice A1 q1.length c1] w')) := fun w' h =>
    ⟨h.h1.at_ 0, h.h1.at_ 1, h.h2.at_ 0, h.h2.at_ 1, h⟩
  have HVA : Hid (∀ w', Below w2.heap.size w2 w' → Calls Try.prog 14 #[.agg #[.string a.s, .slice a.A a.n a.c]] w' (TellsL (escL true a.ch) w')) := fun w' hb => (value_any a w' ((HA.out.next HB2.out (Nat.le_refl _)).next hb (Nat.le_refl _)) hs).mono fun e w'' h => tellsL_of h
  have HCA : Hid (∀ (w' : World) (g : Nat) (D : Option Addr) (k : Nat), Below w2.heap.size w2 w' → Lies w' w'.heap.size D (runCells (comp ((escL true a.ch).map (·.2)))) → Whole w' g 24 (List.toArray [.string ⟨#[34]⟩, .slice A1 q1.length c1, .string (txtOf (escL true a.ch)), .slice D (runN (escL true a.ch)) k, .string ⟨#[34]⟩, .slice A1 q1.length c1]) → Calls Try.prog 22 #[.slice (some ⟨g, 0, none⟩) 3 3] w' (Tells (txtOf (quoL a.ch)) (comp ((quoL a.ch).map (·.2))) w')) := fun w' g D k hb hD hW => by
    have hq : (toldT [((34, 0) : UInt8 × Int)] A1 c1).ok w' w'.heap.size := toldT_ok c1 (by rw [hq1]; exact HL2.out.next hb (Nat.le_refl _)) (by simp)
    have hn : q1.length = runN [((34, 0) : UInt8 × Int)] := by rw [← hq1]; rfl
    rw [hn] at hW
    have h := catl_any [toldT [(34, 0)] A1 c1, toldT (escL true a.ch) D k, toldT [(34, 0)] A1 c1] (some ⟨g, 0, none⟩) 3 3 w' (lies_whole hW) rfl (by omega) (fun t ht => by
      simp only [List.mem_cons, List.not_mem_nil, or_false] at ht
      rcases ht with rfl | rfl | rfl
      · exact hq
      · exact toldT_ok k hD (by omega)
      · exact hq) (by
      simp only [catCh, List.flatMap_cons, List.flatMap_nil, List.length_append, LT.ch_length, List.length_nil]
      show (txtOf [((34, 0) : UInt8 × Int)]).size + ((txtOf (escL true a.ch)).size + ((txtOf [((34, 0) : UInt8 × Int)]).size + 0)) ≤ _
      rw [txtOf_size, txtOf_size]
      simp only [List.length_cons, List.length_nil]
      omega)
    have e : catCh [toldT [(34, 0)] A1 c1, toldT (escL true a.ch) D k, toldT [(34, 0)] A1 c1] = quoL a.ch := by
      simp only [catCh, List.flatMap_cons, List.flatMap_nil, List.append_nil, toldT_ch HI.out, toldT_ch (InR.one 34)]
      unfold quoL
      rw [List.append_assoc]
    rw [e] at h
    exact h
  clear hl2 hb2 ho1 y0 y1 hb1 hb0 hel2
  obtain ⟨d0, d1, d2, d3, _⟩ := HKS.out _ HK0.out
  clear hw2 z0 z2
  generalize hT : escL true a.ch = T at *
  generalize hrn : runN T = rn at *
  generalize htx : txtOf T = tx at *
  have HT := Lib.hid hT
  have HRN := Lib.hid hrn
  have HTX := Lib.hid htx
  clear hT hrn htx
  go_region_held3 (fun w' => w'.cell? ⟨w.heap.size, 0, none⟩ = some (.string a.s) ∧ w'.cell? ⟨w.heap.size, 1, none⟩ = some (.slice a.A a.n a.c) ∧ w'.cell? ⟨w1.heap.size, 0, none⟩ = some (.string ⟨#[34]⟩) ∧ w'.cell? ⟨w1.heap.size, 1, none⟩ = some (.slice A1 q1.length c1) ∧ QK w w.heap.size w1.heap.size (w.heap.size + 1) #[.string a.s, .slice a.A a.n a.c] #[.string ⟨#[34]⟩, .slice A1 q1.length c1] w')
    (first
      | exact HKS.out _ (HK0.out.keep (Below.drew (Below.refl _ _)))
      | exact HKS.out _ hK
      | (go_split_ands; exact HKS.out _ (by assumption))
      | (go_split_ands; exact HKS.out _ (QK.keep (by assumption) ((Below.refl _ _).alloc (Nat.le_refl _) _)))
      | (go_split_ands; exact HKS.out _ (QK.put (by assumption) _ _)))
    (first
      | (go_at_call 14; refine (HVA.out _ ((Below.refl _ _).drew)).mono ?_; rintro e w3 ⟨D3, k3, rfl, hd3, hb3⟩; rw [HRN.out, HTX.out]; have HD3 := Lib.hid hd3; have HB3 := Lib.hid hb3; have hK : QK w w.heap.size w1.heap.size (w.heap.size + 1) #[.string a.s, .slice a.A a.n a.c] #[.string ⟨#[34]⟩, .slice A1 q1.length c1] w3 := (by go_split_ands; exact QK.keep (by assumption) hb3); clear hd3 hb3)
      | (go_at_call 22; refine (HCA.out _ _ D3 k3 ?_ (HD3.out.next ((Below.refl _ _).alloc (Nat.le_refl _) _) (Nat.le_refl _)) (Whole.made _ _ _)).mono ?_; (exact below_next (below_next (Below.drew (Below.refl _ _)) (Nat.le_refl _) HB3.out) (Nat.le_refl _) ((Below.refl _ _).alloc (Nat.le_refl _) _)); rintro e w4 ⟨v4, rfl, ho4, hb4⟩; obtain ⟨A4, c4, rfl, _, _, _⟩ := own_form ho4; have HO4 := Lib.hid ho4; have HB4 := Lib.hid hb4; clear ho4 hb4; have hW4 : Whole w4 (w.heap.size + 1) 24 #[.string ⟨#[]⟩, .slice none 0 0] := (((z1.drew.below HB3.out z1.lt).alloc _).below HB4.out (Whole.lt ((z1.drew.below HB3.out z1.lt).alloc _))); have r0 : w4.cell? ⟨w.heap.size + 1, 0, none⟩ = some (.string ⟨#[]⟩) := hW4.at_ 0; have r1 : w4.cell? ⟨w.heap.size + 1, 1, none⟩ = some (.slice none 0 0) := hW4.at_ 1; have f0 := hW4.free 0; have f1 := hW4.free 1; have hK : QK w w.heap.size w1.heap.size (w.heap.size + 1) #[.string a.s, .slice a.A a.n a.c] #[.string ⟨#[34]⟩, .slice A1 q1.length c1] w4 := (by go_split_ands; exact QK.keep (by assumption) HB4.out)))
  all_goals
    have hz3 := HB3.out.size
    have hz2 := z1.lt
    have hbF := hK.bel
    have hz5 : w2.heap.size ≤ w3.heap.size := hz3
    go_wp2
    refine bodyPost_ret (v := .agg #[.string (txtOf (quoL a.ch)), .slice A4 (comp ((quoL a.ch).map (·.2))).length c4]) ?_ rfl ?_
    · simp [results, Try.results15, go_sem, r0, r1]
    · exact tells_end (g := w.heap.size + 1) (by omega) (own_mono HO4.out (by simp; omega)) hbF

set_option maxHeartbeats 1000000 in
set_option maxRecDepth 100000 in
theorem pair_any (b a : LT) (w : World) (hb : b.ok w w.heap.size) (ha : a.ok w w.heap.size) (hs : a.s.size ≤ 3000000) (hsb : b.s.size ≤ 3000000) :
    Calls Try.prog 16 #[.agg #[.string b.s, .slice b.A b.n b.c], .agg #[.string a.s, .slice a.A a.n a.c]] w (Tells (txtOf (pairL b.ch a.ch)) (comp ((pairL b.ch a.ch).map (·.2))) w) := by
  have HA := Lib.hid ha
  have HB := Lib.hid hb
  have hlen : a.ch.length = a.s.size := LT.ch_length a
  have hql := quoL_len a.ch
  have hql2 : (quoL a.ch).length ≤ 18000002 := by omega
  have HI : Hid (InR (quoL a.ch)) := a.ch_in.quo
  clear ha hb hql hlen
  go_enter Try.func16, Try.ntmps16
  go_wp2_with fail
  generalize hw0 : ((w.alloc (.cells #[.string b.s, .slice b.A b.n b.c] 24)).alloc (.cells #[.string a.s, .slice a.A a.n a.c] 24)).alloc (.cells #[.string ⟨#[]⟩, .slice none 0 0] 24) = w2
  have z0 : Whole w2 w.heap.size 24 #[.string b.s, .slice b.A b.n b.c] := by rw [← hw0]; exact ((Whole.made w _ _).alloc _).alloc _
  have z2 : Whole w2 (w.heap.size + 1) 24 #[.string a.s, .slice a.A a.n a.c] := by
    rw [← hw0]
    have h := (Whole.made (w.alloc (.cells #[.string b.s, .slice b.A b.n b.c] 24)) 24 #[.string a.s, .slice a.A a.n a.c]).alloc (.cells #[.string ⟨#[]⟩, .slice none 0 0] 24)
    simp only [World.size_alloc] at h
    exact h
  have z1 : Whole w2 (w.heap.size + 1 + 1) 24 #[.string ⟨#[]⟩, .slice none 0 0] := by
    rw [← hw0]
    have h := Whole.made ((w.alloc (.cells #[.string b.s, .slice b.A b.n b.c] 24)).alloc (.cells #[.string a.s, .slice a.A a.n a.c] 24)) 24 #[.string ⟨#[]⟩, .slice none 0 0]
    simp only [World.size_alloc] at h
    exact h
  have hb2 : Below w.heap.size w w2 := by rw [← hw0]; exact (((Below.refl _ _).alloc (Nat.le_refl _) _).alloc (by simp) _).alloc (by simp; omega) _
  have HB2 := Lib.hid hb2
  have HK0 : Hid (QK w w.heap.size (w.heap.size + 1) (w.heap.size + 1 + 1) #[.string b.s, .slice b.A b.n b.c] #[.string a.s, .slice a.A a.n a.c] w2) := ⟨z0, z2, hb2, by omega, by omega, by omega⟩
  have HKS : Hid (∀ w', QK w w.heap.size (w.heap.size + 1) (w.heap.size + 1 + 1) #[.string b.s, .slice b.A b.n b.c] #[.string a.s, .slice a.A a.n a.c] w' → (w'.cell? ⟨w.heap.size, 0, none⟩ = some (.string b.s) ∧ w'.cell? ⟨w.heap.size, 1, none⟩ = some (.slice b.A b.n b.c) ∧ w'.cell? ⟨w.heap.size + 1, 0, none⟩ = some (.string a.s) ∧ w'.cell? ⟨w.heap.size + 1, 1, none⟩ = some (.slice a.A a.n a.c) ∧ QK w w.heap.size (w.heap.size + 1) (w.heap.size + 1 + 1) #[.string b.s, .slice b.A b.n b.c] #[.string a.s, .slice a.A a.n a.c] w')) := fun w' h =>
    ⟨h.h1.at_ 0, h.h1.at_ 1, h.h2.at_ 0, h.h2.at_ 1, h⟩
  have HQA : Hid (∀ w', Below w2.heap.size w2 w' → Calls Try.prog 15 #[.agg #[.string a.s, .slice a.A a.n a.c]] w' (TellsL (quoL a.ch) w')) := fun w' hb => (quoted_any a w' ((HA.out.next HB2.out (Nat.le_refl _)).next hb (Nat.le_refl _)) hs).mono fun e w'' h => tellsL_of h
  obtain ⟨n32, hn32⟩ : ∃ n, n = runN [((32, 0) : UInt8 × Int)] := ⟨_, rfl⟩
  obtain ⟨n61, hn61⟩ : ∃ n, n = runN [((61, 0) : UInt8 × Int)] := ⟨_, rfl⟩
  have HO32 : Hid (∀ w', Calls Try.prog 24 #[.string ⟨#[32]⟩, .int .i64 0] w' fun e w'' => ∃ D k, e = .returned (.agg #[.string ⟨#[32]⟩, .slice D n32 k]) ∧ Lies w'' w''.heap.size D (runCells (comp ([((32, 0) : UInt8 × Int)].map (·.2)))) ∧ Below w'.heap.size w' w'') := fun w' => (of_one 32 w').mono fun e w'' h => by
    obtain ⟨v, rfl, ho, hb⟩ := h
    obtain ⟨D, k, rfl, _, _, _⟩ := own_form ho
    exact ⟨D, k, by rw [hn32]; rfl, Lies.own ho, hb⟩
  have HO61 : Hid (∀ w', Calls Try.prog 24 #[.string ⟨#[61]⟩, .int .i64 0] w' fun e w'' => ∃ D k, e = .returned (.agg #[.string ⟨#[61]⟩, .slice D n61 k]) ∧ Lies w'' w''.heap.size D (runCells (comp ([((61, 0) : UInt8 × Int)].map (·.2)))) ∧ Below w'.heap.size w' w'') := fun w' => (of_one 61 w').mono fun e w'' h => by
    obtain ⟨v, rfl, ho, hb⟩ := h
    obtain ⟨D, k, rfl, _, _, _⟩ := own_form ho
    exact ⟨D, k, by rw [hn61]; rfl, Lies.own ho, hb⟩
  have HCA : Hid (∀ (w' : World) (g : Nat) (D1 D2 D : Option Addr) (k1 k2 k : Nat), Below w2.heap.size w2 w' → Lies w' w'.heap.size D1 (runCells (comp ([((32, 0) : UInt8 × Int)].map (·.2)))) → Lies w' w'.heap.size D2 (runCells (comp ([((61, 0) : UInt8 × Int)].map (·.2)))) → Lies w' w'.heap.size D (runCells (comp ((quoL a.ch).map (·.2)))) → Whole w' g 24 (List.toArray [.string ⟨#[32]⟩, .slice D1 n32 k1, .string b.s, .slice b.A b.n b.c, .string ⟨#[61]⟩, .slice D2 n61 k2, .string (txtOf (quoL a.ch)), .slice D (runN (quoL a.ch)) k]) → Calls Try.prog 22 #[.slice (some ⟨g, 0, none⟩) 4 4] w' (Tells (txtOf (pairL b.ch a.ch)) (comp ((pairL b.ch a.ch).map (·.2))) w')) := fun w' g D1 D2 D k1 k2 k hb h1 h2 hD hW => by
    rw [hn32, hn61] at hW
    have h := catl_any [toldT [(32, 0)] D1 k1, b, toldT [(61, 0)] D2 k2, toldT (quoL a.ch) D k] (some ⟨g, 0, none⟩) 4 4 w' (lies_whole hW) rfl (by omega) (fun t ht => by
      simp only [List.mem_cons, List.not_mem_nil, or_false] at ht
      rcases ht with rfl | rfl | rfl | rfl
      · exact toldT_ok k1 h1 (by simp)
      · exact (HB.out.next HB2.out (Nat.le_refl _)).next hb (Nat.le_refl _)
      · exact toldT_ok k2 h2 (by simp)
      · exact toldT_ok k hD (by omega)) (by
      simp only [catCh, List.flatMap_cons, List.flatMap_nil, List.length_append, LT.ch_length, List.length_nil]
      show (txtOf [((32, 0) : UInt8 × Int)]).size + (b.s.size + ((txtOf [((61, 0) : UInt8 × Int)]).size + ((txtOf (quoL a.ch)).size + 0))) ≤ _
      rw [txtOf_size, txtOf_size, txtOf_size]
      simp only [List.length_cons, List.length_nil]
      omega)
    have e : catCh [toldT [(32, 0)] D1 k1, b, toldT [(61, 0)] D2 k2, toldT (quoL a.ch) D k] = pairL b.ch a.ch := by
      simp only [catCh, List.flatMap_cons, List.flatMap_nil, List.append_nil, toldT_ch HI.out, toldT_ch (InR.one 32), toldT_ch (InR.one 61)]
      unfold pairL
      rw [List.append_assoc]
    rw [e] at h
    exact h
  clear hb2 hql2 hn32 hn61
  obtain ⟨d0, d1, d2, d3, _⟩ := HKS.out _ HK0.out
  clear hw0 z0 z2
  generalize hT : quoL a.ch = T at *
  generalize hrn : runN T = rn at *
  generalize htx : txtOf T = tx at *
  have HT := Lib.hid hT
  have HRN := Lib.hid hrn
  have HTX := Lib.hid htx
  clear hT hrn htx
  go_region_held3 (fun w' => w'.cell? ⟨w.heap.size, 0, none⟩ = some (.string b.s) ∧ w'.cell? ⟨w.heap.size, 1, none⟩ = some (.slice b.A b.n b.c) ∧ w'.cell? ⟨w.heap.size + 1, 0, none⟩ = some (.string a.s) ∧ w'.cell? ⟨w.heap.size + 1, 1, none⟩ = some (.slice a.A a.n a.c) ∧ QK w w.heap.size (w.heap.size + 1) (w.heap.size + 1 + 1) #[.string b.s, .slice b.A b.n b.c] #[.string a.s, .slice a.A a.n a.c] w')
    (first
      | exact HKS.out _ (HK0.out.keep (Below.drew (Below.refl _ _)))
      | exact HKS.out _ hK
      | (go_split_ands; exact HKS.out _ (by assumption))
      | (go_split_ands; exact HKS.out _ (QK.keep (by assumption) ((Below.refl _ _).alloc (Nat.le_refl _) _)))
      | (go_split_ands; exact HKS.out _ (QK.put (by assumption) _ _)))
    (first
      | (go_at_call_of 24 (ByteArray.mk #[32]); refine (HO32.out _).mono ?_; rintro e w3 ⟨D1, k1, rfl, hd3, hb3⟩; have HD1 := Lib.hid hd3; have HB3 := Lib.hid (below_next (Below.drew (Below.refl w2.heap.size w2)) (Nat.le_refl _) hb3); have hK : QK w w.heap.size (w.heap.size + 1) (w.heap.size + 1 + 1) #[.string b.s, .slice b.A b.n b.c] #[.string a.s, .slice a.A a.n a.c] w3 := (by go_split_ands; exact QK.keep (by assumption) hb3); clear hd3 hb3)
      | (go_at_call_of 24 (ByteArray.mk #[61]); refine (HO61.out _).mono ?_; rintro e w4 ⟨D2, k2, rfl, hd4, hb4⟩; have HD2 := Lib.hid hd4; have HE1 := Lib.hid (HD1.out.next hb4 (Nat.le_refl _)); have HB4 := Lib.hid (below_next HB3.out (Nat.le_refl _) hb4); have hK : QK w w.heap.size (w.heap.size + 1) (w.heap.size + 1 + 1) #[.string b.s, .slice b.A b.n b.c] #[.string a.s, .slice a.A a.n a.c] w4 := (by go_split_ands; exact QK.keep (by assumption) hb4); clear hd4 hb4)
      | (go_at_call 15; refine (HQA.out _ HB4.out).mono ?_; rintro e w5 ⟨D5, k5, rfl, hd5, hb5⟩; rw [HRN.out, HTX.out]; have HD5 := Lib.hid hd5; have HF1 := Lib.hid (HE1.out.next hb5 (Nat.le_refl _)); have HF2 := Lib.hid (HD2.out.next hb5 (Nat.le_refl _)); have HB5 := Lib.hid (below_next HB4.out (Nat.le_refl _) hb5); have hK : QK w w.heap.size (w.heap.size + 1) (w.heap.size + 1 + 1) #[.string b.s, .slice b.A b.n b.c] #[.string a.s, .slice a.A a.n a.c] w5 := (by go_split_ands; exact QK.keep (by assumption) hb5); clear hd5 hb5)
      | (go_at_call 22; refine (HCA.out _ _ D1 D2 D5 k1 k2 k5 (below_next HB5.out (Nat.le_refl _) ((Below.refl _ _).alloc (Nat.le_refl _) _)) (HF1.out.next ((Below.refl _ _).alloc (Nat.le_refl _) _) (Nat.le_refl _)) (HF2.out.next ((Below.refl _ _).alloc (Nat.le_refl _) _) (Nat.le_refl _)) (HD5.out.next ((Below.refl _ _).alloc (Nat.le_refl _) _) (Nat.le_refl _)) (Whole.made _ _ _)).mono ?_; rintro e w6 ⟨v6, rfl, ho6, hb6⟩; obtain ⟨A6, c6, rfl, _, _, _⟩ := own_form ho6; have HO6 := Lib.hid ho6; have HB6 := Lib.hid hb6; clear ho6 hb6; have hW6 : Whole w6 (w.heap.size + 1 + 1) 24 #[.string ⟨#[]⟩, .slice none 0 0] := (((z1.below HB5.out z1.lt).alloc _).below HB6.out (Whole.lt ((z1.below HB5.out z1.lt).alloc _))); have r0 : w6.cell? ⟨w.heap.size + 1 + 1, 0, none⟩ = some (.string ⟨#[]⟩) := hW6.at_ 0; have r1 : w6.cell? ⟨w.heap.size + 1 + 1, 1, none⟩ = some (.slice none 0 0) := hW6.at_ 1; have f0 := hW6.free 0; have f1 := hW6.free 1; have hK : QK w w.heap.size (w.heap.size + 1) (w.heap.size + 1 + 1) #[.string b.s, .slice b.A b.n b.c] #[.string a.s, .slice a.A a.n a.c] w6 := (by go_split_ands; exact QK.keep (by assumption) HB6.out)))
  all_goals
    have hz3 := HB5.out.size
    have hz2 := z1.lt
    have hbF := hK.bel
    go_wp2
    refine bodyPost_ret (v := .agg #[.string (txtOf (pairL b.ch a.ch)), .slice A6 (comp ((pairL b.ch a.ch).map (·.2))).length c6]) ?_ rfl ?_
    · simp [results, Try.results16, go_sem, r0, r1]
    · exact tells_end (g := w.heap.size + 1 + 1) (by omega) (own_mono HO6.out (by simp; omega)) hbF

end Go.Proofs.Ytfmjnmijhbnnjaa.mk
