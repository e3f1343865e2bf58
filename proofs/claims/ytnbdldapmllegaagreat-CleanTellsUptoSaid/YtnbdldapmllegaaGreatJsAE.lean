/-
  The contract of utf's Repair.
-/
import Derived.Test.YtnbdldapmllegaaGreatJsX
import Derived.Test.YtnbdldapmllegaaGreatJsV
import Derived.Deep.DeepCutAuto
namespace Go.Proofs.YtnbdldapmllegaaGreat.mk
open Go.RowKit

set_option maxHeartbeats 400000 in
theorem taker_any (A : Option Addr) (n c : Nat) (w : World) :
    Calls Tryz.prog 45 #[.slice A n c] w fun e w' => e = .returned (.func (.func 70) #[] #[.pointer (some ⟨w.heap.size, 0, none⟩)]) ∧ w' = w.alloc (.cells #[.slice A n c] 26) := by
  go_enter Tryz.func45, Tryz.ntmps45
  go_wp2_with fail
  go_ret
  exact ⟨rfl, rfl⟩

def strLen : Value → Nat
  | .string s => s.size
  | _ => 0
def RepRel (L : List (UInt8 × Int)) (N bv g : Nat) (w0 : World) (v6 v4 : Value) (wr : World) : Prop :=
  ∃ (j : Nat) (r : ByteArray) (out : List (UInt8 × Int)), v6 = .string r ∧ r.data.toList = (L.drop j).map (·.1) ∧ j ≤ L.length ∧ rep L = out ++ rep (L.drop j) ∧ RepSt N bv g w0 (out.map (·.1)) (out.map (·.2)) ((L.drop j).map (·.2)) v4 wr

/-- the block of a row of runs that is not empty -/
theorem runs_at {w : World} {base n c : Nat} {A : Option Addr} {qs : List (Int × Int)} (h : w.ownsRow base 79 2 (.slice A n c) n (runCells qs)) (hn : qs.length = n) (hb : 0 < w.heap.size) :
    ∃ g, RunsAt (w.alloc (.cells #[.slice A n c] 26)) w.heap.size g qs ∧ g < w.heap.size ∧ (qs ≠ [] → base ≤ g) ∧ (qs = [] → g = 0) := by
  obtain ⟨A', c', e, _, _, hnc⟩ := own_form h
  injection e with e1 e2 e3
  subst e1
  subst e3
  rcases h.2 with ⟨hv, h0⟩ | ⟨g, cap, cur, hv, hg, hh, h1, h2, h3, h4⟩
  · have : qs = [] := List.eq_nil_of_length_eq_zero (by omega)
    subst this
    exact ⟨0, ⟨_, _, _, Whole.made _ _ _, hn, hnc, fun h => by omega⟩, by omega, fun h => absurd rfl h, fun _ => rfl⟩
  · injection hv with hv1 _ hv3
    subst hv3
    have hlt : g < w.heap.size := (Array.getElem?_eq_some_iff.1 hh).1
    by_cases hq : qs = []
    · refine ⟨0, ⟨_, _, _, Whole.made _ _ _, hn, hnc, fun h => ?_⟩, by omega, fun h => absurd hq h, fun _ => rfl⟩
      subst hq
      simp at hn
      omega
    · refine ⟨g, ⟨_, _, _, Whole.made _ _ _, hn, hnc, fun _ => ⟨0, cur, hv1, Whole.alloc hh _, ?_⟩⟩, hlt, fun _ => hg, fun h => absurd h hq⟩
      intro j u hu
      rw [← h4, List.getElem?_take] at hu
      split at hu
      · rw [Nat.zero_add]; simpa using hu
      · cases hu

theorem rep_last {L out : List (UInt8 × Int)} {N bv g j a : Nat} {w0 w : World} {v : Value} {r r' : ByteArray} (hr : r.data.toList = (L.drop j).map (·.1)) (ha : a = (L.drop j).length) (hf : fr ((L.drop j).map (·.1)) = (a, 0)) (hrep : rep L = out ++ rep (L.drop j)) (hr' : r'.data.toList = r.data.toList.drop a)
    (hst : RepSt N bv g w0 (out.map (·.1) ++ (r.extract 0 a).data.toList) (out.map (·.2) ++ ((L.drop j).map (·.2)).take a) (((L.drop j).map (·.2)).drop a) v w) : RepRel L N bv g w0 (.string r') v w := by
  refine ⟨L.length, r', out ++ L.drop j, rfl, ?_, Nat.le_refl _, ?_, ?_⟩
  · have e1 : ((L.drop j).map (·.1)).drop a = [] := List.drop_of_length_le (by rw [List.length_map]; omega)
    rw [hr', hr, e1, List.drop_of_length_le (l := L) (Nat.le_refl _)]; rfl
  · rw [hrep, rep_all (by rw [hf]), List.drop_of_length_le (l := L) (Nat.le_refl _), rep_nil, List.append_nil]
  · have e1 : ((L.drop j).map (·.1)).take a = (L.drop j).map (·.1) := List.take_of_length_le (by rw [List.length_map]; omega)
    have e2 : ((L.drop j).map (·.2)).take a = (L.drop j).map (·.2) := List.take_of_length_le (by rw [List.length_map]; omega)
    have e3 : ((L.drop j).map (·.2)).drop a = [] := List.drop_of_length_le (by rw [List.length_map]; omega)
    rw [ba_list, Nat.sub_zero, List.drop_zero, hr, e1, e2, e3] at hst
    rw [List.map_append, List.map_append, List.drop_of_length_le (l := L) (Nat.le_refl _)]
    exact hst
theorem rep_more {L out : List (UInt8 × Int)} {N bv g j a z : Nat} {w0 w : World} {v : Value} {r r' : ByteArray} {o : Int} (hr : r.data.toList = (L.drop j).map (·.1)) (ha : a + z ≤ (L.drop j).length) (hj : j ≤ L.length) (hz : 0 < z) (hf : fr ((L.drop j).map (·.1)) = (a, z)) (hrep : rep L = out ++ rep (L.drop j)) (hr' : r'.data.toList = r.data.toList.drop (a + z))
    (ho : o = worstO ((((L.drop j).map (·.2)).drop a).take z))
    (hst : RepSt N bv g w0 (out.map (·.1) ++ (r.extract 0 a).data.toList ++ badB) (out.map (·.2) ++ ((L.drop j).map (·.2)).take a ++ List.replicate 3 o) ((((L.drop j).map (·.2)).drop a).drop z) v w) : RepRel L N bv g w0 (.string r') v w := by
  have hd : L.drop (j + (a + z)) = (L.drop j).drop (a + z) := by rw [List.drop_drop]
  rw [List.length_drop] at ha
  refine ⟨j + (a + z), r', out ++ ((L.drop j).take a ++ badCh o), rfl, ?_, by omega, ?_, ?_⟩
  · rw [hr', hr, hd, ← List.map_drop (f := fun x : UInt8 × Int => x.1) (l := L.drop j)]
  · rw [hrep, rep_fr hf hz, hd, ho, List.map_take, List.map_drop]
    simp only [List.append_assoc]
  · rw [ba_list, Nat.sub_zero, List.drop_zero, hr, List.drop_drop] at hst
    have e1 : (out ++ ((L.drop j).take a ++ badCh o)).map (·.1) = out.map (·.1) ++ ((L.drop j).map (·.1)).take a ++ badB := by
      rw [List.map_append, List.map_append, List.map_take, badCh_fst, List.append_assoc]
    have e2 : (out ++ ((L.drop j).take a ++ badCh o)).map (·.2) = out.map (·.2) ++ ((L.drop j).map (·.2)).take a ++ List.replicate 3 o := by
      rw [List.map_append, List.map_append, List.map_take, List.append_assoc]; rfl
    have e3 : (L.drop (j + (a + z))).map (·.2) = ((L.drop j).map (·.2)).drop (a + z) := by rw [hd, ← List.map_drop]
    rw [e1, e2, e3]
    exact hst

/-- what is wrong, as a labelled text -/
def Wrong (N bv g : Nat) (w0 : World) (bs : List UInt8) (os1 os2 : List Int) (v : Value) (r2 : ByteArray) (z : Nat) (s9 : Value) (wx : World) : Prop :=
  ∃ q A8 c8 ts, s9 = .pointer (some ⟨q, 0, none⟩) ∧ Whole wx q 28 #[.string r2, .slice A8 ts.length c8] ∧ N + 2 < q ∧ wx.ownsRow (bv + 1) 79 2 (.slice A8 ts.length c8) ts.length (runCells ts) ∧ Good ts ∧ expand ts = os2.take z ∧ (expand ts).length = z ∧ RepSt N bv g w0 bs os1 (os2.drop z) v wx

/-- what the taker leaves -/
def TakenSt (N bv g : Nat) (w0 : World) (bs : List UInt8) (os1 os2 : List Int) (v : Value) (m : Nat) (w : World) (e : Ending) (w' : World) : Prop :=
  ∃ u ts, e = .returned u ∧ w'.ownsRow w.heap.size 79 2 u ts.length (runCells ts) ∧ Good ts ∧ expand ts = os2.take m ∧ (expand ts).length = m ∧ RepSt N bv g w0 bs os1 (os2.drop m) v w' ∧ Moved (Two bv g) w w'
theorem take_st {N bv g : Nat} {w0 : World} {bs : List UInt8} {os1 os2 : List Int} {v : Value} {w : World} (m : Nat) (h : RepSt N bv g w0 bs os1 os2 v w) (hos : os2 ≠ []) (hm : m ≤ os2.length) (hz : os2.length ≤ 4294967296) :
    Calls Tryz.prog 70 #[.int .i64 m, .pointer (some ⟨bv, 0, none⟩)] w (TakenSt N bv g w0 bs os1 os2 v m w) := by
  obtain ⟨rs, qs, h1, h2, h3, h4, h5, h6, h7, h8, h9, h10, h11⟩ := h
  refine (take_any qs m bv g w h4 h5 (by rw [h6]; exact hm) (by rw [h6]; exact hz) h11 (by omega)).mono ?_
  intro e w' ht
  obtain ⟨u, ts, qs', rfl, t1, t2, t3, t4, t5, t6, t7⟩ := id ht
  obtain ⟨k1, ts', k2, k3, k4, k5⟩ := RepSt.take h1 h2 h3 h4 h6 h7 h8 h9 h10 h11 hos ht
  exact ⟨u, ts', rfl, k2, k3, k4, k5, k1, t7⟩
theorem wrong_mem {N bv g q : Nat} {w0 : World} {bs : List UInt8} {os1 os2 : List Int} {v : Value} {r2 : ByteArray} {z base : Nat} {w : World} {A8 : Option Addr} {c8 : Nat} {ts : List (Int × Int)} {cs : Array Value} (hcs : cs.size = 2)
    (hbs : bv + 1 ≤ base) (hq : Whole w q 28 cs) (hN : N + 2 < q) (h1 : w.ownsRow base 79 2 (.slice A8 ts.length c8) ts.length (runCells ts)) (h2 : Good ts) (h3 : expand ts = os2.take z) (h4 : (expand ts).length = z) (h5 : RepSt N bv g w0 bs os1 (os2.drop z) v w) :
    Wrong N bv g w0 bs os1 os2 v r2 z (.pointer (some ⟨q, 0, none⟩)) ((w.setCell ⟨q, 0, none⟩ (.string r2)).setCell ⟨q, 1, none⟩ (.slice A8 ts.length c8)) := by
  have hk : ∀ gg, (Value.slice A8 ts.length c8).ownBlock = some gg → gg ≠ q := fun gg e => by
    obtain ⟨cur, hc⟩ := own_kind h1 e
    exact kind_ne hc hq (by decide)
  have hsz : (Array.setIfInBounds (Array.setIfInBounds cs 0 (.string r2)) 1 (.slice A8 ts.length c8)) = #[.string r2, .slice A8 ts.length c8] := by
    match cs, hcs with
    | ⟨[_, _]⟩, _ => rfl
  have hw2 := (hq.put 0 (.string r2)).put 1 (.slice A8 ts.length c8)
  rw [hsz] at hw2
  refine ⟨q, A8, c8, ts, rfl, hw2, hN, ?_, h2, h3, h4, (h5.put hq (by omega) 0 _).put (hq.put 0 _) (by omega) 1 _⟩
  exact own_mono (own_far (own_far h1 _ (fun e => hk _ e rfl) _) _ (fun e => hk _ e rfl) _) hbs
theorem wrong_new {N bv g : Nat} {w0 : World} {bs : List UInt8} {os1 os2 : List Int} {v : Value} {r2 : ByteArray} {z base : Nat} {w : World} {A8 : Option Addr} {c8 : Nat} {ts : List (Int × Int)}
    (hbs : bv + 1 ≤ base) (hN : N + 2 < w.heap.size) (h1 : w.ownsRow base 79 2 (.slice A8 ts.length c8) ts.length (runCells ts)) (h2 : Good ts) (h3 : expand ts = os2.take z) (h4 : (expand ts).length = z) (h5 : RepSt N bv g w0 bs os1 (os2.drop z) v w) :
    Wrong N bv g w0 bs os1 os2 v r2 z (.pointer (some ⟨w.heap.size, 0, none⟩)) (w.alloc (.cells #[.string r2, .slice A8 ts.length c8] 28)) :=
  ⟨w.heap.size, A8, c8, ts, rfl, Whole.made _ _ _, hN, own_mono (h1.alloc _) hbs, h2, h3, h4, h5.alloc _⟩

set_option maxHeartbeats 2000000 in
set_option maxRecDepth 100000 in
theorem repair_any (s : ByteArray) (A : Option Addr) (n c : Nat) (rs : List (Int × Int)) (w : World) (hl : Lies w w.heap.size A (runCells rs)) (hn : rs.length = n) (hs : s.size ≤ 268435456) (hn2 : n ≤ 4294967296) :
    Calls Tryz.prog 20 #[.agg #[.string s, .slice A n c]] w (Tells ⟨((rep (chars s.data.toList rs)).map (·.1)).toArray⟩ (comp ((rep (chars s.data.toList rs)).map (·.2))) w) := by
  have HN := Lib.hid hn
  clear hn
  have hsl : s.data.toList.length = s.size := by rw [Array.length_toList]; rfl
  have HSL := Lib.hid hsl
  clear hsl
  go_enter Tryz.func20, Tryz.ntmps20
  go_wp2_with fail
  refine (fix_any s A n c rs _ ?_ HN.out (by omega) hn2).mono ?_
  · exact (((hl.alloc (Nat.le_refl _) _).alloc (by simp) _).alloc (by simp; omega) _).mono (by simp; omega)
  rintro e w3 ⟨v, rfl, hown, hb3⟩
  obtain ⟨A3, c3, rfl, _, _, _⟩ := own_form hown
  have fr1 := fun w' => field_runs s A3 (taken s.size rs).length c3 w'
  go_wp2_with fail
  clear fr1
  refine (taker_any _ _ _ _).mono ?_
  rintro e w' ⟨rfl, rfl⟩
  simp only [World.size_alloc] at hown hb3
  have hz3 := hb3.size
  simp only [World.size_alloc] at hz3
  obtain ⟨g, hra, hgl, hg1, hg2⟩ := runs_at hown rfl (by omega)
  have hex : expand (taken s.size rs) = origins s.size rs := expand_comp _
  have hgood : Good (taken s.size rs) := Good.comp (origins_in _ _)
  have hL1 : (chars s.data.toList rs).map (·.1) = s.data.toList := chars_fst _ _
  have hL2 : (chars s.data.toList rs).map (·.2) = origins s.size rs := by rw [chars_snd, HSL.out]
  have hLn : (chars s.data.toList rs).length = s.size := by rw [chars_length, HSL.out]
  have hin : InR (chars s.data.toList rs) := by intro o ho; rw [hL2] at ho; exact origins_in _ _ o ho
  generalize hL : chars s.data.toList rs = L at *
  have HLL := Lib.hid hL
  clear hL
  generalize hqs : taken s.size rs = qs at *
  have hqn : qs.length ≤ s.size := by
    have h1 := good_length hgood
    rw [hex, origins_length] at h1
    exact h1
  generalize hw4 : w3.alloc (.cells #[.slice A3 qs.length c3] 26) = w4 at *
  have hb34 : Below w3.heap.size w3 w4 := by rw [← hw4]; exact (Below.refl _ _).alloc (Nat.le_refl _) _
  have hz4 : w4.heap.size = w3.heap.size + 1 := by rw [← hw4]; simp
  have hb4 : Below (w.heap.size + 3) (((w.alloc (.cells #[.string s, .slice A n c] 28)).alloc (.cells #[.string ⟨#[]⟩, .slice none 0 0] 28)).alloc (.cells #[.pointer none, .slice none 0 0] 68)) w4 := hb3.trans (hb34.mono (by omega))
  have y0 : Whole w4 w.heap.size 28 #[.string s, .slice A n c] := (((Whole.made w _ _).alloc _).alloc _).below hb4 (by omega)
  have y1 : Whole w4 (w.heap.size + 1) 28 #[.string ⟨#[]⟩, .slice none 0 0] := by
    have h := (Whole.made (w.alloc (.cells #[.string s, .slice A n c] 28)) 28 #[.string ⟨#[]⟩, .slice none 0 0]).alloc (.cells #[.pointer none, .slice none 0 0] 68)
    simp only [World.size_alloc] at h
    exact h.below hb4 (by omega)
  have hi0 : Lib.IsBuilderF 68 5 (w.heap.size + 2) (w.heap.size + 2) (Lib.byteCells []) w4 := by
    have h := Lib.IsBuilderF.of (Lib.fresh_isBuilder 68 5 ((w.alloc (.cells #[.string s, .slice A n c] 28)).alloc (.cells #[.string ⟨#[]⟩, .slice none 0 0] 28)))
    simp only [World.size_alloc] at h
    exact builder_below h (hb4.mono (by simp)) (by decide)
  have hbw : Below w.heap.size w w4 := ((((Below.refl _ _).alloc (Nat.le_refl _) _).alloc (by simp) _).alloc (by simp; omega) _).trans (hb4.mono (by omega))
  have c0 : w4.cell? ⟨w.heap.size, 0, none⟩ = some (.string s) := y0.at_ 0
  have hst0 : RepSt w.heap.size w3.heap.size g w4 [] [] (L.map (·.2)) (.slice none 0 0) w4 := by
    refine ⟨[], qs, World.ownsRow_nil _ _ _ _, Good.nil, rfl, hra, hgood, by rw [hex, hL2], hi0, Below.refl _ _, ⟨?_, by omega, ?_⟩, hgl, by omega⟩
    · intro e
      by_cases hq : qs = []
      · have := hg2 hq; omega
      · have := hg1 hq; omega
    · intro h
      have hq : qs ≠ [] := by intro e; apply h; rw [hL2, ← hex, e]; rfl
      have := hg1 hq
      omega
  have HST := Lib.hid hst0
  have HL1 := Lib.hid hL1
  have HL2 := Lib.hid hL2
  have HLN := Lib.hid hLn
  have HZ4 := Lib.hid hz4
  clear hst0 hL1 hL2 hLn hz4 hw4 hqs hex hra hown hb3 hb34 hi0 hb4 hg1 hg2 hgood
  go_wp2_with fail
  go_loopw [6, 4] (RepRel L w.heap.size w3.heap.size g w4) (fun r _ _ => strLen r)
  case atStart => exact ⟨0, s, [], rfl, by simpa using HL1.out.symm, Nat.zero_le _, by simp, by simpa using HST.out⟩
  case round =>
    obtain ⟨j, r, out, rfl, hr, hj, hrep, hst⟩ := hrel
    have hrl : r.data.toList.length = r.size := by rw [Array.length_toList]; rfl
    have hrj : r.size = s.size - j := by rw [← hrl, hr, List.length_map, List.length_drop, HLN.out]
    rw [HLN.out] at hj
    have hrj1 : r.size + j ≤ s.size := by omega
    have hrj2 : s.size ≤ r.size + j := by omega
    have HRJ := Lib.hid hrj
    clear hrj
    have HR := Lib.hid hr
    have HRL := Lib.hid hrl
    have HREP := Lib.hid hrep
    clear hr hrl hrep
    by_cases hlt : j < s.size
    · have hne : r.toList.isEmpty = false := by
        rw [ByteArray.toList_eq]
        cases hx : r.data.toList with
        | nil => have := HRL.out; rw [hx] at this; simp at this; omega
        | cons _ _ => rfl
      have hne' : r.toList ≠ [] := by intro h; rw [h] at hne; simp at hne
      have hos : (L.drop j).map (·.2) ≠ [] := by
        intro h
        have := congrArg List.length h
        rw [List.length_map, List.length_drop, HLN.out, List.length_nil] at this
        omega
      have HOS := Lib.hid hos
      clear hos
      go_wp2_with fail
      refine (find_repl r _ (by omega)).mono ?_
      rintro e w' ⟨rfl, rfl⟩
      have hb := fr_bd r.data.toList
      rw [HRL.out] at hb
      have hRF : fr r.data.toList = fr ((L.drop j).map (·.1)) := by rw [HR.out]
      generalize hq : fr r.data.toList = q at *
      obtain ⟨a, z⟩ := q
      simp only at hb
      obtain ⟨hb1, hb2, hb3⟩ := hb
      have HQ := Lib.hid hq
      have HRF := Lib.hid hRF
      have HB2 := Lib.hid hb2
      clear hq hRF hb2
      have hol : out.length ≤ 3 * s.size := by
        have h1 := rep_length L
        rw [HREP.out, List.length_append, HLN.out] at h1
        omega
      obtain ⟨rs1, qs1, h1, h2, h3, h4, h5, h6, h7, h8, h9, h10, h11⟩ := id hst
      have HWS := Lib.hid hst
      have HB7 := Lib.hid h7
      clear h1 h2 h3 h4 h5 h6 h7 hst
      have hwz := h8.size
      rw [HZ4.out] at hwz
      clear h8
      go_wp2_with fail
      refine (writeString_any (w.heap.size + 2) (w.heap.size + 2) (Lib.byteCells (out.map (·.1))) (r.extract 0 a) _ HB7.out (by rw [Lib.byteCells_length, List.length_map, ByteArray.size_extract]; omega) (by omega)).mono ?_
      rintro e w5 ⟨rfl, hbu5, hbl5, hoth5⟩
      have hst5 := HWS.out.write hbu5 hbl5 hoth5
      clear hbu5 hbl5 hoth5
      obtain ⟨rs1, qs1, h1, h2, h3, h4, h5, h6, h7, h8, h9, h10, h11⟩ := hst5
      have hql : (expand qs1).length = s.size - j := by rw [h6, List.length_map, List.length_drop, HLN.out]
      have g1 := Lib.hid h1
      have g3 := Lib.hid h3
      have g4 := Lib.hid h4
      have g6 := Lib.hid h6
      have g7 := Lib.hid h7
      have g8 := Lib.hid h8
      have GQ := Lib.hid hql
      clear h1 h3 h4 h6 h7 h8 hql
      go_wp2_with fail
      refine (take_any qs1 a w3.heap.size g _ g4.out h5 (by rw [GQ.out]; omega) (by rw [GQ.out]; omega) h11 (by omega)).mono ?_
      rintro e w6 ht
      obtain ⟨v6, _, _, rfl, _⟩ := id ht
      obtain ⟨hst6, ts, t1, t2, t3, t4⟩ := RepSt.take g1.out h2 g3.out g4.out g6.out g7.out g8.out h9 h10 h11 HOS.out ht
      clear ht
      obtain ⟨A6, c6, rfl, hA6, _, _⟩ := own_form t1
      have t5 := good_length t2
      rw [t4] at t5
      obtain ⟨rs6, qs6, k1, k2, k3, k4, k5, k6, k7, k8, k9, k10, k11⟩ := hst6
      have hr6 := good_length k2
      have hr7 : (expand rs6).length ≤ 3 * s.size := by rw [k3, List.length_map]; exact hol
      have q1 := Lib.hid k1
      have q3 := Lib.hid k3
      have q6 := Lib.hid k6
      have T1 := Lib.hid t1
      have T3 := Lib.hid t3
      have T4 := Lib.hid t4
      clear t1 t3 t4 k1 k3 k6 g1 g3 g4 g6 g7 g8 h2 h5 h9 h10 h11 GQ
      generalize hz6 : rs6.length = z6 at *
      generalize hz7 : ts.length = z7 at *
      have Z6 := Lib.hid hz6
      have Z7 := Lib.hid hz7
      clear hz6 hz7
      obtain ⟨i0, hi, hz0, hz1, hz2⟩ := info_parts run_info
      obtain ⟨A4, c4, rfl, _, _, _⟩ := own_form q1.out
      have s1 := Lib.hid (show (runCells ts).length = z7 * 2 by rw [runCells_length, Z7.out])
      have s2 : Hid (Lies w6 w6.heap.size A6 (runCells ts)) := Lies.own T1.out
      have s3 : Hid (z6 + z7 ≤ maxLen) := by show _ ≤ _; simp only [maxLen]; omega
      have s4 : Hid ((z6 + z7) * 16 ≤ 140737488355328) := by show _ ≤ _; omega
      have s5 : Hid (w3.heap.size + 1 ≤ w6.heap.size) := by show _ ≤ _; omega
      go_wp2_with (at_builtin; refine wpList_append_src _ rfl _ _ 26 rfl (w3.heap.size + 1) 79 i0 _ 2 16 Tryz.underlying26 hi hz0 hz1 hz2 rfl (by decide) (.slice A4 z6 c4) z6 _ rfl q1.out w6.heap.size A6 z7 c6 (runCells ts) rfl hA6 s1.out s2.out (runCells_one' ts) s3.out s4.out s5.out ?_)
      intro v7 w7 hown7 hgrow7 _
      have hst7 : RepSt w.heap.size w3.heap.size g w4 (out.map (·.1) ++ (r.extract 0 a).data.toList) (expand rs6 ++ expand ts) (((L.drop j).map (·.2)).drop a) v7 w7 := RepSt.grow (rs := rs6) (ts := ts) (by rw [Z6.out]; exact q1.out) k2 k4 k5 q6.out k7 k8 k9 k10 k11 t2 (by rw [Z6.out, Z7.out]; exact hown7) hgrow7
      rw [q3.out, T3.out] at hst7
      clear hown7 hgrow7 k2 k4 k5 k7 k8 k9 k10 k11 t2 q1 q3 q6 T1 T3 T4
      by_cases hz0' : z = 0
      · subst hz0'
        have ha : a = (L.drop j).length := by rw [List.length_drop, HLN.out, HB2.out rfl, HRJ.out]
        have HA := Lib.hid ha
        clear ha
        go_wp2_with fail
        go_roundw
        case rel => exact rep_last HR.out HA.out HRF.out.symm HREP.out (by first | exact ba_tail _ _ | (rw [ba_tail]; simp)) hst7
        case measure => have h1 := HB2.out rfl; simp [strLen, ByteArray.size_extract]; omega
      · have hzp : 0 < z := by omega
        have hlen8 : (((L.drop j).map (·.2)).drop a).length = r.size - a := by rw [List.length_drop, List.length_map, List.length_drop, HLN.out, HRJ.out]
        have hos8 : ((L.drop j).map (·.2)).drop a ≠ [] := by
          intro h
          rw [h, List.length_nil] at hlen8
          omega
        have HS7 := Lib.hid hst7
        have HO8 := Lib.hid hos8
        have HL8 := Lib.hid hlen8
        have h11 : w3.heap.size < w7.heap.size := by obtain ⟨_, _, _, _, _, _, _, _, _, _, _, _, h⟩ := hst7; exact h
        have hgb : g < w3.heap.size := by obtain ⟨_, _, _, _, _, _, _, _, _, _, _, h, _⟩ := hst7; exact h
        have hNb : w.heap.size + 2 < w3.heap.size := by obtain ⟨_, _, _, _, _, _, _, _, _, _, h, _, _⟩ := hst7; exact h.2.1
        clear hst7 hos8 hlen8
        have h8a : a + z ≤ r.size := hb1
        go_upto_region 11 with (fail)
        go_cut [9] (fun s9 wx => Wrong w.heap.size w3.heap.size g w4 (out.map (·.1) ++ (r.extract 0 a).data.toList) (out.map (·.2) ++ ((L.drop j).map (·.2)).take a) (((L.drop j).map (·.2)).drop a) v7 (r.extract a (a + z)) z s9 wx)
        case first =>
          go_wp2_with fail
          have hw1 : IntKind.i64.wrap ((a : Int) + (z : Int)) = (a : Int) + (z : Int) := IntWalk.i64_in _ (by omega)
          have hw2 : (0 : Int) ≤ (a : Int) := Int.natCast_nonneg _
          have hw3 : (0 : Int) ≤ (z : Int) := Int.natCast_nonneg _
          have hw4 : (a : Int) + (z : Int) ≤ (r.size : Int) := by omega
          have hw5 : (a : Int) ≤ (a : Int) + (z : Int) := by omega
          have hw6 : (0 : Int) ≤ (a : Int) + (z : Int) := by omega
          have hw7 : ((a : Int) + (z : Int)).toNat = a + z := by omega
          have hq1 : ¬ Two w3.heap.size g w7.heap.size := by rintro (h | h) <;> omega
          have HTK : Hid (∀ w', Below w7.heap.size w7 w' → Calls Tryz.prog 70 #[.int .i64 z, .pointer (some ⟨w3.heap.size, 0, none⟩)] w' (TakenSt w.heap.size w3.heap.size g w4 (out.map (·.1) ++ (r.extract 0 a).data.toList) (out.map (·.2) ++ ((L.drop j).map (·.2)).take a) (((L.drop j).map (·.2)).drop a) v7 z w')) := fun w' hb => take_st z (HS7.out.below hb) HO8.out (by rw [HL8.out]; omega) (by rw [HL8.out]; omega)
          go_region_held3 (fun _ => True)
            (first | exact trivial | go_keep)
            (first
              | (go_at_call 70; refine (HTK.out _ ?_).mono ?_; (first | exact Below.refl _ _ | exact (Below.refl _ _).drew | exact (Below.refl _ _).alloc (Nat.le_refl _) _ | exact ((Below.refl _ _).alloc (Nat.le_refl _) _).drew | exact ((Below.refl _ _).drew).alloc (Nat.le_refl _) _); rintro e w8 ⟨u8, ts8, rfl, o1, o2, o3, o4, o5, o6⟩; obtain ⟨A8, c8, rfl, hA8, _, _⟩ := own_form o1; (first | (have hwq : Whole w8 w7.heap.size 28 #[.string ⟨#[]⟩, .slice none 0 0] := o6.whole (by first | exact Whole.made _ _ _ | exact (Whole.made _ _ _).drew) hq1; have x0 := hwq.at_ 0; have x1 := hwq.at_ 1; have x2 := hwq.free 0; have x3 := hwq.free 1) | skip)))
          all_goals
            go_wp2_with fail
          all_goals
            go_meet
            first
              | exact wrong_new (by first | omega | (simp; omega)) (by have := o6.size; first | omega | (simp at this; omega)) o1 o2 o3 o4 o5
              | exact wrong_mem rfl (by first | omega | (simp; omega)) hwq (by omega) o1 o2 o3 o4 o5
        case rest =>
          obtain ⟨q, A8, c8, ts8, rfl, hWq, hqN, o1, o2, o3, o4, hst8⟩ := hcut
          have hbu8 : Lib.IsBuilderF 68 5 (w.heap.size + 2) (w.heap.size + 2) (Lib.byteCells (out.map (·.1) ++ (r.extract 0 a).data.toList)) wc := by obtain ⟨_, _, _, _, _, _, _, _, h, _⟩ := hst8; exact h
          have hwc : w3.heap.size < wc.heap.size := by obtain ⟨_, _, _, _, _, _, _, _, _, _, _, _, h⟩ := hst8; exact h
          have HS8 := Lib.hid hst8
          have HB8 := Lib.hid hbu8
          have Q1 := Lib.hid o1
          have Q3 := Lib.hid o3
          have Q4 := Lib.hid o4
          have hts := good_length o2
          rw [o4] at hts
          clear o1 o3 o4 hst8 hbu8
          have hx8 : (Lib.byteCells (out.map (·.1) ++ (r.extract 0 a).data.toList)).length ≤ 4 * s.size := by rw [Lib.byteCells_length, List.length_append, List.length_map, ba_list, List.length_take]; omega
          go_wp2_with fail
          refine (writeString_any (w.heap.size + 2) (w.heap.size + 2) (Lib.byteCells (out.map (·.1) ++ (r.extract 0 a).data.toList)) ⟨#[239, 191, 189]⟩ _ HB8.out (by show _ + 3 ≤ _; omega) (by omega)).mono ?_
          rintro e w9 ⟨rfl, hbu9, hbl9, hoth9⟩
          have hst9 := HS8.out.write hbu9 hbl9 hoth9
          have hW9 : Whole w9 q 28 #[.string (r.extract a (a + z)), .slice A8 ts8.length c8] := hoth9 _ _ hWq (by intro e; injection e with e; omega) (by intro c fz e; injection e with _ e _; exact absurd e (by decide))
          have ho9 := own_others Q1.out hoth9 (by omega)
          have HS9 := Lib.hid hst9
          have HO9 := Lib.hid ho9
          have e0 : w9.cell? ⟨q, 0, none⟩ = some (.string (r.extract a (a + z))) := hW9.at_ 0
          have e1 : w9.cell? ⟨q, 1, none⟩ = some (.slice A8 ts8.length c8) := hW9.at_ 1
          clear hbu9 hbl9 hoth9 hst9 ho9
          have hrz : (r.extract a (a + z)).size = z := by rw [ByteArray.size_extract]; omega
          have HRZ := Lib.hid hrz
          clear hrz
          go_wp2_with fail
          refine (worst_any (r.extract a (a + z)) A8 ts8.length c8 ts8 _ (Lies.own HO9.out) rfl (by rw [HRZ.out]; omega) (by omega)).mono ?_
          rintro e w10 ⟨rfl, hb10⟩
          rw [HRZ.out, origins_expand o2 Q4.out, Q3.out]
          generalize ho : worstO ((((L.drop j).map (·.2)).drop a).take z) = o
          have HO := Lib.hid ho
          have hoin : 0 ≤ o ∧ o ≤ 65536 := by
            rw [← ho]
            refine worstO_in fun x hx => hin x ?_
            have := List.mem_of_mem_drop (List.mem_of_mem_take hx)
            rw [List.map_drop] at this
            exact List.mem_of_mem_drop this
          clear ho
          obtain ⟨rs10, qs10, k1, k2, k3, k4, k5, k6, k7, k8, k9, k10, k11⟩ := HS9.out.below hb10
          have hr6' := good_length k2
          have hr7' : (expand rs10).length ≤ 3 * s.size + s.size := by rw [k3, List.length_append, List.length_map, List.length_take, List.length_map, List.length_drop, HLN.out]; omega
          have q1 := Lib.hid k1
          have q3 := Lib.hid k3
          have q6 := Lib.hid k6
          clear k1 k3 k6 e0 e1
          generalize hz6 : rs10.length = z10 at *
          have Z10 := Lib.hid hz6
          clear hz6
          obtain ⟨A10, c10, rfl, _, _, _⟩ := own_form q1.out
          go_wp2_with (at_builtin; refine wpList_append_own_at _ rfl _ _ 26 rfl (w3.heap.size + 1) 79 i0 _ 2 16 Tryz.underlying26 hi hz0 hz1 hz2 rfl (by decide) (.slice A10 z10 c10) z10 _ rfl (q1.out.alloc _) ⟨w10.heap.size, 0, none⟩ 1 1 [.int .i64 3, .int .i64 o] rfl rfl (cells_new w10 _ _) (by simp [Value.oneCell']) (by simp only [maxLen]; omega) (by omega) (by simp; omega) ?_)
          intro v11 w11 hown11 hgrow11 _ _
          have hst11 : RepSt w.heap.size w3.heap.size g w4 (out.map (·.1) ++ (r.extract 0 a).data.toList ++ badB) (expand rs10 ++ expand [(3, o)]) ((((L.drop j).map (·.2)).drop a).drop z) v11 w11 :=
            RepSt.grow (w := w10.alloc (.cells #[.int .i64 3, .int .i64 o] 79)) (rs := rs10) (ts := [(3, o)]) (by rw [Z10.out]; exact q1.out.alloc _) k2 (k4.keep (fun k _ c t _ hw => hw.alloc _)) k5 q6.out (builder_alloc k7 _ (by decide)) (k8.alloc (by omega) _) k9 k10 (by simp; omega) (Good.one ⟨by omega, hoin⟩) (by rw [Z10.out]; exact hown11) hgrow11
          rw [q3.out, expand_one] at hst11
          clear hown11 hgrow11 k2 k4 k5 k7 k8 k9 k10 k11 q1 q3 q6
          go_wp2_with fail
          go_roundw
          case rel => exact rep_more HR.out (by rw [List.length_drop, HLN.out]; omega) (by rw [HLN.out]; omega) hzp HRF.out.symm HREP.out (by first | exact ba_tail _ _ | (rw [ba_tail])) HO.out.symm hst11
          case measure => simp [strLen, ByteArray.size_extract]; omega
    · have hne : r.toList = [] := by
        rw [ByteArray.toList_eq]
        exact List.eq_nil_of_length_eq_zero (by rw [HRL.out]; omega)
      have hdrop : L.drop j = [] := List.drop_of_length_le (by rw [HLN.out]; omega)
      have hout : rep L = out := by rw [HREP.out, hdrop, rep_nil, List.append_nil]
      have HOUT := Lib.hid hout
      have hol := rep_length L
      rw [hout, HLN.out] at hol
      obtain ⟨rs1, qs1, h1, h2, h3, h4, h5, h6, h7, h8, h9, h10, h11⟩ := hst
      have g1 := Lib.hid h1
      have g3 := Lib.hid h3
      clear hdrop hout h1 h3 h4 h5 h6
      have hr6 := good_length h2
      have hr7 : (expand rs1).length = out.length := by rw [g3.out, List.length_map]
      have hws := h8.size
      rw [HZ4.out] at hws
      have GL := Lib.hid hr7
      have hr8 : (expand rs1).length ≤ 3 * s.size := by omega
      clear hr7
      go_wp2_with fail
      refine (Tryz.Builder_String_any_k (w.heap.size + 2) (w.heap.size + 2) (out.map (·.1)) wr h7 (by omega)).mono ?_
      rintro e w5 ⟨rfl, _, hbl5, hoth5⟩
      have ho5 := own_others g1.out hoth5 (by omega)
      obtain ⟨A5, c5, rfl, _, _, _⟩ := own_form ho5
      have hb5 : Below (w.heap.size + 2) w4 w5 := h8.trans hbl5
      have hz5 := hbl5.size
      have HO5 := Lib.hid ho5
      have HE5 : Hid (taken (ByteArray.mk (out.map (·.1)).toArray).size rs1 = comp (out.map (·.2))) := by
        show _ = _
        unfold taken
        rw [origins_expand h2 (by rw [GL.out]; show out.length = (out.map (·.1)).toArray.size; simp), g3.out]
      clear ho5 hoth5 hbl5 h7 h8
      generalize hz6 : rs1.length = z6 at *
      have Z6 := Lib.hid hz6
      clear hz6
      go_wp2_with fail
      have hs5 : (ByteArray.mk (out.map (·.1)).toArray).size ≤ 4294967296 := by show (out.map (·.1)).toArray.size ≤ _; rw [List.size_toArray, List.length_map]; omega
      with_reducible refine (fix_any ⟨(out.map (·.1)).toArray⟩ A5 z6 c5 rs1 _ (Lies.own HO5.out) Z6.out hs5 (by omega)).mono ?_
      rw [HE5.out]
      rintro e w6 ⟨v6, rfl, ho6, hb6⟩
      obtain ⟨A6, c6, rfl, _, _, _⟩ := own_form ho6
      have hb7 : Below (w.heap.size + 2) w4 w6 := hb5.trans (hb6.mono (by omega))
      have hW := y1.below hb7 (by omega)
      have f0 := hW.free 0
      have f1 := hW.free 1
      have d0 : w6.cell? ⟨w.heap.size + 1, 0, none⟩ = some (.string ⟨#[]⟩) := hW.at_ 0
      have d1 : w6.cell? ⟨w.heap.size + 1, 1, none⟩ = some (.slice none 0 0) := hW.at_ 1
      have HO6 := Lib.hid ho6
      have hz6 := hb6.size
      clear ho6
      generalize hq : comp (out.map (·.2)) = q at *
      have HQQ := Lib.hid hq
      clear hq
      go_wp2_with fail
      refine bodyPost_ret (v := .agg #[.string ⟨(out.map (·.1)).toArray⟩, .slice A6 q.length c6]) ?_ rfl ?_
      · simp [results, Tryz.results20, go_sem, d0, d1]
      · rw [HLL.out, HOUT.out, HQQ.out]
        exact tells_end (Nat.le_succ _) (own_mono HO6.out (by omega)) (hbw.trans (hb7.mono (by omega)))

end Go.Proofs.YtnbdldapmllegaaGreat.mk
