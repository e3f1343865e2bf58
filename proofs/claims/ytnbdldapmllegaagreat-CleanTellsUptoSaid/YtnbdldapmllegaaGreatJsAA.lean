/-
  Trees that come in: a bundle; a text as a tree.
-/
import Derived.Test.YtnbdldapmllegaaGreatJsZ
import Derived.Test.YtnbdldapmllegaaGreatJsU
import Derived.Test.YtnbdldapmllegaaGreatJsW
import Derived.Test.YtnbdldapmllegaaGreatJsR
import Derived.Test.YtnbdldapmllegaaGreatJsH
import Derived.Test.YtnbdldapmllegaaGreatJsT
namespace Go.Proofs.YtnbdldapmllegaaGreat.mk
open Go.RowKit

def txtOf (l : List (UInt8 × Int)) : ByteArray := ⟨(l.map (·.1)).toArray⟩
def runN (l : List (UInt8 × Int)) : Nat := (comp (l.map (·.2))).length
def TellsL (l : List (UInt8 × Int)) (W : World) (e : Ending) (w' : World) : Prop :=
  ∃ D k, e = .returned (.agg #[.string (txtOf l), .slice D (runN l) k]) ∧ Lies w' w'.heap.size D (runCells (comp (l.map (·.2)))) ∧ Below W.heap.size W w'
def SaysB (V : Value) (W : World) (e : Ending) (w' : World) : Prop := e = .returned V ∧ Below W.heap.size W w'
theorem tellsL_of {l : List (UInt8 × Int)} {W : World} {e : Ending} {w' : World} (h : Tells ⟨(l.map (·.1)).toArray⟩ (comp (l.map (·.2))) W e w') : TellsL l W e w' := by
  obtain ⟨v, rfl, ho, hb⟩ := h
  obtain ⟨D, k, rfl, _, _, _⟩ := own_form ho
  exact ⟨D, k, rfl, Lies.own ho, hb⟩
theorem runN_le (l : List (UInt8 × Int)) : runN l ≤ l.length := by
  have := comp_length_le (l.map (·.2))
  rw [List.length_map] at this
  exact this
end Go.Proofs.YtnbdldapmllegaaGreat.mk

namespace Go.Proofs.YtnbdldapmllegaaGreat.mk
open Go.RowKit

def LT.ch (t : LT) : List (UInt8 × Int) := chars t.bs t.rs
theorem LT.ch_length (t : LT) : t.ch.length = t.s.size := by unfold LT.ch; rw [chars_length, LT.bs_length]
theorem LT.ch_fst (t : LT) : t.ch.map (·.1) = t.bs := chars_fst _ _
theorem LT.ch_snd (t : LT) : t.ch.map (·.2) = t.os := by unfold LT.ch; rw [chars_snd, LT.bs_length]; rfl
theorem txtOf_size (l : List (UInt8 × Int)) : (txtOf l).size = l.length := by show (l.map (·.1)).toArray.size = _; simp
theorem txtOf_chars {l : List (UInt8 × Int)} (h : InR l) : chars (txtOf l).data.toList (comp (l.map (·.2))) = l := chars_told h

/-- a labelled text that was told -/
def toldT (l : List (UInt8 × Int)) (D : Option Addr) (k : Nat) : LT := ⟨txtOf l, D, runN l, k, comp (l.map (·.2))⟩
theorem toldT_ch {l : List (UInt8 × Int)} (h : InR l) (D : Option Addr) (k : Nat) : (toldT l D k).ch = l := txtOf_chars h
theorem toldT_ok {l : List (UInt8 × Int)} {D : Option Addr} {W : World} (k : Nat) (h : Lies W W.heap.size D (runCells (comp (l.map (·.2))))) (hn : l.length ≤ 4294967296) : (toldT l D k).ok W W.heap.size :=
  ⟨h, rfl, Nat.le_trans (runN_le l) hn, by show (txtOf l).size ≤ _; rw [txtOf_size]; exact hn⟩
theorem LT.ch_in (t : LT) : InR t.ch := InR.chars _ _
end Go.Proofs.YtnbdldapmllegaaGreat.mk

namespace Go.Proofs.YtnbdldapmllegaaGreat.mk
open Go.RowKit

/-- bytes with their origins: of a name, and of a value -/
abbrev Ch := List (UInt8 × Int)
abbrev PA := Ch × Ch
def nmB (p : PA) : List UInt8 := p.1.map (·.1)
/-- the first place of a name; the length if there is none -/
def placeN (L : List PA) (nm : List UInt8) : Nat := L.findIdx (fun p => nmB p == nm)
def isI (f : PA → Bool) (L : List PA) (i : Nat) : Bool := match L[i]? with | some p => f p | none => false
/-- those at the places that are wanted, of the first so many -/
def selTo (p : Nat → Bool) (L : List PA) : Nat → List PA
  | 0 => []
  | k + 1 => selTo p L k ++ (if p k then (L[k]?).toList else [])
def sel (p : Nat → Bool) (L : List PA) : List PA := selTo p L L.length
def onceP (L : List PA) (i : Nat) : Bool := isI (fun p => placeN L (nmB p) == i) L i
def onceA (L : List PA) : List PA := sel (onceP L) L
theorem placeN_hit {L : List PA} {nm : List UInt8} (h : placeN L nm < L.length) : ∃ p, L[placeN L nm]? = some p ∧ nmB p = nm := by
  refine ⟨_, List.getElem?_eq_getElem h, ?_⟩
  have := List.findIdx_getElem (w := h) (p := fun p => nmB p == nm)
  exact beq_iff_eq.1 this
theorem placeN_lt {L : List PA} {nm : List UInt8} {i : Nat} {p : PA} (h : i < placeN L nm) (hp : L[i]? = some p) : nmB p ≠ nm := by
  have := List.not_of_lt_findIdx h
  obtain ⟨hi, e⟩ := List.getElem?_eq_some_iff.1 hp
  rw [e] at this
  exact beq_eq_false_iff_ne.1 this
theorem placeN_of {L : List PA} {nm : List UInt8} {i : Nat} {p : PA} (hp : L[i]? = some p) (hn : nmB p = nm) (hb : ∀ (j : Nat) (q : PA), j < i → L[j]? = some q → nmB q ≠ nm) : placeN L nm = i := by
  obtain ⟨hi, e⟩ := List.getElem?_eq_some_iff.1 hp
  rcases Nat.lt_trichotomy (placeN L nm) i with h | h | h
  · obtain ⟨q, hq, hqn⟩ := placeN_hit (Nat.lt_trans h hi)
    exact absurd hqn (hb _ _ h hq)
  · exact h
  · exact absurd hn (placeN_lt h hp)
theorem isI_at {f : PA → Bool} {L : List PA} {i : Nat} {p : PA} (h : L[i]? = some p) : isI f L i = f p := by unfold isI; rw [h]
theorem selTo_next {p : Nat → Bool} {L : List PA} {k : Nat} {x : PA} (h : L[k]? = some x) : selTo p L (k + 1) = selTo p L k ++ (if p k then [x] else []) := by
  show selTo p L k ++ (if p k then (L[k]?).toList else []) = _
  rw [h]
  rfl
theorem selTo_len (p : Nat → Bool) (L : List PA) (k : Nat) : (selTo p L k).length ≤ k := by
  induction k with
  | zero => exact Nat.le_refl _
  | succ k ih =>
    unfold selTo
    rw [List.length_append]
    split
    · cases L[k]? <;> simp <;> omega
    · simp; omega
theorem sel_len (p : Nat → Bool) (L : List PA) : (sel p L).length ≤ L.length := selTo_len _ _ _
end Go.Proofs.YtnbdldapmllegaaGreat.mk

namespace Go.Proofs.YtnbdldapmllegaaGreat.mk
open Go.RowKit

end Go.Proofs.YtnbdldapmllegaaGreat.mk

namespace Go.Proofs.YtnbdldapmllegaaGreat.mk
open Go.RowKit

end Go.Proofs.YtnbdldapmllegaaGreat.mk

namespace Go.Proofs.YtnbdldapmllegaaGreat.mk
open Go.RowKit

end Go.Proofs.YtnbdldapmllegaaGreat.mk

namespace Go.Proofs.YtnbdldapmllegaaGreat.mk
open Go.RowKit

def upperB (b : UInt8) : Bool := decide (65 ≤ b.toNat) && decide (b.toNat ≤ 90)
def lowB (b : UInt8) : UInt8 := if upperB b then b + 32 else b

set_option maxHeartbeats 400000 in
theorem upper_any (b : UInt8) (w : World) :
    Calls Tryz.prog 43 #[.int .u8 b.toNat] w fun e w' => e = .returned (.bool (upperB b)) ∧ w = w' := by
  go_enter Tryz.func43, Tryz.ntmps43
  go_wp2
  all_goals
    go_ret
    refine ⟨ret_bool ?_, rfl⟩
    unfold upperB
    rw [Bool.eq_iff_iff]
    simp
    try omega

set_option maxHeartbeats 400000 in
theorem endsF_any (b : UInt8) (w : World) :
    Calls Tryz.prog 90 #[.int .u8 b.toNat] w fun e w' => e = .returned (.bool (decide (b.toNat ≤ 32))) ∧ w = w' := by
  go_enter Tryz.func90, Tryz.ntmps90
  go_wp2
  all_goals
    go_ret
    refine ⟨ret_bool ?_, rfl⟩
    rw [Bool.eq_iff_iff]
    simp
    try omega

set_option maxHeartbeats 400000 in
theorem amongF_any (b : UInt8) (f : UInt8 → Bool) (g : Nat) (w : World) (h : w.cell? ⟨g, b.toNat, none⟩ = some (.bool (f b))) :
    Calls Tryz.prog 103 #[.int .u8 b.toNat, .pointer (some ⟨g, 0, none⟩)] w fun e w' => e = .returned (.bool (f b)) ∧ w = w' := by
  have hb := b.toNat_lt
  have hb1 : (b.toNat : Int) < 256 := by omega
  go_enter Tryz.func103, Tryz.ntmps103
  go_wp2
  go_ret
  exact ⟨rfl, rfl⟩

theorem zero_given (w : World) : Sem.run Tryz.prog (zeroValue 127) w = Result.ok (.agg (Array.replicate 256 (.bool false))) w := by kernel_rfl

def AmongRel (l : List UInt8) (g : Nat) (w0 : World) (i : Value) (wr : World) : Prop :=
  ∃ k : Nat, k ≤ l.length ∧ i = .int .i64 (k : Int) ∧ (∃ cs, cs.size = 256 ∧ Whole wr g 127 cs ∧ ∀ b : UInt8, cs[b.toNat]? = some (.bool ((l.take k).contains b))) ∧ Below g w0 wr

set_option maxHeartbeats 1000000 in
set_option maxRecDepth 100000 in
theorem among_any (s : ByteArray) (w : World) (hs : s.size ≤ 4294967296) :
    Calls Tryz.prog 88 #[.string s] w fun e w' => e = .returned (.func (.func 103) #[] #[.pointer (some ⟨w.heap.size, 0, none⟩)]) ∧ (∀ b : UInt8, w'.cell? ⟨w.heap.size, b.toNat, none⟩ = some (.bool (s.data.toList.contains b))) ∧ w.heap.size < w'.heap.size ∧ Below w.heap.size w w' := by
  have hsl : s.data.toList.length = s.size := by rw [Array.length_toList]; rfl
  have HSL := Lib.hid hsl
  clear hsl
  go_enter Tryz.func88, Tryz.ntmps88
  go_wp2_with fail
  obtain ⟨cs0, hcs⟩ : ∃ cs0 : Array Value, cs0 = Array.replicate 256 (Value.bool false) := ⟨_, rfl⟩
  have hw1 : AmongRel s.data.toList w.heap.size w (.int .i64 0) (w.alloc (.cells cs0 127)) := by
    refine ⟨0, Nat.zero_le _, rfl, ⟨cs0, by rw [hcs]; simp, Whole.made _ _ _, fun b => ?_⟩, (Below.refl _ _).alloc (Nat.le_refl _) _⟩
    have := b.toNat_lt
    rw [hcs]
    simp [Array.getElem?_replicate]
    omega
  first
    | (rw [zero_given]
       simp only [Result.andThen]
       rw [Oper.upon_value, ← hcs]
       clear hcs
       generalize w.alloc (.cells cs0 127) = w1 at *
       go_wp2_with fail)
    | (have hzc : Tryz.zeroCells127 = cs0 := by rw [hcs]; kernel_rfl
       rw [hzc]
       clear hcs hzc
       generalize w.alloc (.cells cs0 127) = w1 at *)
  go_loopw [7] (AmongRel s.data.toList w.heap.size w) (fun i _ => s.size - (intOf i).toNat)
  case atStart => exact hw1
  case round =>
    obtain ⟨k, hk, rfl, ⟨cs, hcs, hW, hcell⟩, hbl⟩ := hrel
    rw [HSL.out] at hk
    clear hw1
    have hWl := hW.lt
    by_cases hlt : k < s.size
    · have hk0 : (0 : Int) ≤ (k : Int) := Int.natCast_nonneg _
      have hk1 : (k : Int) < (s.size : Int) := by omega
      have HSK : Hid (s.data.toList[k]? = some (s[k]'hlt)) := by
        show _ = _
        rw [List.getElem?_eq_getElem (by rw [HSL.out]; exact hlt)]
        rfl
      generalize hsk : s[k]'hlt = x at *
      have hx := x.toNat_lt
      have hx1 : (x.toNat : Int) < 256 := by omega
      have hx0 : (0 : Int) ≤ (x.toNat : Int) := Int.natCast_nonneg _
      have hc0 : wr.cell? ⟨w.heap.size, x.toNat, none⟩ = some (.bool ((s.data.toList.take k).contains x)) := (hW.at_ _).trans (hcell x)
      have hf0 := hW.free x.toNat
      have HC := Lib.hid hcell
      have HNX : Hid (s.data.toList.take (k + 1) = s.data.toList.take k ++ [x]) := take_next HSK.out
      clear hcell
      go_wp2_with fail
      go_roundw
      case rel =>
        refine ⟨k + 1, by rw [HSL.out]; omega, by go_num, ⟨_, ?_, hW.put x.toNat _, fun b => ?_⟩, hbl.setCell (Nat.le_refl _) _⟩
        · simpa using hcs
        · rw [HNX.out]
          by_cases hb : b = x
          · subst hb
            rw [Array.getElem?_setIfInBounds_self_of_lt (by rw [hcs]; omega)]
            simp
          · rw [Array.getElem?_setIfInBounds_ne (by intro e; exact hb (UInt8.toNat_inj.1 e.symm)), HC.out]
            simp [hb]
      case measure => simp [intOf]; omega
    · obtain rfl : k = s.size := by omega
      have HC := Lib.hid hcell
      clear hcell
      go_wp2_with fail
      go_ret
      refine ⟨rfl, fun b => ?_, hWl, hbl⟩
      rw [hW.at_, HC.out, List.take_of_length_le (by rw [HSL.out]; exact Nat.le_refl _)]

end Go.Proofs.YtnbdldapmllegaaGreat.mk

namespace Go.Proofs.YtnbdldapmllegaaGreat.mk
open Go.RowKit

def RwK (N : Nat) (S : Nat → Prop) (Inv : Nat → World → Prop) (out : Nat → List (UInt8 × Int)) (sz : Nat) (qs : List (Int × Int)) (ta : Value) (w0 : World) (k : Nat) (v at_ : Value) (wr : World) : Prop :=
  at_ = .int .i64 (k : Int) ∧ k ≤ sz ∧ (comp ((out k).map (·.2))).length ≤ k ∧ RwSt N S qs ta w0 ((out k).map (·.1)) ((out k).map (·.2)) v wr ∧ Inv k wr
def RwOut (N : Nat) (S : Nat → Prop) (Inv : Nat → World → Prop) (out : Nat → List (UInt8 × Int)) (sz : Nat) (qs : List (Int × Int)) (ta : Value) (w0 : World) (v at_ i : Value) (wr : World) : Prop :=
  ∃ j : Nat, j ≤ qs.length ∧ i = .int .i64 (j : Int) ∧ RwK N S Inv out sz qs ta w0 (expand (qs.take j)).length v at_ wr
def RwIn (N : Nat) (S : Nat → Prop) (Inv : Nat → World → Prop) (out : Nat → List (UInt8 × Int)) (sz : Nat) (qs : List (Int × Int)) (ta : Value) (w0 : World) (r k : Nat) (l o : Int) (v at_ i : Value) (wr : World) : Prop :=
  ∃ m : Nat, (m : Int) ≤ l ∧ i = .int .i64 (m : Int) ∧ RwK N S Inv out sz qs ta w0 (k + m) v at_ wr ∧ Whole wr r 79 #[.int .i64 l, .int .i64 o] ∧ v.ownBlock ≠ some r

/-- what rewrite leaves -/
def RwPost (S : Nat → Prop) (I : World → Prop) (q : List (UInt8 × Int)) (w : World) (e : Ending) (w' : World) : Prop :=
  ∃ v, e = .returned (.agg #[.string ⟨(q.map (·.1)).toArray⟩, v]) ∧ w'.ownsRow w.heap.size 79 2 v (comp (q.map (·.2))).length (runCells (comp (q.map (·.2)))) ∧ Moved S w w' ∧ I w'

/-- what a function that tells what stands for a byte must do -/
def Puts (F : Nat) (caps : Array Value) (S : Nat → Prop) (Inv : Nat → World → Prop) (out : Nat → List (UInt8 × Int)) (L : List (UInt8 × Int)) (N : Nat) : Prop :=
  ∀ k b o w', L[k]? = some (b, o) → Inv k w' → N ≤ w'.heap.size → Calls Tryz.prog F (#[.int .i64 (k : Int), .int .i64 o] ++ caps) w' fun e w'' =>
    ∃ (part : ByteArray) (o' : Int), e = .returned (.tuple #[.string part, .int .i64 o']) ∧ out (k + 1) = out k ++ part.data.toList.map (fun x => (x, o')) ∧ Inv (k + 1) w'' ∧ Moved S w' w''

set_option maxHeartbeats 2000000 in
set_option maxRecDepth 100000 in
theorem rewrite_any (F : Nat) (caps : Array Value) (S : Nat → Prop) (Inv : Nat → World → Prop) (out : Nat → List (UInt8 × Int)) (s : ByteArray) (A : Option Addr) (n c : Nat) (rs : List (Int × Int)) (w : World) (hl : Lies w w.heap.size A (runCells rs)) (hn : rs.length = n) (hs : s.size ≤ 4294967296) (hn2 : n ≤ 4294967296)
    (hE : ∀ args w', Sem.run Tryz.prog (callFunc F args) w' = .ok (.enter F args) w') (hS : ∀ g, S g → g < w.heap.size) (hI : ∀ k w' w'', Inv k w' → Below w.heap.size w' w'' → Inv k w'')
    (hP : Puts F caps S Inv out (chars s.data.toList rs) w.heap.size) (h0 : out 0 = []) (hI0 : Inv 0 w) (hout : ∀ k, k ≤ s.size → (out k).length ≤ 70368744177664) :
    Calls Tryz.prog 101 #[.agg #[.string s, .slice A n c], .func (.func F) #[] caps] w (RwPost S (Inv s.size) (out s.size) w) := by
  have HN := Lib.hid hn
  have HE := Lib.hid hE
  have HS := Lib.hid hS
  have HI := Lib.hid hI
  have HP := Lib.hid hP
  have HB := Lib.hid hout
  have H0 := Lib.hid h0
  have HI0 := Lib.hid hI0
  clear hn hE hS hI hP hout h0 hI0
  go_enter Tryz.func101, Tryz.ntmps101
  go_wp2_with fail
  refine (fix_any s A n c rs _ ?_ HN.out (by omega) hn2).mono ?_
  · exact (((hl.alloc (Nat.le_refl _) _).alloc (by simp) _).alloc (by simp; omega) _).mono (by simp; omega)
  rintro e w3 ⟨v, rfl, hown, hb3⟩
  obtain ⟨A3, c3, rfl, _, _, _⟩ := own_form hown
  have fr1 := fun w' => field_runs s A3 (taken s.size rs).length c3 w'
  go_wp2_with fail
  clear fr1
  simp only [World.size_alloc] at hown hb3
  have hz3 := hb3.size
  simp only [World.size_alloc] at hz3
  have hex : expand (taken s.size rs) = origins s.size rs := expand_comp _
  have hpos : ∀ r ∈ taken s.size rs, 1 ≤ r.1 := comp_pos _
  have hql : (taken s.size rs).length ≤ s.size := by have := comp_length_le (origins s.size rs); rw [origins_length] at this; exact this
  generalize hqs : taken s.size rs = qs at *
  have hexl : (expand qs).length = s.size := by rw [hex, origins_length]
  have y1 : Whole w3 (w.heap.size + 1) 28 #[.string ⟨#[]⟩, .slice none 0 0] := by
    have h := (Whole.made (w.alloc (.cells #[.string s, .slice A n c] 28)) 28 #[.string ⟨#[]⟩, .slice none 0 0]).alloc (.cells #[.pointer none, .slice none 0 0] 68)
    simp only [World.size_alloc] at h
    exact h.below hb3 (by omega)
  have hi0 : Lib.IsBuilderF 68 5 (w.heap.size + 2) (w.heap.size + 2) (Lib.byteCells []) w3 := by
    have h := Lib.IsBuilderF.of (Lib.fresh_isBuilder 68 5 ((w.alloc (.cells #[.string s, .slice A n c] 28)).alloc (.cells #[.string ⟨#[]⟩, .slice none 0 0] 28)))
    simp only [World.size_alloc] at h
    exact builder_below h (hb3.mono (by simp)) (by decide)
  have hbw : Below w.heap.size w w3 := ((((Below.refl _ _).alloc (Nat.le_refl _) _).alloc (by simp) _).alloc (by simp; omega) _).trans (hb3.mono (by omega))
  have hst0 : RwSt w.heap.size S qs (.slice A3 qs.length c3) w3 [] [] (.slice none 0 0) w3 :=
    ⟨World.ownsRow_nil _ _ _ _, hown, by intro g hg; simp [Value.ownBlock] at hg, hi0, Kept.refl _ _ _, by omega⟩
  have HST := Lib.hid hst0
  have HEX := Lib.hid hex
  have HEL := Lib.hid hexl
  have HPOS := Lib.hid hpos
  clear hst0 hown hi0 hb3 hqs hex hexl hpos
  generalize hqn : qs.length = z at *
  have HZ := Lib.hid hqn
  clear hqn
  go_loopw [6, 7, 16] (RwOut w.heap.size S Inv out s.size qs (.slice A3 z c3) w3) (fun _ _ i _ => z - (intOf i).toNat)
  case atStart => exact ⟨0, Nat.zero_le _, rfl, by simp [expand], Nat.zero_le _, by simp [expand, H0.out, comp], by simpa [expand, H0.out] using HST.out, HI.out _ _ _ HI0.out hbw⟩
  case round =>
    obtain ⟨j, hj, rfl, rfl, hks, hcl, hst, hinv⟩ := hrel
    rw [HZ.out] at hj
    have HK1 := Lib.hid hcl
    have HK2 := Lib.hid hst
    have HK3 := Lib.hid hinv
    clear hcl hst hinv
    have hwz : w.heap.size + 3 ≤ wr.heap.size := HK2.out.2.2.2.2.2
    by_cases hjl : j < z
    · have hta2 := HK2.out.2.1
      rw [HZ.out] at hta2
      obtain ⟨ad', l, o, rfl, hbA, hd1, hd2, HR⟩ := (Lies.own hta2).run (k := j) (by rw [HZ.out]; exact hjl)
      have hl1 : 1 ≤ l := HPOS.out (l, o) (List.mem_of_getElem? HR.out)
      have HNX := Lib.hid (expand_take_next HR.out)
      have hx2 := expand_take_len qs (j + 1)
      rw [HNX.out, HEL.out] at hx2
      have HAT : Hid (∀ m : Nat, (m : Int) < l → (origins s.size rs)[(expand (qs.take j)).length + m]? = some o) := fun m hm => by rw [← HEX.out]; exact expand_at HR.out (by omega)
      clear hta2
      generalize hd : (expand (qs.take j)).length = d at *
      have HD := Lib.hid hd
      clear hd
      have hj0 : (0 : Int) ≤ (j : Int) := Int.natCast_nonneg _
      have hj1 : (j : Int) < (z : Int) := by omega
      go_wp2_with fail
      have hrb : Whole (wr.alloc (.cells #[.int .i64 l, .int .i64 o] 79)) wr.heap.size 79 #[.int .i64 l, .int .i64 o] := Whole.made _ _ _
      generalize hw4 : wr.alloc (.cells #[.int .i64 l, .int .i64 o] 79) = w4 at *
      have hb4 : Below wr.heap.size wr w4 := by rw [← hw4]; exact (Below.refl _ _).alloc (Nat.le_refl _) _
      have hst4 := HK2.out.below hb4
      have hinv4 := HI.out _ _ _ HK3.out (hb4.mono (by omega))
      have hv4 : u6.ownBlock ≠ some wr.heap.size := fun e => by have := (HK2.out.1.lt _ e).2; omega
      have HSI : Hid (RwIn w.heap.size S Inv out s.size qs (.slice (some ad') z c3) w3 wr.heap.size d l o u6 (.int .i64 (d : Int)) (.int .i64 0) w4) :=
        ⟨0, by omega, rfl, ⟨rfl, hks, HK1.out, hst4, hinv4⟩, hrb, hv4⟩
      obtain ⟨g, hg⟩ : ∃ g, g = wr.heap.size := ⟨_, rfl⟩
      have hgz : w.heap.size + 3 ≤ g := by omega
      have HSI2 : Hid (RwIn w.heap.size S Inv out s.size qs (.slice (some ad') z c3) w3 g d l o u6 (.int .i64 (d : Int)) (.int .i64 0) w4) := by rw [hg]; exact HSI
      rw [← hg]
      clear HSI hg hw4 hrb hb4 hst4 hinv4 hv4 hd1 hd2 HK1 HK2 HK3
      go_loopw [6, 7, 22] (RwIn w.heap.size S Inv out s.size qs (.slice (some ad') z c3) w3 g d l o) (fun _ _ i _ => l.toNat - (intOf i).toNat)
      case atStart => exact HSI2.out
      case round =>
        obtain ⟨m, hml, rfl, ⟨rfl, hks2, hcl, hst, hinv⟩, hrb, hvg⟩ := hrel
        have HK1 := Lib.hid hcl
        have HK2 := Lib.hid hst
        have HK3 := Lib.hid hinv
        have HRB := Lib.hid hrb
        have HVG := Lib.hid hvg
        clear hcl hst hinv hvg HSI2
        have hbz : w.heap.size + 3 ≤ wr.heap.size := HK2.out.2.2.2.2.2
        have hc1 : wr.cell? ⟨g, 1, none⟩ = some (.int .i64 o) := hrb.at_ 1
        clear hrb
        by_cases hm : (m : Int) < l
        · have hk : d + m < s.size := by omega
          have HLK : Hid ((chars s.data.toList rs)[d + m]? = some (s[d + m]'hk, o)) := chars_at hk (HAT.out m hm)
          have hB0 := HB.out (d + m) (by omega)
          have hB1 := HB.out (d + m + 1) (by omega)
          have HM := Lib.hid hm
          go_wp2_with fail
          rw [HE.out]
          refine (HP.out (d + m) _ o _ HLK.out HK3.out (by omega)).mono ?_
          rintro e w5 ⟨part, o', rfl, hout1, hinv5, hmv⟩
          have hps : (out (d + m + 1)).length = (out (d + m)).length + part.size := by
            rw [hout1, List.length_append, List.length_map, Array.length_toList]; rfl
          have hst5 := HK2.out.moved hmv HS.out
          have hrb5 := hmv.whole HRB.out (fun hs => by have := HS.out _ hs; omega)
          have hz5 := hmv.size
          have H5 := Lib.hid hst5
          have R5 := Lib.hid hrb5
          have I5 := Lib.hid hinv5
          have O5 := Lib.hid hout1
          have P5 := Lib.hid hps
          have hpb : (out (d + m)).length + part.size ≤ 70368744177664 := by omega
          clear hst5 hrb5 hinv5 hout1 hmv hps hc1
          go_wp2_with fail
          refine (writeString_any (w.heap.size + 2) (w.heap.size + 2) (Lib.byteCells ((out (d + m)).map (·.1))) part _ H5.out.2.2.2.1 (by rw [Lib.byteCells_length, List.length_map]; omega) (by omega)).mono ?_
          rintro e w6 ⟨rfl, hbu, hbl, hoth⟩
          have hst6 := H5.out.write hbu hbl hoth
          have hrb6 : Whole w6 g 79 #[.int .i64 l, .int .i64 o] := hoth _ _ R5.out (by intro e; injection e with e; omega) (by intro c fz e; injection e with _ e _; exact absurd e (by decide))
          have hinv6 := HI.out _ _ _ I5.out (hbl.mono (by omega))
          have hz6 := hbl.size
          have H6 := Lib.hid hst6
          have R6 := Lib.hid hrb6
          have I6 := Lib.hid hinv6
          have hc6 := HK1.out
          clear hst6 hrb6 hinv6 hbu hbl hoth
          go_wp2_with fail
          refine (behind_comp (w.heap.size + 3) u6 ((out (d + m)).map (·.2)) (part.size : Int) o' _ H6.out.1 (by omega) (by omega) (by rw [List.length_map]; omega) (by omega) (by omega)).mono ?_
          rintro e w7 ⟨v7, rfl, hown7, hg7, hat7⟩
          have hz7 := hg7.size
          rw [Int.toNat_natCast] at hown7
          have hst7 := H6.out.join hown7 hg7 hat7
          have hjl : (comp ((out (d + m)).map (·.2) ++ List.replicate part.size o')).length ≤ (comp ((out (d + m)).map (·.2))).length + 1 := by rw [comp_replicate]; exact joinR_len _ _ _
          have e1 : (out (d + m + 1)).map (·.1) = (out (d + m)).map (·.1) ++ part.data.toList := by rw [O5.out, List.map_append, List.map_map]; congr 1; exact List.map_id' _
          have e2 : (out (d + m + 1)).map (·.2) = (out (d + m)).map (·.2) ++ List.replicate part.size o' := by
            rw [O5.out, List.map_append, List.map_map]
            congr 1
            have : part.data.toList.length = part.size := by rw [Array.length_toList]; rfl
            rw [← this]
            exact List.map_const'
          rw [← e1, ← e2] at hst7
          rw [← e2] at hjl
          have hrb7 : Whole w7 g 79 #[.int .i64 l, .int .i64 o] := R6.out.grown hg7 (fun e => HVG.out e.symm)
          have hinv7 := HI.out _ _ _ I6.out ((Below.refl _ _).grown hg7 (by omega) (fun k hk => by have := (H6.out.1.lt k hk).1; omega))
          have hvg7 : v7.ownBlock ≠ some g := by
            rcases hat7 with e | ⟨k, hk, e⟩
            · rw [e]; exact HVG.out
            · rw [e]; intro e2; injection e2 with e2; have := R6.out.lt; omega
          have HREL : Hid (RwIn w.heap.size S Inv out s.size qs (.slice (some ad') z c3) w3 g d l o v7 (.int .i64 ((d + m + 1 : Nat) : Int)) (.int .i64 ((m + 1 : Nat) : Int)) w7) :=
            ⟨m + 1, by have := HM.out; omega, rfl, ⟨rfl, by omega, by have : d + (m + 1) = d + m + 1 := rfl; rw [this]; omega, hst7, hinv7⟩, hrb7, hvg7⟩
          clear hst7 hrb7 hinv7 hvg7 hown7 hg7 hat7 hjl e1 e2
          go_wp2_with fail
          go_roundw
          case rel =>
            have h := HREL.out
            first | exact h | (simpa using h)
          case measure => simp [intOf]; omega
        · obtain rfl : l = (m : Int) := by omega
          have HREL : Hid (RwOut w.heap.size S Inv out s.size qs (.slice (some ad') z c3) w3 u6 (.int .i64 ((d + m : Nat) : Int)) (.int .i64 ((j + 1 : Nat) : Int)) wr) := by
            refine ⟨j + 1, by rw [HZ.out]; omega, rfl, ?_⟩
            rw [HNX.out, Int.toNat_natCast]
            exact ⟨rfl, hks2, HK1.out, HK2.out, HK3.out⟩
          go_wp2_with fail
          go_roundw
          case rel => exact HREL.out
          case measure => simp [intOf]; omega
    · obtain rfl : j = z := by omega
      have hfull : (expand (qs.take j)).length = s.size := by rw [List.take_of_length_le (by rw [HZ.out]; exact Nat.le_refl _), HEL.out]
      rw [hfull] at HK1 HK2 HK3
      have HFULL := Lib.hid hfull
      have hB0 := HB.out s.size (Nat.le_refl _)
      clear hfull
      go_wp2_with fail
      refine (Tryz.Builder_String_any_k (w.heap.size + 2) (w.heap.size + 2) ((out s.size).map (·.1)) wr HK2.out.2.2.2.1 (by omega)).mono ?_
      rintro e w5 ⟨rfl, _, hbl5, hoth5⟩
      have ho5 := own_others HK2.out.1 hoth5 (by omega)
      have hinv5 := HI.out _ _ _ HK3.out (hbl5.mono (by omega))
      have hkp := HK2.out.2.2.2.2.1.below hbl5
      have hW := (y1.same (hkp.block _ (by omega) (fun hs => by have := HS.out _ hs; omega)))
      have f0 := hW.free 0
      have f1 := hW.free 1
      have d0 : w5.cell? ⟨w.heap.size + 1, 0, none⟩ = some (.string ⟨#[]⟩) := hW.at_ 0
      have d1 : w5.cell? ⟨w.heap.size + 1, 1, none⟩ = some (.slice none 0 0) := hW.at_ 1
      obtain ⟨A5, c5, rfl, _, _, _⟩ := own_form ho5
      have HO5 := Lib.hid ho5
      have HI5 := Lib.hid hinv5
      have HKP := Lib.hid hkp
      clear ho5 hinv5 hkp
      generalize hq1 : (out s.size).map (·.1) = st at *
      generalize hq2 : comp ((out s.size).map (·.2)) = q at *
      have HQ1 := Lib.hid hq1
      have HQ2 := Lib.hid hq2
      clear hq1 hq2
      go_wp2
      refine bodyPost_ret (v := .agg #[.string ⟨st.toArray⟩, .slice A5 q.length c5]) ?_ rfl ?_
      · simp [results, Tryz.results101, go_sem, d0, d1]
      · refine ⟨.slice A5 q.length c5, by rw [HQ1.out], ?_, ?_, ?_⟩
        · rw [HQ2.out]
          refine own_mono (base := w.heap.size + 3) (own_far (own_far HO5.out _ (fun h => ?_) _) _ (fun h => ?_) _) (by omega)
          · exact absurd (HO5.out.lt _ h).1 (by simp)
          · exact absurd (HO5.out.lt _ h).1 (by simp)
        · have hk := HKP.out
          have hkb : Below (w.heap.size + 1) w5 ((w5.setCell ⟨w.heap.size + 1, 0, none⟩ (.string ⟨st.toArray⟩)).setCell ⟨w.heap.size + 1, 1, none⟩ (.slice A5 q.length c5)) := ((Below.refl _ _).setCell (p := ⟨w.heap.size + 1, 0, none⟩) (Nat.le_refl _) _).setCell (p := ⟨w.heap.size + 1, 1, none⟩) (Nat.le_refl _) _
          exact ⟨hkb.os.trans (hk.os.trans hbw.os), hkb.tape.trans (hk.tape.trans hbw.tape), hkb.output.trans (hk.output.trans hbw.output), Nat.le_trans (Nat.le_trans hbw.size hk.size) hkb.size, fun g hg hs => (hkb.block g (by omega)).trans ((hk.block g (by omega) hs).trans (hbw.block g hg))⟩
        · exact HI.out _ _ _ HI5.out (((Below.refl _ _).setCell (p := ⟨w.heap.size + 1, 0, none⟩) (Nat.le_succ _) _).setCell (p := ⟨w.heap.size + 1, 1, none⟩) (Nat.le_succ _) _)

end Go.Proofs.YtnbdldapmllegaaGreat.mk

namespace Go.Proofs.YtnbdldapmllegaaGreat.mk
open Go.RowKit

def trimL {α : Type} (p : α → Bool) (l : List α) : List α := ((l.dropWhile p).reverse.dropWhile p).reverse
theorem dropWhile_front {α : Type} {p : α → Bool} {a m : List α} (h : ∀ x ∈ a, p x = true) : (a ++ m).dropWhile p = m.dropWhile p := by
  induction a with
  | nil => rfl
  | cons x a ih => rw [List.cons_append, List.dropWhile_cons, if_pos (h x (by simp)), ih (fun y hy => h y (by simp [hy]))]
theorem dropWhile_stay {α : Type} {p : α → Bool} {x : α} {m : List α} (h : p x = false) : (x :: m).dropWhile p = x :: m := by
  rw [List.dropWhile_cons, if_neg (by simp [h])]
theorem dropWhile_all {α : Type} {p : α → Bool} {a : List α} (h : ∀ x ∈ a, p x = true) : a.dropWhile p = [] := by
  have := dropWhile_front (m := []) h
  simpa using this
theorem trimL_all {α : Type} {p : α → Bool} {a : List α} (h : ∀ x ∈ a, p x = true) : trimL p a = [] := by
  unfold trimL; rw [dropWhile_all h]; rfl
theorem trimL_mid {α : Type} {p : α → Bool} {a m b : List α} {x y : α} (ha : ∀ x ∈ a, p x = true) (hb : ∀ x ∈ b, p x = true) (hx : m.head? = some x) (hpx : p x = false) (hy : m.getLast? = some y) (hpy : p y = false) : trimL p (a ++ m ++ b) = m := by
  unfold trimL
  have h1 : (a ++ m ++ b).dropWhile p = m ++ b := by
    rw [List.append_assoc, dropWhile_front ha]
    cases m with
    | nil => simp at hx
    | cons z m => simp at hx; subst hx; rw [List.cons_append, dropWhile_stay hpx]
  rw [h1, List.reverse_append, dropWhile_front (fun z hz => hb z (by simpa using hz))]
  rcases snoc_cases m with rfl | ⟨r, z, rfl⟩
  · simp at hy
  · simp at hy; subst hy
    rw [List.reverse_append, List.reverse_singleton, List.singleton_append, dropWhile_stay hpy]
    simp

/-- what is known of the first k: where the first and the last are that stay -/
def Mid {α : Type} (p : α → Bool) (l : List α) (k a b : Nat) : Prop :=
  (a = l.length ∧ b = 0 ∧ ∀ (i : Nat) (x : α), i < k → l[i]? = some x → p x = true) ∨
  (a < b ∧ b ≤ k ∧ (∀ (i : Nat) (x : α), i < a → l[i]? = some x → p x = true) ∧ (∃ x, l[a]? = some x ∧ p x = false) ∧ (∃ x, l[b - 1]? = some x ∧ p x = false) ∧ ∀ (i : Nat) (x : α), b ≤ i → i < k → l[i]? = some x → p x = true)
theorem Mid.zero {α : Type} (p : α → Bool) (l : List α) : Mid p l 0 l.length 0 := .inl ⟨rfl, rfl, fun i x h => by omega⟩
theorem Mid.skip {α : Type} {p : α → Bool} {l : List α} {k a b : Nat} {x : α} (h : Mid p l k a b) (hx : l[k]? = some x) (hp : p x = true) : Mid p l (k + 1) a b := by
  rcases h with ⟨h1, h2, h3⟩ | ⟨h1, h2, h3, h4, h5, h6⟩
  · refine .inl ⟨h1, h2, fun i y hi hy => ?_⟩
    rcases Nat.lt_or_ge i k with h | h
    · exact h3 i y h hy
    · obtain rfl : i = k := by omega
      rw [hx] at hy; injection hy with hy; subst hy; exact hp
  · refine .inr ⟨h1, by omega, h3, h4, h5, fun i y hb hi hy => ?_⟩
    rcases Nat.lt_or_ge i k with h | h
    · exact h6 i y hb h hy
    · obtain rfl : i = k := by omega
      rw [hx] at hy; injection hy with hy; subst hy; exact hp
theorem Mid.here {α : Type} {p : α → Bool} {l : List α} {k a b : Nat} {x : α} (h : Mid p l k a b) (hx : l[k]? = some x) (hp : p x = false) : Mid p l (k + 1) (min a k) (k + 1) := by
  have hk : k < l.length := (List.getElem?_eq_some_iff.1 hx).1
  rcases h with ⟨h1, h2, h3⟩ | ⟨h1, h2, h3, h4, h5, h6⟩
  · rw [show min a k = k by omega]
    exact .inr ⟨by omega, by omega, h3, ⟨x, hx, hp⟩, ⟨x, by simpa using hx, hp⟩, fun i y hb hi => by omega⟩
  · rw [show min a k = a by omega]
    exact .inr ⟨by omega, by omega, h3, h4, ⟨x, by simpa using hx, hp⟩, fun i y hb hi => by omega⟩
theorem Mid.bd {α : Type} {p : α → Bool} {l : List α} {k a b : Nat} (h : Mid p l k a b) (hk : k ≤ l.length) : a ≤ l.length ∧ b ≤ l.length := by
  rcases h with ⟨h1, h2, _⟩ | ⟨h1, h2, _⟩ <;> omega
theorem Mid.end_ {α : Type} {p : α → Bool} {l : List α} {a b : Nat} (h : Mid p l l.length a b) : (l.take b).drop a = trimL p l := by
  rcases h with ⟨h1, h2, h3⟩ | ⟨h1, h2, h3, ⟨x, h4, h4'⟩, ⟨y, h5, h5'⟩, h6⟩
  · subst h2
    rw [trimL_all (fun x hx => ?_)]
    · simp
    · obtain ⟨i, hi⟩ := List.mem_iff_getElem?.1 hx
      exact h3 i x (List.getElem?_eq_some_iff.1 hi).1 hi
  · have hlen : ((l.take b).drop a).length = b - a := by rw [List.length_drop, List.length_take]; omega
    have e : l = l.take a ++ (l.take b).drop a ++ l.drop b := by
      have e1 : l.take a = (l.take b).take a := by rw [List.take_take]; congr 1; omega
      rw [e1, List.take_append_drop, List.take_append_drop]
    conv => rhs; rw [e]
    refine (trimL_mid (x := x) (y := y) (fun z hz => ?_) (fun z hz => ?_) ?_ h4' ?_ h5').symm
    · obtain ⟨i, hi⟩ := List.mem_iff_getElem?.1 hz
      rw [List.getElem?_take] at hi
      split at hi
      · rename_i hlt; exact h3 i z hlt hi
      · cases hi
    · obtain ⟨i, hi⟩ := List.mem_iff_getElem?.1 hz
      rw [List.getElem?_drop] at hi
      exact h6 (b + i) z (by omega) (List.getElem?_eq_some_iff.1 hi).1 hi
    · rw [List.head?_drop, List.getElem?_take, if_pos h1]; exact h4
    · rw [List.getLast?_eq_getElem?, hlen, List.getElem?_drop, List.getElem?_take, if_pos (by omega), show a + (b - a - 1) = b - 1 by omega]; exact h5

/-- whether a byte with its origin is sought -/
def onB (f : UInt8 → Bool) (x : UInt8 × Int) : Bool := f x.1
theorem Mid.map {f : UInt8 → Bool} {L : List (UInt8 × Int)} {l : List UInt8} {k a b : Nat} (h : Mid f l k a b) (hl : L.map (·.1) = l) : Mid (onB f) L k a b := by
  subst hl
  have hg : ∀ (i : Nat) (x : UInt8 × Int), L[i]? = some x → (L.map (·.1))[i]? = some x.1 := fun i x hx => by rw [List.getElem?_map, hx]; rfl
  have hg' : ∀ (i : Nat) (x : UInt8), (L.map (·.1))[i]? = some x → ∃ y, L[i]? = some y ∧ y.1 = x := fun i x hx => by
    rw [List.getElem?_map] at hx
    cases hL : L[i]? with
    | none => rw [hL] at hx; cases hx
    | some y => rw [hL] at hx; exact ⟨y, rfl, by injection hx⟩
  rcases h with ⟨h1, h2, h3⟩ | ⟨h1, h2, h3, ⟨x, h4, h4'⟩, ⟨y, h5, h5'⟩, h6⟩
  · exact .inl ⟨by simpa using h1, h2, fun i x hi hx => h3 i x.1 hi (hg i x hx)⟩
  · obtain ⟨x', hx, rfl⟩ := hg' _ _ h4
    obtain ⟨y', hy, rfl⟩ := hg' _ _ h5
    exact .inr ⟨h1, h2, fun i x hi hx => h3 i x.1 hi (hg i x hx), ⟨x', hx, h4'⟩, ⟨y', hy, h5'⟩, fun i x hb hi hx => h6 i x.1 hb hi (hg i x hx)⟩

def StripRel (f : UInt8 → Bool) (l : List UInt8) (a b i : Value) : Prop :=
  ∃ k x y : Nat, k ≤ l.length ∧ i = .int .i64 (k : Int) ∧ a = .int .i64 (x : Int) ∧ b = .int .i64 (y : Int) ∧ Mid f l k x y

set_option maxHeartbeats 1000000 in
set_option maxRecDepth 100000 in
theorem strip_any (F : Nat) (caps : Array Value) (f : UInt8 → Bool) (s : ByteArray) (A : Option Addr) (n c : Nat) (rs : List (Int × Int)) (w : World) (hl : Lies w w.heap.size A (runCells rs)) (hn : rs.length = n) (hs : s.size ≤ 4294967296) (hn2 : n ≤ 4294967296)
    (hE : ∀ args w', Sem.run Tryz.prog (callFunc F args) w' = .ok (.enter F args) w')
    (hF : ∀ (b : UInt8) w', Below w.heap.size w w' → Calls Tryz.prog F (#[.int .u8 b.toNat] ++ caps) w' fun e w'' => e = .returned (.bool (f b)) ∧ w' = w'') :
    Calls Tryz.prog 89 #[.agg #[.string s, .slice A n c], .func (.func F) #[] caps] w (Tells ⟨((trimL (onB f) (chars s.data.toList rs)).map (·.1)).toArray⟩ (comp ((trimL (onB f) (chars s.data.toList rs)).map (·.2))) w) := by
  have HN := Lib.hid hn
  have HF := Lib.hid hF
  have HE := Lib.hid hE
  clear hn hF hE
  have hsl : s.data.toList.length = s.size := by rw [Array.length_toList]; rfl
  have HSL := Lib.hid hsl
  clear hsl
  go_enter Tryz.func89, Tryz.ntmps89
  go_wp2_with fail
  generalize hw0 : (w.alloc (.cells #[.string s, .slice A n c] 28)).alloc (.cells #[.string ⟨#[]⟩, .slice none 0 0] 28) = w0
  have y0 : Whole w0 w.heap.size 28 #[.string s, .slice A n c] := by rw [← hw0]; exact (Whole.made w _ _).alloc _
  have y1 : Whole w0 (w.heap.size + 1) 28 #[.string ⟨#[]⟩, .slice none 0 0] := by
    rw [← hw0]
    have h := Whole.made (w.alloc (.cells #[.string s, .slice A n c] 28)) 28 #[.string ⟨#[]⟩, .slice none 0 0]
    simp only [World.size_alloc] at h
    exact h
  have hz0 : w.heap.size + 2 ≤ w0.heap.size := by rw [← hw0]; simp
  have hl0 : Lies w0 w0.heap.size A (runCells rs) := by rw [← hw0]; exact ((hl.alloc (Nat.le_refl _) _).alloc (by simp) _).mono (by simp; omega)
  have hb0 : Below w.heap.size w w0 := by rw [← hw0]; exact ((Below.refl _ _).alloc (Nat.le_refl _) _).alloc (by simp) _
  have HW := Lib.hid hw0
  clear hw0
  have c0 : w0.cell? ⟨w.heap.size, 0, none⟩ = some (.string s) := y0.at_ 0
  have c1 : w0.cell? ⟨w.heap.size, 1, none⟩ = some (.slice A n c) := y0.at_ 1
  go_loop [5, 6, 14] (StripRel f s.data.toList) (fun _ _ i => s.size - (intOf i).toNat)
  case atStart => exact ⟨0, s.size, 0, Nat.zero_le _, rfl, rfl, rfl, by have := Mid.zero f s.data.toList; rw [HSL.out] at this; exact this⟩
  case round =>
    obtain ⟨k, x, y, hk, rfl, rfl, rfl, hmid⟩ := hrel
    rw [HSL.out] at hk
    have hbd := hmid.bd (by rw [HSL.out]; exact hk)
    rw [HSL.out] at hbd
    obtain ⟨hx, hy⟩ := hbd
    have HM := Lib.hid hmid
    clear hmid
    by_cases hlt : k < s.size
    · have hk0 : (0 : Int) ≤ (k : Int) := Int.natCast_nonneg _
      have hk1 : (k : Int) < (s.size : Int) := by omega
      have HSK : Hid (s.data.toList[k]? = some (s[k]'hlt)) := by
        show _ = _
        rw [List.getElem?_eq_getElem (by rw [HSL.out]; exact hlt)]
        rfl
      go_wp2_with fail
      rw [HE.out]
      refine (HF.out (s[k]'hlt) _ hb0).mono ?_
      rintro e w' ⟨rfl, rfl⟩
      cases hfb : f (s[k]'hlt) with
      | true =>
        have HX := Lib.hid (HM.out.skip HSK.out hfb)
        clear hfb
        go_wp2_with fail
        go_round
        case rel => exact ⟨k + 1, x, y, by rw [HSL.out]; omega, by go_num, rfl, rfl, HX.out⟩
        case measure => simp [intOf]; omega
      | false =>
        have HX := Lib.hid (HM.out.here HSK.out hfb)
        clear hfb
        go_wp2_with fail
        go_round
        case rel => exact ⟨k + 1, min x k, k + 1, by rw [HSL.out]; omega, by go_num, by first | rfl | (congr 1; omega), by go_num, HX.out⟩
        case measure => simp [intOf]; omega
    · obtain rfl : k = s.size := by omega
      have hlen : (chars s.data.toList rs).length = s.size := by rw [chars_length, HSL.out]
      have HT0 : Hid (((chars s.data.toList rs).take y).drop x = trimL (onB f) (chars s.data.toList rs)) := by
        have h := HM.out.map (chars_fst s.data.toList rs)
        rw [← hlen] at h
        exact h.end_
      have HE1 : Hid ((trimL (onB f) (chars s.data.toList rs)).map (·.1) = (s.data.toList.take y).drop x) := by
        show _ = _
        rw [← HT0.out, List.map_drop, List.map_take, chars_fst]
      have HE2 : Hid ((trimL (onB f) (chars s.data.toList rs)).map (·.2) = ((origins s.size rs).take y).drop x) := by
        show _ = _
        rw [← HT0.out, List.map_drop, List.map_take, chars_snd, HSL.out]
      clear hlen
      go_wp2_with fail
      refine (cut_any s A n c rs x y x y _ hl0 HN.out hs hn2 (by omega) (by omega)).mono ?_
      rw [← HE1.out, ← HE2.out]
      rintro e w2 ⟨v, rfl, hown, hb2⟩
      obtain ⟨A2, c2, rfl, _, _, _⟩ := own_form hown
      have hW := y1.below hb2 (by omega)
      have f0 := hW.free 0
      have f1 := hW.free 1
      have d0 : w2.cell? ⟨w.heap.size + 1, 0, none⟩ = some (.string ⟨#[]⟩) := hW.at_ 0
      have d1 : w2.cell? ⟨w.heap.size + 1, 1, none⟩ = some (.slice none 0 0) := hW.at_ 1
      have HO := Lib.hid hown
      clear hown HT0 HE1 HE2
      generalize hT : trimL (onB f) (chars s.data.toList rs) = T at *
      generalize hq : comp (T.map (·.2)) = q at *
      generalize hst : T.map (·.1) = st at *
      have HT := Lib.hid hT
      have HQ := Lib.hid hq
      have HS := Lib.hid hst
      clear hT hq hst
      go_wp2
      refine bodyPost_ret (v := .agg #[.string ⟨st.toArray⟩, .slice A2 q.length c2]) ?_ rfl ?_
      · simp [results, Tryz.results89, go_sem, d0, d1]
      · rw [HT.out, HQ.out, HS.out]
        exact tells_end (g := w.heap.size + 1) (Nat.le_succ _) (own_mono HO.out (by omega)) (below_next hb0 (Nat.le_refl _) hb2)

end Go.Proofs.YtnbdldapmllegaaGreat.mk

namespace Go.Proofs.YtnbdldapmllegaaGreat.mk
open Go.RowKit

/-- by for each sought byte, of that byte's origin -/
def replL (f : UInt8 → Bool) (by_ : List UInt8) (l : List (UInt8 × Int)) : List (UInt8 × Int) := l.flatMap fun x => if f x.1 then by_.map (fun y => (y, x.2)) else [x]
theorem replL_next {f : UInt8 → Bool} {by_ : List UInt8} {l : List (UInt8 × Int)} {k : Nat} {b : UInt8} {o : Int} (h : l[k]? = some (b, o)) : replL f by_ (l.take (k + 1)) = replL f by_ (l.take k) ++ (if f b then by_ else [b]).map (fun y => (y, o)) := by
  rw [take_next h]
  unfold replL
  rw [List.flatMap_append]
  congr 1
  rw [List.flatMap_singleton]
  split <;> rfl
theorem replL_length (f : UInt8 → Bool) (by_ : List UInt8) (l : List (UInt8 × Int)) : (replL f by_ l).length ≤ l.length * (by_.length + 1) := by
  induction l with
  | nil => simp [replL]
  | cons x l ih =>
    have e : replL f by_ (x :: l) = (if f x.1 then by_.map (fun y => (y, x.2)) else [x]) ++ replL f by_ l := by simp [replL]
    rw [e, List.length_append, List.length_cons, Nat.add_mul]
    have : (if f x.1 then by_.map (fun y => (y, x.2)) else [x]).length ≤ by_.length + 1 := by split <;> simp
    omega

theorem one_byte (s : ByteArray) (k : Nat) (hk : k < s.size) : (s.extract k (k + 1)).data.toList = [s[k]'hk] := by
  have hsl : s.data.toList.length = s.size := by rw [Array.length_toList]; rfl
  rw [ByteArray.data_extract, Array.toList_extract]
  have hk' : k < s.data.toList.length := by rw [hsl]; exact hk
  rw [List.extract_eq_take_drop, List.drop_eq_getElem_cons hk', show k + 1 - k = 1 by omega]
  rfl

set_option maxHeartbeats 1000000 in
set_option maxRecDepth 100000 in
theorem replF_any (F : Nat) (caps : Array Value) (f : UInt8 → Bool) (bS bQ bB : Nat) (s y : ByteArray) (v : Value) (k : Nat) (o : Int) (hk : k < s.size) (hs : s.size ≤ 4294967296) (w : World)
    (hE : ∀ args w', Sem.run Tryz.prog (callFunc F args) w' = .ok (.enter F args) w')
    (hF : ∀ (b : UInt8) w', Below w.heap.size w w' → Calls Tryz.prog F (#[.int .u8 b.toNat] ++ caps) w' fun e w'' => e = .returned (.bool (f b)) ∧ w' = w'')
    (b0 : bS < w.heap.size) (b1 : bQ < w.heap.size) (b2 : bB < w.heap.size)
    (c0 : w.cell? ⟨bS, 0, none⟩ = some (.string s)) (c1 : w.cell? ⟨bS, 1, none⟩ = some v) (c2 : w.cell? ⟨bQ, 0, none⟩ = some (.func (.func F) #[] caps)) (c3 : w.cell? ⟨bB, 0, none⟩ = some (.string y)) :
    Calls Tryz.prog 102 #[.int .i64 (k : Int), .int .i64 o, .pointer (some ⟨bQ, 0, none⟩), .pointer (some ⟨bS, 0, none⟩), .pointer (some ⟨bB, 0, none⟩)] w fun e w' => (∃ part : ByteArray, e = .returned (.tuple #[.string part, .int .i64 o]) ∧ part.data.toList = (if f (s[k]'hk) then y.data.toList else [s[k]'hk])) ∧ Below w.heap.size w w' := by
  have HE := Lib.hid hE
  have HF := Lib.hid hF
  clear hE hF
  have hk0 : (0 : Int) ≤ (k : Int) := Int.natCast_nonneg _
  have hk1 : (k : Int) < (s.size : Int) := by omega
  have hk2 : (k : Int) + 1 ≤ (s.size : Int) := by omega
  go_enter Tryz.func102, Tryz.ntmps102
  go_wp2_with fail
  have KS : ∀ w', Below w.heap.size w w' → w'.cell? ⟨bS, 0, none⟩ = some (.string s) ∧ w'.cell? ⟨bS, 1, none⟩ = some v ∧ w'.cell? ⟨bQ, 0, none⟩ = some (.func (.func F) #[] caps) ∧ w'.cell? ⟨bB, 0, none⟩ = some (.string y) ∧ Below w.heap.size w w' := fun w' h =>
    ⟨(h.cell b0).trans c0, (h.cell b0).trans c1, (h.cell b1).trans c2, (h.cell b2).trans c3, h⟩
  have HKS := Lib.hid KS
  clear KS
  go_region_held3 (fun w' => w'.cell? ⟨bS, 0, none⟩ = some (.string s) ∧ w'.cell? ⟨bS, 1, none⟩ = some v ∧ w'.cell? ⟨bQ, 0, none⟩ = some (.func (.func F) #[] caps) ∧ w'.cell? ⟨bB, 0, none⟩ = some (.string y) ∧ Below w.heap.size w w')
    (first
      | exact HKS.out _ (Below.drew (Below.refl _ _))
      | (go_split_ands; exact HKS.out _ (by assumption)))
    (first
      | (rw [HE.out]; refine (HF.out (s[k]'hk) _ ?_).mono ?_; (go_split_ands; assumption); rintro e w' ⟨rfl, rfl⟩))
  have hbd : Below w.heap.size w w.drew := (Below.refl _ _).drew
  cases hf : f (s[k]'hk) with
  | true =>
    go_wp2_with fail
    go_ret2
    exact ⟨⟨y, rfl, rfl⟩, hbd⟩
  | false =>
    have HO := Lib.hid (one_byte s k hk)
    go_wp2_with fail
    all_goals
      go_ret2
      exact ⟨⟨_, rfl, by simpa using HO.out⟩, hbd⟩

set_option maxHeartbeats 1000000 in
set_option maxRecDepth 100000 in
theorem replace_any (F : Nat) (caps : Array Value) (f : UInt8 → Bool) (s y : ByteArray) (A : Option Addr) (n c : Nat) (rs : List (Int × Int)) (w : World) (hl : Lies w w.heap.size A (runCells rs)) (hn : rs.length = n) (hs : s.size ≤ 4294967296) (hn2 : n ≤ 4294967296) (hby : s.size * (y.size + 1) ≤ 70368744177664)
    (hE : ∀ args w', Sem.run Tryz.prog (callFunc F args) w' = .ok (.enter F args) w')
    (hF : ∀ (b : UInt8) w', Below w.heap.size w w' → Calls Tryz.prog F (#[.int .u8 b.toNat] ++ caps) w' fun e w'' => e = .returned (.bool (f b)) ∧ w' = w'') :
    Calls Tryz.prog 87 #[.agg #[.string s, .slice A n c], .func (.func F) #[] caps, .string y] w (Tells ⟨((replL f y.data.toList (chars s.data.toList rs)).map (·.1)).toArray⟩ (comp ((replL f y.data.toList (chars s.data.toList rs)).map (·.2))) w) := by
  have HN := Lib.hid hn
  have HE := Lib.hid hE
  have HF := Lib.hid hF
  clear hn hE hF
  have hsl : s.data.toList.length = s.size := by rw [Array.length_toList]; rfl
  have HSL := Lib.hid hsl
  clear hsl
  go_enter Tryz.func87, Tryz.ntmps87
  go_wp2_with fail
  generalize hwE : (((w.alloc (.cells #[.string s, .slice A n c] 28)).alloc (.cells #[.func (.func F) #[] caps] 65)).alloc (.cells #[.string y] 9)).alloc (.cells #[.string ⟨#[]⟩, .slice none 0 0] 28) = wE
  have y0 : Whole wE w.heap.size 28 #[.string s, .slice A n c] := by rw [← hwE]; exact (((Whole.made w _ _).alloc _).alloc _).alloc _
  have y1 : Whole wE (w.heap.size + 1) 65 #[.func (.func F) #[] caps] := by
    rw [← hwE]
    have h := ((Whole.made (w.alloc (.cells #[.string s, .slice A n c] 28)) 65 #[.func (.func F) #[] caps]).alloc (.cells #[.string y] 9)).alloc (.cells #[.string ⟨#[]⟩, .slice none 0 0] 28)
    simp only [World.size_alloc] at h
    exact h
  have y2 : Whole wE (w.heap.size + 1 + 1) 9 #[.string y] := by
    rw [← hwE]
    have h := (Whole.made ((w.alloc (.cells #[.string s, .slice A n c] 28)).alloc (.cells #[.func (.func F) #[] caps] 65)) 9 #[.string y]).alloc (.cells #[.string ⟨#[]⟩, .slice none 0 0] 28)
    simp only [World.size_alloc] at h
    exact h
  have y3 : Whole wE (w.heap.size + 1 + 1 + 1) 28 #[.string ⟨#[]⟩, .slice none 0 0] := by
    rw [← hwE]
    have h := Whole.made (((w.alloc (.cells #[.string s, .slice A n c] 28)).alloc (.cells #[.func (.func F) #[] caps] 65)).alloc (.cells #[.string y] 9)) 28 #[.string ⟨#[]⟩, .slice none 0 0]
    simp only [World.size_alloc] at h
    exact h
  have hzE : wE.heap.size = w.heap.size + 4 := by rw [← hwE]; simp
  have hbE : Below w.heap.size w wE := by rw [← hwE]; exact ((((Below.refl _ _).alloc (Nat.le_refl _) _).alloc (by simp) _).alloc (by simp; omega) _).alloc (by simp; omega) _
  have hlE : Lies wE wE.heap.size A (runCells rs) := hl.next hbE (Nat.le_refl _)
  clear hwE
  have HLN : Hid ((chars s.data.toList rs).length = s.size) := by show _ = _; rw [chars_length, HSL.out]
  have HYL : Hid (y.data.toList.length = y.size) := by show _ = _; rw [Array.length_toList]; rfl
  refine (rewrite_any 102 #[.pointer (some ⟨w.heap.size + 1, 0, none⟩), .pointer (some ⟨w.heap.size, 0, none⟩), .pointer (some ⟨w.heap.size + 1 + 1, 0, none⟩)] (fun _ => False) (fun _ w' => Below wE.heap.size wE w') (fun k => replL f y.data.toList ((chars s.data.toList rs).take k)) s A n c rs wE hlE HN.out hs hn2 (fun _ _ => rfl) (fun _ h => h.elim) (fun k w' w'' h1 h2 => h1.trans h2) ?_ rfl (Below.refl _ _) ?_).mono ?_
  · intro k b o w' hL hI hN'
    have hk : k < s.size := by rw [← HLN.out]; exact (List.getElem?_eq_some_iff.1 hL).1
    have hb : s[k]'hk = b := by
      have h1 : (chars s.data.toList rs).map (·.1) = s.data.toList := chars_fst _ _
      have h2 : ((chars s.data.toList rs).map (·.1))[k]? = some b := by rw [List.getElem?_map, hL]; rfl
      rw [h1, List.getElem?_eq_getElem (by rw [HSL.out]; exact hk)] at h2
      injection h2
    have z0 := y0.below hI y0.lt
    have z1 := y1.below hI y1.lt
    have z2 := y2.below hI y2.lt
    refine (replF_any F caps f w.heap.size (w.heap.size + 1) (w.heap.size + 1 + 1) s y (.slice A n c) k o hk hs w' HE.out (fun b w'' hb'' => HF.out b w'' (below_next hbE (Nat.le_refl _) (below_next hI (Nat.le_refl _) hb''))) z0.lt z1.lt z2.lt (z0.at_ 0) (z0.at_ 1) (z1.at_ 0) (z2.at_ 0)).mono ?_
    rintro e w'' ⟨⟨part, rfl, hp⟩, hb''⟩
    refine ⟨part, o, rfl, ?_, below_next hI (Nat.le_refl _) hb'', Moved.of_below hb''⟩
    rw [hp, hb]
    exact replL_next hL
  · intro k _
    refine Nat.le_trans (replL_length _ _ _) (Nat.le_trans (Nat.mul_le_mul_right _ ?_) (by rw [HYL.out]; exact hby))
    rw [List.length_take, HLN.out]
    omega
  rintro e w2 ⟨v, rfl, hown, hmv, _⟩
  have hb2 : Below wE.heap.size wE w2 := hmv.below (Nat.le_refl _) (fun _ _ h => h)
  have hful : (chars s.data.toList rs).take s.size = chars s.data.toList rs := List.take_of_length_le (by rw [HLN.out]; exact Nat.le_refl _)
  rw [hful] at hown
  obtain ⟨A2, c2, rfl, _, _, _⟩ := own_form hown
  have hW := y3.below hb2 y3.lt
  have f0 := hW.free 0
  have f1 := hW.free 1
  have d0 : w2.cell? ⟨w.heap.size + 1 + 1 + 1, 0, none⟩ = some (.string ⟨#[]⟩) := hW.at_ 0
  have d1 : w2.cell? ⟨w.heap.size + 1 + 1 + 1, 1, none⟩ = some (.slice none 0 0) := hW.at_ 1
  have HO := Lib.hid hown
  have HFUL := Lib.hid hful
  clear hown hmv hful
  simp only [HFUL.out] at *
  generalize hT : replL f y.data.toList (chars s.data.toList rs) = T at *
  generalize hq : comp (T.map (·.2)) = q at *
  generalize hst : T.map (·.1) = st at *
  have HT := Lib.hid hT
  have HQ := Lib.hid hq
  have HS := Lib.hid hst
  clear hT hq hst
  go_wp2
  refine bodyPost_ret (v := .agg #[.string ⟨st.toArray⟩, .slice A2 q.length c2]) ?_ rfl ?_
  · simp [results, Tryz.results87, go_sem, d0, d1]
  · rw [HT.out, HQ.out, HS.out]
    exact tells_end (g := w.heap.size + 1 + 1 + 1) (by omega) (own_mono HO.out (by omega)) (below_next hbE (Nat.le_refl _) hb2)

set_option maxHeartbeats 1000000 in
set_option maxRecDepth 100000 in
theorem without_any (s y : ByteArray) (A : Option Addr) (n c : Nat) (rs : List (Int × Int)) (w : World) (hl : Lies w w.heap.size A (runCells rs)) (hn : rs.length = n) (hs : s.size ≤ 4294967296) (hn2 : n ≤ 4294967296) (hy : y.size ≤ 4294967296) :
    Calls Tryz.prog 74 #[.agg #[.string s, .slice A n c], .string y] w (Tells ⟨((replL (fun b => y.data.toList.contains b) [] (chars s.data.toList rs)).map (·.1)).toArray⟩ (comp ((replL (fun b => y.data.toList.contains b) [] (chars s.data.toList rs)).map (·.2))) w) := by
  have HN := Lib.hid hn
  clear hn
  go_enter Tryz.func74, Tryz.ntmps74
  go_wp2_with fail
  generalize hwE : (w.alloc (.cells #[.string s, .slice A n c] 28)).alloc (.cells #[.string ⟨#[]⟩, .slice none 0 0] 28) = wE
  have y0 : Whole wE w.heap.size 28 #[.string s, .slice A n c] := by rw [← hwE]; exact (Whole.made w _ _).alloc _
  have y3 : Whole wE (w.heap.size + 1) 28 #[.string ⟨#[]⟩, .slice none 0 0] := by
    rw [← hwE]
    have h := Whole.made (w.alloc (.cells #[.string s, .slice A n c] 28)) 28 #[.string ⟨#[]⟩, .slice none 0 0]
    simp only [World.size_alloc] at h
    exact h
  have hzE : wE.heap.size = w.heap.size + 2 := by rw [← hwE]; simp
  have hz1 : w.heap.size + 1 ≤ wE.heap.size := by omega
  have hbE : Below w.heap.size w wE := by rw [← hwE]; exact ((Below.refl _ _).alloc (Nat.le_refl _) _).alloc (by simp) _
  have hlE : Lies wE (w.heap.size + 1) A (runCells rs) := (hl.below hbE).mono (by omega)
  have c0 : wE.cell? ⟨w.heap.size, 0, none⟩ = some (.string s) := y0.at_ 0
  have c1 : wE.cell? ⟨w.heap.size, 1, none⟩ = some (.slice A n c) := y0.at_ 1
  have KS : ∀ w', Below (w.heap.size + 1) wE w' → w'.cell? ⟨w.heap.size, 0, none⟩ = some (.string s) ∧ w'.cell? ⟨w.heap.size, 1, none⟩ = some (.slice A n c) ∧ Below (w.heap.size + 1) wE w' := fun w' h =>
    ⟨(h.cell (Nat.lt_succ_self _)).trans (y0.at_ 0), (h.cell (Nat.lt_succ_self _)).trans (y0.at_ 1), h⟩
  have HKS := Lib.hid KS
  have HZE := Lib.hid hzE
  have hzE2 : w.heap.size + 2 ≤ wE.heap.size := by omega
  clear KS hwE hzE
  generalize hT : replL (fun b => y.data.toList.contains b) [] (chars s.data.toList rs) = T at *
  generalize hq : comp (T.map (·.2)) = q at *
  generalize hst : T.map (·.1) = st at *
  have HT := Lib.hid hT
  have HQ := Lib.hid hq
  have HS := Lib.hid hst
  clear hT hq hst
  have HAM : Hid (∀ w', Calls Tryz.prog 88 #[.string y] w' fun e w'' => e = .returned (.func (.func 103) #[] #[.pointer (some ⟨w'.heap.size, 0, none⟩)]) ∧ (∀ b : UInt8, w''.cell? ⟨w'.heap.size, b.toNat, none⟩ = some (.bool (y.data.toList.contains b))) ∧ w'.heap.size < w''.heap.size ∧ Below w'.heap.size w' w'') := fun w' => among_any y w' hy
  have HRC : Hid (∀ g w', Below (w.heap.size + 1) wE w' → (∀ b : UInt8, w'.cell? ⟨g, b.toNat, none⟩ = some (.bool (y.data.toList.contains b))) → g < w'.heap.size → Calls Tryz.prog 87 #[.agg #[.string s, .slice A n c], .func (.func 103) #[] #[.pointer (some ⟨g, 0, none⟩)], .string ⟨#[]⟩] w' (Tells ⟨(T.map (·.1)).toArray⟩ (comp (T.map (·.2))) w')) := fun g w' hb hc hg => by
    rw [← HT.out]
    exact replace_any 103 #[.pointer (some ⟨g, 0, none⟩)] (fun b => y.data.toList.contains b) s ⟨#[]⟩ A n c rs w' (hlE.next hb hz1) HN.out hs hn2 (by show s.size * 1 ≤ _; omega) (fun _ _ => rfl) (fun b w'' hb'' => amongF_any b (fun b => y.data.toList.contains b) g w'' ((hb''.cell hg).trans (hc b)))
  rw [HQ.out, HS.out] at HRC
  go_region_held3 (fun w' => w'.cell? ⟨w.heap.size, 0, none⟩ = some (.string s) ∧ w'.cell? ⟨w.heap.size, 1, none⟩ = some (.slice A n c) ∧ Below (w.heap.size + 1) wE w')
    (first
      | exact HKS.out _ (Below.drew (Below.refl _ _))
      | (go_split_ands; exact HKS.out _ (by assumption))
      | (go_split_ands; exact HKS.out _ (below_next (by assumption) hz1 hbA))
      | (go_split_ands; exact HKS.out _ (below_next (by assumption) hz1 hb2))
      | (go_split_ands; refine HKS.out _ ?_; refine Below.setCell (p := ⟨w.heap.size + 1, 1, none⟩) ?_ (Nat.le_refl _) _; refine Below.setCell (p := ⟨w.heap.size + 1, 0, none⟩) ?_ (Nat.le_refl _) _; assumption))
    (first
      | (go_at_call 88; refine (HAM.out _).mono ?_; rintro e wA ⟨rfl, hcA, hlA, hbA⟩)
      | (go_at_call 87; refine (HRC.out _ _ ?_ hcA hlA).mono ?_; (go_split_ands; assumption); rintro e w2 ⟨v, rfl, hown, hb2⟩; obtain ⟨A2, c2, rfl, _, _, _⟩ := own_form hown; have hW : Whole w2 (w.heap.size + 1) 28 #[.string ⟨#[]⟩, .slice none 0 0] := (y3.drew.below hbA y3.lt).below hb2 (Whole.lt (y3.drew.below hbA y3.lt)); have d0 := hW.at_ 0; have d1 := hW.at_ 1; have f0 := hW.free 0; have f1 := hW.free 1))
  all_goals
    have hz2 : wE.heap.size ≤ wA.heap.size := hbA.size
    have hbF : Below w.heap.size w w2 := below_next (below_next hbE.drew (Nat.le_refl _) hbA) (Nat.le_refl _) hb2
    go_wp2
    refine bodyPost_ret (v := .agg #[.string ⟨st.toArray⟩, .slice A2 q.length c2]) ?_ rfl ?_
    · simp [results, Tryz.results74, go_sem, *]
    · rw [HT.out, HQ.out, HS.out]
      exact tells_end (g := w.heap.size + 1) (by omega) (own_mono hown (by omega)) hbF

set_option maxHeartbeats 1000000 in
set_option maxRecDepth 100000 in
theorem ends_any (s : ByteArray) (A : Option Addr) (n c : Nat) (rs : List (Int × Int)) (w : World) (hl : Lies w w.heap.size A (runCells rs)) (hn : rs.length = n) (hs : s.size ≤ 4294967296) (hn2 : n ≤ 4294967296) :
    Calls Tryz.prog 75 #[.agg #[.string s, .slice A n c]] w (Tells ⟨((trimL (onB (fun b => decide (b.toNat ≤ 32))) (chars s.data.toList rs)).map (·.1)).toArray⟩ (comp ((trimL (onB (fun b => decide (b.toNat ≤ 32))) (chars s.data.toList rs)).map (·.2))) w) := by
  have HN := Lib.hid hn
  clear hn
  go_enter Tryz.func75, Tryz.ntmps75
  go_wp2_with fail
  generalize hwE : (w.alloc (.cells #[.string s, .slice A n c] 28)).alloc (.cells #[.string ⟨#[]⟩, .slice none 0 0] 28) = wE
  have y3 : Whole wE (w.heap.size + 1) 28 #[.string ⟨#[]⟩, .slice none 0 0] := by
    rw [← hwE]
    have h := Whole.made (w.alloc (.cells #[.string s, .slice A n c] 28)) 28 #[.string ⟨#[]⟩, .slice none 0 0]
    simp only [World.size_alloc] at h
    exact h
  have hzE : wE.heap.size = w.heap.size + 2 := by rw [← hwE]; simp
  have hbE : Below w.heap.size w wE := by rw [← hwE]; exact ((Below.refl _ _).alloc (Nat.le_refl _) _).alloc (by simp) _
  have hlE : Lies wE wE.heap.size A (runCells rs) := hl.next hbE (Nat.le_refl _)
  clear hwE
  refine (strip_any 90 #[] (fun b => decide (b.toNat ≤ 32)) s A n c rs wE hlE HN.out hs hn2 (fun _ _ => rfl) (fun b w' _ => endsF_any b w')).mono ?_
  generalize hT : trimL (onB (fun b => decide (b.toNat ≤ 32))) (chars s.data.toList rs) = T at *
  generalize hq : comp (T.map (·.2)) = q at *
  generalize hst : T.map (·.1) = st at *
  have HT := Lib.hid hT
  have HQ := Lib.hid hq
  have HS := Lib.hid hst
  clear hT hq hst
  rintro e w2 ⟨v, rfl, hown, hb2⟩
  obtain ⟨A2, c2, rfl, _, _, _⟩ := own_form hown
  have hW := y3.below hb2 y3.lt
  have f0 := hW.free 0
  have f1 := hW.free 1
  have d0 : w2.cell? ⟨w.heap.size + 1, 0, none⟩ = some (.string ⟨#[]⟩) := hW.at_ 0
  have d1 : w2.cell? ⟨w.heap.size + 1, 1, none⟩ = some (.slice none 0 0) := hW.at_ 1
  have HO := Lib.hid hown
  clear hown
  go_wp2
  refine bodyPost_ret (v := .agg #[.string ⟨st.toArray⟩, .slice A2 q.length c2]) ?_ rfl ?_
  · simp [results, Tryz.results75, go_sem, d0, d1]
  · rw [HT.out, HQ.out, HS.out]
    exact tells_end (g := w.heap.size + 1) (by omega) (own_mono HO.out (by omega)) (below_next hbE (Nat.le_refl _) hb2)

end Go.Proofs.YtnbdldapmllegaaGreat.mk

namespace Go.Proofs.YtnbdldapmllegaaGreat.mk
open Go.RowKit

end Go.Proofs.YtnbdldapmllegaaGreat.mk

namespace Go.Proofs.YtnbdldapmllegaaGreat.mk
open Go.RowKit

theorem replL_filter (f : UInt8 → Bool) (l : List (UInt8 × Int)) : replL f [] l = l.filter (fun x => !f x.1) := by
  induction l with
  | nil => rfl
  | cons x l ih =>
    have e : replL f [] (x :: l) = (if f x.1 then [] else [x]) ++ replL f [] l := by simp [replL]
    rw [e, ih, List.filter_cons]
    cases f x.1 <;> rfl
theorem trimL_length {α : Type} (p : α → Bool) (l : List α) : (trimL p l).length ≤ l.length := by
  unfold trimL
  rw [List.length_reverse]
  refine Nat.le_trans (List.dropWhile_sublist _).length_le ?_
  rw [List.length_reverse]
  exact (List.dropWhile_sublist _).length_le
end Go.Proofs.YtnbdldapmllegaaGreat.mk

namespace Go.Proofs.YtnbdldapmllegaaGreat.mk
open Go.RowKit

/-- an attribute as it lies in memory -/
structure AT where
  nm : LT
  vl : LT
def AT.v (a : AT) : Value := .agg #[.string a.nm.s, .slice a.nm.A a.nm.n a.nm.c, .string a.vl.s, .slice a.vl.A a.vl.n a.vl.c]
def AT.ok (w : World) (B : Nat) (a : AT) : Prop := a.nm.ok w B ∧ a.vl.ok w B
def AT.ch (a : AT) : PA := (a.nm.ch, a.vl.ch)
def atRow (a : AT) : List Value := [.string a.nm.s, .slice a.nm.A a.nm.n a.nm.c, .string a.vl.s, .slice a.vl.A a.vl.n a.vl.c]
def atCells (l : List AT) : List Value := l.flatMap atRow
theorem AT.nmB (a : AT) : nmB a.ch = a.nm.bs := LT.ch_fst _
theorem LT.ok.keep {w0 w : World} {B : Nat} {t : LT} (h : t.ok w0 B) (hk : ∀ p : Addr, p.block < B → w.cell? p = w0.cell? p) : t.ok w B := ⟨h.1.keep hk, h.2⟩
theorem LT.ok.mono {w : World} {B B' : Nat} {t : LT} (h : t.ok w B) (hb : B ≤ B') : t.ok w B' := ⟨h.1.mono hb, h.2⟩
theorem AT.ok.keep {w0 w : World} {B : Nat} {t : AT} (h : t.ok w0 B) (hk : ∀ p : Addr, p.block < B → w.cell? p = w0.cell? p) : t.ok w B := ⟨h.1.keep hk, h.2.keep hk⟩
theorem AT.ok.mono {w : World} {B B' : Nat} {t : AT} (h : t.ok w B) (hb : B ≤ B') : t.ok w B' := ⟨h.1.mono hb, h.2.mono hb⟩
theorem AT.ok.next {w0 w : World} {B : Nat} {t : AT} (h : t.ok w0 B) (hb : Below B w0 w) (hz : B ≤ w0.heap.size) : t.ok w w.heap.size := ⟨h.1.next hb hz, h.2.next hb hz⟩
theorem AT.ok.below {w0 w : World} {B : Nat} {t : AT} (h : t.ok w0 B) (hb : Below B w0 w) : t.ok w B := h.keep fun _ hp => hb.cell hp
theorem atCells_length (ts : List AT) : (atCells ts).length = ts.length * 4 := by
  induction ts with
  | nil => rfl
  | cons r l ih => simp only [atCells, atRow, List.flatMap_cons, List.length_append, List.length_cons, List.length_nil] at ih ⊢; omega
theorem atCells_snoc (ts : List AT) (t : AT) : atCells (ts ++ [t]) = atCells ts ++ atRow t := by simp [atCells]
theorem atCells_at (ts : List AT) (k : Nat) (t : AT) (h : ts[k]? = some t) (j : Nat) (hj : j < 4) : (atCells ts)[k * 4 + j]? = (atRow t)[j]? := by
  induction ts generalizing k with
  | nil => simp at h
  | cons x ts ih =>
    have e : atCells (x :: ts) = atRow x ++ atCells ts := rfl
    rw [e]
    have hl : (atRow x).length = 4 := rfl
    cases k with
    | zero =>
      simp at h
      subst h
      rw [Nat.zero_mul, Nat.zero_add, List.getElem?_append_left (by omega)]
    | succ k =>
      rw [List.getElem?_append_right (by omega), hl]
      have : (k + 1) * 4 + j - 4 = k * 4 + j := by omega
      rw [this]
      exact ih k (by simpa using h)
theorem addr_nexts (ad : Addr) (k : Nat) : ad.add (k + 1) = ⟨(ad.add k).block, (ad.add k).off + 1, none⟩ ∧ ad.add (k + 2) = ⟨(ad.add k).block, (ad.add k).off + 2, none⟩ ∧ ad.add (k + 3) = ⟨(ad.add k).block, (ad.add k).off + 3, none⟩ := by
  refine ⟨addr_next ad k, ?_, ?_⟩
  · rw [addr_next ad (k + 1), addr_next ad k]
  · rw [addr_next ad (k + 2), addr_next ad (k + 1), addr_next ad k]
/-- attribute k of a row: its four cells, as the walk spells them -/
theorem Lies.att {w : World} {B : Nat} {A : Option Addr} {ts : List AT} (h : Lies w B A (atCells ts)) {k : Nat} (hk : k < ts.length) :
    ∃ ad t, A = some ad ∧ ad.block < B ∧ w.cell? (ad.add (k * 4)) = some (.string t.nm.s) ∧ w.cell? ⟨(ad.add (k * 4)).block, (ad.add (k * 4)).off + 1, none⟩ = some (.slice t.nm.A t.nm.n t.nm.c) ∧
      w.cell? ⟨(ad.add (k * 4)).block, (ad.add (k * 4)).off + 2, none⟩ = some (.string t.vl.s) ∧ w.cell? ⟨(ad.add (k * 4)).block, (ad.add (k * 4)).off + 3, none⟩ = some (.slice t.vl.A t.vl.n t.vl.c) ∧ Hid (ts[k]? = some t) := by
  have ht : ts[k]? = some ts[k] := List.getElem?_eq_getElem hk
  generalize ts[k] = t at ht
  have key : ∀ j u, j < 4 → (atRow t)[j]? = some u → ∃ ad, A = some ad ∧ ad.block < B ∧ w.cell? (ad.add (k * 4 + j)) = some u := fun j u hj hu => h _ _ ((atCells_at ts k t ht j hj).trans hu)
  obtain ⟨ad, e, hb, h0⟩ := key 0 _ (by omega) rfl
  subst e
  have key' : ∀ j u, j < 4 → (atRow t)[j]? = some u → w.cell? (ad.add (k * 4 + j)) = some u := by
    intro j u hj hu
    obtain ⟨ad', e, _, hc⟩ := key j u hj hu
    injection e with e
    subst e
    exact hc
  obtain ⟨e1, e2, e3⟩ := addr_nexts ad (k * 4)
  exact ⟨ad, t, rfl, hb, h0, by rw [← e1]; exact key' 1 _ (by omega) rfl, by rw [← e2]; exact key' 2 _ (by omega) rfl, by rw [← e3]; exact key' 3 _ (by omega) rfl, ht⟩

/-- the runs are those that the origins of its bytes make -/
def LT.told (t : LT) : Prop := t.rs = comp (t.ch.map (·.2))
/-- the runs of a labelled text, and of an attribute, are rows of the call's own, and as the origins of its bytes make them -/
def OwnL (w : World) (base : Nat) (t : LT) : Prop := t.rs.length = t.n ∧ (t.n ≤ 4294967296 ∧ t.told) ∧ t.s.size ≤ 4294967296 ∧ w.ownsRow base 79 2 (.slice t.A t.n t.c) t.n (runCells t.rs)
def OwnA (w : World) (base : Nat) (a : AT) : Prop := OwnL w base a.nm ∧ OwnL w base a.vl
theorem OwnL.ok {w : World} {base : Nat} {t : LT} (h : OwnL w base t) : t.ok w w.heap.size := ⟨Lies.own h.2.2.2, h.1, h.2.1.1, h.2.2.1⟩
theorem OwnA.ok {w : World} {base : Nat} {t : AT} (h : OwnA w base t) : t.ok w w.heap.size := ⟨h.1.ok, h.2.ok⟩
theorem OwnL.mono {w : World} {base base' : Nat} {t : LT} (h : OwnL w base t) (hb : base' ≤ base) : OwnL w base' t := ⟨h.1, h.2.1, h.2.2.1, own_mono h.2.2.2 hb⟩
theorem OwnA.mono {w : World} {base base' : Nat} {t : AT} (h : OwnA w base t) (hb : base' ≤ base) : OwnA w base' t := ⟨h.1.mono hb, h.2.mono hb⟩
theorem OwnL.keep {w w' : World} {base : Nat} {t : LT} (h : OwnL w base t) (hk : ∀ g c, base ≤ g → w.heap[g]? = some (.cells c 79 (0, 0)) → w'.heap[g]? = w.heap[g]?) : OwnL w' base t := by
  refine ⟨h.1, h.2.1, h.2.2.1, own_same h.2.2.2 fun g hg => ?_⟩
  obtain ⟨cur, hc⟩ := own_kind h.2.2.2 hg
  exact hk g cur (h.2.2.2.lt g hg).1 hc
theorem OwnL.below {w w' : World} {base : Nat} {t : LT} (h : OwnL w base t) (hb : Below w.heap.size w w') : OwnL w' base t := h.keep fun _ _ _ hc => hb.block _ (Array.getElem?_eq_some_iff.1 hc).1
theorem OwnA.keep {w w' : World} {base : Nat} {t : AT} (h : OwnA w base t) (hk : ∀ g c, base ≤ g → w.heap[g]? = some (.cells c 79 (0, 0)) → w'.heap[g]? = w.heap[g]?) : OwnA w' base t := ⟨h.1.keep hk, h.2.keep hk⟩
theorem OwnA.below {w w' : World} {base : Nat} {t : AT} (h : OwnA w base t) (hb : Below w.heap.size w w') : OwnA w' base t := h.keep fun _ _ _ hc => hb.block _ (Array.getElem?_eq_some_iff.1 hc).1
/-- a row of attributes of the call's own is written, or grows: runs stay -/
theorem kind_apart {w : World} {base n g : Nat} {v : Value} {xs : List Value} {c : Array Value} {size : Nat} {e : TypeId} (ho : w.ownsRow base e size v n xs) (he : e ≠ 79) (hc : w.heap[g]? = some (.cells c 79 (0, 0))) : some g ≠ v.ownBlock := by
  intro h
  obtain ⟨cur, hc'⟩ := own_kind ho h.symm
  rw [hc] at hc'
  injection hc' with hc'
  injection hc' with _ h _
  exact he h.symm
theorem OwnA.grown {w w' : World} {base base' n : Nat} {v : Value} {xs : List Value} {t : AT} {size : Nat} {e : TypeId} (h : OwnA w base t) (ho : w.ownsRow base' e size v n xs) (he : e ≠ 79) (hg : w.grownBy w' v.ownBlock) : OwnA w' base t :=
  h.keep fun g _ _ hc => hg.block g (Array.getElem?_eq_some_iff.1 hc).1 (kind_apart ho he hc)

/-- what is read of a list of attributes: it lies there, below a block -/
def AllOk (w : World) (B : Nat) (ts : List AT) : Prop := ∀ t ∈ ts, t.ok w B
def AllOwn (w : World) (base : Nat) (ts : List AT) : Prop := ∀ t ∈ ts, OwnA w base t
theorem AllOwn.ok {w : World} {base : Nat} {ts : List AT} (h : AllOwn w base ts) : AllOk w w.heap.size ts := fun t ht => (h t ht).ok
theorem AllOwn.mono {w : World} {base base' : Nat} {ts : List AT} (h : AllOwn w base ts) (hb : base' ≤ base) : AllOwn w base' ts := fun t ht => (h t ht).mono hb
theorem AllOwn.below {w w' : World} {base : Nat} {ts : List AT} (h : AllOwn w base ts) (hb : Below w.heap.size w w') : AllOwn w' base ts := fun t ht => (h t ht).below hb
theorem AllOwn.snoc {w : World} {base : Nat} {ts : List AT} {t : AT} (h : AllOwn w base ts) (ht : OwnA w base t) : AllOwn w base (ts ++ [t]) := by
  intro x hx
  rcases List.mem_append.1 hx with hx | hx
  · exact h x hx
  · simp at hx; subst hx; exact ht
theorem AllOk.keep {w0 w : World} {B : Nat} {ts : List AT} (h : AllOk w0 B ts) (hk : ∀ p : Addr, p.block < B → w.cell? p = w0.cell? p) : AllOk w B ts := fun t ht => (h t ht).keep hk
theorem AllOk.get {w : World} {B : Nat} {ts : List AT} (h : AllOk w B ts) {k : Nat} {t : AT} (ht : ts[k]? = some t) : t.ok w B := h t (List.mem_of_getElem? ht)
theorem chs_at {ts : List AT} {k : Nat} {t : AT} (h : ts[k]? = some t) : (ts.map AT.ch)[k]? = some t.ch := by rw [List.getElem?_map, h]; rfl

/-- a list of attributes that is told: in memory of its own -/
def TellsA (qs : List PA) (w : World) (e : Ending) (w' : World) : Prop :=
  ∃ A c ts, e = .returned (.slice A ts.length c) ∧ w'.ownsRow w.heap.size 30 4 (.slice A ts.length c) ts.length (atCells ts) ∧ AllOwn w' w.heap.size ts ∧ ts.map AT.ch = qs ∧ Below w.heap.size w w'
theorem att_info : (Tryz.prog.info? 30).map (fun i => (i.zero, i.size, i.bytes)) = some (some (.agg #[.string ⟨#[]⟩, .slice none 0 0, .string ⟨#[]⟩, .slice none 0 0]), 4, 80) := by kernel_rfl
/-- what is told of bytes and origins gives them back -/
theorem chars_taken (s : ByteArray) (rs : List (Int × Int)) : chars s.data.toList (taken s.size rs) = chars s.data.toList rs := by
  have h := chars_told (InR.chars s.data.toList rs)
  rw [chars_fst, chars_snd] at h
  have hl : s.data.toList.length = s.size := by rw [Array.length_toList]; rfl
  rw [hl] at h
  exact h
theorem own_told {s : ByteArray} {rs : List (Int × Int)} {v : Value} {base : Nat} {w : World} (hs : s.size ≤ 4294967296) (h : w.ownsRow base 79 2 v (taken s.size rs).length (runCells (taken s.size rs))) :
    ∃ t : LT, v = .slice t.A t.n t.c ∧ t.s = s ∧ t.ch = chars s.data.toList rs ∧ OwnL w base t := by
  obtain ⟨A, c, rfl, _, _, _⟩ := own_form h
  refine ⟨⟨s, A, _, c, taken s.size rs⟩, rfl, rfl, chars_taken s rs, rfl, ⟨?_, ?_⟩, hs, h⟩
  rotate_left
  · show taken s.size rs = comp ((chars s.data.toList (taken s.size rs)).map (·.2))
    rw [chars_taken, chars_snd, show s.data.toList.length = s.size by rw [Array.length_toList]; rfl]
    rfl
  show (taken s.size rs).length ≤ _
  have := comp_length_le (origins s.size rs)
  rw [origins_length] at this
  unfold taken
  omega

end Go.Proofs.YtnbdldapmllegaaGreat.mk

namespace Go.Proofs.YtnbdldapmllegaaGreat.mk
open Go.RowKit

/-- a labelled text is told, in memory of its own -/
def ToldO (l : Ch) (w : World) (e : Ending) (w' : World) : Prop :=
  ∃ t : LT, e = .returned (.agg #[.string t.s, .slice t.A t.n t.c]) ∧ Hid (t.ch = l ∧ OwnL w' w.heap.size t) ∧ Below w.heap.size w w'
theorem toldO_of {l : Ch} {w w' : World} {e : Ending} (hi : InR l) (hn : l.length ≤ 4294967296) (h : Tells (txtOf l) (comp (l.map (·.2))) w e w') : ToldO l w e w' := by
  obtain ⟨v, rfl, ho, hb⟩ := h
  obtain ⟨A, c, rfl, _, _, _⟩ := own_form ho
  exact ⟨toldT l A c, rfl, ⟨toldT_ch hi A c, rfl, ⟨Nat.le_trans (runN_le l) hn, by show comp (l.map (·.2)) = comp ((toldT l A c).ch.map (·.2)); rw [toldT_ch hi]⟩, by show (txtOf l).size ≤ _; rw [txtOf_size]; exact hn, ho⟩, hb⟩

end Go.Proofs.YtnbdldapmllegaaGreat.mk

namespace Go.Proofs.YtnbdldapmllegaaGreat.mk
open Go.RowKit

/-- a labelled text, cut -/
theorem cut_t (a : LT) (f t : Int) (x y : Nat) (w : World) (ha : a.ok w w.heap.size) (hx : min (max f 0) (a.s.size : Int) = x) (hy : min (max t 0) (a.s.size : Int) = y) :
    Calls Tryz.prog 68 #[a.v, .int .i64 f, .int .i64 t] w (Tells (txtOf ((a.ch.take y).drop x)) (comp (((a.ch.take y).drop x).map (·.2))) w) := by
  have h := cut_any a.s a.A a.n a.c a.rs f t x y w ha.1 ha.2.1 ha.2.2.2 ha.2.2.1 hx hy
  have e1 : ((a.ch.take y).drop x).map (·.1) = (a.s.data.toList.take y).drop x := by
    rw [List.map_drop, List.map_take, LT.ch_fst]; rfl
  have e2 : ((a.ch.take y).drop x).map (·.2) = ((origins a.s.size a.rs).take y).drop x := by
    rw [List.map_drop, List.map_take, LT.ch_snd]; rfl
  unfold txtOf
  rw [e1, e2]
  exact h

end Go.Proofs.YtnbdldapmllegaaGreat.mk

namespace Go.Proofs.YtnbdldapmllegaaGreat.mk
open Go.RowKit

end Go.Proofs.YtnbdldapmllegaaGreat.mk

namespace Go.Proofs.YtnbdldapmllegaaGreat.mk
open Go.RowKit

/-- the cells xs lie one behind the other from A on, in blocks of S -/
def LiesS (S : Nat → Prop) (w : World) (A : Option Addr) (xs : List Value) : Prop :=
  ∀ j u, xs[j]? = some u → ∃ ad, A = some ad ∧ S ad.block ∧ ad.block < w.heap.size ∧ w.cell? (ad.add j) = some u
/-- the blocks of S stay -/
def Stays (S : Nat → Prop) (w w' : World) : Prop := w.heap.size ≤ w'.heap.size ∧ ∀ b, S b → b < w.heap.size → w'.heap[b]? = w.heap[b]?
theorem Stays.of {S : Nat → Prop} {w w' : World} (h : Below w.heap.size w w') : Stays S w w' := ⟨h.size, fun b _ hb => h.block b hb⟩
theorem LiesS.keep {S : Nat → Prop} {w w' : World} {A : Option Addr} {xs : List Value} (h : LiesS S w A xs) (hk : Stays S w w') : LiesS S w' A xs := by
  intro j u hu
  obtain ⟨ad, e, hs, hb, hc⟩ := h j u hu
  exact ⟨ad, e, hs, Nat.lt_of_lt_of_le hb hk.1, (World.cell?_of_block (w := w) (hk.2 _ (by rw [addr_block]; exact hs) (by rw [addr_block]; exact hb))).trans hc⟩
theorem LiesS.mono {S S' : Nat → Prop} {w : World} {A : Option Addr} {xs : List Value} (h : LiesS S w A xs) (hS : ∀ b, S b → b < w.heap.size → S' b) : LiesS S' w A xs := by
  intro j u hu
  obtain ⟨ad, e, hs, hb, hc⟩ := h j u hu
  exact ⟨ad, e, hS _ hs hb, hb, hc⟩
theorem LiesS.lies {S : Nat → Prop} {w : World} {A : Option Addr} {xs : List Value} (h : LiesS S w A xs) : Lies w w.heap.size A xs := by
  intro j u hu
  obtain ⟨ad, e, _, hb, hc⟩ := h j u hu
  exact ⟨ad, e, hb, hc⟩
theorem Lies.inS {w : World} {B : Nat} {A : Option Addr} {xs : List Value} (h : Lies w B A xs) (hB : B ≤ w.heap.size) : LiesS (fun b => b < B) w A xs := by
  intro j u hu
  obtain ⟨ad, e, hb, hc⟩ := h j u hu
  exact ⟨ad, e, hb, Nat.lt_of_lt_of_le hb hB, hc⟩
theorem own_inS {w : World} {base : Nat} {e : TypeId} {size n : Nat} {A : Option Addr} {c : Nat} {xs : List Value} (h : w.ownsRow base e size (.slice A n c) n xs) : LiesS (fun b => base ≤ b) w A xs := by
  intro j u hu
  obtain ⟨ad, hA, hb, hc⟩ := Lies.own h j u hu
  refine ⟨ad, hA, ?_, hb, hc⟩
  rcases h.2 with ⟨hv, h0⟩ | ⟨g, cap, cur, hv, hg, _⟩
  · injection hv with hv
    rw [hv] at hA; cases hA
  · injection hv with hv
    rw [hv] at hA
    injection hA with hA
    rw [← hA]
    exact (h.lt g (by rw [hv]; rfl)).1
theorem LiesS.nil (S : Nat → Prop) (w : World) (A : Option Addr) : LiesS S w A [] := fun j u h => by simp at h

def LT.inS (S : Nat → Prop) (w : World) (t : LT) : Prop := LiesS S w t.A (runCells t.rs) ∧ t.rs.length = t.n ∧ t.n ≤ 4294967296 ∧ t.s.size ≤ 4294967296
theorem LT.inS.ok {S : Nat → Prop} {w : World} {t : LT} (h : t.inS S w) : t.ok w w.heap.size := ⟨h.1.lies, h.2⟩
theorem LT.inS.keep {S : Nat → Prop} {w w' : World} {t : LT} (h : t.inS S w) (hk : Stays S w w') : t.inS S w' := ⟨h.1.keep hk, h.2⟩
theorem LT.inS.mono {S S' : Nat → Prop} {w : World} {t : LT} (h : t.inS S w) (hS : ∀ b, S b → b < w.heap.size → S' b) : t.inS S' w := ⟨h.1.mono hS, h.2⟩
theorem LT.ok.inS {w : World} {B : Nat} {t : LT} (h : t.ok w B) (hB : B ≤ w.heap.size) : t.inS (fun b => b < B) w := ⟨h.1.inS hB, h.2⟩
theorem OwnL.inS {w : World} {base : Nat} {t : LT} (h : OwnL w base t) : t.inS (fun b => base ≤ b) w := ⟨own_inS h.2.2.2, h.1, h.2.1.1, h.2.2.1⟩
def AT.inS (S : Nat → Prop) (w : World) (a : AT) : Prop := a.nm.inS S w ∧ a.vl.inS S w
theorem AT.inS.ok {S : Nat → Prop} {w : World} {t : AT} (h : t.inS S w) : t.ok w w.heap.size := ⟨h.1.ok, h.2.ok⟩
theorem AT.inS.keep {S : Nat → Prop} {w w' : World} {t : AT} (h : t.inS S w) (hk : Stays S w w') : t.inS S w' := ⟨h.1.keep hk, h.2.keep hk⟩
theorem AT.inS.mono {S S' : Nat → Prop} {w : World} {t : AT} (h : t.inS S w) (hS : ∀ b, S b → b < w.heap.size → S' b) : t.inS S' w := ⟨h.1.mono hS, h.2.mono hS⟩
theorem AT.ok.inS {w : World} {B : Nat} {t : AT} (h : t.ok w B) (hB : B ≤ w.heap.size) : t.inS (fun b => b < B) w := ⟨LT.ok.inS h.1 hB, LT.ok.inS h.2 hB⟩
theorem OwnA.inS {w : World} {base : Nat} {t : AT} (h : OwnA w base t) : t.inS (fun b => base ≤ b) w := ⟨h.1.inS, h.2.inS⟩

end Go.Proofs.YtnbdldapmllegaaGreat.mk

namespace Go.Proofs.YtnbdldapmllegaaGreat.mk
open Go.RowKit

/-- a text as a tree -/
def noT : LT := ⟨⟨#[]⟩, none, 0, 0, []⟩
theorem noT_ch : noT.ch = [] := by rfl
theorem noT_in (S : Nat → Prop) (w : World) : noT.inS S w := ⟨LiesS.nil _ _ _, rfl, Nat.zero_le _, Nat.zero_le _⟩
end Go.Proofs.YtnbdldapmllegaaGreat.mk
