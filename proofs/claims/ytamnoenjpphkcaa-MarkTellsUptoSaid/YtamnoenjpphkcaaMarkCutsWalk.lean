/-
  The walk of the statement MarkCuts.
-/
import Derived.Test.YtamnoenjpphkcaaMarkAlive
import Derived.Test.YtamnoenjpphkcaaMarkRefCat
import Derived.Test.YtamnoenjpphkcaaMarkRefIs
import Derived.Test.YtamnoenjpphkcaaMarkManyWalk
import Derived.Test.YtamnoenjpphkcaaMarkCut
import Derived.Test.YtamnoenjpphkcaaMarkSame
import Derived.Test.YtamnoenjpphkcaaMarkTold
import Derived.Deep.DeepCutAuto
namespace Go.Proofs.Ytamnoenjpphkcaa.mk
open Go.RowKit

/-- the bytes, dyed -/
def dyeCh (l : List (UInt8 × Int)) (o : Int) : List (UInt8 × Int) := l.map fun x => (x.1, max x.2 (nearO o))

def CutsDye (l : List (UInt8 × Int)) (o : Int) (w0 : World) (d i : Value) (wr : World) : Prop :=
  ∃ k : Nat, k ≤ l.length ∧ i = .int .i64 k ∧ wr.ownsRow w0.heap.size 29 2 d k (chCells ((dyeCh l o).take k)) ∧ Below w0.heap.size w0 wr

/-- Is, where it is -/
theorem refIs_true (s : ByteArray) (A : Option Addr) (n c : Nat) (rs : List (Int × Int)) (A2 : Option Addr) (m c2 : Nat) (l : List (UInt8 × Int)) (w : World) (hs : s.data.toList = l.map (·.1)) (hr : rs = comp (l.map (·.2))) (hl : Lies w w.heap.size A (runCells rs)) (hn : rs.length = n)
    (hl2 : Lies w w.heap.size A2 (chCells l)) (hm : l.length = m) (hm2 : m ≤ 4294967296) :
    Calls Try.prog 9 #[.agg #[.string s, .slice A n c], .slice A2 m c2] w fun e w' => e = .returned (.bool true) ∧ Below w.heap.size w w' := by
  have hn2 : n ≤ 4294967296 := by
    have := comp_length_le (l.map (·.2))
    rw [← hr, List.length_map] at this
    omega
  refine (refIs_any s A n c rs A2 m c2 l w hl hn hn2 hl2 hm hm2).mono ?_
  rintro e w' ⟨rfl, hb⟩
  refine ⟨?_, hb⟩
  rw [hs, hr, isB_told]
theorem ch_cut_fst (a : LT) (x y : Nat) : (((a.s.data.toList.take y).drop x).toArray : Array UInt8).toList = ((a.ch.take y).drop x).map (·.1) := by
  rw [List.map_drop, List.map_take, LT.ch_fst]; rfl
theorem ch_cut_snd (a : LT) (x y : Nat) : ((origins a.s.size a.rs).take y).drop x = ((a.ch.take y).drop x).map (·.2) := by
  rw [List.map_drop, List.map_take, LT.ch_snd]; rfl
theorem dyeCh_fst (l : List (UInt8 × Int)) (o : Int) : (dyeCh l o).map (·.1) = l.map (·.1) := by unfold dyeCh; rw [List.map_map]; rfl
theorem dyeCh_snd (l : List (UInt8 × Int)) (o : Int) : (dyeCh l o).map (·.2) = (l.map (·.2)).map (max · (nearO o)) := by unfold dyeCh; rw [List.map_map, List.map_map]; rfl
theorem sameB_ch (a b : LT) : sameB a b = decide (a.ch = b.ch) := by
  unfold sameB
  rw [decide_eq_decide]
  constructor
  · rintro ⟨h1, h2⟩
    refine chars_ext ?_ ?_
    · rw [LT.ch_fst, LT.ch_fst]; exact h1
    · rw [LT.ch_snd, LT.ch_snd]; exact h2
  · intro h
    exact ⟨by rw [← LT.ch_fst, h, LT.ch_fst], by rw [← LT.ch_snd, h, LT.ch_snd]⟩

/-- what was cut, put together again -/
def CutsBack (a : LT) (wr : World) (s18 : Value) (wx : World) : Prop :=
  ∃ g v, s18 = .pointer (some ⟨g, 0, none⟩) ∧ Whole wx g 24 #[.string a.s, v] ∧ wx.ownsRow wr.heap.size 54 2 v (comp a.os).length (runCells (comp a.os)) ∧ Below wr.heap.size wr wx
/-- what the cut is, behind the test -/
def CutsIf (w2 : World) (l : List (UInt8 × Int)) (x y : Nat) (s15 : Value) (wx : World) : Prop :=
  ∃ AC CC, s15 = .slice AC (y - x) CC ∧ wx = w2 ∧ Hid (Lies w2 w2.heap.size AC (chCells ((l.take y).drop x)))
theorem chCells_take (l : List (UInt8 × Int)) (n : Nat) : chCells (l.take n) = (chCells l).take (n * 2) := by
  induction l generalizing n with
  | nil => simp [chCells]
  | cons t ts ih =>
    cases n with
    | zero => simp [chCells]
    | succ n =>
      have e : chCells (t :: ts) = .int .u8 t.1.toNat :: .int .i64 t.2 :: chCells ts := rfl
      rw [List.take_succ_cons, e, show (n + 1) * 2 = n * 2 + 1 + 1 by omega, List.take_succ_cons, List.take_succ_cons, ← ih]
      rfl
theorem chCells_drop (l : List (UInt8 × Int)) (n : Nat) : chCells (l.drop n) = (chCells l).drop (n * 2) := by
  induction l generalizing n with
  | nil => simp [chCells]
  | cons t ts ih =>
    cases n with
    | zero => simp
    | succ n =>
      have e : chCells (t :: ts) = .int .u8 t.1.toNat :: .int .i64 t.2 :: chCells ts := rfl
      rw [List.drop_succ_cons, e, show (n + 1) * 2 = n * 2 + 1 + 1 by omega, List.drop_succ_cons, List.drop_succ_cons, ← ih]
theorem Lies.drop {w : World} {B : Nat} {A : Option Addr} {xs : List Value} (h : Lies w B A xs) (n : Nat) : Lies w B (A.map (·.add n)) (xs.drop n) := by
  intro j u hu
  rw [List.getElem?_drop] at hu
  obtain ⟨ad, rfl, hb, hc⟩ := h _ u hu
  exact ⟨ad.add n, rfl, by rw [addr_block]; exact hb, by rw [addr_add]; exact hc⟩
theorem cuts_if1 {w2 : World} {base n x y d : Nat} {A : Option Addr} {l : List (UInt8 × Int)} (h : w2.ownsRow base 29 2 (.slice A n d) n (chCells l)) (hl : l.length = n) (hxy : x < y) (hy : y ≤ n) :
    CutsIf w2 l x y (.slice (A.map (·.add (x * 2))) (y - x) (d - x)) w2 := by
  have _ := hl
  have _ := hxy
  have _ := hy
  refine ⟨_, _, rfl, rfl, ?_⟩
  show Lies _ _ _ _
  rw [chCells_drop, chCells_take]
  exact ((Lies.own h).take _).drop _
theorem cuts_if2 {w2 : World} {x y : Nat} {l : List (UInt8 × Int)} (h : y ≤ x) : CutsIf w2 l x y (.slice none 0 0) w2 := by
  refine ⟨none, 0, by rw [Nat.sub_eq_zero_of_le h], rfl, ?_⟩
  show Lies _ _ _ _
  rw [List.drop_eq_nil_of_le (by rw [List.length_take]; omega)]
  exact Lies.empty _ _ _

theorem cuts_back1 {a : LT} {wr w3 : World} {base : Nat} {v : Value} (h3 : w3.ownsRow base 54 2 v (comp a.os).length (runCells (comp a.os))) (hb : Below wr.heap.size wr w3) (hbase : wr.heap.size ≤ base) :
    CutsBack a wr (.pointer (some ⟨w3.heap.size, 0, none⟩)) (w3.alloc (.cells #[.string a.s, v] 24)) :=
  ⟨_, v, rfl, Whole.made _ _ _, own_mono (h3.alloc _) hbase, hb.alloc hb.size _⟩
theorem cuts_back2 {a : LT} {wr w3 : World} {base g : Nat} {v : Value} (h3 : w3.ownsRow base 54 2 v (comp a.os).length (runCells (comp a.os))) (hb : Below wr.heap.size wr w3) (hz : Whole w3 g 24 #[.string ⟨#[]⟩, .slice none 0 0]) (hbase : wr.heap.size ≤ base) (hg : wr.heap.size ≤ g) (hgb : g < base) :
    CutsBack a wr (.pointer (some ⟨g, 0, none⟩)) ((w3.setCell ⟨g, 0, none⟩ (.string a.s)).setCell ⟨g, 1, none⟩ v) :=
  ⟨g, v, rfl, (hz.put 0 _).put 1 _, own_mono (own_far (own_far h3 _ (fun e => by have := (h3.lt _ e).1; simp at this; omega) _) _ (fun e => by have := (h3.lt _ e).1; simp at this; omega) _) hbase, (hb.setCell hg _).setCell hg _⟩
theorem lies_at {W : World} {g : Nat} {t : TypeId} {cs : List Value} (h : Whole W g t cs.toArray) : Lies W W.heap.size (some ⟨g, 0, none⟩) cs := by
  intro j u hu
  refine ⟨_, rfl, h.lt, ?_⟩
  have hadd : (⟨g, 0, none⟩ : Addr).add j = ⟨g, j, none⟩ := by unfold Addr.add; split <;> simp_all
  rw [hadd, h.at_ j]
  simpa using hu
theorem below_two {B g : Nat} {wr w3 : World} {u v : Value} (h : Below B wr w3) (hg : B ≤ g) : Below B wr ((w3.setCell ⟨g, 0, none⟩ u).setCell ⟨g, 1, none⟩ v) := (h.setCell hg _).setCell hg _
theorem below_al {B : Nat} {wr W : World} (h : Below B wr W) (hB : B ≤ wr.heap.size) (o : Obj) : Below B wr (W.alloc o) := h.alloc (Nat.le_trans hB h.size) o

/-- the two parts of a text that is cut, and both put together -/
structure Parts (a : LT) (f : Int) (s1 s2 : ByteArray) (q1 q2 : List Int) : Prop where
  fst : ∀ W : World, Lies W W.heap.size a.A (runCells a.rs) → Calls Try.prog 21 #[.agg #[.string a.s, .slice a.A a.n a.c], .int .i64 0, .int .i64 f] W (Tells s1 (comp q1) W)
  snd : ∀ W : World, Lies W W.heap.size a.A (runCells a.rs) → Calls Try.prog 21 #[.agg #[.string a.s, .slice a.A a.n a.c], .int .i64 f, .int .i64 (a.s.size : Int)] W (Tells s2 (comp q2) W)
  both : ∀ (W : World) (L B1 B2 : Option Addr) (g1 g2 : Nat), Lies W W.heap.size L [.string s1, .slice B1 (comp q1).length g1, .string s2, .slice B2 (comp q2).length g2] → Lies W W.heap.size B1 (runCells (comp q1)) → Lies W W.heap.size B2 (runCells (comp q2)) →
    Calls Try.prog 20 #[.slice L 2 2] W (Tells a.s (comp a.os) W)
theorem parts (a : LT) (f : Int) (h1 : a.rs.length = a.n) (h2 : a.n ≤ 4294967296) (h3 : a.s.size ≤ 4294967296) : ∃ s1 s2 q1 q2, Parts a f s1 s2 q1 q2 := by
  obtain ⟨x, hx⟩ : ∃ x : Nat, min (max f 0) (a.s.size : Int) = x := ⟨(min (max f 0) (a.s.size : Int)).toNat, by omega⟩
  have hxs : x ≤ a.s.size := by omega
  have hbl : a.s.data.toList.length = a.s.size := LT.bs_length a
  have hol : (origins a.s.size a.rs).length = a.s.size := origins_length _ _
  refine ⟨⟨((a.s.data.toList.take x).drop 0).toArray⟩, ⟨((a.s.data.toList.take a.s.size).drop x).toArray⟩, ((origins a.s.size a.rs).take x).drop 0, ((origins a.s.size a.rs).take a.s.size).drop x,
    fun W hl => cut_any a.s a.A a.n a.c a.rs 0 f 0 x W hl h1 h3 h2 (by omega) hx, fun W hl => cut_any a.s a.A a.n a.c a.rs f a.s.size x a.s.size W hl h1 h3 h2 hx (by omega), ?_⟩
  intro W L B1 B2 g1 g2 hL hB1 hB2
  have e1 : ((a.s.data.toList.take x).drop 0) ++ ((a.s.data.toList.take a.s.size).drop x) = a.s.data.toList := by
    rw [List.drop_zero, List.take_of_length_le (l := a.s.data.toList) (i := a.s.size) (by omega), List.take_append_drop]
  have e2 : (((origins a.s.size a.rs).take x).drop 0) ++ (((origins a.s.size a.rs).take a.s.size).drop x) = origins a.s.size a.rs := by
    rw [List.drop_zero, List.take_of_length_le (l := origins a.s.size a.rs) (i := a.s.size) (by omega), List.take_append_drop]
  have hin : ∀ o ∈ origins a.s.size a.rs, 0 ≤ o ∧ o ≤ 65536 := origins_in _ _
  have l1 : (((origins a.s.size a.rs).take x).drop 0).length = ((a.s.data.toList.take x).drop 0).length := by simp only [List.length_drop, List.length_take]; omega
  have l2 : (((origins a.s.size a.rs).take a.s.size).drop x).length = ((a.s.data.toList.take a.s.size).drop x).length := by simp only [List.length_drop, List.length_take]; omega
  have s1 : ((a.s.data.toList.take x).drop 0).length ≤ 4294967296 := by simp only [List.length_drop, List.length_take]; omega
  have s2 : ((a.s.data.toList.take a.s.size).drop x).length ≤ 4294967296 := by simp only [List.length_drop, List.length_take]; omega
  have i1 : ∀ o ∈ ((origins a.s.size a.rs).take x).drop 0, 0 ≤ o ∧ o ≤ 65536 := fun o ho => hin o (List.mem_of_mem_take (List.mem_of_mem_drop ho))
  have i2 : ∀ o ∈ ((origins a.s.size a.rs).take a.s.size).drop x, 0 ≤ o ∧ o ≤ 65536 := fun o ho => hin o (List.mem_of_mem_take (List.mem_of_mem_drop ho))
  generalize (a.s.data.toList.take x).drop 0 = b1 at *
  generalize (a.s.data.toList.take a.s.size).drop x = b2 at *
  generalize ((origins a.s.size a.rs).take x).drop 0 = q1 at *
  generalize ((origins a.s.size a.rs).take a.s.size).drop x = q2 at *
  have c1 := comp_length_le q1
  have c2 := comp_length_le q2
  have hbs : catBs [LT.mk ⟨b1.toArray⟩ B1 (comp q1).length g1 (comp q1), LT.mk ⟨b2.toArray⟩ B2 (comp q2).length g2 (comp q2)] = a.bs := by
    show b1 ++ (b2 ++ []) = a.bs
    rw [List.append_nil, e1]; rfl
  have hos : catOs [LT.mk ⟨b1.toArray⟩ B1 (comp q1).length g1 (comp q1), LT.mk ⟨b2.toArray⟩ B2 (comp q2).length g2 (comp q2)] = a.os := by
    show (LT.mk ⟨b1.toArray⟩ B1 (comp q1).length g1 (comp q1)).os ++ ((LT.mk ⟨b2.toArray⟩ B2 (comp q2).length g2 (comp q2)).os ++ []) = a.os
    rw [LT.os_told _ _ _ l1 i1, LT.os_told _ _ _ l2 i2, List.append_nil, e2]; rfl
  have h := cat_any L 2 2 [LT.mk ⟨b1.toArray⟩ B1 (comp q1).length g1 (comp q1), LT.mk ⟨b2.toArray⟩ B2 (comp q2).length g2 (comp q2)] W hL rfl (by omega) (by
    intro t ht
    simp only [List.mem_cons, List.not_mem_nil, or_false] at ht
    rcases ht with rfl | rfl
    · exact ⟨hB1, rfl, by show (comp q1).length ≤ _; omega, by show b1.toArray.size ≤ _; simpa using s1⟩
    · exact ⟨hB2, rfl, by show (comp q2).length ≤ _; omega, by show b2.toArray.size ≤ _; simpa using s2⟩) (by rw [hos, LT.os_length]; exact h3)
  rw [hbs, hos] at h
  exact h

set_option maxHeartbeats 4000000 in
set_option maxRecDepth 100000 in
theorem cuts_any (a b : LT) (f t o : Int) (w : World) (ha : a.ok w w.heap.size) (hb : b.ok w w.heap.size) (hsz : a.s.size + b.s.size ≤ 4294967296) :
    Calls Try.prog 4 #[.agg #[.string a.s, .slice a.A a.n a.c], .int .i64 f, .int .i64 t, .agg #[.string b.s, .slice b.A b.n b.c], .int .i64 o] w fun e w' => e = .returned (.bool true) ∧ Below w.heap.size w w' := by
  have HA := Lib.hid ha
  have HB := Lib.hid hb
  clear ha hb
  go_enter Try.func4, Try.ntmps4
  go_wp2_with fail
  refine (alive_any _).mono ?_
  rintro e w0 ⟨rfl, hal⟩
  have y0 : Whole w0 w.heap.size 24 #[.string a.s, .slice a.A a.n a.c] := ((Whole.made w _ _).alloc _).below hal (by simp; omega)
  have y1 : Whole w0 (w.heap.size + 1) 24 #[.string b.s, .slice b.A b.n b.c] := by
    have h := Whole.made (w.alloc (.cells #[.string a.s, .slice a.A a.n a.c] 24)) 24 #[.string b.s, .slice b.A b.n b.c]
    simp only [World.size_alloc] at h
    exact h.below hal (by simp)
  have hb0 : Below w.heap.size w w0 := (((Below.refl _ _).alloc (Nat.le_refl _) _).alloc (by simp) _).trans (hal.mono (by simp; omega))
  have HLA := Lib.hid (HA.out.next hb0 (Nat.le_refl _))
  have HLB := Lib.hid (HB.out.next hb0 (Nat.le_refl _))
  clear hal
  have c0 : w0.cell? ⟨w.heap.size, 0, none⟩ = some (.string a.s) := y0.at_ 0
  have c1 : w0.cell? ⟨w.heap.size, 1, none⟩ = some (.slice a.A a.n a.c) := y0.at_ 1
  have c2 : w0.cell? ⟨w.heap.size + 1, 0, none⟩ = some (.string b.s) := y1.at_ 0
  have c3 : w0.cell? ⟨w.heap.size + 1, 1, none⟩ = some (.slice b.A b.n b.c) := y1.at_ 1
  have KS : ∀ w', Below w0.heap.size w0 w' → w'.cell? ⟨w.heap.size, 0, none⟩ = some (.string a.s) ∧ w'.cell? ⟨w.heap.size, 1, none⟩ = some (.slice a.A a.n a.c) ∧ w'.cell? ⟨w.heap.size + 1, 0, none⟩ = some (.string b.s) ∧ w'.cell? ⟨w.heap.size + 1, 1, none⟩ = some (.slice b.A b.n b.c) ∧ Below w0.heap.size w0 w' := fun w' h =>
    ⟨(h.cell y0.lt).trans (y0.at_ 0), (h.cell y0.lt).trans (y0.at_ 1), (h.cell y1.lt).trans (y1.at_ 0), (h.cell y1.lt).trans (y1.at_ 1), h⟩
  have HKS := Lib.hid KS
  clear KS
  go_wp2_with fail
  go_region_held3 (fun w' => w'.cell? ⟨w.heap.size, 0, none⟩ = some (.string a.s) ∧ w'.cell? ⟨w.heap.size, 1, none⟩ = some (.slice a.A a.n a.c) ∧ w'.cell? ⟨w.heap.size + 1, 0, none⟩ = some (.string b.s) ∧ w'.cell? ⟨w.heap.size + 1, 1, none⟩ = some (.slice b.A b.n b.c) ∧ Below w0.heap.size w0 w')
    (first
      | exact HKS.out _ (Below.drew (Below.refl _ _))
      | (go_split_ands; exact HKS.out _ (by assumption))
      | (go_split_ands; exact HKS.out _ (below_next (by assumption) (Nat.le_refl _) hb1))
      | (go_split_ands; exact HKS.out _ (below_next (by assumption) (Nat.le_refl _) hb2)))
    (first
      | (go_at_call_of 8 (a.A); refine (refOf_any a.s a.A a.n a.c a.rs _ ?_ HLA.out.2.1 HLA.out.2.2.2 HLA.out.2.2.1).mono ?_; (go_split_ands; exact HLA.out.1.next (by assumption) (Nat.le_refl _)); rintro e w1 ⟨v1, rfl, h1, hb1⟩; obtain ⟨A1, d1, rfl, hA1, hd1, hd1'⟩ := own_form h1)
      | (go_at_call_of 8 (b.A); refine (refOf_any b.s b.A b.n b.c b.rs _ ?_ HLB.out.2.1 HLB.out.2.2.2 HLB.out.2.2.1).mono ?_; (go_split_ands; exact HLB.out.1.next (by assumption) (Nat.le_refl _)); rintro e w2 ⟨v2, rfl, h2, hb2⟩; obtain ⟨A2, d2, rfl, hA2, _, _⟩ := own_form h2))
  have hbw : Below w0.heap.size w0 w2 := below_next (below_next (Below.drew (Below.refl _ _)) (Nat.le_refl _) hb1) (Nat.le_refl _) hb2
  have h1' := own_keep h1 hb2
  have hkA : A1 = none → d1 = 0 := hA1
  have HKA := Lib.hid hkA
  have HKB := Lib.hid hA2
  have hz2 := hb2.size
  have hz1 : w0.heap.size ≤ w1.heap.size := hb1.size
  have HN1 := Lib.hid (LT.ch_length a)
  have HN2 := Lib.hid (LT.ch_length b)
  have H1 : Hid (w2.ownsRow w0.heap.size 29 2 (.slice A1 a.s.size d1) a.s.size (chCells a.ch)) := h1'
  have H2 : Hid (w2.ownsRow w0.heap.size 29 2 (.slice A2 b.s.size d2) b.s.size (chCells b.ch)) := own_mono h2 hz1
  clear h1 h2 h1' hA1 hA2 hkA hb1 hb2
  obtain ⟨x, hx⟩ : ∃ x : Nat, min (max f 0) (a.s.size : Int) = x := ⟨(min (max f 0) (a.s.size : Int)).toNat, by omega⟩
  obtain ⟨y, hy⟩ : ∃ y : Nat, min (max t 0) (a.s.size : Int) = y := ⟨(min (max t 0) (a.s.size : Int)).toNat, by omega⟩
  have hxs : x ≤ a.s.size := by omega
  have hys : y ≤ a.s.size := by omega
  have HXX := Lib.hid hx
  have HYY := Lib.hid hy
  go_upto_if 37 with (fail)
  go_cut [15] (fun s15 wx => CutsIf w2 a.ch x y s15 wx)
  case first =>
    by_cases hxy : x < y
    · have hcx : (d1 = x) = False := by simp; omega
      go_wp2_with fail
      go_meet
      exact cuts_if1 H1.out HN1.out hxy hys
    · go_wp2_with fail
      go_meet
      exact cuts_if2 (by omega)
  case rest =>
    obtain ⟨AC, CC, rfl, hwx, hCL⟩ := hcut
    subst hwx
    obtain ⟨wv, rfl⟩ : ∃ wv : World, wv = wc := ⟨_, rfl⟩
    obtain ⟨i0, hi, hz0', hz1', hz2'⟩ := info_parts ch_info
    go_wp2_with fail
    go_loopw [16, 17] (CutsDye a.ch o wv) (fun _ i _ => a.s.size - (intOf i).toNat)
    case atStart => exact ⟨0, Nat.zero_le _, rfl, by simpa [chCells] using World.ownsRow_nil _ _ _ _, Below.refl _ _⟩
    case round =>
      obtain ⟨k, hk, rfl, hown, hbl⟩ := hrel
      rw [HN1.out] at hk
      have hws := hbl.size
      obtain ⟨A3, d3, rfl, hA3, _, _⟩ := own_form hown
      have HA3 := Lib.hid hA3
      clear hA3
      by_cases hlt : k < a.s.size
      · obtain ⟨ad, b1, p1, hAD, hbA, hc1, hc2, HR⟩ := ((Lies.own H1.out).below hbl).ch (k := k) (by rw [HN1.out]; exact hlt)
        subst hAD
        have hbA' : (ad.add (k * 2)).block < wv.heap.size := by rw [addr_block]; exact hbA
        have hfar : ∀ q, q < wv.heap.size → some q ≠ (Value.slice A3 k d3).ownBlock := fun q hq e => by have := (hown.lt q e.symm).1; omega
        have HFAR := Lib.hid hfar
        have HNX : Hid ((dyeCh a.ch o).take (k + 1) = (dyeCh a.ch o).take k ++ [(b1, max p1 (nearO o))]) := by
          show _ = _
          refine take_next ?_
          unfold dyeCh
          rw [List.getElem?_map, HR.out]
          rfl
        have hk0 : (0 : Int) ≤ (k : Int) := Int.natCast_nonneg _
        have hk1 : (k : Int) < (a.s.size : Int) := by omega
        clear hfar
        go_wp2_with fail
        go_region_held3 (fun w' => w'.cell? (ad.add (k * 2)) = some (.int .u8 b1.toNat) ∧ w'.cell? ⟨(ad.add (k * 2)).block, (ad.add (k * 2)).off + 1, none⟩ = some (.int .i64 p1))
          (first
            | go_keep
            | (go_split_ands
               refine ⟨?_, ?_⟩
               · (rw [hgrow.cell_far (ad.add (k * 2)) (by simp; omega) (HFAR.out _ hbA')]; assumption)
               · (rw [hgrow.cell_far ⟨(ad.add (k * 2)).block, (ad.add (k * 2)).off + 1, none⟩ (by simp; omega) (HFAR.out _ hbA')]; assumption)))
          (first
            | (refine step_append_lies _ (by rfl) _ _ _ (by rfl) wv.heap.size 29 i0 _ 2 16 Try.underlying26 hi hz0' hz1' hz2' rfl (by omega) (.slice A3 k d3) k _ (by rfl) ((hown.alloc _).drew)
                ⟨wr.heap.size, 0, none⟩ 1 1 [.int .u8 b1.toNat, .int .i64 (max p1 (min (max o 0) 65536))] (by rfl) (by rfl) (World.news_of_block (cs := #[.int .u8 b1.toNat, .int .i64 (max p1 (min (max o 0) 65536))]) (t := 29) (fr := (0, 0)) (heap_alloc_new wr _)) (by simp [Value.oneCell'])
                (by omega) (by simp only [maxLen]; omega) (by omega) (by simp; omega) (wr.heap.size + 1) (by simp) ?_; intro gg cap w1 hown1 hgrow hat hlt'))
        all_goals
          have hbl1 : Below wv.heap.size wv w1 := (((hbl.alloc (by omega) _).drew).grown hgrow (by simp; omega) (fun x hx => (hown.lt x hx).1))
          clear hgrow hat hlt'
          go_wp2
          go_roundw
          case rel => exact ⟨k + 1, by rw [HN1.out]; omega, by go_num, by rw [HNX.out, chCells_snoc]; exact hown1, hbl1⟩
          case measure => simp [intOf]; omega
      · obtain rfl : k = a.s.size := by omega
        have hfull : (dyeCh a.ch o).take a.s.size = dyeCh a.ch o := List.take_of_length_le (by unfold dyeCh; rw [List.length_map, HN1.out]; exact Nat.le_refl _)
        rw [hfull] at hown
        have HD := Lib.hid hown
        have HBL := Lib.hid hbl
        clear hown hfull
        have hbr : Below w0.heap.size w0 wr := hbw.trans (hbl.mono (by omega))
        have e0 : wr.cell? ⟨w.heap.size, 0, none⟩ = some (.string a.s) := (hbr.cell y0.lt).trans (y0.at_ 0)
        have e1 : wr.cell? ⟨w.heap.size, 1, none⟩ = some (.slice a.A a.n a.c) := (hbr.cell y0.lt).trans (y0.at_ 1)
        have HBR := Lib.hid hbr
        have KS2 : ∀ w', Below wr.heap.size wr w' → w'.cell? ⟨w.heap.size, 0, none⟩ = some (.string a.s) ∧ w'.cell? ⟨w.heap.size, 1, none⟩ = some (.slice a.A a.n a.c) ∧ Below wr.heap.size wr w' := fun w' h =>
          ⟨(h.cell (Nat.lt_of_lt_of_le y0.lt hbr.size)).trans ((hbr.cell y0.lt).trans (y0.at_ 0)), (h.cell (Nat.lt_of_lt_of_le y0.lt hbr.size)).trans ((hbr.cell y0.lt).trans (y0.at_ 1)), h⟩
        have HKS2 := Lib.hid KS2
        have HLR := Lib.hid (HLA.out.next hbr (Nat.le_refl _))
        obtain ⟨s1, s2, q1, q2, hparts⟩ := parts a f HLR.out.2.1 HLR.out.2.2.1 HLR.out.2.2.2
        have HP := Lib.hid hparts
        clear hparts
        clear KS2 hbr hbl
        go_upto_region 12 with (fail)
        go_cut [18] (fun s18 wx => CutsBack a wr s18 wx)
        case first =>
          go_wp2_with fail
          go_region_held3 (fun w' => w'.cell? ⟨w.heap.size, 0, none⟩ = some (.string a.s) ∧ w'.cell? ⟨w.heap.size, 1, none⟩ = some (.slice a.A a.n a.c) ∧ Below wr.heap.size wr w')
            (first
              | exact HKS2.out _ (Below.drew (Below.refl _ _))
              | exact HKS2.out _ (Below.drew (below_al (Below.refl _ _) (Nat.le_refl _) _))
              | (go_split_ands; exact HKS2.out _ (by assumption))
              | (go_split_ands; exact HKS2.out _ (below_al (by assumption) (Nat.le_refl _) _))
              | (go_split_ands; exact HKS2.out _ (below_next (by assumption) (Nat.le_refl _) hb1))
              | (go_split_ands; exact HKS2.out _ (below_next (by assumption) (Nat.le_refl _) hb2))
              | (go_split_ands; exact HKS2.out _ (below_next (by assumption) (Nat.le_refl _) hb3))
              | (go_split_ands; exact HKS2.out _ (below_al hB3 (Nat.le_refl _) _))
              | (go_split_ands; exact HKS2.out _ (below_two hB3 (by omega))))
            (first
              | (go_at_call_of 21 (a.s.size); refine (HP.out.snd _ ?_).mono ?_; (go_split_ands; exact HLR.out.1.next (by assumption) (Nat.le_refl _)); rintro e w2 ⟨v2, rfl, h2, hb2⟩; obtain ⟨B2, g2, rfl, _, _, _⟩ := own_form h2; have sz2 : w1.heap.size ≤ w2.heap.size := (by have hh := hb2.size; first | exact hh | (simp at hh; omega)); (first | have k1 := own_keep h1 hb2 | have k1 := own_keep (h1.alloc _) hb2); (first | (have zb : Whole w2 _ 24 #[.string ⟨#[]⟩, .slice none 0 0] := Whole.below (Whole.made _ _ _) hb2 (by simp); (try simp only [World.size_alloc] at zb); have zb0 := zb.at_ 0; have zb1 := zb.at_ 1; have zb2 := zb.free 0; have zb3 := zb.free 1) | (have zb : Whole w2 _ 24 #[.string ⟨#[]⟩, .slice none 0 0] := Whole.below ((Whole.made _ _ _).alloc _) hb2 (by simp; omega); (try simp only [World.size_alloc] at zb); have zb0 := zb.at_ 0; have zb1 := zb.at_ 1; have zb2 := zb.free 0; have zb3 := zb.free 1) | (have zb : Whole w2 _ 24 #[.string ⟨#[]⟩, .slice none 0 0] := Whole.below (by assumption) hb2 (Whole.lt (by assumption)); (try simp only [World.size_alloc] at zb); have zb0 := zb.at_ 0; have zb1 := zb.at_ 1; have zb2 := zb.free 0; have zb3 := zb.free 1) | (have zb : Whole w2 _ 24 #[.string ⟨#[]⟩, .slice none 0 0] := Whole.below (Whole.alloc (by assumption) _) hb2 (Whole.lt (Whole.alloc (by assumption) _)); (try simp only [World.size_alloc] at zb); have zb0 := zb.at_ 0; have zb1 := zb.at_ 1; have zb2 := zb.free 0; have zb3 := zb.free 1) | skip))
              | (go_at_call 21; refine (HP.out.fst _ ?_).mono ?_; (go_split_ands; exact HLR.out.1.next (by assumption) (Nat.le_refl _)); rintro e w1 ⟨v1, rfl, h1, hb1⟩; obtain ⟨B1, g1, rfl, _, _, _⟩ := own_form h1; have sz1 : wr.heap.size ≤ w1.heap.size := (by have hh := hb1.size; first | exact hh | (simp at hh; omega)); (first | (have za : Whole w1 _ 24 #[.string ⟨#[]⟩, .slice none 0 0] := Whole.below (Whole.drew (Whole.made _ _ _)) hb1 (by simp); (try simp only [World.size_alloc] at za); have za0 := za.at_ 0; have za1 := za.at_ 1; have za2 := za.free 0; have za3 := za.free 1) | (have za : Whole w1 _ 24 #[.string ⟨#[]⟩, .slice none 0 0] := Whole.below (Whole.made _ _ _) hb1 (by simp); (try simp only [World.size_alloc] at za); have za0 := za.at_ 0; have za1 := za.at_ 1; have za2 := za.free 0; have za3 := za.free 1) | (have za : Whole w1 _ 24 #[.string ⟨#[]⟩, .slice none 0 0] := Whole.below ((Whole.made _ _ _).alloc _) hb1 (by simp; omega); (try simp only [World.size_alloc] at za); have za0 := za.at_ 0; have za1 := za.at_ 1; have za2 := za.free 0; have za3 := za.free 1) | (have za : Whole w1 _ 24 #[.string ⟨#[]⟩, .slice none 0 0] := Whole.below (by assumption) hb1 (Whole.lt (by assumption)); (try simp only [World.size_alloc] at za); have za0 := za.at_ 0; have za1 := za.at_ 1; have za2 := za.free 0; have za3 := za.free 1) | (have za : Whole w1 _ 24 #[.string ⟨#[]⟩, .slice none 0 0] := Whole.below (Whole.alloc (by assumption) _) hb1 (Whole.lt (Whole.alloc (by assumption) _)); (try simp only [World.size_alloc] at za); have za0 := za.at_ 0; have za1 := za.at_ 1; have za2 := za.free 0; have za3 := za.free 1) | skip))
              | (go_at_call 20; refine (HP.out.both _ _ B1 B2 g1 g2 ?_ ?_ ?_).mono ?_; (refine lies_at (t := 24) ?_; first | exact Whole.made _ _ _ | exact (Whole.made _ _ _).alloc _ | (have hx := Whole.made (w2.alloc (.cells #[.string ⟨#[]⟩, .slice none 0 0] 24)) 24 #[.string s1, .slice B1 (comp q1).length g1, .string s2, .slice B2 (comp q2).length g2]; simp only [World.size_alloc] at hx; exact hx)); (first | exact Lies.own (k1.alloc _) | exact Lies.own ((k1.alloc _).alloc _)); (first | exact Lies.own (h2.alloc _) | exact Lies.own ((h2.alloc _).alloc _)); rintro e w3 ⟨v3, rfl, h3, hb3⟩; obtain ⟨B3, g3, rfl, _, _, _⟩ := own_form h3; have hB3 : Below wr.heap.size wr w3 := (by go_split_ands; exact below_next (by assumption) (Nat.le_refl _) hb3); (first | (have zc : Whole w3 _ 24 #[.string ⟨#[]⟩, .slice none 0 0] := Whole.below (Whole.made _ _ _) hb3 (by simp); (try simp only [World.size_alloc] at zc); have zc0 := zc.at_ 0; have zc1 := zc.at_ 1; have zc2 := zc.free 0; have zc3 := zc.free 1) | (have zc : Whole w3 _ 24 #[.string ⟨#[]⟩, .slice none 0 0] := Whole.below ((Whole.made _ _ _).alloc _) hb3 (by simp; omega); (try simp only [World.size_alloc] at zc); have zc0 := zc.at_ 0; have zc1 := zc.at_ 1; have zc2 := zc.free 0; have zc3 := zc.free 1) | (have zc : Whole w3 _ 24 #[.string ⟨#[]⟩, .slice none 0 0] := Whole.below (by assumption) hb3 (Whole.lt (by assumption)); (try simp only [World.size_alloc] at zc); have zc0 := zc.at_ 0; have zc1 := zc.at_ 1; have zc2 := zc.free 0; have zc3 := zc.free 1) | (have zc : Whole w3 _ 24 #[.string ⟨#[]⟩, .slice none 0 0] := Whole.below (Whole.alloc (by assumption) _) hb3 (Whole.lt (Whole.alloc (by assumption) _)); (try simp only [World.size_alloc] at zc); have zc0 := zc.at_ 0; have zc1 := zc.at_ 1; have zc2 := zc.free 0; have zc3 := zc.free 1) | skip)))
          all_goals
            go_wp2_with fail
            go_meet
            first
              | exact cuts_back1 h3 hB3 (by first | omega | (simp; omega) | (simp; done))
              | exact cuts_back2 h3 hB3 zc (by first | omega | (simp; omega) | (simp; done)) (by first | omega | (simp; omega) | (simp; done)) (by first | omega | (simp; omega) | (simp; done))
        case rest =>
          obtain ⟨g, vb, rfl, hWb, hob, hbb⟩ := hcut
          obtain ⟨Ab, cb, rfl, _, _, _⟩ := own_form hob
          have hE : Below wv.heap.size wv wc := below_next HBL.out (Nat.le_refl _) hbb
          have hE0 : Below w0.heap.size w0 wc := hbw.trans (hE.mono (by omega))
          have LA := Lib.hid ((Lies.own H1.out).next hE (Nat.le_refl _))
          have LB := Lib.hid ((Lies.own H2.out).next hE (Nat.le_refl _))
          have LC := Lib.hid (hCL.out.next hE (Nat.le_refl _))
          have LD := Lib.hid ((Lies.own HD.out).next hbb (Nat.le_refl _))
          have LK := Lib.hid (Lies.own hob)
          have OA := Lib.hid (HLA.out.next hE0 (Nat.le_refl _))
          have OB := Lib.hid (HLB.out.next hE0 (Nat.le_refl _))
          have Y0 := y0.below hE0 y0.lt
          have Y1 := y1.below hE0 y1.lt
          have hBel : Below w.heap.size w wc := hb0.trans (hE0.mono hb0.size)
          have z0 : wc.cell? ⟨w.heap.size, 0, none⟩ = some (.string a.s) := Y0.at_ 0
          have z1 : wc.cell? ⟨w.heap.size, 1, none⟩ = some (.slice a.A a.n a.c) := Y0.at_ 1
          have HCF := Lib.hid (ch_cut_fst a x y)
          have HCS := Lib.hid (ch_cut_snd a x y)
          have hcl1 : ((a.ch.take y).drop x).length = y - x := by rw [List.length_drop, List.length_take, HN1.out]; omega
          have HCL1 := Lib.hid hcl1
          have HWK := Lib.hid hWb
          clear e0 e1 hcl1 hWb hob
          go_wp2_with fail
          refine (cut_any a.s a.A a.n a.c a.rs f t x y _ OA.out.1 OA.out.2.1 OA.out.2.2.2 OA.out.2.2.1 HXX.out HYY.out).mono ?_
          rintro e w1 ⟨v1, rfl, h1, b1⟩
          obtain ⟨D1, k1, rfl, _, _, _⟩ := own_form h1
          go_wp2_with fail
          refine (refIs_true _ D1 _ k1 _ AC (y - x) CC ((a.ch.take y).drop x) _ HCF.out (by rw [← HCS.out]) (Lies.own h1) rfl (LC.out.next b1 (Nat.le_refl _)) HCL1.out (by omega)).mono ?_
          rintro e w2 ⟨rfl, b2⟩
          have E2 := below_next (below_next (Below.refl _ wc) (Nat.le_refl _) b1) (Nat.le_refl _) b2
          have q0 : w2.cell? ⟨w.heap.size, 0, none⟩ = some (.string a.s) := (E2.cell Y0.lt).trans (Y0.at_ 0)
          have q1 : w2.cell? ⟨w.heap.size, 1, none⟩ = some (.slice a.A a.n a.c) := (E2.cell Y0.lt).trans (Y0.at_ 1)
          have q2 : w2.cell? ⟨w.heap.size + 1, 0, none⟩ = some (.string b.s) := (E2.cell Y1.lt).trans (Y1.at_ 0)
          have q3 : w2.cell? ⟨w.heap.size + 1, 1, none⟩ = some (.slice b.A b.n b.c) := (E2.cell Y1.lt).trans (Y1.at_ 1)
          clear h1 b1 b2
          have hcab : catOs [a, b] = a.os ++ b.os := by simp [catOs]
          have hcas : (catOs [a, b]).length ≤ 4294967296 := by rw [hcab, List.length_append, LT.os_length, LT.os_length]; exact hsz
          have hfs : catBs [a, b] = (a.ch ++ b.ch).map (·.1) := by rw [List.map_append, LT.ch_fst, LT.ch_fst]; simp [catBs]
          have hsn : catOs [a, b] = (a.ch ++ b.ch).map (·.2) := by rw [List.map_append, LT.ch_snd, LT.ch_snd]; exact hcab
          have HFS := Lib.hid hfs
          have HSN := Lib.hid hsn
          have HCAS := Lib.hid hcas
          have HCL2 : Hid ((a.ch ++ b.ch).length = a.s.size + b.s.size) := by show _ = _; rw [List.length_append, HN1.out, HN2.out]
          clear hcab hcas hfs hsn
          go_wp2_with fail
          refine (cat_any (some ⟨w2.heap.size, 0, none⟩) 2 2 [a, b] _ (lies_at (t := 24) (Whole.made w2 _ _)) rfl (by omega) ?_ HCAS.out).mono ?_
          · intro t ht
            simp only [List.mem_cons, List.not_mem_nil, or_false] at ht
            have e3 : Below wc.heap.size wc (w2.alloc (.cells #[.string a.s, .slice a.A a.n a.c, .string b.s, .slice b.A b.n b.c] 24)) := E2.alloc E2.size _
            rcases ht with rfl | rfl
            · exact OA.out.next e3 (Nat.le_refl _)
            · exact OB.out.next e3 (Nat.le_refl _)
          rintro e w3 ⟨v3, rfl, h3, b3⟩
          obtain ⟨D3, k3, rfl, _, _, _⟩ := own_form h3
          have E3 : Below wc.heap.size wc w3 := below_next (E2.alloc E2.size _) (Nat.le_refl _) b3
          generalize hbq : catBs [a, b] = bq at *
          generalize hoq : catOs [a, b] = oq at *
          clear hbq hoq
          go_wp2_with fail
          refine (refCat_any A1 A2 a.s.size b.s.size d1 d2 a.ch b.ch _ (LA.out.next E3 (Nat.le_refl _)) (LB.out.next E3 (Nat.le_refl _)) HKA.out HKB.out HN1.out HN2.out (by omega) (by omega)).mono ?_
          rintro e w4 ⟨v4, rfl, h4, b4⟩
          obtain ⟨D4, k4, rfl, _, _, _⟩ := own_form h4
          go_wp2_with fail
          refine (refIs_true _ D3 _ k3 _ D4 (a.s.size + b.s.size) k4 (a.ch ++ b.ch) _ HFS.out (by rw [← HSN.out]) ((Lies.own h3).next b4 (Nat.le_refl _)) rfl (Lies.own h4) HCL2.out hsz).mono ?_
          rintro e w5 ⟨rfl, b5⟩
          have E5 := below_next (below_next E3 (Nat.le_refl _) b4) (Nat.le_refl _) b5
          have r0 : w5.cell? ⟨w.heap.size, 0, none⟩ = some (.string a.s) := (E5.cell Y0.lt).trans (Y0.at_ 0)
          have r1 : w5.cell? ⟨w.heap.size, 1, none⟩ = some (.slice a.A a.n a.c) := (E5.cell Y0.lt).trans (Y0.at_ 1)
          clear h3 h4 b3 b4 b5 E2 E3 q0 q1 q2 q3
          go_wp2_with fail
          refine (dye_any a.s a.A a.n a.c a.rs o _ (OA.out.1.next E5 (Nat.le_refl _)) OA.out.2.1 OA.out.2.2.2 OA.out.2.2.1).mono ?_
          rintro e w6 ⟨v6, rfl, h6, b6⟩
          obtain ⟨D6, k6, rfl, _, _, _⟩ := own_form h6
          have E6 := below_next E5 (Nat.le_refl _) b6
          have HDF : Hid (a.s.data.toList = (dyeCh a.ch o).map (·.1)) := by show _ = _; rw [dyeCh_fst, LT.ch_fst]; rfl
          have HDS : Hid ((origins a.s.size a.rs).map (max · (nearO o)) = (dyeCh a.ch o).map (·.2)) := by show _ = _; rw [dyeCh_snd, LT.ch_snd]; rfl
          have HDL : Hid ((dyeCh a.ch o).length = a.s.size) := by show _ = _; unfold dyeCh; rw [List.length_map, HN1.out]
          go_wp2_with fail
          refine (refIs_true _ D6 _ k6 _ A3 a.s.size d3 (dyeCh a.ch o) _ HDF.out (by rw [← HDS.out]) (Lies.own h6) rfl (LD.out.next E6 (Nat.le_refl _)) HDL.out (by omega)).mono ?_
          rintro e w7 ⟨rfl, b7⟩
          have E7 := below_next E6 (Nat.le_refl _) b7
          have s0 : w7.cell? ⟨g, 0, none⟩ = some (.string a.s) := (E7.cell HWK.out.lt).trans (HWK.out.at_ 0)
          have s1' : w7.cell? ⟨g, 1, none⟩ = some (.slice Ab (comp a.os).length cb) := (E7.cell HWK.out.lt).trans (HWK.out.at_ 1)
          clear h6 b6 b7 E5 E6 r0 r1
          go_wp2_with fail
          refine (refIs_true _ Ab _ cb _ A1 a.s.size d1 a.ch _ (by rw [LT.ch_fst]; rfl) (by rw [LT.ch_snd]) (LK.out.next E7 (Nat.le_refl _)) rfl (LA.out.next E7 (Nat.le_refl _)) HN1.out (by omega)).mono ?_
          rintro e w8 ⟨rfl, b8⟩
          have E8 := below_next E7 (Nat.le_refl _) b8
          have t0 : w8.cell? ⟨w.heap.size, 0, none⟩ = some (.string a.s) := (E8.cell Y0.lt).trans (Y0.at_ 0)
          have t1 : w8.cell? ⟨w.heap.size, 1, none⟩ = some (.slice a.A a.n a.c) := (E8.cell Y0.lt).trans (Y0.at_ 1)
          have t2 : w8.cell? ⟨w.heap.size + 1, 0, none⟩ = some (.string b.s) := (E8.cell Y1.lt).trans (Y1.at_ 0)
          have t3 : w8.cell? ⟨w.heap.size + 1, 1, none⟩ = some (.slice b.A b.n b.c) := (E8.cell Y1.lt).trans (Y1.at_ 1)
          clear b8 E7 s0 s1'
          go_wp2_with fail
          refine (same_any a b _ (OA.out.next E8 (Nat.le_refl _)) (OB.out.next E8 (Nat.le_refl _))).mono ?_
          rintro e w9 ⟨rfl, b9⟩
          have E9 := below_next E8 (Nat.le_refl _) b9
          rw [sameB_ch]
          go_wp2_with fail
          refine (refSame_any A1 A2 a.s.size b.s.size d1 d2 a.ch b.ch _ (LA.out.next E9 (Nat.le_refl _)) (LB.out.next E9 (Nat.le_refl _)) HN1.out HN2.out (by omega)).mono ?_
          rintro e w10 ⟨rfl, b10⟩
          have E10 := below_next E9 (Nat.le_refl _) b10
          go_wp2
          go_ret
          refine ⟨?_, below_next hBel (Nat.le_refl _) E10⟩
          first | rfl | exact ret_bool (by simp)

end Go.Proofs.Ytamnoenjpphkcaa.mk
