/-
  What the last sentence of MarkTells calls, in the words of one labelled text.
-/
import Derived.Test.YtamnoenjpphkcaaMarkStep
namespace Go.Proofs.Ytamnoenjpphkcaa.mk
open Go.RowKit

def Says (V : Value) (W : World) (e : Ending) (w' : World) : Prop := e = .returned V ∧ Below W.heap.size W w'

structure Ends (a : LT) (i : Int) (tx : ByteArray) (o : Int) (A1 A3 : Option Addr) (d1 d3 : Nat) (n : Nat) (os : List Int) (wk : World) (x y : Int) (q : List (Int × Int)) (l : List (UInt8 × Int)) : Prop where
  fix : ∀ W, Below wk.heap.size wk W → Calls Try.prog 10 #[.agg #[.string a.s, .slice a.A a.n a.c]] W (Tells a.s (comp a.os) W)
  is1 : ∀ W D k, Below wk.heap.size wk W → Lies W W.heap.size D (runCells (comp a.os)) → Calls Try.prog 9 #[.agg #[.string a.s, .slice D (comp a.os).length k], .slice A1 a.s.size d1] W (Says (.bool true) W)
  chk : ∀ W, Below wk.heap.size wk W → Calls Try.prog 11 #[.agg #[.string a.s, .slice a.A a.n a.c]] W (Says (.int .i64 x) W)
  is2 : ∀ W, Below wk.heap.size wk W → Calls Try.prog 9 #[.agg #[.string a.s, .slice a.A a.n a.c], .slice A1 a.s.size d1] W (Says (.bool (x == 0)) W)
  at_ : ∀ W, Below wk.heap.size wk W → Calls Try.prog 12 #[.agg #[.string a.s, .slice a.A a.n a.c], .int .i64 i] W (Says (.int .i64 (atO a.s.size a.rs i)) W)
  worst : ∀ W, Below wk.heap.size wk W → Calls Try.prog 13 #[.agg #[.string a.s, .slice a.A a.n a.c]] W (Says (.int .i64 y) W)
  rworst : ∀ W, Below wk.heap.size wk W → Calls Try.prog 14 #[.slice A1 a.s.size d1] W (Says (.int .i64 y) W)
  pure : ∀ W, Below wk.heap.size wk W → Calls Try.prog 15 #[.agg #[.string a.s, .slice a.A a.n a.c]] W (Says (.bool (y == 0)) W)
  ori : ∀ W, Below wk.heap.size wk W → Calls Try.prog 17 #[.agg #[.string a.s, .slice a.A a.n a.c]] W fun e w' => ∃ D k, e = .returned (.slice D n k) ∧ Lies w' w'.heap.size D (intCells os) ∧ Below W.heap.size W w'
  ints : ∀ W D k, Below wk.heap.size wk W → Lies W W.heap.size D (intCells os) → Calls Try.prog 16 #[.slice D n k, .slice A3 n d3] W (Says (.bool true) W)
  of : ∀ W, Calls Try.prog 18 #[.string tx, .int .i64 o] W fun e w' => ∃ D k, e = .returned (.agg #[.string tx, .slice D q.length k]) ∧ Lies w' w'.heap.size D (runCells q) ∧ Below W.heap.size W w'
  all : ∀ W, Calls Try.prog 19 #[.string tx, .int .i64 o] W fun e w' => ∃ D k, e = .returned (.slice D tx.size k) ∧ Lies w' w'.heap.size D (chCells l) ∧ Below W.heap.size W w'
  is3 : ∀ W D k E c, Lies W W.heap.size D (runCells q) → Lies W W.heap.size E (chCells l) → Calls Try.prog 9 #[.agg #[.string tx, .slice D q.length k], .slice E tx.size c] W (Says (.bool true) W)

theorem mem_comp_iff (q : List Int) (x : Int) : x ∈ (comp q).map (·.2) ↔ x ∈ q := by
  constructor
  · intro h
    obtain ⟨r, hr, rfl⟩ := List.mem_map.1 h
    exact mem_comp q r hr
  · intro h
    rw [← expand_comp q] at h
    unfold expand at h
    obtain ⟨r, hr, h2⟩ := List.mem_flatMap.1 h
    exact List.mem_map.2 ⟨r, hr, (List.mem_replicate.1 h2).2.symm⟩

theorem ends (a : LT) (i : Int) (tx : ByteArray) (o : Int) (A1 A3 : Option Addr) (d1 d3 : Nat) (os : List Int) (wk : World) (ha : a.ok wk wk.heap.size) (h1 : Lies wk wk.heap.size A1 (chCells a.ch)) (h3 : Lies wk wk.heap.size A3 (intCells os))
    (hpw : os.Pairwise (· < ·)) (hmem : ∀ x, x ∈ os ↔ x ∈ a.os) (hol : os.length ≤ 4294967296) (htx : tx.size ≤ 4294967296) : ∃ x y q l, Ends a i tx o A1 A3 d1 d3 os.length os wk x y q l := by
  have hris : rising ((comp a.os).map (·.2)) = os := rising_eq hpw fun x => (hmem x).trans (mem_comp_iff a.os x).symm
  refine ⟨checkE a.s.size a.rs, worstO a.os, comp (List.replicate tx.size (nearO o)), allCh tx.data.toList o, ?_⟩
  constructor
  · exact fun W hb => fix_any a.s a.A a.n a.c a.rs W (ha.next hb (Nat.le_refl _)).1 ha.2.1 ha.2.2.2 ha.2.2.1
  · exact fun W D k hb hl => refIs_true a.s D _ k (comp a.os) A1 a.s.size d1 a.ch W (by rw [LT.ch_fst]; rfl) (by rw [LT.ch_snd]) hl rfl (h1.next hb (Nat.le_refl _)) (LT.ch_length a) ha.2.2.2
  · exact fun W hb => check_any a.s a.A a.n a.c a.rs W (ha.next hb (Nat.le_refl _)).1 ha.2.1 ha.2.2.2 ha.2.2.1
  · intro W hb
    refine (refIs_any a.s a.A a.n a.c a.rs A1 a.s.size d1 a.ch W (ha.next hb (Nat.le_refl _)).1 ha.2.1 ha.2.2.1 (h1.next hb (Nat.le_refl _)) (LT.ch_length a) ha.2.2.2).mono ?_
    rintro e w' ⟨rfl, hb'⟩
    refine ⟨?_, hb'⟩
    congr 2
    unfold isB checkE toldB
    rw [LT.ch_fst, LT.ch_snd]
    by_cases h : a.rs = taken a.s.size a.rs
    · have h2 : a.s.data.toList = a.bs ∧ a.rs = comp a.os := ⟨rfl, h⟩
      rw [decide_eq_true h2, decide_eq_true h]
      rfl
    · have h2 : ¬ (a.s.data.toList = a.bs ∧ a.rs = comp a.os) := fun h2 => h h2.2
      rw [decide_eq_false h2, decide_eq_false h]
      rfl
  · exact fun W hb => at_any a.s a.A a.n a.c a.rs i W (ha.next hb (Nat.le_refl _)).1 ha.2.1 ha.2.2.2 ha.2.2.1
  · exact fun W hb => worst_any a.s a.A a.n a.c a.rs W (ha.next hb (Nat.le_refl _)).1 ha.2.1 ha.2.2.2 ha.2.2.1
  · intro W hb
    refine (refWorst_any A1 a.s.size d1 a.ch W (h1.next hb (Nat.le_refl _)) (LT.ch_length a) ha.2.2.2).mono ?_
    rintro e w' ⟨rfl, rfl⟩
    exact ⟨by rw [LT.ch_snd], Below.refl _ _⟩
  · exact fun W hb => pure_any a.s a.A a.n a.c a.rs W (ha.next hb (Nat.le_refl _)).1 ha.2.1 ha.2.2.2 ha.2.2.1
  · intro W hb
    refine (origins_any a.s a.A a.n a.c a.rs W (ha.next hb (Nat.le_refl _)).1 ha.2.1 ha.2.2.2 ha.2.2.1).mono ?_
    rintro e w' ⟨v, rfl, hown, hb'⟩
    have hown' : w'.ownsRow W.heap.size 3 1 v (rising ((comp a.os).map (·.2))).length (intCells (rising ((comp a.os).map (·.2)))) := hown
    rw [hris] at hown'
    obtain ⟨D, k, rfl, _, _, _⟩ := own_form hown'
    exact ⟨D, k, rfl, Lies.own hown', hb'⟩
  · intro W D k hb hl
    refine (ints_any D A3 os.length os.length k d3 os os W hl (h3.next hb (Nat.le_refl _)) rfl rfl hol).mono ?_
    rintro e w' ⟨rfl, hb'⟩
    exact ⟨by simp, hb'⟩
  · intro W
    refine (of_any tx o W htx).mono ?_
    rintro e w' ⟨v, rfl, hown, hb'⟩
    obtain ⟨D, k, rfl, _, _, _⟩ := own_form hown
    exact ⟨D, k, rfl, Lies.own hown, hb'⟩
  · intro W
    refine (all_any tx o W htx).mono ?_
    rintro e w' ⟨v, rfl, hown, hb'⟩
    obtain ⟨D, k, rfl, _, _, _⟩ := own_form hown
    exact ⟨D, k, rfl, Lies.own hown, hb'⟩
  · intro W D k E c hl hl2
    have hsl : tx.data.toList.length = tx.size := by rw [Array.length_toList]; rfl
    exact refIs_true tx D _ k (comp (List.replicate tx.size (nearO o))) E tx.size c (allCh tx.data.toList o) W (allCh_fst _ _).symm (by rw [allCh_snd, hsl]) hl rfl hl2 (by unfold allCh; rw [List.length_map, hsl]) htx

end Go.Proofs.Ytamnoenjpphkcaa.mk
