/-
  FoldTwice, where what comes in is of bulk at most 1048576: done twice it is as once.
  Conditions: none beside the bound that the statement itself names.
-/
import Derived.Test.YtcaehaikjgcamaaFoldEnds
import Derived.Test.YtcaehaikjgcamaaMarkSame
import Derived.Test.YtcaehaikjgcamaaMarkTold
import Derived.Test.YtcaehaikjgcamaaMarkArgs
import Derived.Test.YtcaehaikjgcamaaAny
import Derived.Deep.RegionHeld3
import Derived.Deep.DeepCutAuto
import Derived.Outline
namespace Go.Proofs.Ytcaehaikjgcamaa.mk
open Go.RowKit

theorem kind2_ne {w : World} {a b : Nat} {t u : TypeId} {c : Array Value} {fz : Nat × Nat} {d : Array Value} (ha : w.heap[a]? = some (.cells c t fz)) (hb : Whole w b u d) (h : t ≠ u) : a ≠ b := by
  rintro rfl
  unfold Whole at hb
  rw [ha] at hb
  injection hb with hb
  injection hb with _ hb
  exact h hb
/-- a bit is set -/
def upd2 (L : Nat → Bool) (i : Nat) (k : Nat) : Bool := if k = i then true else L k
theorem getD2_upd {listed : Array Bool} {i : Nat} (h : i < listed.size) : (fun k => (listed.setIfInBounds i true).getD k false) = upd2 (fun k => listed.getD k false) i := by
  funext k
  unfold upd2
  by_cases hk : k = i
  · subst hk; rw [if_pos rfl]; simp [Array.getD, h]
  · rw [if_neg hk]
    by_cases hs : k < listed.size
    · simp [Array.getD, hs, Array.getElem_setIfInBounds_ne, Ne.symm hk]
    · simp [Array.getD, hs]
theorem upd2_of {L : Nat → Bool} {i k : Nat} (h : L k = true) : upd2 L i k = true := by unfold upd2; split <;> first | rfl | exact h
theorem getD2_tf {listed : Array Bool} {i : Nat} (h : listed.getD i true = false) : listed.getD i false = false := by
  unfold Array.getD at h ⊢
  split at h
  · rename_i hi; rw [dif_pos hi]; exact h
  · cases h
theorem below_put2 {B g : Nat} {wr w3 : World} {u v : Value} (h : Below B wr w3) (hg : B ≤ g) : Below B wr ((w3.setCell ⟨g, 0, none⟩ u).setCell ⟨g, 1, none⟩ v) := (h.setCell hg _).setCell hg _

/-- an answer: these bytes with their origins, in memory of its own -/
def ResT (l : List (UInt8 × Int)) (B : Nat) (w : World) (x : Value) : Prop :=
  ∃ A' c', x = .agg #[.string (txtOf l), .slice A' (runN l) c'] ∧ w.ownsRow B 46 2 (.slice A' (runN l) c') (runN l) (runCells (comp (l.map (·.2))))
/-- a variable of the call's own; if it has been stored, what it holds -/
def VarT (B : Nat) (w : World) (x : Value) (done : Bool) (y : Value) : Prop :=
  ∃ p u v, x = .pointer (some ⟨p, 0, none⟩) ∧ B ≤ p ∧ Whole w p 24 #[u, v] ∧ (done = true → y = .agg #[u, v])
theorem ResT.below {l : List (UInt8 × Int)} {B : Nat} {w w' : World} {x : Value} (h : ResT l B w x) (hb : Below w.heap.size w w') : ResT l B w' x := by
  obtain ⟨A', c', e, h⟩ := h
  exact ⟨A', c', e, own_keep h hb⟩
theorem VarT.below {B : Nat} {w w' : World} {x y : Value} {d : Bool} (h : VarT B w x d y) (hb : Below w.heap.size w w') : VarT B w' x d y := by
  obtain ⟨p, u, v, e, h1, h2, h3⟩ := h
  exact ⟨p, u, v, e, h1, h2.below hb h2.lt, h3⟩
theorem ResT.put {l : List (UInt8 × Int)} {B p : Nat} {w : World} {x a b : Value} {cs : Array Value} (h : ResT l B w x) (hp : Whole w p 24 cs) : ResT l B ((w.setCell ⟨p, 0, none⟩ a).setCell ⟨p, 1, none⟩ b) x := by
  obtain ⟨A', c', e, h⟩ := h
  have hk : ∀ gg, (Value.slice A' (runN l) c').ownBlock = some gg → gg ≠ p := fun gg e => by
    obtain ⟨cur, hc⟩ := own_kind h e
    exact kind2_ne hc hp (by decide)
  exact ⟨A', c', e, own_far (own_far h _ (fun e => hk _ e rfl) _) _ (fun e => hk _ e rfl) _⟩
theorem VarT.put {B p : Nat} {w : World} {x y a b : Value} {d : Bool} (h : VarT B w x d y) (hp : x ≠ .pointer (some ⟨p, 0, none⟩)) : VarT B ((w.setCell ⟨p, 0, none⟩ a).setCell ⟨p, 1, none⟩ b) x d y := by
  obtain ⟨p', u, v, e, h1, h2, h3⟩ := h
  have hn : p' ≠ p := by rintro rfl; exact hp e
  exact ⟨p', u, v, e, h1, (h2.far _ hn _).far _ hn _, h3⟩
theorem VarT.old {B : Nat} {w : World} {x y : Value} {d : Bool} (h : VarT B w x d y) : x ≠ .pointer (some ⟨w.heap.size, 0, none⟩) := by
  obtain ⟨p, u, v, rfl, h1, h2, h3⟩ := h
  intro e
  injection e with e
  injection e with e
  injection e with e
  have := h2.lt
  omega

/-- what is known while the five answers and the five variables are made, in whatever order -/
structure Tw (s : ByteArray) (A : Option Addr) (m c : Nat) (y : ByteArray) (l1 l2 l3 l4 l5 : List (UInt8 × Int)) (wc : World) (L : Nat → Bool) (x5 x6 x7 x8 x9 x12 x13 x14 x15 x16 x17 x18 x19 x20 x21 x22 : Value) (w : World) : Prop where
  bel : Below wc.heap.size wc w
  h0 : L 0 = true → x12 = .agg #[.string s, .slice A m c]
  h1 : L 1 = true → ResT l1 wc.heap.size w x13
  h2 : L 2 = true → x14 = .agg #[.string s, .slice A m c]
  h3 : L 3 = true → ResT l2 wc.heap.size w x15
  h4 : L 4 = true → x16 = .agg #[.string s, .slice A m c]
  h5 : L 5 = true → ResT l3 wc.heap.size w x17
  h6 : L 6 = true → x18 = .agg #[.string s, .slice A m c]
  h7 : L 7 = true → x19 = .string y
  h8 : L 8 = true → ResT l4 wc.heap.size w x20
  h9 : L 9 = true → x21 = .agg #[.string s, .slice A m c]
  h10 : L 10 = true → ResT l5 wc.heap.size w x22
  h11 : L 11 = true → VarT wc.heap.size w x5 (L 16) x13
  h12 : L 12 = true → VarT wc.heap.size w x6 (L 17) x15
  h13 : L 13 = true → VarT wc.heap.size w x7 (L 18) x17
  h14 : L 14 = true → VarT wc.heap.size w x8 (L 19) x20
  h15 : L 15 = true → VarT wc.heap.size w x9 (L 20) x22
  d11_12 : L 11 = true → L 12 = true → x5 ≠ x6
  d11_13 : L 11 = true → L 13 = true → x5 ≠ x7
  d11_14 : L 11 = true → L 14 = true → x5 ≠ x8
  d11_15 : L 11 = true → L 15 = true → x5 ≠ x9
  d12_13 : L 12 = true → L 13 = true → x6 ≠ x7
  d12_14 : L 12 = true → L 14 = true → x6 ≠ x8
  d12_15 : L 12 = true → L 15 = true → x6 ≠ x9
  d13_14 : L 13 = true → L 14 = true → x7 ≠ x8
  d13_15 : L 13 = true → L 15 = true → x7 ≠ x9
  d14_15 : L 14 = true → L 15 = true → x8 ≠ x9
  o16 : L 16 = true → L 1 = true ∧ L 11 = true
  o17 : L 17 = true → L 3 = true ∧ L 12 = true
  o18 : L 18 = true → L 5 = true ∧ L 13 = true
  o19 : L 19 = true → L 8 = true ∧ L 14 = true
  o20 : L 20 = true → L 10 = true ∧ L 15 = true
theorem Tw.keep {s : ByteArray} {A : Option Addr} {m c : Nat} {y : ByteArray} {l1 l2 l3 l4 l5 : List (UInt8 × Int)} {wc : World} {L : Nat → Bool} {x5 x6 x7 x8 x9 x12 x13 x14 x15 x16 x17 x18 x19 x20 x21 x22 : Value} {w w' : World} (h : Tw s A m c y l1 l2 l3 l4 l5 wc L x5 x6 x7 x8 x9 x12 x13 x14 x15 x16 x17 x18 x19 x20 x21 x22 w) (hb : Below w.heap.size w w') : Tw s A m c y l1 l2 l3 l4 l5 wc L x5 x6 x7 x8 x9 x12 x13 x14 x15 x16 x17 x18 x19 x20 x21 x22 w' :=
  ⟨below_next h.bel (Nat.le_refl _) hb, h.h0, (fun e => (h.h1 e).below hb), h.h2, (fun e => (h.h3 e).below hb), h.h4, (fun e => (h.h5 e).below hb), h.h6, h.h7, (fun e => (h.h8 e).below hb), h.h9, (fun e => (h.h10 e).below hb), (fun e => (h.h11 e).below hb), (fun e => (h.h12 e).below hb), (fun e => (h.h13 e).below hb), (fun e => (h.h14 e).below hb), (fun e => (h.h15 e).below hb), h.d11_12, h.d11_13, h.d11_14, h.d11_15, h.d12_13, h.d12_14, h.d12_15, h.d13_14, h.d13_15, h.d14_15, h.o16, h.o17, h.o18, h.o19, h.o20⟩

/-- an answer in a variable -/
def InVar (l : List (UInt8 × Int)) (B : Nat) (w : World) (x : Value) : Prop := ∃ y, ResT l B w y ∧ VarT B w x true y
def TwRes (l1 l2 l3 l4 l5 : List (UInt8 × Int)) (w1 : World) (s5 s6 s7 s8 s9 : Value) (wx : World) : Prop :=
  Below w1.heap.size w1 wx ∧ InVar l1 w1.heap.size wx s5 ∧ InVar l2 w1.heap.size wx s6 ∧ InVar l3 w1.heap.size wx s7 ∧ InVar l4 w1.heap.size wx s8 ∧ InVar l5 w1.heap.size wx s9
theorem resT_of {l : List (UInt8 × Int)} {B : Nat} {W : World} {e : Ending} {w' : World} (hB : B ≤ W.heap.size) (h : Tells ⟨(l.map (·.1)).toArray⟩ (comp (l.map (·.2))) W e w') : ∃ x, e = .returned x ∧ ResT l B w' x ∧ Below W.heap.size W w' := by
  obtain ⟨v, rfl, ho, hb⟩ := h
  obtain ⟨D, k, rfl, _, _, _⟩ := own_form ho
  exact ⟨_, rfl, ⟨D, k, rfl, own_mono ho hB⟩, hb⟩

theorem InVar.get {l : List (UInt8 × Int)} {B : Nat} {w : World} {x : Value} (h : InVar l B w x) : ∃ p A' c', x = .pointer (some ⟨p, 0, none⟩) ∧ Whole w p 24 #[.string (txtOf l), .slice A' (runN l) c'] ∧ Lies w w.heap.size A' (runCells (comp (l.map (·.2)))) := by
  obtain ⟨y, ⟨A', c', rfl, ho⟩, ⟨p, u, v, rfl, hp, hW, hy⟩⟩ := h
  have e := hy rfl
  simp only [Value.agg.injEq] at e
  have e' := congrArg Array.toList e
  simp only [List.cons.injEq, and_true] at e'
  obtain ⟨rfl, rfl⟩ := e'
  exact ⟨p, A', c', rfl, hW, Lies.own ho⟩

/-- origins that may be -/
def InO (l : List (UInt8 × Int)) : Prop := ∀ x ∈ l, 0 ≤ x.2 ∧ x.2 ≤ 65536
theorem chars_told2 {l : List (UInt8 × Int)} (h : InO l) : chars (txtOf l).data.toList (comp (l.map (·.2))) = l := by
  have hb : (txtOf l).data.toList = l.map (·.1) := rfl
  refine chars_ext ?_ ?_
  · rw [chars_fst, hb]
  · rw [chars_snd, hb, List.length_map]
    have := origins_told (q := l.map (·.2)) (fun o ho => by obtain ⟨x, hx, rfl⟩ := List.mem_map.1 ho; exact h x hx)
    rw [List.length_map] at this
    exact this
theorem txtOf_size (l : List (UInt8 × Int)) : (txtOf l).size = l.length := by show (l.map (·.1)).toArray.size = _; simp
theorem InO.sub {a b : List (UInt8 × Int)} (h : InO b) (hs : ∀ x ∈ a, x ∈ b) : InO a := fun x hx => h x (hs x hx)
theorem lowB_low (b : UInt8) : upperB (lowB b) = false := by
  cases hu : upperB b with
  | false => rw [lowB_no hu]; exact hu
  | true =>
    have h1 := lowB_up hu
    unfold upperB at hu ⊢
    simp at hu ⊢
    omega
theorem lowCh_twice (l : List (UInt8 × Int)) : lowCh (lowCh l) = lowCh l := by
  unfold lowCh
  rw [List.map_map]
  refine List.map_congr_left fun x _ => ?_
  show (lowB (lowB x.1), x.2) = (lowB x.1, x.2)
  rw [lowB_no (lowB_low x.1)]
theorem lowCh_noUp (l : List (UInt8 × Int)) : noUp (txtOf (lowCh l)).data.toList = true := by
  show noUp ((lowCh l).map (·.1)) = true
  unfold noUp lowCh
  rw [Bool.not_eq_true', List.any_eq_false]
  intro b hb
  obtain ⟨x, hx, rfl⟩ := List.mem_map.1 hb
  obtain ⟨z, _, rfl⟩ := List.mem_map.1 hx
  rw [lowB_low]
  decide
theorem dropWhile_head {α : Type} (p : α → Bool) (l : List α) : l.dropWhile p = [] ∨ ∃ x t, l.dropWhile p = x :: t ∧ p x = false := by
  induction l with
  | nil => exact .inl rfl
  | cons x l ih =>
    cases hx : p x with
    | true => rw [List.dropWhile_cons, if_pos hx]; exact ih
    | false => exact .inr ⟨x, l, dropWhile_stay hx, hx⟩
theorem trimL_sub {α : Type} {p : α → Bool} {l : List α} {x : α} (h : x ∈ trimL p l) : x ∈ l := by
  unfold trimL at h
  rw [List.mem_reverse] at h
  have h2 := (List.dropWhile_sublist p).subset h
  rw [List.mem_reverse] at h2
  exact (List.dropWhile_sublist p).subset h2
theorem trimL_twice {α : Type} (p : α → Bool) (l : List α) : trimL p (trimL p l) = trimL p l := by
  rcases dropWhile_head p (l.dropWhile p).reverse with h | ⟨y, t, h, hy⟩
  · have e : trimL p l = [] := by unfold trimL; rw [h]; rfl
    rw [e]; rfl
  · have e : trimL p l = (y :: t).reverse := by unfold trimL; rw [h]
    rcases dropWhile_head p l with h2 | ⟨x, t2, h2, hx⟩
    · rw [h2] at h; simp at h
    · have hh : (trimL p l).head? = some x := by
        rw [e, List.head?_reverse]
        obtain ⟨a, ha⟩ := List.dropWhile_suffix (l := (l.dropWhile p).reverse) p
        have h3 : ((l.dropWhile p).reverse).getLast? = some x := by rw [List.getLast?_reverse, h2]; rfl
        rw [← ha, h, List.getLast?_append] at h3
        cases hq : (y :: t).getLast? with
        | none => simp at hq
        | some q => rw [hq] at h3; simpa using h3
      have hl : (trimL p l).getLast? = some y := by rw [e, List.getLast?_reverse]; rfl
      have := trimL_mid (p := p) (a := []) (b := []) (m := trimL p l) (by simp) (by simp) hh hx hl hy
      simpa using this
theorem repl_twice (f : UInt8 → Bool) (l : List (UInt8 × Int)) : replL f [] (replL f [] l) = replL f [] l := by
  rw [replL_filter, replL_filter, List.filter_filter]
  congr 1
  funext x
  simp
theorem lfB_no (b : UInt8) : lfB b ≠ 13 := by
  unfold lfB
  split
  · decide
  · assumption
theorem linesR_mem (l : List (UInt8 × Int)) : ∀ x ∈ linesR l, x.1 ≠ 13 := by
  induction l using linesR.induct with
  | case1 => intro x hx; simp [linesR] at hx
  | case2 b o => intro x hx; simp [linesR] at hx; subst hx; exact lfB_no b
  | case3 b o c p t h ih =>
    intro x hx
    rw [linesR, if_pos h] at hx
    rcases List.mem_cons.1 hx with rfl | hx
    · show (10 : UInt8) ≠ 13
      decide
    · exact ih x hx
  | case4 b o c p t h ih =>
    intro x hx
    rw [linesR, if_neg h] at hx
    rcases List.mem_cons.1 hx with rfl | hx
    · exact lfB_no b
    · exact ih x hx
theorem linesR_in (l : List (UInt8 × Int)) (hl : InO l) : InO (linesR l) := by
  induction l using linesR.induct with
  | case1 => intro x hx; simp [linesR] at hx
  | case2 b o => intro x hx; simp [linesR] at hx; subst hx; exact hl (b, o) (by simp)
  | case3 b o c p t h ih =>
    intro x hx
    rw [linesR, if_pos h] at hx
    rcases List.mem_cons.1 hx with rfl | hx
    · have h1 := hl (b, o) (by simp)
      have h2 := hl (c, p) (by simp)
      simp only at h1 h2 ⊢
      omega
    · exact ih (fun z hz => hl z (by simp [hz])) x hx
  | case4 b o c p t h ih =>
    intro x hx
    rw [linesR, if_neg h] at hx
    rcases List.mem_cons.1 hx with rfl | hx
    · exact hl (b, o) (by simp)
    · exact ih (fun z hz => hl z (by simp at hz; simp; exact .inr hz)) x hx
theorem linesR_stay (l : List (UInt8 × Int)) (h : ∀ x ∈ l, x.1 ≠ 13) : linesR l = l := by
  induction l with
  | nil => rfl
  | cons x l ih =>
    have hx := h x (by simp)
    rw [show x = (x.1, x.2) from rfl, linesR_other (fun ⟨p, t, e, _⟩ => hx e), ih (fun z hz => h z (by simp [hz]))]
    unfold lfB
    rw [if_neg hx]
theorem linesR_len (l : List (UInt8 × Int)) : (linesR l).length ≤ l.length := by
  induction l using linesR.induct with
  | case1 => simp [linesR]
  | case2 b o => simp [linesR]
  | case3 b o c p t h ih => rw [linesR, if_pos h]; simp; omega
  | case4 b o c p t h ih => rw [linesR, if_neg h]; simp at ih ⊢; omega

/-- told, done again, and held against what it was -/
theorem same_again (l : List (UInt8 × Int)) (hn : l.length ≤ 1048576) (W : World) (D : Option Addr) (k : Nat) (E : Option Addr) (d : Nat) (h1 : Lies W W.heap.size D (runCells (comp (l.map (·.2))))) (h2 : Lies W W.heap.size E (runCells (comp (l.map (·.2))))) :
    Calls Try.prog 21 #[.agg #[.string (txtOf l), .slice D (runN l) k], .agg #[.string (txtOf l), .slice E (runN l) d]] W (SaysB (.bool true) W) := by
  have hr := runN_le l
  have hz : (txtOf l).size ≤ 4294967296 := by rw [txtOf_size]; omega
  refine (same_any ⟨txtOf l, D, runN l, k, comp (l.map (·.2))⟩ ⟨txtOf l, E, runN l, d, comp (l.map (·.2))⟩ W ⟨h1, rfl, by show runN l ≤ _; omega, hz⟩ ⟨h2, rfl, by show runN l ≤ _; omega, hz⟩).mono ?_
  rintro e w' ⟨rfl, hb⟩
  refine ⟨ret_bool ?_, hb⟩
  unfold sameB
  rw [decide_eq_true_iff]
  exact ⟨rfl, rfl⟩

set_option maxHeartbeats 4000000 in
set_option maxRecDepth 100000 in
theorem twice_any (a : LT) (y : ByteArray) (w : World) (ha : a.ok w w.heap.size) (hsz : a.s.size ≤ 1048573) (hy : y.size ≤ 1048573) :
    Calls Try.prog 5 #[a.v, .string y] w fun e w' => e = .returned (.bool true) ∧ Below w.heap.size w w' := by
  obtain ⟨s, A, m, c, rs⟩ := a
  obtain ⟨hl, hm, hm2, hs2⟩ := ha
  simp only at hl hm hm2 hs2 hsz
  show Calls Try.prog 5 #[.agg #[.string s, .slice A m c], .string y] w _
  have HM := Lib.hid hm
  have HSZ := Lib.hid hsz
  clear hm hsz
  go_enter Try.func5, Try.ntmps5
  go_wp2_with fail
  refine (alive3_any _).mono ?_
  rintro e w1 ⟨rfl, hb1⟩
  simp only [World.size_alloc] at hb1
  have hz1 := hb1.size
  simp only [World.size_alloc] at hz1
  have y0 : Whole w1 w.heap.size 24 #[.string s, .slice A m c] := (Whole.made w _ _).below hb1 (Nat.lt_succ_self _)
  have hl1 : Lies w1 w1.heap.size A (runCells rs) := ((hl.alloc (Nat.le_refl _) _).mono (Nat.le_succ _)).next hb1 (by simp)
  have hbw : Below w.heap.size w w1 := below_made hb1
  have HL1 := Lib.hid hl1
  have e11 : (lowCh (chars s.data.toList rs)).map (·.1) = s.data.toList.map lowB := by
    unfold lowCh
    rw [List.map_map]
    conv => rhs; rw [← chars_fst s.data.toList rs, List.map_map]
    rfl
  have e12 : comp ((lowCh (chars s.data.toList rs)).map (·.2)) = taken s.size rs := by
    unfold lowCh taken
    rw [List.map_map]
    show comp ((chars s.data.toList rs).map (·.2)) = _
    rw [chars_snd, Array.length_toList]
    rfl
  have HLO : Hid (∀ w', Below w1.heap.size w1 w' → Calls Try.prog 11 #[.agg #[.string s, .slice A m c]] w' fun e w'' => ∃ x, e = .returned x ∧ ResT (lowCh (chars s.data.toList rs)) w1.heap.size w'' x ∧ Below w'.heap.size w' w'') := fun w' hb =>
    (lower_any s A m c rs w' (HL1.out.next hb (Nat.le_refl _)) HM.out hs2 hm2).mono fun e w'' h => resT_of hb.size (by rw [e11, e12]; exact h)
  have HEN : Hid (∀ w', Below w1.heap.size w1 w' → Calls Try.prog 13 #[.agg #[.string s, .slice A m c]] w' fun e w'' => ∃ x, e = .returned x ∧ ResT (trimL (onB (fun b => decide (b.toNat ≤ 32))) (chars s.data.toList rs)) w1.heap.size w'' x ∧ Below w'.heap.size w' w'') := fun w' hb =>
    (ends_any s A m c rs w' (HL1.out.next hb (Nat.le_refl _)) HM.out hs2 hm2).mono fun e w'' h => resT_of hb.size h
  have HTR : Hid (∀ w', Below w1.heap.size w1 w' → Calls Try.prog 15 #[.agg #[.string s, .slice A m c]] w' fun e w'' => ∃ x, e = .returned x ∧ ResT (trimL (onB blanksB) (chars s.data.toList rs)) w1.heap.size w'' x ∧ Below w'.heap.size w' w'') := fun w' hb =>
    (trim_any s A m c rs w' (HL1.out.next hb (Nat.le_refl _)) HM.out hs2 hm2).mono fun e w'' h => resT_of hb.size h
  have HWI : Hid (∀ w', Below w1.heap.size w1 w' → Calls Try.prog 16 #[.agg #[.string s, .slice A m c], .string y] w' fun e w'' => ∃ x, e = .returned x ∧ ResT (replL (fun b => y.data.toList.contains b) [] (chars s.data.toList rs)) w1.heap.size w'' x ∧ Below w'.heap.size w' w'') := fun w' hb =>
    (without_any s y A m c rs w' (HL1.out.next hb (Nat.le_refl _)) HM.out hs2 hm2 (by omega)).mono fun e w'' h => resT_of hb.size h
  have HLI : Hid (∀ w', Below w1.heap.size w1 w' → Calls Try.prog 20 #[.agg #[.string s, .slice A m c]] w' fun e w'' => ∃ x, e = .returned x ∧ ResT (linesR (chars s.data.toList rs)) w1.heap.size w'' x ∧ Below w'.heap.size w' w'') := fun w' hb =>
    (lines_any s A m c rs w' (HL1.out.next hb (Nat.le_refl _)) HM.out hs2 hm2).mono fun e w'' h => resT_of hb.size h
  clear e11 e12 hl1 hl hb1
  have HD : Hid (∃ l1 l2 l3 l4 l5, l1 = lowCh (chars s.data.toList rs) ∧ l2 = trimL (onB (fun b => decide (b.toNat ≤ 32))) (chars s.data.toList rs) ∧ l3 = trimL (onB blanksB) (chars s.data.toList rs) ∧ l4 = replL (fun b => y.data.toList.contains b) [] (chars s.data.toList rs) ∧ l5 = linesR (chars s.data.toList rs)) := ⟨_, _, _, _, _, rfl, rfl, rfl, rfl, rfl⟩
  obtain ⟨l1, l2, l3, l4, l5, E1, E2, E3, E4, E5⟩ := HD.out
  rw [← E1] at HLO
  rw [← E2] at HEN
  rw [← E3] at HTR
  rw [← E4] at HWI
  rw [← E5] at HLI
  have G1 := Lib.hid E1
  have G2 := Lib.hid E2
  have G3 := Lib.hid E3
  have G4 := Lib.hid E4
  have G5 := Lib.hid E5
  clear HD E1 E2 E3 E4 E5
  go_wp2_with fail
  go_upto_region 4 with (fail)
  go_cut [5, 6, 7, 8, 9] (fun s5 s6 s7 s8 s9 wx => TwRes l1 l2 l3 l4 l5 w1 s5 s6 s7 s8 s9 wx)
  case first =>
    refine wp_region_any (by kernel_rfl) ?_
    refine wpAny_inv (fun listed a w' => listed.size = 21 ∧ ∃ x5 x6 x7 x8 x9 x12 x13 x14 x15 x16 x17 x18 x19 x20 x21 x22, a = ⟨#[.agg #[.string s, .slice A m c], .string y, .pointer (some ⟨w.heap.size, 0, none⟩), undef, .bool false, x5, x6, x7, x8, x9, .bool true, .bool false, x12, x13, x14, x15, x16, x17, x18, x19, x20, x21, x22, undef, undef, undef, undef, undef, undef, undef, undef, undef, undef, undef, undef, undef, undef, undef, undef, undef, undef, undef, undef, undef, undef, undef, undef, undef, undef, undef, undef, undef, undef, undef, undef, undef, undef], []⟩ ∧ Tw s A m c y l1 l2 l3 l4 l5 w1 (fun k => listed.getD k false) x5 x6 x7 x8 x9 x12 x13 x14 x15 x16 x17 x18 x19 x20 x21 x22 w') ?_ ?_ _ _ _ _ (by rfl) (by decide) ⟨rfl, _, _, _, _, _, _, _, _, _, _, _, _, _, _, _, _, rfl, ?_⟩
    · rintro listed a w' ⟨hsz, x5, x6, x7, x8, x9, x12, x13, x14, x15, x16, x17, x18, x19, x20, x21, x22, rfl, h⟩ hr
      have al := ready_nil (md := .any) hsz (by kernel_rfl) hr
      have al' : ∀ k, k < 21 → listed.getD k false = true := al
      go_wp2_with fail
      go_meet
      exact ⟨h.bel, ⟨_, h.h1 (al' 1 (by decide)), by have h1 := h.h11 (al' 11 (by decide)); rw [al' 16 (by decide)] at h1; exact h1⟩, ⟨_, h.h3 (al' 3 (by decide)), by have h1 := h.h12 (al' 12 (by decide)); rw [al' 17 (by decide)] at h1; exact h1⟩, ⟨_, h.h5 (al' 5 (by decide)), by have h1 := h.h13 (al' 13 (by decide)); rw [al' 18 (by decide)] at h1; exact h1⟩, ⟨_, h.h8 (al' 8 (by decide)), by have h1 := h.h14 (al' 14 (by decide)); rw [al' 19 (by decide)] at h1; exact h1⟩, ⟨_, h.h10 (al' 10 (by decide)), by have h1 := h.h15 (al' 15 (by decide)); rw [al' 20 (by decide)] at h1; exact h1⟩⟩
    · rintro listed a w' i ⟨hsz, x5, x6, x7, x8, x9, x12, x13, x14, x15, x16, x17, x18, x19, x20, x21, x22, rfl, h⟩ hi
      obtain ⟨hi1, hi2, hrd⟩ := ready_mem hi
      have d0 : w'.cell? ⟨w.heap.size, 0, none⟩ = some (.string s) := (h.bel.cell y0.lt).trans (y0.at_ 0)
      have d1 : w'.cell? ⟨w.heap.size, 1, none⟩ = some (.slice A m c) := (h.bel.cell y0.lt).trans (y0.at_ 1)
      have h21 : i = 0 ∨ i = 1 ∨ i = 2 ∨ i = 3 ∨ i = 4 ∨ i = 5 ∨ i = 6 ∨ i = 7 ∨ i = 8 ∨ i = 9 ∨ i = 10 ∨ i = 11 ∨ i = 12 ∨ i = 13 ∨ i = 14 ∨ i = 15 ∨ i = 16 ∨ i = 17 ∨ i = 18 ∨ i = 19 ∨ i = 20 := by have : i < 21 := hi1; omega
      rcases h21 with rfl | rfl | rfl | rfl | rfl | rfl | rfl | rfl | rfl | rfl | rfl | rfl | rfl | rfl | rfl | rfl | rfl | rfl | rfl | rfl | rfl
      · have hlt : 0 < listed.size := by rw [hsz]; decide
        have nme := getD2_tf hi2
        clear hrd hi
        refine wpOp_step (i := 0) rfl (fun K' hK => ?_)
        go_simp
        refine hK _ _ ⟨by simpa using hsz, x5, x6, x7, x8, x9, _, x13, x14, x15, x16, x17, x18, x19, x20, x21, x22, rfl, ?_⟩
        rw [getD2_upd hlt]
        exact ⟨h.bel, (fun _ => rfl), h.h1, h.h2, h.h3, h.h4, h.h5, h.h6, h.h7, h.h8, h.h9, h.h10, h.h11, h.h12, h.h13, h.h14, h.h15, h.d11_12, h.d11_13, h.d11_14, h.d11_15, h.d12_13, h.d12_14, h.d12_15, h.d13_14, h.d13_15, h.d14_15, (fun e => ⟨upd2_of (h.o16 e).1, upd2_of (h.o16 e).2⟩), (fun e => ⟨upd2_of (h.o17 e).1, upd2_of (h.o17 e).2⟩), (fun e => ⟨upd2_of (h.o18 e).1, upd2_of (h.o18 e).2⟩), (fun e => ⟨upd2_of (h.o19 e).1, upd2_of (h.o19 e).2⟩), (fun e => ⟨upd2_of (h.o20 e).1, upd2_of (h.o20 e).2⟩)⟩
      · have hlt : 1 < listed.size := by rw [hsz]; decide
        have nme := getD2_tf hi2
        have hd : listed.getD 0 false = true := by simp [Region.binds] at hrd; simp [hrd]
        have e0 := hd
        clear hrd hi
        obtain rfl := h.h0 e0
        have nl : listed.getD 16 false = false := by cases hx : listed.getD 16 false with | false => rfl | true => exact absurd (h.o16 hx).1 (by rw [nme]; decide)
        refine wpOp_step (i := 1) rfl (fun K' hK => ?_)
        go_simp
        refine (HLO.out _ h.bel).mono ?_
        rintro e w' ⟨x, rfl, hr, hb⟩
        refine hK _ _ ⟨by simpa using hsz, x5, x6, x7, x8, x9, _, _, x14, x15, x16, x17, x18, x19, x20, x21, x22, rfl, ?_⟩
        rw [getD2_upd hlt]
        have h' := h.keep hb
        exact ⟨h'.bel, h'.h0, (fun _ => hr), h'.h2, h'.h3, h'.h4, h'.h5, h'.h6, h'.h7, h'.h8, h'.h9, h'.h10, (fun e => by obtain ⟨p, u, v, g1, g2, g3, g4⟩ := h'.h11 e; exact ⟨p, u, v, g1, g2, g3, fun e' => absurd (show listed.getD 16 false = true from e') (by rw [nl]; decide)⟩), h'.h12, h'.h13, h'.h14, h'.h15, h'.d11_12, h'.d11_13, h'.d11_14, h'.d11_15, h'.d12_13, h'.d12_14, h'.d12_15, h'.d13_14, h'.d13_15, h'.d14_15, (fun e => ⟨upd2_of (h.o16 e).1, upd2_of (h.o16 e).2⟩), (fun e => ⟨upd2_of (h.o17 e).1, upd2_of (h.o17 e).2⟩), (fun e => ⟨upd2_of (h.o18 e).1, upd2_of (h.o18 e).2⟩), (fun e => ⟨upd2_of (h.o19 e).1, upd2_of (h.o19 e).2⟩), (fun e => ⟨upd2_of (h.o20 e).1, upd2_of (h.o20 e).2⟩)⟩
      · have hlt : 2 < listed.size := by rw [hsz]; decide
        have nme := getD2_tf hi2
        clear hrd hi
        refine wpOp_step (i := 2) rfl (fun K' hK => ?_)
        go_simp
        refine hK _ _ ⟨by simpa using hsz, x5, x6, x7, x8, x9, x12, x13, _, x15, x16, x17, x18, x19, x20, x21, x22, rfl, ?_⟩
        rw [getD2_upd hlt]
        exact ⟨h.bel, h.h0, h.h1, (fun _ => rfl), h.h3, h.h4, h.h5, h.h6, h.h7, h.h8, h.h9, h.h10, h.h11, h.h12, h.h13, h.h14, h.h15, h.d11_12, h.d11_13, h.d11_14, h.d11_15, h.d12_13, h.d12_14, h.d12_15, h.d13_14, h.d13_15, h.d14_15, (fun e => ⟨upd2_of (h.o16 e).1, upd2_of (h.o16 e).2⟩), (fun e => ⟨upd2_of (h.o17 e).1, upd2_of (h.o17 e).2⟩), (fun e => ⟨upd2_of (h.o18 e).1, upd2_of (h.o18 e).2⟩), (fun e => ⟨upd2_of (h.o19 e).1, upd2_of (h.o19 e).2⟩), (fun e => ⟨upd2_of (h.o20 e).1, upd2_of (h.o20 e).2⟩)⟩
      · have hlt : 3 < listed.size := by rw [hsz]; decide
        have nme := getD2_tf hi2
        have hd : listed.getD 2 false = true := by simp [Region.binds] at hrd; simp [hrd]
        have e2 := hd
        clear hrd hi
        obtain rfl := h.h2 e2
        have nl : listed.getD 17 false = false := by cases hx : listed.getD 17 false with | false => rfl | true => exact absurd (h.o17 hx).1 (by rw [nme]; decide)
        refine wpOp_step (i := 3) rfl (fun K' hK => ?_)
        go_simp
        refine (HEN.out _ h.bel).mono ?_
        rintro e w' ⟨x, rfl, hr, hb⟩
        refine hK _ _ ⟨by simpa using hsz, x5, x6, x7, x8, x9, x12, x13, _, _, x16, x17, x18, x19, x20, x21, x22, rfl, ?_⟩
        rw [getD2_upd hlt]
        have h' := h.keep hb
        exact ⟨h'.bel, h'.h0, h'.h1, h'.h2, (fun _ => hr), h'.h4, h'.h5, h'.h6, h'.h7, h'.h8, h'.h9, h'.h10, h'.h11, (fun e => by obtain ⟨p, u, v, g1, g2, g3, g4⟩ := h'.h12 e; exact ⟨p, u, v, g1, g2, g3, fun e' => absurd (show listed.getD 17 false = true from e') (by rw [nl]; decide)⟩), h'.h13, h'.h14, h'.h15, h'.d11_12, h'.d11_13, h'.d11_14, h'.d11_15, h'.d12_13, h'.d12_14, h'.d12_15, h'.d13_14, h'.d13_15, h'.d14_15, (fun e => ⟨upd2_of (h.o16 e).1, upd2_of (h.o16 e).2⟩), (fun e => ⟨upd2_of (h.o17 e).1, upd2_of (h.o17 e).2⟩), (fun e => ⟨upd2_of (h.o18 e).1, upd2_of (h.o18 e).2⟩), (fun e => ⟨upd2_of (h.o19 e).1, upd2_of (h.o19 e).2⟩), (fun e => ⟨upd2_of (h.o20 e).1, upd2_of (h.o20 e).2⟩)⟩
      · have hlt : 4 < listed.size := by rw [hsz]; decide
        have nme := getD2_tf hi2
        clear hrd hi
        refine wpOp_step (i := 4) rfl (fun K' hK => ?_)
        go_simp
        refine hK _ _ ⟨by simpa using hsz, x5, x6, x7, x8, x9, x12, x13, x14, x15, _, x17, x18, x19, x20, x21, x22, rfl, ?_⟩
        rw [getD2_upd hlt]
        exact ⟨h.bel, h.h0, h.h1, h.h2, h.h3, (fun _ => rfl), h.h5, h.h6, h.h7, h.h8, h.h9, h.h10, h.h11, h.h12, h.h13, h.h14, h.h15, h.d11_12, h.d11_13, h.d11_14, h.d11_15, h.d12_13, h.d12_14, h.d12_15, h.d13_14, h.d13_15, h.d14_15, (fun e => ⟨upd2_of (h.o16 e).1, upd2_of (h.o16 e).2⟩), (fun e => ⟨upd2_of (h.o17 e).1, upd2_of (h.o17 e).2⟩), (fun e => ⟨upd2_of (h.o18 e).1, upd2_of (h.o18 e).2⟩), (fun e => ⟨upd2_of (h.o19 e).1, upd2_of (h.o19 e).2⟩), (fun e => ⟨upd2_of (h.o20 e).1, upd2_of (h.o20 e).2⟩)⟩
      · have hlt : 5 < listed.size := by rw [hsz]; decide
        have nme := getD2_tf hi2
        have hd : listed.getD 4 false = true := by simp [Region.binds] at hrd; simp [hrd]
        have e4 := hd
        clear hrd hi
        obtain rfl := h.h4 e4
        have nl : listed.getD 18 false = false := by cases hx : listed.getD 18 false with | false => rfl | true => exact absurd (h.o18 hx).1 (by rw [nme]; decide)
        refine wpOp_step (i := 5) rfl (fun K' hK => ?_)
        go_simp
        refine (HTR.out _ h.bel).mono ?_
        rintro e w' ⟨x, rfl, hr, hb⟩
        refine hK _ _ ⟨by simpa using hsz, x5, x6, x7, x8, x9, x12, x13, x14, x15, _, _, x18, x19, x20, x21, x22, rfl, ?_⟩
        rw [getD2_upd hlt]
        have h' := h.keep hb
        exact ⟨h'.bel, h'.h0, h'.h1, h'.h2, h'.h3, h'.h4, (fun _ => hr), h'.h6, h'.h7, h'.h8, h'.h9, h'.h10, h'.h11, h'.h12, (fun e => by obtain ⟨p, u, v, g1, g2, g3, g4⟩ := h'.h13 e; exact ⟨p, u, v, g1, g2, g3, fun e' => absurd (show listed.getD 18 false = true from e') (by rw [nl]; decide)⟩), h'.h14, h'.h15, h'.d11_12, h'.d11_13, h'.d11_14, h'.d11_15, h'.d12_13, h'.d12_14, h'.d12_15, h'.d13_14, h'.d13_15, h'.d14_15, (fun e => ⟨upd2_of (h.o16 e).1, upd2_of (h.o16 e).2⟩), (fun e => ⟨upd2_of (h.o17 e).1, upd2_of (h.o17 e).2⟩), (fun e => ⟨upd2_of (h.o18 e).1, upd2_of (h.o18 e).2⟩), (fun e => ⟨upd2_of (h.o19 e).1, upd2_of (h.o19 e).2⟩), (fun e => ⟨upd2_of (h.o20 e).1, upd2_of (h.o20 e).2⟩)⟩
      · have hlt : 6 < listed.size := by rw [hsz]; decide
        have nme := getD2_tf hi2
        clear hrd hi
        refine wpOp_step (i := 6) rfl (fun K' hK => ?_)
        go_simp
        refine hK _ _ ⟨by simpa using hsz, x5, x6, x7, x8, x9, x12, x13, x14, x15, x16, x17, _, x19, x20, x21, x22, rfl, ?_⟩
        rw [getD2_upd hlt]
        exact ⟨h.bel, h.h0, h.h1, h.h2, h.h3, h.h4, h.h5, (fun _ => rfl), h.h7, h.h8, h.h9, h.h10, h.h11, h.h12, h.h13, h.h14, h.h15, h.d11_12, h.d11_13, h.d11_14, h.d11_15, h.d12_13, h.d12_14, h.d12_15, h.d13_14, h.d13_15, h.d14_15, (fun e => ⟨upd2_of (h.o16 e).1, upd2_of (h.o16 e).2⟩), (fun e => ⟨upd2_of (h.o17 e).1, upd2_of (h.o17 e).2⟩), (fun e => ⟨upd2_of (h.o18 e).1, upd2_of (h.o18 e).2⟩), (fun e => ⟨upd2_of (h.o19 e).1, upd2_of (h.o19 e).2⟩), (fun e => ⟨upd2_of (h.o20 e).1, upd2_of (h.o20 e).2⟩)⟩
      · have hlt : 7 < listed.size := by rw [hsz]; decide
        have nme := getD2_tf hi2
        clear hrd hi
        refine wpOp_step (i := 7) rfl (fun K' hK => ?_)
        go_simp
        refine hK _ _ ⟨by simpa using hsz, x5, x6, x7, x8, x9, x12, x13, x14, x15, x16, x17, x18, _, x20, x21, x22, rfl, ?_⟩
        rw [getD2_upd hlt]
        exact ⟨h.bel, h.h0, h.h1, h.h2, h.h3, h.h4, h.h5, h.h6, (fun _ => rfl), h.h8, h.h9, h.h10, h.h11, h.h12, h.h13, h.h14, h.h15, h.d11_12, h.d11_13, h.d11_14, h.d11_15, h.d12_13, h.d12_14, h.d12_15, h.d13_14, h.d13_15, h.d14_15, (fun e => ⟨upd2_of (h.o16 e).1, upd2_of (h.o16 e).2⟩), (fun e => ⟨upd2_of (h.o17 e).1, upd2_of (h.o17 e).2⟩), (fun e => ⟨upd2_of (h.o18 e).1, upd2_of (h.o18 e).2⟩), (fun e => ⟨upd2_of (h.o19 e).1, upd2_of (h.o19 e).2⟩), (fun e => ⟨upd2_of (h.o20 e).1, upd2_of (h.o20 e).2⟩)⟩
      · have hlt : 8 < listed.size := by rw [hsz]; decide
        have nme := getD2_tf hi2
        have hd : listed.getD 6 false = true ∧ listed.getD 7 false = true := by simp [Region.binds] at hrd; simp [hrd]
        obtain ⟨e6, e7⟩ := hd
        clear hrd hi
        obtain rfl := h.h6 e6
        obtain rfl := h.h7 e7
        have nl : listed.getD 19 false = false := by cases hx : listed.getD 19 false with | false => rfl | true => exact absurd (h.o19 hx).1 (by rw [nme]; decide)
        refine wpOp_step (i := 8) rfl (fun K' hK => ?_)
        go_simp
        refine (HWI.out _ h.bel).mono ?_
        rintro e w' ⟨x, rfl, hr, hb⟩
        refine hK _ _ ⟨by simpa using hsz, x5, x6, x7, x8, x9, x12, x13, x14, x15, x16, x17, _, _, _, x21, x22, rfl, ?_⟩
        rw [getD2_upd hlt]
        have h' := h.keep hb
        exact ⟨h'.bel, h'.h0, h'.h1, h'.h2, h'.h3, h'.h4, h'.h5, h'.h6, h'.h7, (fun _ => hr), h'.h9, h'.h10, h'.h11, h'.h12, h'.h13, (fun e => by obtain ⟨p, u, v, g1, g2, g3, g4⟩ := h'.h14 e; exact ⟨p, u, v, g1, g2, g3, fun e' => absurd (show listed.getD 19 false = true from e') (by rw [nl]; decide)⟩), h'.h15, h'.d11_12, h'.d11_13, h'.d11_14, h'.d11_15, h'.d12_13, h'.d12_14, h'.d12_15, h'.d13_14, h'.d13_15, h'.d14_15, (fun e => ⟨upd2_of (h.o16 e).1, upd2_of (h.o16 e).2⟩), (fun e => ⟨upd2_of (h.o17 e).1, upd2_of (h.o17 e).2⟩), (fun e => ⟨upd2_of (h.o18 e).1, upd2_of (h.o18 e).2⟩), (fun e => ⟨upd2_of (h.o19 e).1, upd2_of (h.o19 e).2⟩), (fun e => ⟨upd2_of (h.o20 e).1, upd2_of (h.o20 e).2⟩)⟩
      · have hlt : 9 < listed.size := by rw [hsz]; decide
        have nme := getD2_tf hi2
        clear hrd hi
        refine wpOp_step (i := 9) rfl (fun K' hK => ?_)
        go_simp
        refine hK _ _ ⟨by simpa using hsz, x5, x6, x7, x8, x9, x12, x13, x14, x15, x16, x17, x18, x19, x20, _, x22, rfl, ?_⟩
        rw [getD2_upd hlt]
        exact ⟨h.bel, h.h0, h.h1, h.h2, h.h3, h.h4, h.h5, h.h6, h.h7, h.h8, (fun _ => rfl), h.h10, h.h11, h.h12, h.h13, h.h14, h.h15, h.d11_12, h.d11_13, h.d11_14, h.d11_15, h.d12_13, h.d12_14, h.d12_15, h.d13_14, h.d13_15, h.d14_15, (fun e => ⟨upd2_of (h.o16 e).1, upd2_of (h.o16 e).2⟩), (fun e => ⟨upd2_of (h.o17 e).1, upd2_of (h.o17 e).2⟩), (fun e => ⟨upd2_of (h.o18 e).1, upd2_of (h.o18 e).2⟩), (fun e => ⟨upd2_of (h.o19 e).1, upd2_of (h.o19 e).2⟩), (fun e => ⟨upd2_of (h.o20 e).1, upd2_of (h.o20 e).2⟩)⟩
      · have hlt : 10 < listed.size := by rw [hsz]; decide
        have nme := getD2_tf hi2
        have hd : listed.getD 9 false = true := by simp [Region.binds] at hrd; simp [hrd]
        have e9 := hd
        clear hrd hi
        obtain rfl := h.h9 e9
        have nl : listed.getD 20 false = false := by cases hx : listed.getD 20 false with | false => rfl | true => exact absurd (h.o20 hx).1 (by rw [nme]; decide)
        refine wpOp_step (i := 10) rfl (fun K' hK => ?_)
        go_simp
        refine (HLI.out _ h.bel).mono ?_
        rintro e w' ⟨x, rfl, hr, hb⟩
        refine hK _ _ ⟨by simpa using hsz, x5, x6, x7, x8, x9, x12, x13, x14, x15, x16, x17, x18, x19, x20, _, _, rfl, ?_⟩
        rw [getD2_upd hlt]
        have h' := h.keep hb
        exact ⟨h'.bel, h'.h0, h'.h1, h'.h2, h'.h3, h'.h4, h'.h5, h'.h6, h'.h7, h'.h8, h'.h9, (fun _ => hr), h'.h11, h'.h12, h'.h13, h'.h14, (fun e => by obtain ⟨p, u, v, g1, g2, g3, g4⟩ := h'.h15 e; exact ⟨p, u, v, g1, g2, g3, fun e' => absurd (show listed.getD 20 false = true from e') (by rw [nl]; decide)⟩), h'.d11_12, h'.d11_13, h'.d11_14, h'.d11_15, h'.d12_13, h'.d12_14, h'.d12_15, h'.d13_14, h'.d13_15, h'.d14_15, (fun e => ⟨upd2_of (h.o16 e).1, upd2_of (h.o16 e).2⟩), (fun e => ⟨upd2_of (h.o17 e).1, upd2_of (h.o17 e).2⟩), (fun e => ⟨upd2_of (h.o18 e).1, upd2_of (h.o18 e).2⟩), (fun e => ⟨upd2_of (h.o19 e).1, upd2_of (h.o19 e).2⟩), (fun e => ⟨upd2_of (h.o20 e).1, upd2_of (h.o20 e).2⟩)⟩
      · have hlt : 11 < listed.size := by rw [hsz]; decide
        have nme := getD2_tf hi2
        clear hrd hi
        have nl : listed.getD 16 false = false := by cases hx : listed.getD 16 false with | false => rfl | true => exact absurd (h.o16 hx).2 (by rw [nme]; decide)
        refine wpOp_step (i := 11) rfl (fun K' hK => ?_)
        go_simp
        refine hK _ _ ⟨by simpa using hsz, _, x6, x7, x8, x9, x12, x13, x14, x15, x16, x17, x18, x19, x20, x21, x22, rfl, ?_⟩
        rw [getD2_upd hlt]
        have h' := h.keep ((Below.refl _ _).alloc (Nat.le_refl _) (.cells #[.string ⟨#[]⟩, .slice none 0 0] 24))
        exact ⟨h'.bel, h'.h0, h'.h1, h'.h2, h'.h3, h'.h4, h'.h5, h'.h6, h'.h7, h'.h8, h'.h9, h'.h10, (fun _ => ⟨_, _, _, rfl, h.bel.size, Whole.made _ _ _, fun e' => absurd (show listed.getD 16 false = true from e') (by rw [nl]; decide)⟩), h'.h12, h'.h13, h'.h14, h'.h15, (fun _ e => (h.h12 e).old.symm), (fun _ e => (h.h13 e).old.symm), (fun _ e => (h.h14 e).old.symm), (fun _ e => (h.h15 e).old.symm), h'.d12_13, h'.d12_14, h'.d12_15, h'.d13_14, h'.d13_15, h'.d14_15, (fun e => ⟨upd2_of (h.o16 e).1, upd2_of (h.o16 e).2⟩), (fun e => ⟨upd2_of (h.o17 e).1, upd2_of (h.o17 e).2⟩), (fun e => ⟨upd2_of (h.o18 e).1, upd2_of (h.o18 e).2⟩), (fun e => ⟨upd2_of (h.o19 e).1, upd2_of (h.o19 e).2⟩), (fun e => ⟨upd2_of (h.o20 e).1, upd2_of (h.o20 e).2⟩)⟩
      · have hlt : 12 < listed.size := by rw [hsz]; decide
        have nme := getD2_tf hi2
        clear hrd hi
        have nl : listed.getD 17 false = false := by cases hx : listed.getD 17 false with | false => rfl | true => exact absurd (h.o17 hx).2 (by rw [nme]; decide)
        refine wpOp_step (i := 12) rfl (fun K' hK => ?_)
        go_simp
        refine hK _ _ ⟨by simpa using hsz, x5, _, x7, x8, x9, x12, x13, x14, x15, x16, x17, x18, x19, x20, x21, x22, rfl, ?_⟩
        rw [getD2_upd hlt]
        have h' := h.keep ((Below.refl _ _).alloc (Nat.le_refl _) (.cells #[.string ⟨#[]⟩, .slice none 0 0] 24))
        exact ⟨h'.bel, h'.h0, h'.h1, h'.h2, h'.h3, h'.h4, h'.h5, h'.h6, h'.h7, h'.h8, h'.h9, h'.h10, h'.h11, (fun _ => ⟨_, _, _, rfl, h.bel.size, Whole.made _ _ _, fun e' => absurd (show listed.getD 17 false = true from e') (by rw [nl]; decide)⟩), h'.h13, h'.h14, h'.h15, (fun e _ => (h.h11 e).old), h'.d11_13, h'.d11_14, h'.d11_15, (fun _ e => (h.h13 e).old.symm), (fun _ e => (h.h14 e).old.symm), (fun _ e => (h.h15 e).old.symm), h'.d13_14, h'.d13_15, h'.d14_15, (fun e => ⟨upd2_of (h.o16 e).1, upd2_of (h.o16 e).2⟩), (fun e => ⟨upd2_of (h.o17 e).1, upd2_of (h.o17 e).2⟩), (fun e => ⟨upd2_of (h.o18 e).1, upd2_of (h.o18 e).2⟩), (fun e => ⟨upd2_of (h.o19 e).1, upd2_of (h.o19 e).2⟩), (fun e => ⟨upd2_of (h.o20 e).1, upd2_of (h.o20 e).2⟩)⟩
      · have hlt : 13 < listed.size := by rw [hsz]; decide
        have nme := getD2_tf hi2
        clear hrd hi
        have nl : listed.getD 18 false = false := by cases hx : listed.getD 18 false with | false => rfl | true => exact absurd (h.o18 hx).2 (by rw [nme]; decide)
        refine wpOp_step (i := 13) rfl (fun K' hK => ?_)
        go_simp
        refine hK _ _ ⟨by simpa using hsz, x5, x6, _, x8, x9, x12, x13, x14, x15, x16, x17, x18, x19, x20, x21, x22, rfl, ?_⟩
        rw [getD2_upd hlt]
        have h' := h.keep ((Below.refl _ _).alloc (Nat.le_refl _) (.cells #[.string ⟨#[]⟩, .slice none 0 0] 24))
        exact ⟨h'.bel, h'.h0, h'.h1, h'.h2, h'.h3, h'.h4, h'.h5, h'.h6, h'.h7, h'.h8, h'.h9, h'.h10, h'.h11, h'.h12, (fun _ => ⟨_, _, _, rfl, h.bel.size, Whole.made _ _ _, fun e' => absurd (show listed.getD 18 false = true from e') (by rw [nl]; decide)⟩), h'.h14, h'.h15, h'.d11_12, (fun e _ => (h.h11 e).old), h'.d11_14, h'.d11_15, (fun e _ => (h.h12 e).old), h'.d12_14, h'.d12_15, (fun _ e => (h.h14 e).old.symm), (fun _ e => (h.h15 e).old.symm), h'.d14_15, (fun e => ⟨upd2_of (h.o16 e).1, upd2_of (h.o16 e).2⟩), (fun e => ⟨upd2_of (h.o17 e).1, upd2_of (h.o17 e).2⟩), (fun e => ⟨upd2_of (h.o18 e).1, upd2_of (h.o18 e).2⟩), (fun e => ⟨upd2_of (h.o19 e).1, upd2_of (h.o19 e).2⟩), (fun e => ⟨upd2_of (h.o20 e).1, upd2_of (h.o20 e).2⟩)⟩
      · have hlt : 14 < listed.size := by rw [hsz]; decide
        have nme := getD2_tf hi2
        clear hrd hi
        have nl : listed.getD 19 false = false := by cases hx : listed.getD 19 false with | false => rfl | true => exact absurd (h.o19 hx).2 (by rw [nme]; decide)
        refine wpOp_step (i := 14) rfl (fun K' hK => ?_)
        go_simp
        refine hK _ _ ⟨by simpa using hsz, x5, x6, x7, _, x9, x12, x13, x14, x15, x16, x17, x18, x19, x20, x21, x22, rfl, ?_⟩
        rw [getD2_upd hlt]
        have h' := h.keep ((Below.refl _ _).alloc (Nat.le_refl _) (.cells #[.string ⟨#[]⟩, .slice none 0 0] 24))
        exact ⟨h'.bel, h'.h0, h'.h1, h'.h2, h'.h3, h'.h4, h'.h5, h'.h6, h'.h7, h'.h8, h'.h9, h'.h10, h'.h11, h'.h12, h'.h13, (fun _ => ⟨_, _, _, rfl, h.bel.size, Whole.made _ _ _, fun e' => absurd (show listed.getD 19 false = true from e') (by rw [nl]; decide)⟩), h'.h15, h'.d11_12, h'.d11_13, (fun e _ => (h.h11 e).old), h'.d11_15, h'.d12_13, (fun e _ => (h.h12 e).old), h'.d12_15, (fun e _ => (h.h13 e).old), h'.d13_15, (fun _ e => (h.h15 e).old.symm), (fun e => ⟨upd2_of (h.o16 e).1, upd2_of (h.o16 e).2⟩), (fun e => ⟨upd2_of (h.o17 e).1, upd2_of (h.o17 e).2⟩), (fun e => ⟨upd2_of (h.o18 e).1, upd2_of (h.o18 e).2⟩), (fun e => ⟨upd2_of (h.o19 e).1, upd2_of (h.o19 e).2⟩), (fun e => ⟨upd2_of (h.o20 e).1, upd2_of (h.o20 e).2⟩)⟩
      · have hlt : 15 < listed.size := by rw [hsz]; decide
        have nme := getD2_tf hi2
        clear hrd hi
        have nl : listed.getD 20 false = false := by cases hx : listed.getD 20 false with | false => rfl | true => exact absurd (h.o20 hx).2 (by rw [nme]; decide)
        refine wpOp_step (i := 15) rfl (fun K' hK => ?_)
        go_simp
        refine hK _ _ ⟨by simpa using hsz, x5, x6, x7, x8, _, x12, x13, x14, x15, x16, x17, x18, x19, x20, x21, x22, rfl, ?_⟩
        rw [getD2_upd hlt]
        have h' := h.keep ((Below.refl _ _).alloc (Nat.le_refl _) (.cells #[.string ⟨#[]⟩, .slice none 0 0] 24))
        exact ⟨h'.bel, h'.h0, h'.h1, h'.h2, h'.h3, h'.h4, h'.h5, h'.h6, h'.h7, h'.h8, h'.h9, h'.h10, h'.h11, h'.h12, h'.h13, h'.h14, (fun _ => ⟨_, _, _, rfl, h.bel.size, Whole.made _ _ _, fun e' => absurd (show listed.getD 20 false = true from e') (by rw [nl]; decide)⟩), h'.d11_12, h'.d11_13, h'.d11_14, (fun e _ => (h.h11 e).old), h'.d12_13, h'.d12_14, (fun e _ => (h.h12 e).old), h'.d13_14, (fun e _ => (h.h13 e).old), (fun e _ => (h.h14 e).old), (fun e => ⟨upd2_of (h.o16 e).1, upd2_of (h.o16 e).2⟩), (fun e => ⟨upd2_of (h.o17 e).1, upd2_of (h.o17 e).2⟩), (fun e => ⟨upd2_of (h.o18 e).1, upd2_of (h.o18 e).2⟩), (fun e => ⟨upd2_of (h.o19 e).1, upd2_of (h.o19 e).2⟩), (fun e => ⟨upd2_of (h.o20 e).1, upd2_of (h.o20 e).2⟩)⟩
      · have hlt : 16 < listed.size := by rw [hsz]; decide
        have nme := getD2_tf hi2
        have hd : listed.getD 11 false = true ∧ listed.getD 1 false = true := by simp [Region.binds] at hrd; simp [hrd]
        obtain ⟨ea, ec⟩ := hd
        clear hrd hi
        obtain ⟨p, u, v, hx, hp1, hp2, _⟩ := h.h11 ea
        obtain ⟨A', c', hy', hyo⟩ := h.h1 ec
        subst hx
        subst hy'
        have k0 : w'.cell? ⟨p, 0, none⟩ = some u := hp2.at_ 0
        have k1 : w'.cell? ⟨p, 1, none⟩ = some v := hp2.at_ 1
        have k2 := hp2.free 0
        have k3 := hp2.free 1
        refine wpOp_step (i := 16) rfl (fun K' hK => ?_)
        go_simp
        refine hK _ _ ⟨by simpa using hsz, _, x6, x7, x8, x9, x12, _, x14, x15, x16, x17, x18, x19, x20, x21, x22, rfl, ?_⟩
        rw [getD2_upd hlt]
        exact ⟨(below_put2 h.bel hp1), h.h0, (fun e => (h.h1 e).put hp2), h.h2, (fun e => (h.h3 e).put hp2), h.h4, (fun e => (h.h5 e).put hp2), h.h6, h.h7, (fun e => (h.h8 e).put hp2), h.h9, (fun e => (h.h10 e).put hp2), (fun _ => ⟨p, _, _, rfl, hp1, (hp2.put 0 _).put 1 _, fun _ => rfl⟩), (fun e => (h.h12 e).put (fun hh => h.d11_12 ea e hh.symm)), (fun e => (h.h13 e).put (fun hh => h.d11_13 ea e hh.symm)), (fun e => (h.h14 e).put (fun hh => h.d11_14 ea e hh.symm)), (fun e => (h.h15 e).put (fun hh => h.d11_15 ea e hh.symm)), h.d11_12, h.d11_13, h.d11_14, h.d11_15, h.d12_13, h.d12_14, h.d12_15, h.d13_14, h.d13_15, h.d14_15, (fun _ => ⟨upd2_of ec, upd2_of ea⟩), (fun e => ⟨upd2_of (h.o17 e).1, upd2_of (h.o17 e).2⟩), (fun e => ⟨upd2_of (h.o18 e).1, upd2_of (h.o18 e).2⟩), (fun e => ⟨upd2_of (h.o19 e).1, upd2_of (h.o19 e).2⟩), (fun e => ⟨upd2_of (h.o20 e).1, upd2_of (h.o20 e).2⟩)⟩
      · have hlt : 17 < listed.size := by rw [hsz]; decide
        have nme := getD2_tf hi2
        have hd : listed.getD 12 false = true ∧ listed.getD 3 false = true := by simp [Region.binds] at hrd; simp [hrd]
        obtain ⟨ea, ec⟩ := hd
        clear hrd hi
        obtain ⟨p, u, v, hx, hp1, hp2, _⟩ := h.h12 ea
        obtain ⟨A', c', hy', hyo⟩ := h.h3 ec
        subst hx
        subst hy'
        have k0 : w'.cell? ⟨p, 0, none⟩ = some u := hp2.at_ 0
        have k1 : w'.cell? ⟨p, 1, none⟩ = some v := hp2.at_ 1
        have k2 := hp2.free 0
        have k3 := hp2.free 1
        refine wpOp_step (i := 17) rfl (fun K' hK => ?_)
        go_simp
        refine hK _ _ ⟨by simpa using hsz, x5, _, x7, x8, x9, x12, x13, x14, _, x16, x17, x18, x19, x20, x21, x22, rfl, ?_⟩
        rw [getD2_upd hlt]
        exact ⟨(below_put2 h.bel hp1), h.h0, (fun e => (h.h1 e).put hp2), h.h2, (fun e => (h.h3 e).put hp2), h.h4, (fun e => (h.h5 e).put hp2), h.h6, h.h7, (fun e => (h.h8 e).put hp2), h.h9, (fun e => (h.h10 e).put hp2), (fun e => (h.h11 e).put (fun hh => h.d11_12 e ea hh)), (fun _ => ⟨p, _, _, rfl, hp1, (hp2.put 0 _).put 1 _, fun _ => rfl⟩), (fun e => (h.h13 e).put (fun hh => h.d12_13 ea e hh.symm)), (fun e => (h.h14 e).put (fun hh => h.d12_14 ea e hh.symm)), (fun e => (h.h15 e).put (fun hh => h.d12_15 ea e hh.symm)), h.d11_12, h.d11_13, h.d11_14, h.d11_15, h.d12_13, h.d12_14, h.d12_15, h.d13_14, h.d13_15, h.d14_15, (fun e => ⟨upd2_of (h.o16 e).1, upd2_of (h.o16 e).2⟩), (fun _ => ⟨upd2_of ec, upd2_of ea⟩), (fun e => ⟨upd2_of (h.o18 e).1, upd2_of (h.o18 e).2⟩), (fun e => ⟨upd2_of (h.o19 e).1, upd2_of (h.o19 e).2⟩), (fun e => ⟨upd2_of (h.o20 e).1, upd2_of (h.o20 e).2⟩)⟩
      · have hlt : 18 < listed.size := by rw [hsz]; decide
        have nme := getD2_tf hi2
        have hd : listed.getD 13 false = true ∧ listed.getD 5 false = true := by simp [Region.binds] at hrd; simp [hrd]
        obtain ⟨ea, ec⟩ := hd
        clear hrd hi
        obtain ⟨p, u, v, hx, hp1, hp2, _⟩ := h.h13 ea
        obtain ⟨A', c', hy', hyo⟩ := h.h5 ec
        subst hx
        subst hy'
        have k0 : w'.cell? ⟨p, 0, none⟩ = some u := hp2.at_ 0
        have k1 : w'.cell? ⟨p, 1, none⟩ = some v := hp2.at_ 1
        have k2 := hp2.free 0
        have k3 := hp2.free 1
        refine wpOp_step (i := 18) rfl (fun K' hK => ?_)
        go_simp
        refine hK _ _ ⟨by simpa using hsz, x5, x6, _, x8, x9, x12, x13, x14, x15, x16, _, x18, x19, x20, x21, x22, rfl, ?_⟩
        rw [getD2_upd hlt]
        exact ⟨(below_put2 h.bel hp1), h.h0, (fun e => (h.h1 e).put hp2), h.h2, (fun e => (h.h3 e).put hp2), h.h4, (fun e => (h.h5 e).put hp2), h.h6, h.h7, (fun e => (h.h8 e).put hp2), h.h9, (fun e => (h.h10 e).put hp2), (fun e => (h.h11 e).put (fun hh => h.d11_13 e ea hh)), (fun e => (h.h12 e).put (fun hh => h.d12_13 e ea hh)), (fun _ => ⟨p, _, _, rfl, hp1, (hp2.put 0 _).put 1 _, fun _ => rfl⟩), (fun e => (h.h14 e).put (fun hh => h.d13_14 ea e hh.symm)), (fun e => (h.h15 e).put (fun hh => h.d13_15 ea e hh.symm)), h.d11_12, h.d11_13, h.d11_14, h.d11_15, h.d12_13, h.d12_14, h.d12_15, h.d13_14, h.d13_15, h.d14_15, (fun e => ⟨upd2_of (h.o16 e).1, upd2_of (h.o16 e).2⟩), (fun e => ⟨upd2_of (h.o17 e).1, upd2_of (h.o17 e).2⟩), (fun _ => ⟨upd2_of ec, upd2_of ea⟩), (fun e => ⟨upd2_of (h.o19 e).1, upd2_of (h.o19 e).2⟩), (fun e => ⟨upd2_of (h.o20 e).1, upd2_of (h.o20 e).2⟩)⟩
      · have hlt : 19 < listed.size := by rw [hsz]; decide
        have nme := getD2_tf hi2
        have hd : listed.getD 14 false = true ∧ listed.getD 8 false = true := by simp [Region.binds] at hrd; simp [hrd]
        obtain ⟨ea, ec⟩ := hd
        clear hrd hi
        obtain ⟨p, u, v, hx, hp1, hp2, _⟩ := h.h14 ea
        obtain ⟨A', c', hy', hyo⟩ := h.h8 ec
        subst hx
        subst hy'
        have k0 : w'.cell? ⟨p, 0, none⟩ = some u := hp2.at_ 0
        have k1 : w'.cell? ⟨p, 1, none⟩ = some v := hp2.at_ 1
        have k2 := hp2.free 0
        have k3 := hp2.free 1
        refine wpOp_step (i := 19) rfl (fun K' hK => ?_)
        go_simp
        refine hK _ _ ⟨by simpa using hsz, x5, x6, x7, _, x9, x12, x13, x14, x15, x16, x17, x18, x19, _, x21, x22, rfl, ?_⟩
        rw [getD2_upd hlt]
        exact ⟨(below_put2 h.bel hp1), h.h0, (fun e => (h.h1 e).put hp2), h.h2, (fun e => (h.h3 e).put hp2), h.h4, (fun e => (h.h5 e).put hp2), h.h6, h.h7, (fun e => (h.h8 e).put hp2), h.h9, (fun e => (h.h10 e).put hp2), (fun e => (h.h11 e).put (fun hh => h.d11_14 e ea hh)), (fun e => (h.h12 e).put (fun hh => h.d12_14 e ea hh)), (fun e => (h.h13 e).put (fun hh => h.d13_14 e ea hh)), (fun _ => ⟨p, _, _, rfl, hp1, (hp2.put 0 _).put 1 _, fun _ => rfl⟩), (fun e => (h.h15 e).put (fun hh => h.d14_15 ea e hh.symm)), h.d11_12, h.d11_13, h.d11_14, h.d11_15, h.d12_13, h.d12_14, h.d12_15, h.d13_14, h.d13_15, h.d14_15, (fun e => ⟨upd2_of (h.o16 e).1, upd2_of (h.o16 e).2⟩), (fun e => ⟨upd2_of (h.o17 e).1, upd2_of (h.o17 e).2⟩), (fun e => ⟨upd2_of (h.o18 e).1, upd2_of (h.o18 e).2⟩), (fun _ => ⟨upd2_of ec, upd2_of ea⟩), (fun e => ⟨upd2_of (h.o20 e).1, upd2_of (h.o20 e).2⟩)⟩
      · have hlt : 20 < listed.size := by rw [hsz]; decide
        have nme := getD2_tf hi2
        have hd : listed.getD 15 false = true ∧ listed.getD 10 false = true := by simp [Region.binds] at hrd; simp [hrd]
        obtain ⟨ea, ec⟩ := hd
        clear hrd hi
        obtain ⟨p, u, v, hx, hp1, hp2, _⟩ := h.h15 ea
        obtain ⟨A', c', hy', hyo⟩ := h.h10 ec
        subst hx
        subst hy'
        have k0 : w'.cell? ⟨p, 0, none⟩ = some u := hp2.at_ 0
        have k1 : w'.cell? ⟨p, 1, none⟩ = some v := hp2.at_ 1
        have k2 := hp2.free 0
        have k3 := hp2.free 1
        refine wpOp_step (i := 20) rfl (fun K' hK => ?_)
        go_simp
        refine hK _ _ ⟨by simpa using hsz, x5, x6, x7, x8, _, x12, x13, x14, x15, x16, x17, x18, x19, x20, x21, _, rfl, ?_⟩
        rw [getD2_upd hlt]
        exact ⟨(below_put2 h.bel hp1), h.h0, (fun e => (h.h1 e).put hp2), h.h2, (fun e => (h.h3 e).put hp2), h.h4, (fun e => (h.h5 e).put hp2), h.h6, h.h7, (fun e => (h.h8 e).put hp2), h.h9, (fun e => (h.h10 e).put hp2), (fun e => (h.h11 e).put (fun hh => h.d11_15 e ea hh)), (fun e => (h.h12 e).put (fun hh => h.d12_15 e ea hh)), (fun e => (h.h13 e).put (fun hh => h.d13_15 e ea hh)), (fun e => (h.h14 e).put (fun hh => h.d14_15 e ea hh)), (fun _ => ⟨p, _, _, rfl, hp1, (hp2.put 0 _).put 1 _, fun _ => rfl⟩), h.d11_12, h.d11_13, h.d11_14, h.d11_15, h.d12_13, h.d12_14, h.d12_15, h.d13_14, h.d13_15, h.d14_15, (fun e => ⟨upd2_of (h.o16 e).1, upd2_of (h.o16 e).2⟩), (fun e => ⟨upd2_of (h.o17 e).1, upd2_of (h.o17 e).2⟩), (fun e => ⟨upd2_of (h.o18 e).1, upd2_of (h.o18 e).2⟩), (fun e => ⟨upd2_of (h.o19 e).1, upd2_of (h.o19 e).2⟩), (fun _ => ⟨upd2_of ec, upd2_of ea⟩)⟩
    · exact ⟨Below.drew (Below.refl _ _), (fun e => absurd e (by decide)), (fun e => absurd e (by decide)), (fun e => absurd e (by decide)), (fun e => absurd e (by decide)), (fun e => absurd e (by decide)), (fun e => absurd e (by decide)), (fun e => absurd e (by decide)), (fun e => absurd e (by decide)), (fun e => absurd e (by decide)), (fun e => absurd e (by decide)), (fun e => absurd e (by decide)), (fun e => absurd e (by decide)), (fun e => absurd e (by decide)), (fun e => absurd e (by decide)), (fun e => absurd e (by decide)), (fun e => absurd e (by decide)), (fun e => absurd e (by decide)), (fun e => absurd e (by decide)), (fun e => absurd e (by decide)), (fun e => absurd e (by decide)), (fun e => absurd e (by decide)), (fun e => absurd e (by decide)), (fun e => absurd e (by decide)), (fun e => absurd e (by decide)), (fun e => absurd e (by decide)), (fun e => absurd e (by decide)), (fun e => absurd e (by decide)), (fun e => absurd e (by decide)), (fun e => absurd e (by decide)), (fun e => absurd e (by decide)), (fun e => absurd e (by decide))⟩
  case rest =>
    obtain ⟨hbc, hr1, hr2, hr3, hr4, hr5⟩ := hcut
    obtain ⟨p1, A1, c1, rfl, hW1, hL1⟩ := hr1.get
    obtain ⟨p2, A2, c2, rfl, hW2, hL2⟩ := hr2.get
    obtain ⟨p3, A3, c3, rfl, hW3, hL3⟩ := hr3.get
    obtain ⟨p4, A4, c4, rfl, hW4, hL4⟩ := hr4.get
    obtain ⟨p5, A5, c5, rfl, hW5, hL5⟩ := hr5.get
    clear hr1 hr2 hr3 hr4 hr5
    have hbF : Below w.heap.size w wc := hbw.trans (hbc.mono hbw.size)
    have hLn : (chars s.data.toList rs).length = s.size := by rw [chars_length, Array.length_toList]; rfl
    have hLi : InO (chars s.data.toList rs) := fun x hx => by
      have h : x.2 ∈ (chars s.data.toList rs).map (·.2) := List.mem_map.2 ⟨x, hx, rfl⟩
      rw [chars_snd] at h
      exact origins_in _ _ _ h
    have hsz := HSZ.out
    have n1 : l1.length ≤ 1048573 := by rw [G1.out]; unfold lowCh; rw [List.length_map, hLn]; exact hsz
    have n2 : l2.length ≤ 1048573 := by rw [G2.out]; exact Nat.le_trans (trimL_length _ _) (by rw [hLn]; exact hsz)
    have n3 : l3.length ≤ 1048573 := by rw [G3.out]; exact Nat.le_trans (trimL_length _ _) (by rw [hLn]; exact hsz)
    have n4 : l4.length ≤ 1048573 := by rw [G4.out, replL_filter]; exact Nat.le_trans (List.length_filter_le _ _) (by rw [hLn]; exact hsz)
    have n5 : l5.length ≤ 1048573 := by rw [G5.out]; exact Nat.le_trans (linesR_len _) (by rw [hLn]; exact hsz)
    have i1 : InO l1 := by
      rw [G1.out]
      intro x hx
      obtain ⟨z, hz, rfl⟩ := List.mem_map.1 hx
      exact hLi z hz
    have i2 : InO l2 := by rw [G2.out]; exact hLi.sub fun x hx => trimL_sub hx
    have i3 : InO l3 := by rw [G3.out]; exact hLi.sub fun x hx => trimL_sub hx
    have i4 : InO l4 := by rw [G4.out, replL_filter]; exact hLi.sub fun x hx => (List.mem_filter.1 hx).1
    have i5 : InO l5 := by rw [G5.out]; exact linesR_in _ hLi
    have t1 : lowCh l1 = l1 := by rw [G1.out]; exact lowCh_twice _
    have t2 : trimL (onB (fun b => decide (b.toNat ≤ 32))) l2 = l2 := by rw [G2.out]; exact trimL_twice _ _
    have t3 : trimL (onB blanksB) l3 = l3 := by rw [G3.out]; exact trimL_twice _ _
    have t4 : replL (fun b => y.data.toList.contains b) [] l4 = l4 := by rw [G4.out]; exact repl_twice _ _
    have t5 : linesR l5 = l5 := by rw [G5.out]; exact linesR_stay _ (linesR_mem _)
    have u1 : noUp (txtOf l1).data.toList = true := by rw [G1.out]; exact lowCh_noUp _
    have z1 := txtOf_size l1
    have z2 := txtOf_size l2
    have z3 := txtOf_size l3
    have z4 := txtOf_size l4
    have z5 := txtOf_size l5
    have r1 := runN_le l1
    have r2 := runN_le l2
    have r3 := runN_le l3
    have r4 := runN_le l4
    have r5 := runN_le l5
    have F1 : Hid (∀ W, Below wc.heap.size wc W → Calls Try.prog 11 #[.agg #[.string (txtOf l1), .slice A1 (runN l1) c1]] W (TellsL l1 W)) := fun W hb => by
      refine (lower_any (txtOf l1) A1 (runN l1) c1 (comp (l1.map (·.2))) W (hL1.next hb (Nat.le_refl _)) rfl (by omega) (by omega)).mono fun e w' h => tellsL_of ?_
      have e1 : (txtOf l1).data.toList.map lowB = l1.map (·.1) := by
        conv => rhs; rw [← t1]
        unfold lowCh
        show (l1.map (·.1)).map lowB = _
        rw [List.map_map, List.map_map]
        rfl
      have e2 : taken (txtOf l1).size (comp (l1.map (·.2))) = comp (l1.map (·.2)) := by
        unfold taken
        rw [z1]
        have h3 := origins_told (q := l1.map (·.2)) (fun o ho => by obtain ⟨x, hx, rfl⟩ := List.mem_map.1 ho; exact i1 x hx)
        rw [List.length_map] at h3
        rw [h3]
      rw [e1, e2] at h
      exact h
    have F2 : Hid (∀ W, Below wc.heap.size wc W → Calls Try.prog 13 #[.agg #[.string (txtOf l2), .slice A2 (runN l2) c2]] W (TellsL l2 W)) := fun W hb => by
      have h := ends_any (txtOf l2) A2 (runN l2) c2 (comp (l2.map (·.2))) W (hL2.next hb (Nat.le_refl _)) rfl (by omega) (by omega)
      rw [chars_told2 i2, t2] at h
      exact h.mono fun e w' h => tellsL_of h
    have F3 : Hid (∀ W, Below wc.heap.size wc W → Calls Try.prog 15 #[.agg #[.string (txtOf l3), .slice A3 (runN l3) c3]] W (TellsL l3 W)) := fun W hb => by
      have h := trim_any (txtOf l3) A3 (runN l3) c3 (comp (l3.map (·.2))) W (hL3.next hb (Nat.le_refl _)) rfl (by omega) (by omega)
      have t3' : trimL (onB (fun b => blanksB b)) l3 = l3 := t3
      rw [chars_told2 i3, t3'] at h
      exact h.mono fun e w' h => tellsL_of h
    have F4 : Hid (∀ W, Below wc.heap.size wc W → Calls Try.prog 16 #[.agg #[.string (txtOf l4), .slice A4 (runN l4) c4], .string y] W (TellsL l4 W)) := fun W hb => by
      have h := without_any (txtOf l4) y A4 (runN l4) c4 (comp (l4.map (·.2))) W (hL4.next hb (Nat.le_refl _)) rfl (by omega) (by omega) (by omega)
      rw [chars_told2 i4, t4] at h
      exact h.mono fun e w' h => tellsL_of h
    have F5 : Hid (∀ W, Below wc.heap.size wc W → Calls Try.prog 20 #[.agg #[.string (txtOf l5), .slice A5 (runN l5) c5]] W (TellsL l5 W)) := fun W hb => by
      have h := lines_any (txtOf l5) A5 (runN l5) c5 (comp (l5.map (·.2))) W (hL5.next hb (Nat.le_refl _)) rfl (by omega) (by omega)
      rw [chars_told2 i5, t5] at h
      exact h.mono fun e w' h => tellsL_of h
    have F6 : Hid (∀ W, Calls Try.prog 19 #[.string (txtOf l1)] W (SaysB (.bool true) W)) := fun W => by
      refine (isLower_any (txtOf l1) W (by omega)).mono ?_
      rintro e w' ⟨rfl, rfl⟩
      exact ⟨by rw [u1], Below.refl _ _⟩
    have N1 := Lib.hid n1
    have N2 := Lib.hid n2
    have N3 := Lib.hid n3
    have N4 := Lib.hid n4
    have N5 := Lib.hid n5
    have M1 := Lib.hid hL1
    have M2 := Lib.hid hL2
    have M3 := Lib.hid hL3
    have M4 := Lib.hid hL4
    have M5 := Lib.hid hL5
    have KS : ∀ w', Below wc.heap.size wc w' → (w'.cell? ⟨p1, 0, none⟩ = some (.string (txtOf l1)) ∧ w'.cell? ⟨p1, 1, none⟩ = some (.slice A1 (runN l1) c1) ∧ w'.cell? ⟨p2, 0, none⟩ = some (.string (txtOf l2)) ∧ w'.cell? ⟨p2, 1, none⟩ = some (.slice A2 (runN l2) c2) ∧ w'.cell? ⟨p3, 0, none⟩ = some (.string (txtOf l3)) ∧ w'.cell? ⟨p3, 1, none⟩ = some (.slice A3 (runN l3) c3) ∧ w'.cell? ⟨p4, 0, none⟩ = some (.string (txtOf l4)) ∧ w'.cell? ⟨p4, 1, none⟩ = some (.slice A4 (runN l4) c4) ∧ w'.cell? ⟨p5, 0, none⟩ = some (.string (txtOf l5)) ∧ w'.cell? ⟨p5, 1, none⟩ = some (.slice A5 (runN l5) c5) ∧ Below wc.heap.size wc w') := fun w' h =>
      ⟨(h.cell hW1.lt).trans (hW1.at_ 0), (h.cell hW1.lt).trans (hW1.at_ 1), (h.cell hW2.lt).trans (hW2.at_ 0), (h.cell hW2.lt).trans (hW2.at_ 1), (h.cell hW3.lt).trans (hW3.at_ 0), (h.cell hW3.lt).trans (hW3.at_ 1), (h.cell hW4.lt).trans (hW4.at_ 0), (h.cell hW4.lt).trans (hW4.at_ 1), (h.cell hW5.lt).trans (hW5.at_ 0), (h.cell hW5.lt).trans (hW5.at_ 1), h⟩
    have HKS := Lib.hid KS
    have HBF := Lib.hid hbF
    clear KS hbF hL1 hL2 hL3 hL4 hL5 n1 n2 n3 n4 n5 i1 i2 i3 i4 i5 t1 t2 t3 t4 t5 u1 z1 z2 z3 z4 z5 r1 r2 r3 r4 r5 hLi hLn hsz hbw hbc
    obtain ⟨q1, q2, q3, q4, q5, q6, q7, q8, q9, q10, _⟩ := HKS.out _ (Below.refl _ _)
    go_wp2_with fail
    go_region_held3 (fun w' => w'.cell? ⟨p1, 0, none⟩ = some (.string (txtOf l1)) ∧ w'.cell? ⟨p1, 1, none⟩ = some (.slice A1 (runN l1) c1) ∧ w'.cell? ⟨p2, 0, none⟩ = some (.string (txtOf l2)) ∧ w'.cell? ⟨p2, 1, none⟩ = some (.slice A2 (runN l2) c2) ∧ w'.cell? ⟨p3, 0, none⟩ = some (.string (txtOf l3)) ∧ w'.cell? ⟨p3, 1, none⟩ = some (.slice A3 (runN l3) c3) ∧ w'.cell? ⟨p4, 0, none⟩ = some (.string (txtOf l4)) ∧ w'.cell? ⟨p4, 1, none⟩ = some (.slice A4 (runN l4) c4) ∧ w'.cell? ⟨p5, 0, none⟩ = some (.string (txtOf l5)) ∧ w'.cell? ⟨p5, 1, none⟩ = some (.slice A5 (runN l5) c5) ∧ Below wc.heap.size wc w')
      (first
        | exact HKS.out _ (Below.drew (Below.refl _ _))
        | exact HKS.out _ hK
        | (go_split_ands; exact HKS.out _ (by assumption)))
      (first
        | (go_at_call 11; refine (F1.out _ ?_).mono ?_; (go_split_ands; assumption); rintro e wa1 ⟨D1, k1, rfl, hd1, hb1⟩; have HD1 := Lib.hid hd1; clear hd1; have hK : Below wc.heap.size wc wa1 := (by go_split_ands; exact below_next (by assumption) (Nat.le_refl _) hb1))
        | (go_at_call_of 21 (D1); refine (same_again l1 (by have := N1.out; omega) _ D1 k1 A1 c1 HD1.out (M1.out.next (by go_split_ands; assumption) (Nat.le_refl _))).mono ?_; rintro e wb1 ⟨rfl, hc1⟩; have hK : Below wc.heap.size wc wb1 := (by go_split_ands; exact below_next (by assumption) (Nat.le_refl _) hc1))
        | (go_at_call 13; refine (F2.out _ ?_).mono ?_; (go_split_ands; assumption); rintro e wa2 ⟨D2, k2, rfl, hd2, hb2⟩; have HD2 := Lib.hid hd2; clear hd2; have hK : Below wc.heap.size wc wa2 := (by go_split_ands; exact below_next (by assumption) (Nat.le_refl _) hb2))
        | (go_at_call_of 21 (D2); refine (same_again l2 (by have := N2.out; omega) _ D2 k2 A2 c2 HD2.out (M2.out.next (by go_split_ands; assumption) (Nat.le_refl _))).mono ?_; rintro e wb2 ⟨rfl, hc2⟩; have hK : Below wc.heap.size wc wb2 := (by go_split_ands; exact below_next (by assumption) (Nat.le_refl _) hc2))
        | (go_at_call 15; refine (F3.out _ ?_).mono ?_; (go_split_ands; assumption); rintro e wa3 ⟨D3, k3, rfl, hd3, hb3⟩; have HD3 := Lib.hid hd3; clear hd3; have hK : Below wc.heap.size wc wa3 := (by go_split_ands; exact below_next (by assumption) (Nat.le_refl _) hb3))
        | (go_at_call_of 21 (D3); refine (same_again l3 (by have := N3.out; omega) _ D3 k3 A3 c3 HD3.out (M3.out.next (by go_split_ands; assumption) (Nat.le_refl _))).mono ?_; rintro e wb3 ⟨rfl, hc3⟩; have hK : Below wc.heap.size wc wb3 := (by go_split_ands; exact below_next (by assumption) (Nat.le_refl _) hc3))
        | (go_at_call 16; refine (F4.out _ ?_).mono ?_; (go_split_ands; assumption); rintro e wa4 ⟨D4, k4, rfl, hd4, hb4⟩; have HD4 := Lib.hid hd4; clear hd4; have hK : Below wc.heap.size wc wa4 := (by go_split_ands; exact below_next (by assumption) (Nat.le_refl _) hb4))
        | (go_at_call_of 21 (D4); refine (same_again l4 (by have := N4.out; omega) _ D4 k4 A4 c4 HD4.out (M4.out.next (by go_split_ands; assumption) (Nat.le_refl _))).mono ?_; rintro e wb4 ⟨rfl, hc4⟩; have hK : Below wc.heap.size wc wb4 := (by go_split_ands; exact below_next (by assumption) (Nat.le_refl _) hc4))
        | (go_at_call 20; refine (F5.out _ ?_).mono ?_; (go_split_ands; assumption); rintro e wa5 ⟨D5, k5, rfl, hd5, hb5⟩; have HD5 := Lib.hid hd5; clear hd5; have hK : Below wc.heap.size wc wa5 := (by go_split_ands; exact below_next (by assumption) (Nat.le_refl _) hb5))
        | (go_at_call_of 21 (D5); refine (same_again l5 (by have := N5.out; omega) _ D5 k5 A5 c5 HD5.out (M5.out.next (by go_split_ands; assumption) (Nat.le_refl _))).mono ?_; rintro e wb5 ⟨rfl, hc5⟩; have hK : Below wc.heap.size wc wb5 := (by go_split_ands; exact below_next (by assumption) (Nat.le_refl _) hc5))
        | (go_at_call 19; refine (F6.out _).mono ?_; rintro e wz ⟨rfl, hz⟩; have hK : Below wc.heap.size wc wz := (by go_split_ands; exact below_next (by assumption) (Nat.le_refl _) hz)))
    all_goals
      go_wp2_with fail
      go_ret
      exact ⟨rfl, HBF.out.trans (hK.mono (by have := HBF.out.size; omega))⟩

end Go.Proofs.Ytcaehaikjgcamaa.mk
namespace Go.Proofs.Ytcaehaikjgcamaa.foldTwice
open Go.ChangeShapes Go.WideShapes Go.ChangeAt Go.RowKit Go.Proofs.Ytcaehaikjgcamaa.mk

theorem contract (H : Type) (enc : TypeId × Value → H) (W : World) (args : Array Value) (ds gs : List (DataW H)) (before : List MemPlace) (base : Nat)
    (hval : ∀ (j : Nat) t v, Try.f5.params[j]? = some t → args[j]? = some v → Value.okWide Try.prog W .any base t v)
    (hW : DataW.Whole enc Try.prog Try.f5.params.toList Rows.foldTwiceSpec.vars false W args.toList ds gs before) (hk : Rows.uptoSmall H (ds ++ gs) = true) :
    Calls Try.prog 5 args W fun e W' => ∃ v, e = .returned v ∧ Rows.foldTwiceSpec.post enc Try.prog Try.f5 false true false false W args v W' := by
  obtain ⟨p, q, hA0, hV, rfl, hfz, hnd⟩ := id hW
  have hA : DataW.TrodAll enc Try.prog W 0 (fun _ => true) true Try.f5.params.toList args.toList ds p := hA0
  rw [Try.params5] at hA hval
  obtain ⟨v0, vs0, d0, ds0, p0, q0, hargs, rfl, rfl, h0, r0⟩ := trodAll_cons hA
  obtain ⟨v1, vs1, d1, ds1, p1, q1, rfl, rfl, rfl, h1, r1⟩ := trodAll_cons r0
  obtain ⟨rfl, rfl, rfl⟩ := trodAll_nil r1
  obtain rfl : args = #[v0, v1] := by cases args; simp_all
  obtain ⟨rfl, rfl⟩ := trodVars_none hV
  have hbk := bulk_bound hk
  simp only [List.append_nil, Rows.uptoBulkAll] at hbk
  obtain ⟨y, rfl, hy⟩ := open_txt (hval 1 9 v1 rfl rfl) h1
  obtain ⟨a, rfl, hoka, _, _, hsa⟩ := open_str (hval 0 24 v0 rfl rfl) h0 (by omega)
  refine (twice_any a y W hoka (by omega) (by omega)).mono fun e W' ⟨he, hb⟩ => ?_
  subst he
  exact ⟨_, rfl, law_post (tb := 4) laidOut hW rfl ⟨rfl, rfl, rfl⟩ (by rw [Try.params5]; exact readable_all (by kernel_rfl)) rfl Try.underlying4 hb⟩

set_option maxRecDepth 100000 in
theorem lifted (os : Os) (started : os.Started) (H : Type) (enc : TypeId × Value → H) (F : Stop.Interp) :
    ReturnsInHanded {} Try.checked os 5 .any ((Rows.OpenSpec.upto Rows.foldTwiceSpec).pre6 enc Try.prog Try.f5 Rows.foldTwiceUptoRow.domain false) (((Rows.OpenSpec.upto Rows.foldTwiceSpec).at F).post enc Try.prog Try.f5 false true false false) := by
  refine returnsInHanded_of_cond (C := Try.checked) (s := Rows.OpenSpec.upto Rows.foldTwiceSpec) (k := Rows.uptoSmall) rfl own started (by kernel_rfl) Try.func5
    (OpenSpec.witness (enc := enc) (C := Try.checked) (s := Rows.OpenSpec.upto Rows.foldTwiceSpec) (k := Rows.uptoSmall) rfl false ⟨#[], #[.agg #[.string .empty, .slice none 0 0], .string .empty], []⟩ 8 (by kernel_rfl) (by kernel_rfl) (by kernel_rfl)
      (x := ([.agg [.lit (.string []), .nil], .lit (.string [])], [], [])) (by kernel_rfl) rfl (by kernel_rfl)) ?_
  intro W base args ds gs before hval hW _ hk _
  exact contract H enc W args ds gs before base hval hW hk

theorem proved : Rows.FoldTwiceUptoSaid :=
  OpenClaim.holds_of_cond 5 Try.f5 rfl rfl rfl rfl rfl rfl rfl ⟨rfl, rfl, rfl, rfl, rfl⟩ rfl rfl rfl rfl rfl (by kernel_rfl) Try.func5 (by kernel_rfl)
    (of_decide_eq_true (by kernel_rfl)) (by unfold Func.isWrapper; first | (rw [if_pos (by decide +kernel)]; kernel_rfl) | (rw [if_neg (by decide +kernel)]; exact ⟨rfl, rfl⟩))
    (fun os started H enc _ F => lifted os started H enc F)

end Go.Proofs.Ytcaehaikjgcamaa.foldTwice
