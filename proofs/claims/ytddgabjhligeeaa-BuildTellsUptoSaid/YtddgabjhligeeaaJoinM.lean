/-
  The contract of mark's Same.
-/
import Derived.Test.YtddgabjhligeeaaJoinI
import Derived.Test.YtddgabjhligeeaaJoinJ
import Derived.Deep.RegionHeld3
import Derived.WalkSpells
namespace Go.Proofs.Ytddgabjhligeeaa.mk
open Go.RowKit

/-- a labelled text is told, in new memory -/
def Tells (s : ByteArray) (rs : List (Int × Int)) (w : World) (e : Ending) (w' : World) : Prop :=
  ∃ v, e = .returned (.agg #[.string s, v]) ∧ w'.ownsRow w.heap.size 72 2 v rs.length (runCells rs) ∧ Below w.heap.size w w'

/-- behind the store of an answer into its own block -/
theorem tells_end {w w2 : World} {s : ByteArray} {rs : List (Int × Int)} {v : Value} {g : Nat} (hg : w.heap.size ≤ g) (hown : w2.ownsRow (g + 1) 72 2 v rs.length (runCells rs)) (hb : Below w.heap.size w w2) :
    Tells s rs w (.returned (.agg #[.string s, v])) ((w2.setCell ⟨g, 0, none⟩ (.string s)).setCell ⟨g, 1, none⟩ v) := by
  refine ⟨v, rfl, own_mono (base := g + 1) (own_far (own_far hown _ (fun h => ?_) _) _ (fun h => ?_) _) (by omega), (hb.setCell hg _).setCell hg _⟩
  · have := (hown.lt _ h).1; simp at this; omega
  · have := (hown.lt _ h).1; simp at this; omega
theorem below_next {B : Nat} {w0 w w1 : World} (h : Below B w0 w) (hz : B ≤ w0.heap.size) (h2 : Below w.heap.size w w1) : Below B w0 w1 := h.trans (h2.mono (Nat.le_trans hz h.size))
theorem Lies.next {B : Nat} {w0 w : World} {A : Option Addr} {xs : List Value} (h : Lies w0 B A xs) (hb : Below B w0 w) (hz : B ≤ w0.heap.size) : Lies w w.heap.size A xs := (h.below hb).mono (Nat.le_trans hz hb.size)
theorem own_keep {w w' : World} {base : Nat} {e : TypeId} {size n : Nat} {v : Value} {xs : List Value} (h : w.ownsRow base e size v n xs) (hb : Below w.heap.size w w') : w'.ownsRow base e size v n xs :=
  own_same h fun g hg => hb.block g (h.lt g hg).2
theorem below_made {w w2 : World} {o : Obj} (h : Below (w.heap.size + 1) (w.alloc o) w2) : Below w.heap.size w w2 := ((Below.refl _ _).alloc (Nat.le_refl _) _).trans (h.mono (Nat.le_succ _))

set_option maxHeartbeats 1000000 in
set_option maxRecDepth 100000 in
theorem of_any (s : ByteArray) (o : Int) (w : World) (hs : s.size ≤ 4294967296) :
    Calls Try.prog 13 #[.string s, .int .i64 o] w (Tells s (comp (List.replicate s.size (nearO o))) w) := by
  go_enter Try.func13, Try.ntmps13
  go_wp2_with fail
  refine (clone_any s _ (by omega)).mono ?_
  rintro e w1 ⟨rfl, hb1⟩
  simp only [World.size_alloc] at hb1
  have hz1 := hb1.size
  simp only [World.size_alloc] at hz1
  have hW : Whole w1 w.heap.size 30 #[.string ⟨#[]⟩, .slice none 0 0] := (Whole.made w _ _).below hb1 (Nat.lt_succ_self _)
  go_wp2_with fail
  refine (nearest_any _ _).mono ?_
  rintro e w' ⟨rfl, rfl⟩
  go_wp2_with fail
  refine (join_comp (w.heap.size + 1) (.slice none 0 0) [] (s.size : Int) (nearO o) _ (World.ownsRow_nil _ _ _ _) (by omega) (by simp) (by omega)).mono ?_
  rintro e w2 hj
  obtain ⟨v, rfl, hown, hg2, _⟩ := hj
  have hW2 := hW.grown hg2 (by simp [Value.ownBlock])
  have hb2 : Below (w.heap.size + 1) (w.alloc (.cells #[.string ⟨#[]⟩, .slice none 0 0] 30)) w2 := hb1.grown hg2 (by omega) (by simp [Value.ownBlock])
  obtain ⟨A, c, rfl, _, _, _⟩ := own_form hown
  have f0 := hW2.free 0
  have f1 := hW2.free 1
  have c0 : w2.cell? ⟨w.heap.size, 0, none⟩ = some (.string ⟨#[]⟩) := hW2.at_ 0
  have c1 : w2.cell? ⟨w.heap.size, 1, none⟩ = some (.slice none 0 0) := hW2.at_ 1
  rw [List.nil_append, Int.toNat_natCast] at hown
  have HO := Lib.hid hown
  clear hown hg2 hb1
  simp only [List.nil_append, Int.toNat_natCast] at *
  generalize comp (List.replicate s.size (nearO o)) = q at *
  go_wp2
  refine bodyPost_ret (v := .agg #[.string s, .slice A q.length c]) ?_ rfl ?_
  · simp [results, Try.results13, go_sem, c0, c1]
  · exact tells_end (Nat.le_refl _) HO.out (below_made hb2)

set_option maxHeartbeats 2000000 in
set_option maxRecDepth 100000 in
theorem fix_any (s : ByteArray) (A : Option Addr) (n c : Nat) (rs : List (Int × Int)) (w : World) (hl : Lies w w.heap.size A (runCells rs)) (hn : rs.length = n) (hs : s.size ≤ 4294967296) (hn2 : n ≤ 4294967296) :
    Calls Try.prog 20 #[.agg #[.string s, .slice A n c]] w (Tells s (taken s.size rs) w) := by
  have HN := Lib.hid hn
  clear hn
  go_enter Try.func20, Try.ntmps20
  go_wp2_with fail
  generalize hw0 : (w.alloc (.cells #[.string s, .slice A n c] 30)).alloc (.cells #[.string ⟨#[]⟩, .slice none 0 0] 30) = w0
  have y0 : Whole w0 w.heap.size 30 #[.string s, .slice A n c] := by rw [← hw0]; exact (Whole.made w _ _).alloc _
  have y1 : Whole w0 (w.heap.size + 1) 30 #[.string ⟨#[]⟩, .slice none 0 0] := by
    rw [← hw0]
    have h := Whole.made (w.alloc (.cells #[.string s, .slice A n c] 30)) 30 #[.string ⟨#[]⟩, .slice none 0 0]
    simp only [World.size_alloc] at h
    exact h
  have hz0 : w.heap.size + 2 ≤ w0.heap.size := by rw [← hw0]; simp
  have hz1 : w.heap.size + 1 ≤ w0.heap.size := by omega
  have hl0 : Lies w0 (w.heap.size + 1) A (runCells rs) := by rw [← hw0]; exact ((hl.alloc (Nat.le_refl _) _).alloc (by simp) _).mono (by omega)
  have hb0 : Below w.heap.size w w0 := by rw [← hw0]; exact ((Below.refl _ _).alloc (Nat.le_refl _) _).alloc (by simp) _
  have HW := Lib.hid hw0
  clear hw0
  have c0 : w0.cell? ⟨w.heap.size, 0, none⟩ = some (.string s) := y0.at_ 0
  have c1 : w0.cell? ⟨w.heap.size, 1, none⟩ = some (.slice A n c) := y0.at_ 1
  have KS : ∀ w', Below (w.heap.size + 1) w0 w' → w'.cell? ⟨w.heap.size, 0, none⟩ = some (.string s) ∧ w'.cell? ⟨w.heap.size, 1, none⟩ = some (.slice A n c) ∧ Below (w.heap.size + 1) w0 w' := fun w' h =>
    ⟨(h.cell (Nat.lt_succ_self _)).trans (y0.at_ 0), (h.cell (Nat.lt_succ_self _)).trans (y0.at_ 1), h⟩
  have HKS := Lib.hid KS
  clear KS
  have y1' := y1.drew
  go_region_held3 (fun w' => w'.cell? ⟨w.heap.size, 0, none⟩ = some (.string s) ∧ w'.cell? ⟨w.heap.size, 1, none⟩ = some (.slice A n c) ∧ Below (w.heap.size + 1) w0 w')
    (first
      | exact HKS.out _ (Below.drew (Below.refl _ _))
      | (go_split_ands; exact HKS.out _ (by assumption))
      | (go_split_ands; exact HKS.out _ (below_next (by assumption) hz1 hbC))
      | (go_split_ands; exact HKS.out _ (below_next (by assumption) hz1 hbT))
      | (go_split_ands; refine HKS.out _ ?_; refine Below.setCell (p := ⟨w.heap.size + 1, 1, none⟩) ?_ (Nat.le_refl _) _; refine Below.setCell (p := ⟨w.heap.size + 1, 0, none⟩) ?_ (Nat.le_refl _) _; assumption))
    (first
      | (go_at_call 21; refine (clone_any s _ (by omega)).mono ?_; rintro e w1 ⟨rfl, hbC⟩; have hwC : Whole w1 (w.heap.size + 1) 30 #[.string ⟨#[]⟩, .slice none 0 0] := Whole.below (by assumption) hbC (Whole.lt (by assumption)); have c10 := hwC.at_ 0; have c11 := hwC.at_ 1; have f10 := hwC.free 0; have f11 := hwC.free 1)
      | (go_at_call 31; refine (taken_any s A n c rs _ ?_ HN.out hs hn2).mono ?_; (go_split_ands; exact hl0.next (by assumption) hz1); rintro e w2 ⟨v, rfl, hown, hbT⟩; obtain ⟨A', c', rfl, _, _, _⟩ := own_form hown; have hwT : Whole w2 (w.heap.size + 1) 30 #[.string ⟨#[]⟩, .slice none 0 0] := Whole.below (by assumption) hbT (Whole.lt (by assumption)); have c20 := hwT.at_ 0; have c21 := hwT.at_ 1; have f20 := hwT.free 0; have f21 := hwT.free 1))
  all_goals
    go_wp2
    refine bodyPost_ret (v := .agg #[.string s, .slice A' (taken s.size rs).length c']) ?_ rfl ?_
    · simp [results, Try.results20, go_sem, *]
    · first
        | exact tells_end (g := w.heap.size + 1) (Nat.le_succ _) (own_mono hown (by have := hbC.size; simp at this; omega)) (below_next (below_next hb0.drew (Nat.le_refl _) hbC) (Nat.le_refl _) hbT)
        | exact tells_end (g := w.heap.size + 1) (Nat.le_succ _) (own_mono (own_keep hown hbC) (by simp; omega)) (below_next (below_next hb0.drew (Nat.le_refl _) hbT) (Nat.le_refl _) hbC)

theorem field_runs (s : ByteArray) (A : Option Addr) (n c : Nat) (w : World) : (Instr.field 30 (.agg #[.string s, .slice A n c]) 1).run Try.prog w = .ok (.slice A n c) w := by kernel_rfl
theorem field_text (s : ByteArray) (A : Option Addr) (n c : Nat) (w : World) : (Instr.field 30 (.agg #[.string s, .slice A n c]) 0).run Try.prog w = .ok (.string s) w := by kernel_rfl

end Go.Proofs.Ytddgabjhligeeaa.mk

namespace Go.Proofs.Ytddgabjhligeeaa.mk
open Go.RowKit

/-- a labelled text as it lies in memory -/
structure LT where
  s : ByteArray
  A : Option Addr
  n : Nat
  c : Nat
  rs : List (Int × Int)
def LT.v (t : LT) : Value := .agg #[.string t.s, .slice t.A t.n t.c]
def LT.ok (w : World) (B : Nat) (t : LT) : Prop := Lies w B t.A (runCells t.rs) ∧ t.rs.length = t.n ∧ t.n ≤ 4294967296 ∧ t.s.size ≤ 4294967296
def LT.os (t : LT) : List Int := origins t.s.size t.rs
def LT.bs (t : LT) : List UInt8 := t.s.data.toList
theorem LT.os_length (t : LT) : t.os.length = t.s.size := origins_length _ _
theorem LT.bs_length (t : LT) : t.bs.length = t.s.size := by unfold LT.bs; rw [Array.length_toList]; rfl
theorem LT.ok.next {w0 w : World} {B : Nat} {t : LT} (h : t.ok w0 B) (hb : Below B w0 w) (hz : B ≤ w0.heap.size) : t.ok w w.heap.size := ⟨h.1.next hb hz, h.2⟩

def ltCells (ts : List LT) : List Value := ts.flatMap fun t => [.string t.s, .slice t.A t.n t.c]
theorem ltCells_length (ts : List LT) : (ltCells ts).length = ts.length * 2 := by
  induction ts with
  | nil => rfl
  | cons r l ih => simp only [ltCells, List.flatMap_cons, List.length_append, List.length_cons, List.length_nil] at ih ⊢; omega
theorem ltCells_at (ts : List LT) (k : Nat) (t : LT) (h : ts[k]? = some t) : (ltCells ts)[k * 2]? = some (.string t.s) ∧ (ltCells ts)[k * 2 + 1]? = some (.slice t.A t.n t.c) := by
  induction ts generalizing k with
  | nil => simp at h
  | cons x ts ih =>
    have e : ltCells (x :: ts) = .string x.s :: .slice x.A x.n x.c :: ltCells ts := rfl
    rw [e]
    cases k with
    | zero => simp at h; subst h; simp
    | succ k =>
      have := ih k (by simpa using h)
      rw [show (k + 1) * 2 = k * 2 + 1 + 1 by omega]
      simpa using this
theorem Lies.lt {w : World} {B : Nat} {A : Option Addr} {ts : List LT} (h : Lies w B A (ltCells ts)) {k : Nat} (hk : k < ts.length) :
    ∃ ad t, A = some ad ∧ ad.block < B ∧ w.cell? (ad.add (k * 2)) = some (.string t.s) ∧ w.cell? ⟨(ad.add (k * 2)).block, (ad.add (k * 2)).off + 1, none⟩ = some (.slice t.A t.n t.c) ∧ Hid (ts[k]? = some t) := by
  obtain ⟨h1, h2⟩ := ltCells_at ts k ts[k] (List.getElem?_eq_getElem hk)
  obtain ⟨ad, e, hb, hc⟩ := h _ _ h1
  obtain ⟨ad', e', _, hc'⟩ := h _ _ h2
  rw [e] at e'
  injection e' with e'
  subst e'
  rw [addr_next] at hc'
  exact ⟨ad, ts[k], e, hb, hc, hc', List.getElem?_eq_getElem hk⟩

/-- a builder stays while its block and its row of bytes stay -/
theorem builder_same {T B b : Nat} {bs : List Value} {w w' : World} (h : Lib.IsBuilderF T 5 B b bs w) (hk : ∀ (k : Nat) (o : Obj), w.heap[k]? = some o → (∀ c fz, o ≠ .cells c 72 fz) → w'.heap[k]? = some o) (hT : T ≠ 72) : Lib.IsBuilderF T 5 B b bs w' := by
  have key : ∀ p, Lib.BuilderAtF T 5 B b p bs w → Lib.BuilderAtF T 5 B b p bs w' := by
    rintro p ⟨hB, v, hbk, hown, hne⟩
    refine ⟨hB, v, hk _ _ hbk (by intro c fz e; injection e with _ e _; exact hT e), ⟨hown.1, ?_⟩, hne⟩
    rcases hown.2 with h0 | ⟨g, cap, cur, fz, hv, hg, hgg, r⟩
    · exact .inl h0
    · exact .inr ⟨g, cap, cur, fz, hv, hg, hk _ _ hgg (by intro c fz' e; injection e with _ e _; exact absurd e (by decide)), r⟩
  rcases h with h | h
  · exact .inl (key _ h)
  · exact .inr (key _ h)
theorem builder_below {T B b : Nat} {bs : List Value} {w w' : World} (h : Lib.IsBuilderF T 5 B b bs w) (hb : Below w.heap.size w w') (hT : T ≠ 72) : Lib.IsBuilderF T 5 B b bs w' :=
  builder_same h (fun k _ hk _ => (hb.block k (Array.getElem?_eq_some_iff.1 hk).1).trans hk) hT
/-- a row of runs lies in a block of runs -/
theorem own_kind {w : World} {base n : Nat} {e : TypeId} {size : Nat} {v : Value} {xs : List Value} (h : w.ownsRow base e size v n xs) {g : Nat} (hg : v.ownBlock = some g) : ∃ cur, w.heap[g]? = some (.cells cur e (0, 0)) := by
  rcases h.2 with ⟨rfl, _⟩ | ⟨g', cap, cur, rfl, _, hh, _⟩
  · simp [Value.ownBlock] at hg
  · have : g' = g := by simpa [Value.ownBlock] using hg
    subst this; exact ⟨cur, hh⟩
theorem builder_grown {T B b : Nat} {bs : List Value} {w w' : World} {base n : Nat} {v : Value} {xs : List Value} (h : Lib.IsBuilderF T 5 B b bs w) (hown : w.ownsRow base 72 2 v n xs) (hg : w.grownBy w' v.ownBlock) (hT : T ≠ 72) : Lib.IsBuilderF T 5 B b bs w' := by
  refine builder_same h (fun k o hk hno => ?_) hT
  rw [hg.block k (Array.getElem?_eq_some_iff.1 hk).1 (fun e => ?_)]
  · exact hk
  · obtain ⟨cur, hc⟩ := own_kind hown e.symm
    rw [hk] at hc
    injection hc with hc
    exact hno _ _ hc
theorem builder_alloc {T B b : Nat} {bs : List Value} {w : World} (h : Lib.IsBuilderF T 5 B b bs w) (o : Obj) (hT : T ≠ 72) : Lib.IsBuilderF T 5 B b bs (w.alloc o) :=
  builder_below h ((Below.refl _ _).alloc (Nat.le_refl _) o) hT
/-- a row of runs stays while a builder writes -/
theorem own_others {w w' : World} {base n : Nat} {v : Value} {xs : List Value} {b : Nat} (h : w.ownsRow base 72 2 v n xs) (hk : Lib.OthersKept 5 (some b) w w') (hb : b < base) : w'.ownsRow base 72 2 v n xs := by
  refine own_same h fun g hg => ?_
  obtain ⟨cur, hc⟩ := own_kind h hg
  rw [hk g _ hc (by have := (h.lt g hg).1; intro e; injection e with e; omega) (by intro c fz e; injection e with _ e _; exact absurd e (by decide)), hc]
theorem strCells_byteCells (s : ByteArray) : Lib.strCells s = Lib.byteCells s.data.toList := rfl
theorem byteCells_append (a b : List UInt8) : Lib.byteCells (a ++ b) = Lib.byteCells a ++ Lib.byteCells b := by simp [Lib.byteCells]

/-- bytes and origins of texts, one behind the other -/
def catBs (ts : List LT) : List UInt8 := ts.flatMap LT.bs
def catOs (ts : List LT) : List Int := ts.flatMap LT.os
theorem catBs_length (ts : List LT) : (catBs ts).length = (catOs ts).length := by
  induction ts with
  | nil => rfl
  | cons t ts ih => simp only [catBs, catOs, List.flatMap_cons, List.length_append, LT.os_length, LT.bs_length] at ih ⊢; omega
theorem cat_take_le (ts : List LT) (k : Nat) : (catOs (ts.take k)).length ≤ (catOs ts).length := by
  have h : (catOs (ts.take k ++ ts.drop k)).length = (catOs ts).length := by rw [List.take_append_drop]
  rw [← h]
  unfold catOs
  rw [List.flatMap_append, List.length_append]
  omega
theorem expand_take_le (l : List Int) (j : Nat) : (expand ((comp l).take j)).length ≤ l.length := by
  have : l.length = (expand (comp l)).length := by rw [expand_comp]
  rw [this]
  have h : (expand ((comp l).take j ++ (comp l).drop j)).length = (expand (comp l)).length := by rw [List.take_append_drop]
  rw [← h, expand_append, List.length_append]
  omega
theorem catOs_next {ts : List LT} {k : Nat} {t : LT} (h : ts[k]? = some t) : catOs (ts.take (k + 1)) = catOs (ts.take k) ++ t.os := by rw [take_next h]; simp [catOs]
theorem catBs_next {ts : List LT} {k : Nat} {t : LT} (h : ts[k]? = some t) : catBs (ts.take (k + 1)) = catBs (ts.take k) ++ t.bs := by rw [take_next h]; simp [catBs]

def CatOut (ts : List LT) (m B : Nat) (w0 : World) (r i : Value) (wr : World) : Prop :=
  ∃ k : Nat, k ≤ m ∧ i = .int .i64 k ∧ wr.ownsRow (B + 2) 72 2 r (comp (catOs (ts.take k))).length (runCells (comp (catOs (ts.take k)))) ∧
    Lib.IsBuilderF 88 5 (B + 1) (B + 1) (Lib.byteCells (catBs (ts.take k))) wr ∧ Below (B + 1) w0 wr
def CatIn (os qs : List Int) (bs : List UInt8) (ta : Value) (Bt B : Nat) (w0 : World) (r i : Value) (wr : World) : Prop :=
  ∃ j : Nat, j ≤ (comp qs).length ∧ i = .int .i64 j ∧ wr.ownsRow (B + 2) 72 2 r (comp (os ++ expand ((comp qs).take j))).length (runCells (comp (os ++ expand ((comp qs).take j)))) ∧
    wr.ownsRow Bt 72 2 ta (comp qs).length (runCells (comp qs)) ∧ (∀ g, r.ownBlock = some g → ta.ownBlock ≠ some g) ∧
    Lib.IsBuilderF 88 5 (B + 1) (B + 1) (Lib.byteCells bs) wr ∧ Below (B + 1) w0 wr

/-- a round of the inner loop: what join leaves -/
theorem cat_in {os qs : List Int} {bs : List UInt8} {ta r v' : Value} {Bt B j : Nat} {w0 wr w' : World} {l o : Int} {ob : Obj} (hB : B + 2 ≤ wr.heap.size)
    (hr : (comp qs)[j]? = some (l, o)) (hown : wr.ownsRow (B + 2) 72 2 r (comp (os ++ expand ((comp qs).take j))).length (runCells (comp (os ++ expand ((comp qs).take j)))))
    (hta : wr.ownsRow Bt 72 2 ta (comp qs).length (runCells (comp qs))) (hne : ∀ g, r.ownBlock = some g → ta.ownBlock ≠ some g)
    (hbu : Lib.IsBuilderF 88 5 (B + 1) (B + 1) (Lib.byteCells bs) wr) (hbw : Below (B + 1) w0 wr)
    (h1 : w'.ownsRow (B + 2) 72 2 v' (comp (os ++ expand ((comp qs).take j) ++ List.replicate l.toNat o)).length (runCells (comp (os ++ expand ((comp qs).take j) ++ List.replicate l.toNat o))))
    (hg : (wr.alloc ob).grownBy w' r.ownBlock) (hat : v'.ownBlock = r.ownBlock ∨ ∃ k, (wr.alloc ob).heap.size ≤ k ∧ v'.ownBlock = some k) :
    CatIn os qs bs ta Bt B w0 v' (.int .i64 ((j : Int) + 1)) w' := by
  have hj : j < (comp qs).length := (List.getElem?_eq_some_iff.1 hr).1
  have e : expand ((comp qs).take (j + 1)) = expand ((comp qs).take j) ++ List.replicate l.toNat o := by rw [take_next hr, expand_append]; simp [expand]
  refine ⟨j + 1, by omega, by simp, ?_, ?_, ?_, ?_, ?_⟩
  · rw [e, ← List.append_assoc]; exact h1
  · refine (hta.alloc ob).kept hg ?_
    cases hr : r.ownBlock with
    | none => cases ht : ta.ownBlock <;> simp
    | some g => exact .inr (hne g hr)
  · intro g hgv
    rcases hat with h | ⟨k, hk, h⟩
    · exact hne g (h.symm.trans hgv)
    · rw [h] at hgv
      injection hgv with hgv
      subst hgv
      intro e2
      have := (hta.lt _ e2).2
      simp at hk
      omega
  · exact builder_grown (builder_alloc hbu ob (by decide)) (hown.alloc ob) hg (by decide)
  · exact (hbw.alloc (by omega) ob).grown hg (by simp; omega) (fun k hk => by have := (hown.lt k hk).1; omega)

set_option maxHeartbeats 2000000 in
set_option maxRecDepth 100000 in
theorem cat_any (L : Option Addr) (m c : Nat) (ts : List LT) (w : World) (hl : Lies w w.heap.size L (ltCells ts)) (hm : ts.length = m) (hm2 : m ≤ 4294967296) (hok : ∀ t ∈ ts, t.ok w w.heap.size) (hsz : (catOs ts).length ≤ 4294967296) :
    Calls Try.prog 40 #[.slice L m c] w (Tells ⟨(catBs ts).toArray⟩ (comp (catOs ts)) w) := by
  have HM := Lib.hid hm
  have HOK := Lib.hid hok
  clear hm hok
  go_enter Try.func40, Try.ntmps40
  go_wp2_with fail
  generalize hw0 : (w.alloc (.cells #[.string ⟨#[]⟩, .slice none 0 0] 30)).alloc (.cells #[.pointer none, .slice none 0 0] 88) = w0
  have y0 : Whole w0 w.heap.size 30 #[.string ⟨#[]⟩, .slice none 0 0] := by rw [← hw0]; exact (Whole.made w _ _).alloc _
  have hz1 : w.heap.size + 2 ≤ w0.heap.size := by rw [← hw0]; simp
  have hz0 : w.heap.size + 1 ≤ w0.heap.size := by omega
  have hl0 : Lies w0 (w.heap.size + 1) L (ltCells ts) := by rw [← hw0]; exact ((hl.alloc (Nat.le_refl _) _).alloc (by simp) _).mono (by omega)
  have hb0 : Below w.heap.size w w0 := by rw [← hw0]; exact ((Below.refl _ _).alloc (Nat.le_refl _) _).alloc (by simp) _
  have hi0 : Lib.IsBuilderF 88 5 (w.heap.size + 1) (w.heap.size + 1) (Lib.byteCells []) w0 := by
    rw [← hw0]
    have h := Lib.fresh_isBuilder 88 5 (w.alloc (.cells #[.string ⟨#[]⟩, .slice none 0 0] 30))
    simp only [World.size_alloc] at h
    exact Lib.IsBuilderF.of h
  have HW := Lib.hid hw0
  clear hw0
  go_loopw [4, 11] (CatOut ts m w.heap.size w0) (fun _ i _ => m - (intOf i).toNat)
  case atStart => exact ⟨0, Nat.zero_le _, rfl, World.ownsRow_nil _ _ _ _, hi0, Below.refl _ _⟩
  case round =>
    obtain ⟨k, hk, rfl, hown, hbu, hbl⟩ := hrel
    have hws := hbl.size
    by_cases hlt : k < m
    · obtain ⟨ad, t, rfl, hb, hc1, hc2, HR⟩ := (hl0.below hbl).lt (k := k) (by rw [HM.out]; exact hlt)
      have htk := HOK.out t (List.mem_of_getElem? HR.out)
      have hlen1 := cat_take_le ts (k + 1)
      rw [catOs_next HR.out, List.length_append, LT.os_length] at hlen1
      have HOS := Lib.hid (catOs_next HR.out)
      have HBS := Lib.hid (catBs_next HR.out)
      have hbsl := catBs_length (ts.take k)
      generalize hos : catOs (ts.take k) = os at *
      generalize hbs : catBs (ts.take k) = bs at *
      have hbsl' : bs.length ≤ os.length := by omega
      have HX := Lib.hid htk
      have H1 := Lib.hid hos
      have H2 := Lib.hid hbs
      clear hos hbs htk hbsl
      go_wp2_with fail
      refine (writeString_any (w.heap.size + 1) (w.heap.size + 1) (Lib.byteCells bs) t.s _ (builder_alloc hbu _ (by decide)) (by rw [Lib.byteCells_length]; omega) (by simp; omega)).mono ?_
      rintro e w1 ⟨rfl, hbu1, hbl1, hoth1⟩
      have hcp : Whole w1 wr.heap.size 30 #[.string t.s, .slice t.A t.n t.c] := hoth1 _ _ (Whole.made wr _ _) (by intro e; injection e with e; omega) (by intro c fz e; injection e with _ e _; exact absurd e (by decide))
      have hown1 := own_others (hown.alloc _) hoth1 (by omega)
      have hbw1 : Below (w.heap.size + 1) w0 w1 := (hbl.alloc (by omega) _).trans hbl1
      have hws1 := hbl1.size
      simp only [World.size_alloc] at hws1
      have d0 : w1.cell? ⟨wr.heap.size, 0, none⟩ = some (.string t.s) := hcp.at_ 0
      have d1 : w1.cell? ⟨wr.heap.size, 1, none⟩ = some (.slice t.A t.n t.c) := hcp.at_ 1
      have hbu1' : Lib.IsBuilderF 88 5 (w.heap.size + 1) (w.heap.size + 1) (Lib.byteCells (bs ++ t.bs)) w1 := by
        rw [byteCells_append]; exact .inr hbu1
      have HLT : Lies w1 w1.heap.size t.A (runCells t.rs) := (HX.out.1.next hb0 (Nat.le_refl _)).mono (Nat.le_refl _) |> fun h => ((HX.out.1.below hb0).mono (Nat.le_succ _)).next hbw1 hz0
      clear hbu1 hoth1 hbl1 hown hbu hbl hc1 hc2
      go_wp2_with fail
      refine (taken_any t.s t.A t.n t.c t.rs _ HLT HX.out.2.1 HX.out.2.2.2 HX.out.2.2.1).mono ?_
      rintro e w2 ⟨ta, rfl, hta, hbT⟩
      have hown2 := own_keep hown1 hbT
      have hbu2 := builder_below hbu1' hbT (by decide)
      have hbw2 := below_next hbw1 hz0 hbT
      have hne0 : ∀ g, u4.ownBlock = some g → ta.ownBlock ≠ some g := fun g hg e => by have h1 := (hown1.lt g hg).2; have h2 := (hta.lt g e).1; omega
      obtain ⟨At, ct, rfl, _, _, _⟩ := own_form hta
      have hcl : (comp (origins t.s.size t.rs)).length ≤ t.s.size := by have h := comp_length_le (origins t.s.size t.rs); rw [origins_length] at h; exact h
      have hws2 := hbT.size
      clear hown1 hbu1' hbw1 d0 d1 hcp HLT hbT
      unfold taken at *
      generalize hqs : origins t.s.size t.rs = qs at *
      have hql : qs.length = t.s.size := by rw [← hqs]; exact origins_length _ _
      have HQS := Lib.hid hqs
      have HQL := Lib.hid hql
      have hql' : qs.length ≤ t.s.size := by omega
      clear hqs hql
      have HCAT := Lib.hid (show os ++ expand (comp qs) = os ++ t.os by rw [expand_comp, ← HQS.out]; rfl)
      go_wp2_with fail
      obtain ⟨wo, rfl⟩ : ∃ wo : World, wo = w2 := ⟨_, rfl⟩
      go_loopw [4, 21] (CatIn os qs (bs ++ t.bs) (.slice At (comp qs).length ct) w1.heap.size w.heap.size w0) (fun _ i _ => (comp qs).length - (intOf i).toNat)
      case atStart => exact ⟨0, Nat.zero_le _, rfl, by simpa [expand] using hown2, hta, hne0, hbu2, hbw2⟩
      case round =>
        obtain ⟨j, hj, rfl, hown3, hta3, hne3, hbu3, hbw3⟩ := hrel
        have hws3 := hbw3.size
        have hexl := expand_take_le qs j
        by_cases hjl : j < (comp qs).length
        · obtain ⟨ad', l, o, rfl, hbA, hd1, hd2, HR2⟩ := (Lies.own hta3).run (k := j) hjl
          have hlo : l ≤ qs.length := comp_le qs (l, o) (List.mem_of_getElem? HR2.out)
          have H3 := Lib.hid hown3
          have H4 := Lib.hid hta3
          have H5 := Lib.hid hne3
          clear hown3 hta3 hne3 hne0 hta hown2
          have hjb : j ≤ 4294967296 := by omega
          generalize hz : (comp qs).length = z at *
          have HZ := Lib.hid hz
          clear hz
          go_wp2_with fail
          refine (join_comp (w.heap.size + 2) u4 (os ++ expand ((comp qs).take j)) l o _ (H3.out.alloc _) (by simp; omega) (by rw [List.length_append]; omega) (by omega)).mono ?_
          rintro e w5 ⟨v', rfl, hown5, hg5, hat5⟩
          have HIN := Lib.hid (cat_in (by omega) HR2.out H3.out (by rw [HZ.out]; exact H4.out) H5.out hbu3 hbw3 hown5 hg5 hat5)
          clear hg5 hat5 hown5
          go_wp2
          go_roundw
          case rel => exact HIN.out
          case measure => simp [intOf]; omega
        · have H3 := hown3
          rw [List.take_of_length_le (by omega), HCAT.out, ← HOS.out] at H3
          have HB3 := hbu3
          rw [← HBS.out] at HB3
          generalize hz : (comp qs).length = z at *
          go_wp2
          go_roundw
          case rel => exact ⟨k + 1, by omega, by go_num, H3, HB3, hbw3⟩
          case measure => simp [intOf]; omega
    · have HT := Lib.hid (show ts.take k = ts from List.take_of_length_le (by have := HM.out; omega))
      rw [HT.out] at hown hbu
      go_wp2_with fail
      refine (Try.Builder_String_any_k (w.heap.size + 1) (w.heap.size + 1) (catBs ts) wr hbu (by omega)).mono ?_
      rintro e w1 ⟨rfl, _, hbl1, hoth⟩
      have hown1 := own_others hown hoth (by omega)
      have hW := (y0.below hbl (Nat.lt_succ_self _)).below hbl1 (Nat.lt_succ_self _)
      obtain ⟨A', c', rfl, _, _, _⟩ := own_form hown1
      have f0 := hW.free 0
      have f1 := hW.free 1
      have c0 : w1.cell? ⟨w.heap.size, 0, none⟩ = some (.string ⟨#[]⟩) := hW.at_ 0
      have c1 : w1.cell? ⟨w.heap.size, 1, none⟩ = some (.slice none 0 0) := hW.at_ 1
      have HO := Lib.hid hown1
      clear hown1 hown
      go_wp2
      refine bodyPost_ret (v := .agg #[.string ⟨(catBs ts).toArray⟩, .slice A' (comp (catOs ts)).length c']) ?_ rfl ?_
      · simp [results, Try.results40, go_sem, c0, c1]
      · exact tells_end (Nat.le_refl _) (own_mono HO.out (by omega)) (hb0.trans ((hbl.trans hbl1).mono (Nat.le_succ _)))

end Go.Proofs.Ytddgabjhligeeaa.mk

namespace Go.Proofs.Ytddgabjhligeeaa.mk
open Go.RowKit

theorem ret_bool' {a b : Bool} (h : a = b) : Ending.returned (.bool a) = .returned (.bool b) := by rw [h]

def EqRel {α : Type} (rs qs : List α) (n : Nat) (w3 : World) (i : Value) (wr : World) : Prop :=
  ∃ k : Nat, k ≤ n ∧ i = .int .i64 k ∧ rs.take k = qs.take k ∧ Below w3.heap.size w3 wr

set_option maxHeartbeats 1000000 in
set_option maxRecDepth 100000 in
theorem refSame_any (A A' : Option Addr) (n z c c' : Nat) (rs qs : List (UInt8 × Int)) (w : World) (hl : Lies w w.heap.size A (chCells rs)) (hl' : Lies w w.heap.size A' (chCells qs)) (hn : rs.length = n) (hz : qs.length = z) (hn2 : n ≤ 4294967296) :
    Calls Try.prog 24 #[.slice A n c, .slice A' z c'] w fun e w' => e = .returned (.bool (decide (rs = qs))) ∧ Below w.heap.size w w' := by
  have HN := Lib.hid hn
  have HZ := Lib.hid hz
  clear hn hz
  by_cases hnz : n = z
  · have h1 : ((n : Int) != (z : Int)) = false := by rw [bne_eq_false_iff_eq]; omega
    have HNZ := Lib.hid hnz
    clear hnz
    go_enter Try.func24, Try.ntmps24
    go_wp2_with fail
    go_loopw [5] (EqRel rs qs n w) (fun i _ => n - (intOf i).toNat)
    case atStart => exact ⟨0, Nat.zero_le _, rfl, by simp, Below.refl _ _⟩
    case round =>
      obtain ⟨k, hk, rfl, heq, hb3⟩ := hrel
      have HE := Lib.hid heq
      clear heq
      by_cases hlt : k < n
      · obtain ⟨ad, a1, o1, rfl, hb, hc1, hc2, HR⟩ := (hl.below hb3).ch (k := k) (by rw [HN.out]; exact hlt)
        obtain ⟨ad', a2, o2, rfl, hb', hc1', hc2', HR'⟩ := (hl'.below hb3).ch (k := k) (by rw [HZ.out, ← HNZ.out]; exact hlt)
        have hlt' : k < z := by rw [← HNZ.out]; exact hlt
        have hk0 : (0 : Int) ≤ (k : Int) := Int.natCast_nonneg _
        have hk1 : (k : Int) < (n : Int) := by omega
        have hk2 : (k : Int) < (z : Int) := by omega
        by_cases hae : a1 = a2 ∧ o1 = o2
        · obtain ⟨rfl, rfl⟩ := hae
          go_wp2_with fail
          go_quiet (fail)
          go_wp2_with fail
          go_roundw
          case rel => exact ⟨k + 1, by omega, by go_num, by rw [take_next HR.out, take_next HR'.out, HE.out], hb3.drewN _⟩
          case measure => simp [intOf]; omega
        · have HF : Hid (decide (rs = qs) = false) := by
            show decide (rs = qs) = false
            rw [decide_eq_false_iff_not]
            intro h
            subst h
            have h1 := HR.out
            rw [HR'.out] at h1
            injection h1 with h1
            injection h1 with h1 h2
            exact hae ⟨h1.symm, h2.symm⟩
          by_cases ha : a1 = a2
          · have ho : (o1 == o2) = false := by rw [beq_eq_false_iff_ne]; exact fun h => hae ⟨ha, h⟩
            subst ha
            clear hae
            go_wp2_with fail
            go_quiet (fail)
            go_wp2_with fail
            go_ret
            exact ⟨ret_bool' HF.out.symm, hb3.drewN nq⟩
          · have ho : ((a1.toNat : Int) == (a2.toNat : Int)) = false := by rw [beq_eq_false_iff_ne]; intro h; exact ha (UInt8.toNat_inj.1 (by omega))
            clear hae
            go_wp2_with fail
            go_quiet (fail)
            go_wp2_with fail
            go_ret
            exact ⟨ret_bool' HF.out.symm, hb3.drewN nq⟩
      · have HT : Hid (decide (rs = qs) = true) := by
          show decide (rs = qs) = true
          rw [decide_eq_true_iff]
          have h1 := HE.out
          rw [List.take_of_length_le (by rw [HN.out]; omega), List.take_of_length_le (by rw [HZ.out, ← HNZ.out]; omega)] at h1
          exact h1
        go_wp2_with fail
        go_ret
        exact ⟨ret_bool' HT.out.symm, hb3⟩
  · have h1 : ((n : Int) != (z : Int)) = true := by rw [bne_iff_ne]; omega
    have HF : Hid (decide (rs = qs) = false) := by
      show decide (rs = qs) = false
      rw [decide_eq_false_iff_not]
      intro h
      subst h
      exact hnz (HN.out.symm.trans HZ.out)
    go_enter Try.func24, Try.ntmps24
    go_wp2_with fail
    go_ret
    exact ⟨ret_bool' HF.out.symm, Below.refl _ _⟩

end Go.Proofs.Ytddgabjhligeeaa.mk

namespace Go.Proofs.Ytddgabjhligeeaa.mk
open Go.RowKit

theorem pre_take (n : Nat) (rs : List (Int × Int)) : pre n rs = (rs.flatMap fun r => List.replicate r.1.toNat (nearO r.2)).take n := by
  induction rs using snocInd with
  | nil => simp [pre]
  | append_singleton rs r ih =>
    rw [pre_snoc, ih, List.flatMap_append, List.take_append, List.flatMap_singleton, List.take_replicate, List.length_take]
    congr 2
    omega
theorem mem_comp (q : List Int) : ∀ r ∈ comp q, r.2 ∈ q := by
  intro r hr
  have h := expand_comp q
  obtain ⟨a, b, e⟩ := List.append_of_mem hr
  have hp := comp_pos q r hr
  rw [e, expand_append] at h
  rw [← h]
  simp only [List.mem_append]
  right
  simp only [expand, List.flatMap_cons, List.mem_append]
  left
  exact List.mem_replicate.2 ⟨by omega, rfl⟩
theorem flatMap_same {α β : Type} {f g : α → List β} {l : List α} (h : ∀ x ∈ l, f x = g x) : l.flatMap f = l.flatMap g := by
  induction l with
  | nil => rfl
  | cons x l ih => rw [List.flatMap_cons, List.flatMap_cons, h x (by simp), ih (fun y hy => h y (by simp [hy]))]
theorem origins_told {q : List Int} (h : ∀ o ∈ q, 0 ≤ o ∧ o ≤ 65536) : origins q.length (comp q) = q := by
  have e : (comp q).flatMap (fun r => List.replicate r.1.toNat (nearO r.2)) = q := by
    have h1 : (comp q).flatMap (fun r => List.replicate r.1.toNat (nearO r.2)) = (comp q).flatMap (fun r => List.replicate r.1.toNat r.2) := by
      refine flatMap_same fun r hr => ?_
      have := h r.2 (mem_comp q r hr)
      rw [nearO_in this.1 this.2]
    rw [h1]
    exact expand_comp q
  have hp : pre q.length (comp q) = q := by rw [pre_take, e, List.take_of_length_le (Nat.le_refl _)]
  unfold origins
  rw [hp]
  simp

theorem LT.os_in (t : LT) : ∀ o ∈ t.os, 0 ≤ o ∧ o ≤ 65536 := origins_in _ _
/-- a labelled text as told, of bytes and origins -/
theorem LT.os_told {bs : List UInt8} {q : List Int} (A : Option Addr) (n c : Nat) (hl : q.length = bs.length) (h : ∀ o ∈ q, 0 ≤ o ∧ o ≤ 65536) : (LT.mk ⟨bs.toArray⟩ A n c (comp q)).os = q := by
  have e : (ByteArray.mk bs.toArray).size = q.length := by rw [hl]; show bs.toArray.size = _; simp
  unfold LT.os
  show origins (ByteArray.mk bs.toArray).size (comp q) = q
  rw [e, origins_told h]
theorem LT.bs_mk (bs : List UInt8) (A : Option Addr) (n c : Nat) (rs : List (Int × Int)) : (LT.mk ⟨bs.toArray⟩ A n c rs).bs = bs := by unfold LT.bs; rfl

end Go.Proofs.Ytddgabjhligeeaa.mk

namespace Go.Proofs.Ytddgabjhligeeaa.mk
open Go.RowKit

/-- origins that may be -/
def InR (l : List (UInt8 × Int)) : Prop := ∀ o ∈ l.map (·.2), 0 ≤ o ∧ o ≤ 65536
theorem InR.take {l : List (UInt8 × Int)} (h : InR l) (n : Nat) : InR (l.take n) := fun o ho => h o (by rw [List.map_take] at ho; exact List.mem_of_mem_take ho)
theorem InR.drop {l : List (UInt8 × Int)} (h : InR l) (n : Nat) : InR (l.drop n) := fun o ho => h o (by rw [List.map_drop] at ho; exact List.mem_of_mem_drop ho)
theorem InR.append {a b : List (UInt8 × Int)} (h : InR a) (k : InR b) : InR (a ++ b) := by
  intro o ho
  rw [List.map_append] at ho
  rcases List.mem_append.1 ho with ho | ho
  · exact h o ho
  · exact k o ho
theorem chars_told {l : List (UInt8 × Int)} (h : InR l) : chars (l.map (·.1)) (comp (l.map (·.2))) = l := by
  refine chars_ext ?_ ?_
  · rw [chars_fst]
  · rw [chars_snd, List.length_map]
    have := origins_told h
    rw [List.length_map] at this
    exact this
theorem InR.chars (s : List UInt8) (rs : List (Int × Int)) : InR (mk.chars s rs) := by
  intro o ho
  rw [chars_snd] at ho
  exact origins_in _ _ o ho
theorem InR.sub {a b : List (UInt8 × Int)} (h : InR b) (hs : ∀ x ∈ a, x ∈ b) : InR a := by
  intro o ho
  obtain ⟨x, hx, rfl⟩ := List.mem_map.1 ho
  exact h _ (List.mem_map.2 ⟨x, hs x hx, rfl⟩)

end Go.Proofs.Ytddgabjhligeeaa.mk

namespace Go.Proofs.Ytddgabjhligeeaa.mk
open Go.RowKit

/-- the same bytes and origins -/
def sameB (a b : LT) : Bool := decide (a.bs = b.bs ∧ a.os = b.os)

end Go.Proofs.Ytddgabjhligeeaa.mk
