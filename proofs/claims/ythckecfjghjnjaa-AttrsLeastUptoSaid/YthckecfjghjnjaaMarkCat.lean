/-
  The contract of mark's Cat.
-/
import Derived.Test.YthckecfjghjnjaaMarkFix
namespace Go.Proofs.Ythckecfjghjnjaa.mk
open Go.RowKit

/-- a labelled text as it lies in memory -/
structure LT where
  s : ByteArray
  A : Option Addr
  n : Nat
  c : Nat
  rs : List (Int × Int)
def LT.v (t : LT) : Value := .agg #[.string t.s, .slice t.A t.n t.c]
def LT.ok (w : World) (B : Nat) (t : LT) : Prop := Lies w B t.A (runCells t.rs) ∧ t.rs.length = t.n ∧ t.n ≤ 4294967296 ∧ t.s.size ≤ 4294967296
def LT.os (t : LT) : List Int := origins t.s.size t.rs
def LT.bs (t : LT) : List UInt8 := t.s.data.toList
theorem LT.os_length (t : LT) : t.os.length = t.s.size := origins_length _ _
theorem LT.bs_length (t : LT) : t.bs.length = t.s.size := by unfold LT.bs; rw [Array.length_toList]; rfl
theorem LT.ok.next {w0 w : World} {B : Nat} {t : LT} (h : t.ok w0 B) (hb : Below B w0 w) (hz : B ≤ w0.heap.size) : t.ok w w.heap.size := ⟨h.1.next hb hz, h.2⟩

def ltCells (ts : List LT) : List Value := ts.flatMap fun t => [.string t.s, .slice t.A t.n t.c]
theorem ltCells_length (ts : List LT) : (ltCells ts).length = ts.length * 2 := by
  induction ts with
  | nil => rfl
  | cons r l ih => simp only [ltCells, List.flatMap_cons, List.length_append, List.length_cons, List.length_nil] at ih ⊢; omega
theorem ltCells_at (ts : List LT) (k : Nat) (t : LT) (h : ts[k]? = some t) : (ltCells ts)[k * 2]? = some (.string t.s) ∧ (ltCells ts)[k * 2 + 1]? = some (.slice t.A t.n t.c) := by
  induction ts generalizing k with
  | nil => simp at h
  | cons x ts ih =>
    have e : ltCells (x :: ts) = .string x.s :: .slice x.A x.n x.c :: ltCells ts := rfl
    rw [e]
    cases k with
    | zero => simp at h; subst h; simp
    | succ k =>
      have := ih k (by simpa using h)
      rw [show (k + 1) * 2 = k * 2 + 1 + 1 by omega]
      simpa using this
theorem Lies.lt {w : World} {B : Nat} {A : Option Addr} {ts : List LT} (h : Lies w B A (ltCells ts)) {k : Nat} (hk : k < ts.length) :
    ∃ ad t, A = some ad ∧ ad.block < B ∧ w.cell? (ad.add (k * 2)) = some (.string t.s) ∧ w.cell? ⟨(ad.add (k * 2)).block, (ad.add (k * 2)).off + 1, none⟩ = some (.slice t.A t.n t.c) ∧ Hid (ts[k]? = some t) := by
  obtain ⟨h1, h2⟩ := ltCells_at ts k ts[k] (List.getElem?_eq_getElem hk)
  obtain ⟨ad, e, hb, hc⟩ := h _ _ h1
  obtain ⟨ad', e', _, hc'⟩ := h _ _ h2
  rw [e] at e'
  injection e' with e'
  subst e'
  rw [addr_next] at hc'
  exact ⟨ad, ts[k], e, hb, hc, hc', List.getElem?_eq_getElem hk⟩

/-- a builder stays while its block and its row of bytes stay -/
theorem builder_same {T B b : Nat} {bs : List Value} {w w' : World} (h : Lib.IsBuilderF T 5 B b bs w) (hk : ∀ (k : Nat) (o : Obj), w.heap[k]? = some o → (∀ c fz, o ≠ .cells c 63 fz) → w'.heap[k]? = some o) (hT : T ≠ 63) : Lib.IsBuilderF T 5 B b bs w' := by
  have key : ∀ p, Lib.BuilderAtF T 5 B b p bs w → Lib.BuilderAtF T 5 B b p bs w' := by
    rintro p ⟨hB, v, hbk, hown, hne⟩
    refine ⟨hB, v, hk _ _ hbk (by intro c fz e; injection e with _ e _; exact hT e), ⟨hown.1, ?_⟩, hne⟩
    rcases hown.2 with h0 | ⟨g, cap, cur, fz, hv, hg, hgg, r⟩
    · exact .inl h0
    · exact .inr ⟨g, cap, cur, fz, hv, hg, hk _ _ hgg (by intro c fz' e; injection e with _ e _; exact absurd e (by decide)), r⟩
  rcases h with h | h
  · exact .inl (key _ h)
  · exact .inr (key _ h)
theorem builder_below {T B b : Nat} {bs : List Value} {w w' : World} (h : Lib.IsBuilderF T 5 B b bs w) (hb : Below w.heap.size w w') (hT : T ≠ 63) : Lib.IsBuilderF T 5 B b bs w' :=
  builder_same h (fun k _ hk _ => (hb.block k (Array.getElem?_eq_some_iff.1 hk).1).trans hk) hT
/-- a row of runs lies in a block of runs -/
theorem own_kind {w : World} {base n : Nat} {e : TypeId} {size : Nat} {v : Value} {xs : List Value} (h : w.ownsRow base e size v n xs) {g : Nat} (hg : v.ownBlock = some g) : ∃ cur, w.heap[g]? = some (.cells cur e (0, 0)) := by
  rcases h.2 with ⟨rfl, _⟩ | ⟨g', cap, cur, rfl, _, hh, _⟩
  · simp [Value.ownBlock] at hg
  · have : g' = g := by simpa [Value.ownBlock] using hg
    subst this; exact ⟨cur, hh⟩
theorem builder_grown {T B b : Nat} {bs : List Value} {w w' : World} {base n : Nat} {v : Value} {xs : List Value} (h : Lib.IsBuilderF T 5 B b bs w) (hown : w.ownsRow base 63 2 v n xs) (hg : w.grownBy w' v.ownBlock) (hT : T ≠ 63) : Lib.IsBuilderF T 5 B b bs w' := by
  refine builder_same h (fun k o hk hno => ?_) hT
  rw [hg.block k (Array.getElem?_eq_some_iff.1 hk).1 (fun e => ?_)]
  · exact hk
  · obtain ⟨cur, hc⟩ := own_kind hown e.symm
    rw [hk] at hc
    injection hc with hc
    exact hno _ _ hc
theorem builder_alloc {T B b : Nat} {bs : List Value} {w : World} (h : Lib.IsBuilderF T 5 B b bs w) (o : Obj) (hT : T ≠ 63) : Lib.IsBuilderF T 5 B b bs (w.alloc o) :=
  builder_below h ((Below.refl _ _).alloc (Nat.le_refl _) o) hT
/-- a row of runs stays while a builder writes -/
theorem own_others {w w' : World} {base n : Nat} {v : Value} {xs : List Value} {b : Nat} (h : w.ownsRow base 63 2 v n xs) (hk : Lib.OthersKept 5 (some b) w w') (hb : b < base) : w'.ownsRow base 63 2 v n xs := by
  refine own_same h fun g hg => ?_
  obtain ⟨cur, hc⟩ := own_kind h hg
  rw [hk g _ hc (by have := (h.lt g hg).1; intro e; injection e with e; omega) (by intro c fz e; injection e with _ e _; exact absurd e (by decide)), hc]
theorem strCells_byteCells (s : ByteArray) : Lib.strCells s = Lib.byteCells s.data.toList := rfl
theorem byteCells_append (a b : List UInt8) : Lib.byteCells (a ++ b) = Lib.byteCells a ++ Lib.byteCells b := by simp [Lib.byteCells]

/-- bytes and origins of texts, one behind the other -/
def catBs (ts : List LT) : List UInt8 := ts.flatMap LT.bs
def catOs (ts : List LT) : List Int := ts.flatMap LT.os
theorem catBs_length (ts : List LT) : (catBs ts).length = (catOs ts).length := by
  induction ts with
  | nil => rfl
  | cons t ts ih => simp only [catBs, catOs, List.flatMap_cons, List.length_append, LT.os_length, LT.bs_length] at ih ⊢; omega
theorem cat_take_le (ts : List LT) (k : Nat) : (catOs (ts.take k)).length ≤ (catOs ts).length := by
  have h : (catOs (ts.take k ++ ts.drop k)).length = (catOs ts).length := by rw [List.take_append_drop]
  rw [← h]
  unfold catOs
  rw [List.flatMap_append, List.length_append]
  omega
theorem expand_take_le (l : List Int) (j : Nat) : (expand ((comp l).take j)).length ≤ l.length := by
  have : l.length = (expand (comp l)).length := by rw [expand_comp]
  rw [this]
  have h : (expand ((comp l).take j ++ (comp l).drop j)).length = (expand (comp l)).length := by rw [List.take_append_drop]
  rw [← h, expand_append, List.length_append]
  omega
theorem catOs_next {ts : List LT} {k : Nat} {t : LT} (h : ts[k]? = some t) : catOs (ts.take (k + 1)) = catOs (ts.take k) ++ t.os := by rw [take_next h]; simp [catOs]
theorem catBs_next {ts : List LT} {k : Nat} {t : LT} (h : ts[k]? = some t) : catBs (ts.take (k + 1)) = catBs (ts.take k) ++ t.bs := by rw [take_next h]; simp [catBs]

end Go.Proofs.Ythckecfjghjnjaa.mk
