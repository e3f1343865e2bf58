/-
  Attributes in memory: names and values as rows of four cells.
-/
import Derived.Test.YthckecfjghjnjaaAttPure
import Derived.Test.YthckecfjghjnjaaApp
namespace Go.Proofs.Ythckecfjghjnjaa.mk
open Go.RowKit

/-- an attribute as it lies in memory -/
structure AT where
  nm : LT
  vl : LT
def AT.v (a : AT) : Value := .agg #[.string a.nm.s, .slice a.nm.A a.nm.n a.nm.c, .string a.vl.s, .slice a.vl.A a.vl.n a.vl.c]
def AT.ok (w : World) (B : Nat) (a : AT) : Prop := a.nm.ok w B ∧ a.vl.ok w B
def AT.ch (a : AT) : PA := (a.nm.ch, a.vl.ch)
def atRow (a : AT) : List Value := [.string a.nm.s, .slice a.nm.A a.nm.n a.nm.c, .string a.vl.s, .slice a.vl.A a.vl.n a.vl.c]
def atCells (l : List AT) : List Value := l.flatMap atRow
theorem AT.nmB (a : AT) : nmB a.ch = a.nm.bs := LT.ch_fst _
theorem LT.ok.keep {w0 w : World} {B : Nat} {t : LT} (h : t.ok w0 B) (hk : ∀ p : Addr, p.block < B → w.cell? p = w0.cell? p) : t.ok w B := ⟨h.1.keep hk, h.2⟩
theorem LT.ok.mono {w : World} {B B' : Nat} {t : LT} (h : t.ok w B) (hb : B ≤ B') : t.ok w B' := ⟨h.1.mono hb, h.2⟩
theorem AT.ok.keep {w0 w : World} {B : Nat} {t : AT} (h : t.ok w0 B) (hk : ∀ p : Addr, p.block < B → w.cell? p = w0.cell? p) : t.ok w B := ⟨h.1.keep hk, h.2.keep hk⟩
theorem AT.ok.mono {w : World} {B B' : Nat} {t : AT} (h : t.ok w B) (hb : B ≤ B') : t.ok w B' := ⟨h.1.mono hb, h.2.mono hb⟩
theorem AT.ok.next {w0 w : World} {B : Nat} {t : AT} (h : t.ok w0 B) (hb : Below B w0 w) (hz : B ≤ w0.heap.size) : t.ok w w.heap.size := ⟨h.1.next hb hz, h.2.next hb hz⟩
theorem AT.ok.below {w0 w : World} {B : Nat} {t : AT} (h : t.ok w0 B) (hb : Below B w0 w) : t.ok w B := h.keep fun _ hp => hb.cell hp
theorem atCells_length (ts : List AT) : (atCells ts).length = ts.length * 4 := by
  induction ts with
  | nil => rfl
  | cons r l ih => simp only [atCells, atRow, List.flatMap_cons, List.length_append, List.length_cons, List.length_nil] at ih ⊢; omega
theorem atCells_snoc (ts : List AT) (t : AT) : atCells (ts ++ [t]) = atCells ts ++ atRow t := by simp [atCells]
theorem atCells_append (ts us : List AT) : atCells (ts ++ us) = atCells ts ++ atCells us := by simp [atCells]
theorem atCells_at (ts : List AT) (k : Nat) (t : AT) (h : ts[k]? = some t) (j : Nat) (hj : j < 4) : (atCells ts)[k * 4 + j]? = (atRow t)[j]? := by
  induction ts generalizing k with
  | nil => simp at h
  | cons x ts ih =>
    have e : atCells (x :: ts) = atRow x ++ atCells ts := rfl
    rw [e]
    have hl : (atRow x).length = 4 := rfl
    cases k with
    | zero =>
      simp at h
      subst h
      rw [Nat.zero_mul, Nat.zero_add, List.getElem?_append_left (by omega)]
    | succ k =>
      rw [List.getElem?_append_right (by omega), hl]
      have : (k + 1) * 4 + j - 4 = k * 4 + j := by omega
      rw [this]
      exact ih k (by simpa using h)
theorem addr_nexts (ad : Addr) (k : Nat) : ad.add (k + 1) = ⟨(ad.add k).block, (ad.add k).off + 1, none⟩ ∧ ad.add (k + 2) = ⟨(ad.add k).block, (ad.add k).off + 2, none⟩ ∧ ad.add (k + 3) = ⟨(ad.add k).block, (ad.add k).off + 3, none⟩ := by
  refine ⟨addr_next ad k, ?_, ?_⟩
  · rw [addr_next ad (k + 1), addr_next ad k]
  · rw [addr_next ad (k + 2), addr_next ad (k + 1), addr_next ad k]
/-- attribute k of a row: its four cells, as the walk spells them -/
theorem Lies.att {w : World} {B : Nat} {A : Option Addr} {ts : List AT} (h : Lies w B A (atCells ts)) {k : Nat} (hk : k < ts.length) :
    ∃ ad t, A = some ad ∧ ad.block < B ∧ w.cell? (ad.add (k * 4)) = some (.string t.nm.s) ∧ w.cell? ⟨(ad.add (k * 4)).block, (ad.add (k * 4)).off + 1, none⟩ = some (.slice t.nm.A t.nm.n t.nm.c) ∧
      w.cell? ⟨(ad.add (k * 4)).block, (ad.add (k * 4)).off + 2, none⟩ = some (.string t.vl.s) ∧ w.cell? ⟨(ad.add (k * 4)).block, (ad.add (k * 4)).off + 3, none⟩ = some (.slice t.vl.A t.vl.n t.vl.c) ∧ Hid (ts[k]? = some t) := by
  have ht : ts[k]? = some ts[k] := List.getElem?_eq_getElem hk
  generalize ts[k] = t at ht
  have key : ∀ j u, j < 4 → (atRow t)[j]? = some u → ∃ ad, A = some ad ∧ ad.block < B ∧ w.cell? (ad.add (k * 4 + j)) = some u := fun j u hj hu => h _ _ ((atCells_at ts k t ht j hj).trans hu)
  obtain ⟨ad, e, hb, h0⟩ := key 0 _ (by omega) rfl
  subst e
  have key' : ∀ j u, j < 4 → (atRow t)[j]? = some u → w.cell? (ad.add (k * 4 + j)) = some u := by
    intro j u hj hu
    obtain ⟨ad', e, _, hc⟩ := key j u hj hu
    injection e with e
    subst e
    exact hc
  obtain ⟨e1, e2, e3⟩ := addr_nexts ad (k * 4)
  exact ⟨ad, t, rfl, hb, h0, by rw [← e1]; exact key' 1 _ (by omega) rfl, by rw [← e2]; exact key' 2 _ (by omega) rfl, by rw [← e3]; exact key' 3 _ (by omega) rfl, ht⟩

/-- the runs of a labelled text, and of an attribute, are rows of the call's own -/
def OwnL (w : World) (base : Nat) (t : LT) : Prop := t.rs.length = t.n ∧ t.n ≤ 4294967296 ∧ t.s.size ≤ 4294967296 ∧ w.ownsRow base 63 2 (.slice t.A t.n t.c) t.n (runCells t.rs)
def OwnA (w : World) (base : Nat) (a : AT) : Prop := OwnL w base a.nm ∧ OwnL w base a.vl
theorem OwnL.ok {w : World} {base : Nat} {t : LT} (h : OwnL w base t) : t.ok w w.heap.size := ⟨Lies.own h.2.2.2, h.1, h.2.1, h.2.2.1⟩
theorem OwnA.ok {w : World} {base : Nat} {t : AT} (h : OwnA w base t) : t.ok w w.heap.size := ⟨h.1.ok, h.2.ok⟩
theorem OwnL.mono {w : World} {base base' : Nat} {t : LT} (h : OwnL w base t) (hb : base' ≤ base) : OwnL w base' t := ⟨h.1, h.2.1, h.2.2.1, own_mono h.2.2.2 hb⟩
theorem OwnA.mono {w : World} {base base' : Nat} {t : AT} (h : OwnA w base t) (hb : base' ≤ base) : OwnA w base' t := ⟨h.1.mono hb, h.2.mono hb⟩
theorem OwnL.keep {w w' : World} {base : Nat} {t : LT} (h : OwnL w base t) (hk : ∀ g c, base ≤ g → w.heap[g]? = some (.cells c 63 (0, 0)) → w'.heap[g]? = w.heap[g]?) : OwnL w' base t := by
  refine ⟨h.1, h.2.1, h.2.2.1, own_same h.2.2.2 fun g hg => ?_⟩
  obtain ⟨cur, hc⟩ := own_kind h.2.2.2 hg
  exact hk g cur (h.2.2.2.lt g hg).1 hc
theorem OwnL.below {w w' : World} {base : Nat} {t : LT} (h : OwnL w base t) (hb : Below w.heap.size w w') : OwnL w' base t := h.keep fun _ _ _ hc => hb.block _ (Array.getElem?_eq_some_iff.1 hc).1
theorem OwnA.keep {w w' : World} {base : Nat} {t : AT} (h : OwnA w base t) (hk : ∀ g c, base ≤ g → w.heap[g]? = some (.cells c 63 (0, 0)) → w'.heap[g]? = w.heap[g]?) : OwnA w' base t := ⟨h.1.keep hk, h.2.keep hk⟩
theorem OwnA.below {w w' : World} {base : Nat} {t : AT} (h : OwnA w base t) (hb : Below w.heap.size w w') : OwnA w' base t := h.keep fun _ _ _ hc => hb.block _ (Array.getElem?_eq_some_iff.1 hc).1
/-- a row of attributes of the call's own is written, or grows: runs stay -/
theorem kind_apart {w : World} {base n g : Nat} {v : Value} {xs : List Value} {c : Array Value} {size : Nat} {e : TypeId} (ho : w.ownsRow base e size v n xs) (he : e ≠ 63) (hc : w.heap[g]? = some (.cells c 63 (0, 0))) : some g ≠ v.ownBlock := by
  intro h
  obtain ⟨cur, hc'⟩ := own_kind ho h.symm
  rw [hc] at hc'
  injection hc' with hc'
  injection hc' with _ h _
  exact he h.symm
theorem OwnA.grown {w w' : World} {base base' n : Nat} {v : Value} {xs : List Value} {t : AT} {size : Nat} {e : TypeId} (h : OwnA w base t) (ho : w.ownsRow base' e size v n xs) (he : e ≠ 63) (hg : w.grownBy w' v.ownBlock) : OwnA w' base t :=
  h.keep fun g _ _ hc => hg.block g (Array.getElem?_eq_some_iff.1 hc).1 (kind_apart ho he hc)

/-- what is read of a list of attributes: it lies there, below a block -/
def AllOk (w : World) (B : Nat) (ts : List AT) : Prop := ∀ t ∈ ts, t.ok w B
def AllOwn (w : World) (base : Nat) (ts : List AT) : Prop := ∀ t ∈ ts, OwnA w base t
theorem AllOwn.ok {w : World} {base : Nat} {ts : List AT} (h : AllOwn w base ts) : AllOk w w.heap.size ts := fun t ht => (h t ht).ok
theorem AllOwn.mono {w : World} {base base' : Nat} {ts : List AT} (h : AllOwn w base ts) (hb : base' ≤ base) : AllOwn w base' ts := fun t ht => (h t ht).mono hb
theorem AllOwn.below {w w' : World} {base : Nat} {ts : List AT} (h : AllOwn w base ts) (hb : Below w.heap.size w w') : AllOwn w' base ts := fun t ht => (h t ht).below hb
theorem AllOwn.snoc {w : World} {base : Nat} {ts : List AT} {t : AT} (h : AllOwn w base ts) (ht : OwnA w base t) : AllOwn w base (ts ++ [t]) := by
  intro x hx
  rcases List.mem_append.1 hx with hx | hx
  · exact h x hx
  · simp at hx; subst hx; exact ht
theorem AllOk.next {w0 w : World} {B : Nat} {ts : List AT} (h : AllOk w0 B ts) (hb : Below B w0 w) (hz : B ≤ w0.heap.size) : AllOk w w.heap.size ts := fun t ht => (h t ht).next hb hz
theorem AllOk.keep {w0 w : World} {B : Nat} {ts : List AT} (h : AllOk w0 B ts) (hk : ∀ p : Addr, p.block < B → w.cell? p = w0.cell? p) : AllOk w B ts := fun t ht => (h t ht).keep hk
theorem AllOk.mono {w : World} {B B' : Nat} {ts : List AT} (h : AllOk w B ts) (hb : B ≤ B') : AllOk w B' ts := fun t ht => (h t ht).mono hb
theorem AllOk.get {w : World} {B : Nat} {ts : List AT} (h : AllOk w B ts) {k : Nat} {t : AT} (ht : ts[k]? = some t) : t.ok w B := h t (List.mem_of_getElem? ht)
theorem chs_at {ts : List AT} {k : Nat} {t : AT} (h : ts[k]? = some t) : (ts.map AT.ch)[k]? = some t.ch := by rw [List.getElem?_map, h]; rfl

/-- a list of attributes that is told: in memory of its own -/
def TellsA (qs : List PA) (w : World) (e : Ending) (w' : World) : Prop :=
  ∃ A c ts, e = .returned (.slice A ts.length c) ∧ w'.ownsRow w.heap.size 27 4 (.slice A ts.length c) ts.length (atCells ts) ∧ AllOwn w' w.heap.size ts ∧ ts.map AT.ch = qs ∧ Below w.heap.size w w'
theorem att_info : (Try.prog.info? 27).map (fun i => (i.zero, i.size, i.bytes)) = some (some (.agg #[.string ⟨#[]⟩, .slice none 0 0, .string ⟨#[]⟩, .slice none 0 0]), 4, 80) := by kernel_rfl
/-- what is told of bytes and origins gives them back -/
theorem chars_taken (s : ByteArray) (rs : List (Int × Int)) : chars s.data.toList (taken s.size rs) = chars s.data.toList rs := by
  have h := chars_told (InR.chars s.data.toList rs)
  rw [chars_fst, chars_snd] at h
  have hl : s.data.toList.length = s.size := by rw [Array.length_toList]; rfl
  rw [hl] at h
  exact h
theorem own_told {s : ByteArray} {rs : List (Int × Int)} {v : Value} {base : Nat} {w : World} (hs : s.size ≤ 4294967296) (h : w.ownsRow base 63 2 v (taken s.size rs).length (runCells (taken s.size rs))) :
    ∃ t : LT, v = .slice t.A t.n t.c ∧ t.s = s ∧ t.ch = chars s.data.toList rs ∧ OwnL w base t := by
  obtain ⟨A, c, rfl, _, _, _⟩ := own_form h
  refine ⟨⟨s, A, _, c, taken s.size rs⟩, rfl, rfl, chars_taken s rs, rfl, ?_, hs, h⟩
  show (taken s.size rs).length ≤ _
  have := comp_length_le (origins s.size rs)
  rw [origins_length] at this
  unfold taken
  omega

end Go.Proofs.Ythckecfjghjnjaa.mk
