/-
  The statements' own look at two lists of views that are one. (Written by gen_vwtrue.py.)
-/
import Derived.Test.YtnbdldapmllegaaGreatJsAA
import Derived.Test.YtnbdldapmllegaaGreatJsAB
import Derived.Test.YtnbdldapmllegaaGreatJsAK
import Derived.Test.YtnbdldapmllegaaGreatJsX
import Derived.Test.YtnbdldapmllegaaGreatJsH
import Derived.Test.YtnbdldapmllegaaGreatJsP
import Derived.Deep.DeepCutAuto
namespace Go.Proofs.YtnbdldapmllegaaGreat.mk
open Go.RowKit

/-- how large: bytes of texts, tags, names and values, all together -/
def atW (a : PA) : Nat := a.1.length + a.2.length + 1
def atWs (al : List PA) : Nat := (al.map atW).sum
theorem atWs_cons (a : PA) (l : List PA) : atWs (a :: l) = a.1.length + a.2.length + 1 + atWs l := rfl
theorem atWs_len (al : List PA) : al.length ≤ atWs al := by
  induction al with
  | nil => exact Nat.zero_le _
  | cons a al ih => rw [atWs_cons, List.length_cons]; omega
theorem atWs_append (a b : List PA) : atWs (a ++ b) = atWs a + atWs b := by simp [atWs]
theorem selW_to (p : Nat → Bool) (L : List PA) : ∀ k, atWs (selTo p L k) ≤ atWs (L.take k) := by
  intro k
  induction k with
  | zero => simp [selTo, atWs]
  | succ k ih =>
    cases hk : L[k]? with
    | none =>
      have e : L.take (k + 1) = L.take k := by rw [List.take_add_one, hk]; simp
      have e2 : selTo p L (k + 1) = selTo p L k := by rw [selTo, hk]; split <;> simp
      rw [e, e2]; exact ih
    | some y =>
      rw [take_next hk, atWs_append, selTo, hk, atWs_append]
      split
      · simp only [Option.toList_some]; omega
      · have : atWs ([] : List PA) = 0 := rfl
        omega
theorem onceW (L : List PA) : atWs (onceA L) ≤ atWs L := by
  have h := selW_to (onceP L) L L.length
  rw [List.take_length] at h
  exact h
/-! ### What is valid -/
theorem valid_low {b : UInt8} (h0 : 1 ≤ b.toNat) (h1 : b.toNat < 128) (l : List UInt8) : validB (b :: l) = validB l := by
  have hn : nx (b :: l) = (1, true) := by
    have hs : shp b.toNat = (1, 0, 0) := by unfold shp; rw [if_pos h1]
    simp only [nx, hs]
    rfl
  have hs : soughtB (b :: l) = false := by
    unfold soughtB
    rw [hn]
    simp only [Bool.not_true, Bool.false_or, List.head?_cons]
    rw [beq_eq_false_iff_ne]
    intro h
    injection h with h
    subst h
    simp at h0
  rw [validB_next (by simp), hs, hn]
  rfl
theorem valid_lows {l : List UInt8} (h : ∀ b ∈ l, 1 ≤ b.toNat ∧ b.toNat < 128) : validB l = true := by
  induction l with
  | nil => exact validB_nil
  | cons b l ih =>
    have hb := h b (by simp)
    rw [valid_low hb.1 hb.2]
    exact ih fun c hc => h c (List.mem_cons_of_mem _ hc)
end Go.Proofs.YtnbdldapmllegaaGreat.mk

namespace Go.Proofs.YtnbdldapmllegaaGreat.mk
open Go.RowKit

/-- a hook: its event, whether on the way down, its name -/
abbrev PH := Int × Bool × Int
/-- a view -/
structure PV where
  kind : Int
  tag : Ch
  key : List UInt8
  attrs : List PA
  hooks : List PH
  kids : List PV
  text : Ch
  slot : Int
mutual
def PV.bk : PV → Nat
  | ⟨_, tag, key, attrs, hooks, kids, text, _⟩ => tag.length + key.length + atWs attrs + hooks.length + text.length + 1 + bkV kids
def bkV : List PV → Nat
  | [] => 0
  | v :: vs => v.bk + bkV vs
end
theorem PV.bk_eq (v : PV) : v.bk = v.tag.length + v.key.length + atWs v.attrs + v.hooks.length + v.text.length + 1 + bkV v.kids := by cases v; rw [PV.bk]
theorem bkV_append (ts us : List PV) : bkV (ts ++ us) = bkV ts + bkV us := by
  induction ts with
  | nil => simp [bkV]
  | cons t ts ih => rw [List.cons_append, bkV, bkV, ih]; omega
theorem bkV_one (t : PV) : bkV [t] = t.bk := by rw [bkV, bkV]; omega
theorem bkV_mem {L : List PV} {t : PV} (h : t ∈ L) : t.bk ≤ bkV L := by
  induction L with
  | nil => cases h
  | cons x L ih =>
    rw [bkV]
    rcases List.mem_cons.1 h with rfl | h
    · omega
    · have := ih h; omega
theorem bkV_kids {L : List PV} {t : PV} (h : t ∈ L) : bkV t.kids < bkV L := by
  have := bkV_mem h
  have := t.bk_eq
  omega
theorem bkV_len (L : List PV) : L.length ≤ bkV L := by
  induction L with
  | nil => exact Nat.zero_le _
  | cons x L ih => rw [bkV, List.length_cons]; have := x.bk_eq; omega
theorem bkV_take (L : List PV) (k : Nat) : bkV (L.take k) ≤ bkV L := by
  have := bkV_append (L.take k) (L.drop k)
  rw [List.take_append_drop] at this
  omega
/-- by how much is below -/
theorem PV.ind {p : List PV → Prop} (h : ∀ L, (∀ t ∈ L, p t.kids) → p L) : ∀ L, p L := by
  have key : ∀ n L, bkV L < n → p L := by
    intro n
    induction n with
    | zero => intro L h0; omega
    | succ n ih => intro L hl; exact h L fun t ht => ih _ (by have := bkV_kids ht; omega)
  exact fun L => key _ L (Nat.lt_succ_self _)

end Go.Proofs.YtnbdldapmllegaaGreat.mk

namespace Go.Proofs.YtnbdldapmllegaaGreat.mk
open Go.RowKit

theorem rep_same (l : Ch) (h : validB (l.map (·.1)) = true) : rep l = l := by
  have key : ∀ n, ∀ l : Ch, l.length ≤ n → validB (l.map (·.1)) = true → rep l = l := by
    intro n
    induction n with
    | zero =>
      intro l hl _
      have e : l = [] := List.eq_nil_of_length_eq_zero (by omega)
      rw [e, rep_nil]
    | succ n ih =>
      intro l hl h
      by_cases hn : l = []
      · rw [hn, rep_nil]
      · have hm : l.map (·.1) ≠ [] := fun e => hn (List.map_eq_nil_iff.1 e)
        rw [validB_next hm] at h
        have hs : soughtB (l.map (·.1)) = false := by
          cases hq : soughtB (l.map (·.1)) with
          | false => rfl
          | true => rw [hq] at h; exact absurd h (by simp)
        rw [hs] at h
        have h2 : validB ((l.drop (nx (l.map (·.1))).1).map (·.1)) = true := by rw [List.map_drop]; simpa using h
        have hb := (nx_bd hm).1
        have h3 := ih (l.drop (nx (l.map (·.1))).1) (by rw [List.length_drop]; have : 0 < l.length := List.length_pos_iff.2 hn; omega) h2
        rw [rep_right hn hs, h3, List.take_append_drop]
  exact key l.length l (Nat.le_refl _) h
/-! ### of labelled texts -/
end Go.Proofs.YtnbdldapmllegaaGreat.mk

namespace Go.Proofs.YtnbdldapmllegaaGreat.mk
open Go.RowKit

theorem addr_off (ad : Addr) (k j : Nat) (hj : 0 < j) : ad.add (k + j) = ⟨(ad.add k).block, (ad.add k).off + j, none⟩ := by
  unfold Addr.add
  rw [if_neg (by omega)]
  rcases Nat.eq_zero_or_pos k with rfl | hk
  · simp
  · rw [if_neg (by omega)]; simp [Nat.add_assoc]
/-- the cells of rows of one size -/
theorem cells_flat {α : Type} (f : α → List Value) (m : Nat) (hm : ∀ x, (f x).length = m) (ts : List α) : (ts.flatMap f).length = ts.length * m := by
  induction ts with
  | nil => simp
  | cons x ts ih => rw [List.flatMap_cons, List.length_append, ih, hm, List.length_cons, Nat.succ_mul]; omega
theorem cells_flat_at {α : Type} (f : α → List Value) (m : Nat) (hm : ∀ x, (f x).length = m) (ts : List α) (k : Nat) (t : α) (h : ts[k]? = some t) (j : Nat) (hj : j < m) : (ts.flatMap f)[k * m + j]? = (f t)[j]? := by
  induction ts generalizing k with
  | nil => simp at h
  | cons x ts ih =>
    rw [List.flatMap_cons]
    cases k with
    | zero =>
      simp at h
      subst h
      rw [Nat.zero_mul, Nat.zero_add, List.getElem?_append_left (by rw [hm]; exact hj)]
    | succ k =>
      rw [List.getElem?_append_right (by rw [hm, Nat.succ_mul]; omega), hm, show (k + 1) * m + j - m = k * m + j by rw [Nat.succ_mul]; omega]
      exact ih k (by simpa using h)

def hkRow (h : PH) : List Value := [.int .i64 h.1, .bool h.2.1, .int .i64 h.2.2]
def hkCells (l : List PH) : List Value := l.flatMap hkRow
theorem hkCells_length (l : List PH) : (hkCells l).length = l.length * 3 := cells_flat hkRow 3 (fun _ => rfl) l
theorem hkCells_at (l : List PH) (k : Nat) (h : PH) (hk : l[k]? = some h) (j : Nat) (hj : j < 3) : (hkCells l)[k * 3 + j]? = (hkRow h)[j]? := cells_flat_at hkRow 3 (fun _ => rfl) l k h hk j hj
theorem hkCells_snoc (l : List PH) (h : PH) : hkCells (l ++ [h]) = hkCells l ++ hkRow h := by simp [hkCells]
/-- hook k of a row: its three cells, as the walk spells them -/
theorem Lies.hook {w : World} {B : Nat} {A : Option Addr} {l : List PH} (h : Lies w B A (hkCells l)) {k : Nat} (hk : k < l.length) :
    ∃ ad t, A = some ad ∧ ad.block < B ∧ w.cell? (ad.add (k * 3)) = some (.int .i64 t.1) ∧ w.cell? ⟨(ad.add (k * 3)).block, (ad.add (k * 3)).off + 1, none⟩ = some (.bool t.2.1) ∧
      w.cell? ⟨(ad.add (k * 3)).block, (ad.add (k * 3)).off + 2, none⟩ = some (.int .i64 t.2.2) ∧ Hid (l[k]? = some t) := by
  have ht : l[k]? = some l[k] := List.getElem?_eq_getElem hk
  generalize l[k] = t at ht
  have key : ∀ j u, j < 3 → (hkRow t)[j]? = some u → ∃ ad, A = some ad ∧ ad.block < B ∧ w.cell? (ad.add (k * 3 + j)) = some u := fun j u hj hu => h _ _ ((hkCells_at l k t ht j hj).trans hu)
  obtain ⟨ad, e, hb, h0⟩ := key 0 _ (by omega) rfl
  subst e
  have key' : ∀ j u, j < 3 → (hkRow t)[j]? = some u → w.cell? (ad.add (k * 3 + j)) = some u := by
    intro j u hj hu
    obtain ⟨ad', e, _, hc⟩ := key j u hj hu
    injection e with e
    subst e
    exact hc
  exact ⟨ad, t, rfl, hb, h0, by rw [← addr_off ad (k * 3) 1 (by decide)]; exact key' 1 _ (by omega) rfl, by rw [← addr_off ad (k * 3) 2 (by decide)]; exact key' 2 _ (by omega) rfl, ht⟩

/-- a view as it lies in memory -/
structure VT where
  kind : Int
  tag : LT
  key : ByteArray
  A : Option Addr
  n : Nat
  c : Nat
  atts : List AT
  H : Option Addr
  hn : Nat
  hc : Nat
  hooks : List PH
  K : Option Addr
  kn : Nat
  kc : Nat
  kids : List VT
  text : LT
  slot : Int
def viewRow (t : VT) : List Value := [.int .i64 t.kind, .string t.tag.s, .slice t.tag.A t.tag.n t.tag.c, .string t.key, .slice t.A t.n t.c, .slice t.H t.hn t.hc, .slice t.K t.kn t.kc, .string t.text.s, .slice t.text.A t.text.n t.text.c, .int .i64 t.slot]
def viewCells (l : List VT) : List Value := l.flatMap viewRow
mutual
def VT.ch : VT → PV
  | ⟨kind, tag, key, _, _, _, atts, _, _, _, hooks, _, _, _, kids, text, slot⟩ => ⟨kind, tag.ch, key.data.toList, atts.map AT.ch, hooks, chV kids, text.ch, slot⟩
def chV : List VT → List PV
  | [] => []
  | t :: ts => t.ch :: chV ts
end
mutual
def VT.nodes : VT → List VT
  | ⟨kind, tag, key, A, n, c, atts, H, hn, hc, hooks, K, kn, kc, kids, text, slot⟩ => ⟨kind, tag, key, A, n, c, atts, H, hn, hc, hooks, K, kn, kc, kids, text, slot⟩ :: nodesV kids
def nodesV : List VT → List VT
  | [] => []
  | t :: ts => t.nodes ++ nodesV ts
end
theorem VT.ch_eq (t : VT) : t.ch = ⟨t.kind, t.tag.ch, t.key.data.toList, t.atts.map AT.ch, t.hooks, chV t.kids, t.text.ch, t.slot⟩ := by cases t; rw [VT.ch]
theorem VT.nodes_eq (t : VT) : t.nodes = t :: nodesV t.kids := by cases t; rw [VT.nodes]
theorem VT.ch_kind (t : VT) : t.ch.kind = t.kind := by rw [VT.ch_eq]
theorem VT.ch_tag (t : VT) : t.ch.tag = t.tag.ch := by rw [VT.ch_eq]
theorem VT.ch_key (t : VT) : t.ch.key = t.key.data.toList := by rw [VT.ch_eq]
theorem VT.ch_attrs (t : VT) : t.ch.attrs = t.atts.map AT.ch := by rw [VT.ch_eq]
theorem VT.ch_hooks (t : VT) : t.ch.hooks = t.hooks := by rw [VT.ch_eq]
theorem VT.ch_kids (t : VT) : t.ch.kids = chV t.kids := by rw [VT.ch_eq]
theorem VT.ch_text (t : VT) : t.ch.text = t.text.ch := by rw [VT.ch_eq]
theorem VT.ch_slot (t : VT) : t.ch.slot = t.slot := by rw [VT.ch_eq]
theorem chV_map (ts : List VT) : chV ts = ts.map VT.ch := by
  induction ts with
  | nil => rw [chV]; rfl
  | cons t ts ih => rw [chV, ih]; rfl
theorem chV_length (ts : List VT) : (chV ts).length = ts.length := by rw [chV_map, List.length_map]
theorem chV_at {ts : List VT} {k : Nat} {t : VT} (h : ts[k]? = some t) : (chV ts)[k]? = some t.ch := by rw [chV_map, List.getElem?_map, h]; rfl
theorem chV_append (ts us : List VT) : chV (ts ++ us) = chV ts ++ chV us := by simp [chV_map]
theorem chV_mem {ts : List VT} {t : VT} (h : t ∈ ts) : t.ch ∈ chV ts := by rw [chV_map]; exact List.mem_map.2 ⟨t, h, rfl⟩
theorem nodesV_append (ts us : List VT) : nodesV (ts ++ us) = nodesV ts ++ nodesV us := by
  induction ts with
  | nil => rw [nodesV]; rfl
  | cons t ts ih => rw [List.cons_append, nodesV, nodesV, ih, List.append_assoc]
theorem nodesV_one (t : VT) : nodesV [t] = t.nodes := by rw [nodesV, nodesV, List.append_nil]
theorem mem_nodesV {ts : List VT} {t x : VT} (h : t ∈ ts) (hx : x ∈ t.nodes) : x ∈ nodesV ts := by
  induction ts with
  | nil => cases h
  | cons y ts ih =>
    rw [nodesV]
    rcases List.mem_cons.1 h with rfl | h
    · exact List.mem_append_left _ hx
    · exact List.mem_append_right _ (ih h)
theorem mem_selfV {ts : List VT} {t : VT} (h : t ∈ ts) : t ∈ nodesV ts := mem_nodesV h (by rw [VT.nodes_eq]; exact List.mem_cons_self)
theorem mem_kidsV {ts : List VT} {t x : VT} (h : t ∈ ts) (hx : x ∈ nodesV t.kids) : x ∈ nodesV ts := mem_nodesV h (by rw [VT.nodes_eq]; exact List.mem_cons_of_mem _ hx)
theorem nodesV_mem {ts : List VT} {x : VT} (h : x ∈ nodesV ts) : ∃ t ∈ ts, x ∈ t.nodes := by
  induction ts with
  | nil => rw [nodesV] at h; cases h
  | cons y ts ih =>
    rw [nodesV] at h
    rcases List.mem_append.1 h with h | h
    · exact ⟨y, by simp, h⟩
    · obtain ⟨t, ht, hx⟩ := ih h
      exact ⟨t, List.mem_cons_of_mem _ ht, hx⟩

/-- what one view itself names lies in blocks of S -/
structure VT.inS (S : Nat → Prop) (w : World) (t : VT) : Prop where
  tag : t.tag.inS S w
  text : t.text.inS S w
  key : t.key.size ≤ 4294967296
  att : LiesS S w t.A (atCells t.atts)
  an : t.atts.length = t.n
  ac : t.A = none → t.c = 0
  am : t.n ≤ 4194304
  atts : ∀ a ∈ t.atts, a.inS S w
  hook : LiesS S w t.H (hkCells t.hooks)
  hn : t.hooks.length = t.hn
  hc : t.H = none → t.hc = 0
  hm : t.hn ≤ 4194304
  kid : LiesS S w t.K (viewCells t.kids)
  kn : t.kids.length = t.kn
  kc : t.K = none → t.kc = 0
  km : t.kn ≤ 4194304
theorem VT.inS.keep {S : Nat → Prop} {w w' : World} {t : VT} (h : t.inS S w) (hk : Stays S w w') : t.inS S w' :=
  ⟨h.tag.keep hk, h.text.keep hk, h.key, h.att.keep hk, h.an, h.ac, h.am, fun a ha => (h.atts a ha).keep hk, h.hook.keep hk, h.hn, h.hc, h.hm, h.kid.keep hk, h.kn, h.kc, h.km⟩
theorem VT.inS.mono {S S' : Nat → Prop} {w : World} {t : VT} (h : t.inS S w) (hS : ∀ b, S b → b < w.heap.size → S' b) : t.inS S' w :=
  ⟨h.tag.mono hS, h.text.mono hS, h.key, h.att.mono hS, h.an, h.ac, h.am, fun a ha => (h.atts a ha).mono hS, h.hook.mono hS, h.hn, h.hc, h.hm, h.kid.mono hS, h.kn, h.kc, h.km⟩
/-- all that the views reach lies in blocks of S -/
def AllV (S : Nat → Prop) (w : World) (ts : List VT) : Prop := ∀ x ∈ nodesV ts, x.inS S w
theorem AllV.keep {S : Nat → Prop} {w w' : World} {ts : List VT} (h : AllV S w ts) (hk : Stays S w w') : AllV S w' ts := fun x hx => (h x hx).keep hk
theorem AllV.mono {S S' : Nat → Prop} {w : World} {ts : List VT} (h : AllV S w ts) (hS : ∀ b, S b → b < w.heap.size → S' b) : AllV S' w ts := fun x hx => (h x hx).mono hS
theorem AllV.nil (S : Nat → Prop) (w : World) : AllV S w [] := fun x hx => by rw [nodesV] at hx; cases hx
theorem AllV.get {S : Nat → Prop} {w : World} {ts : List VT} (h : AllV S w ts) {t : VT} (ht : t ∈ ts) : t.inS S w := h t (mem_selfV ht)
theorem AllV.kids {S : Nat → Prop} {w : World} {ts : List VT} (h : AllV S w ts) {t : VT} (ht : t ∈ ts) : AllV S w t.kids := fun x hx => h x (mem_kidsV ht hx)
theorem AllV.append {S : Nat → Prop} {w : World} {ts us : List VT} (h : AllV S w ts) (h2 : AllV S w us) : AllV S w (ts ++ us) := by
  intro x hx
  rw [nodesV_append] at hx
  rcases List.mem_append.1 hx with hx | hx
  · exact h x hx
  · exact h2 x hx
theorem AllV.one {S : Nat → Prop} {w : World} {t : VT} (h : t.inS S w) (hk : AllV S w t.kids) : AllV S w [t] := by
  intro x hx
  rw [nodesV_one, VT.nodes_eq] at hx
  rcases List.mem_cons.1 hx with rfl | hx
  · exact h
  · exact hk x hx
theorem viewCells_length (ts : List VT) : (viewCells ts).length = ts.length * 10 := cells_flat viewRow 10 (fun _ => rfl) ts
theorem viewCells_at (ts : List VT) (k : Nat) (t : VT) (h : ts[k]? = some t) (j : Nat) (hj : j < 10) : (viewCells ts)[k * 10 + j]? = (viewRow t)[j]? := cells_flat_at viewRow 10 (fun _ => rfl) ts k t h j hj
theorem viewCells_snoc (ts : List VT) (t : VT) : viewCells (ts ++ [t]) = viewCells ts ++ viewRow t := by simp [viewCells]
theorem viewRow_one (t : VT) : ∀ u ∈ viewRow t, u.oneCell' = true := by simp [Value.oneCell', viewRow]
theorem hkRow_one (h : PH) : ∀ u ∈ hkRow h, u.oneCell' = true := by simp [Value.oneCell', hkRow]
/-- view k of a row: its ten cells, as the walk spells them -/
theorem Lies.view {w : World} {B : Nat} {A : Option Addr} {ts : List VT} (h : Lies w B A (viewCells ts)) {k : Nat} (hk : k < ts.length) :
    ∃ ad t, A = some ad ∧ ad.block < B ∧ w.cell? (ad.add (k * 10)) = some (.int .i64 t.kind) ∧
      w.cell? ⟨(ad.add (k * 10)).block, (ad.add (k * 10)).off + 1, none⟩ = some (.string t.tag.s) ∧
      w.cell? ⟨(ad.add (k * 10)).block, (ad.add (k * 10)).off + 2, none⟩ = some (.slice t.tag.A t.tag.n t.tag.c) ∧
      w.cell? ⟨(ad.add (k * 10)).block, (ad.add (k * 10)).off + 3, none⟩ = some (.string t.key) ∧
      w.cell? ⟨(ad.add (k * 10)).block, (ad.add (k * 10)).off + 4, none⟩ = some (.slice t.A t.n t.c) ∧
      w.cell? ⟨(ad.add (k * 10)).block, (ad.add (k * 10)).off + 5, none⟩ = some (.slice t.H t.hn t.hc) ∧
      w.cell? ⟨(ad.add (k * 10)).block, (ad.add (k * 10)).off + 6, none⟩ = some (.slice t.K t.kn t.kc) ∧
      w.cell? ⟨(ad.add (k * 10)).block, (ad.add (k * 10)).off + 7, none⟩ = some (.string t.text.s) ∧
      w.cell? ⟨(ad.add (k * 10)).block, (ad.add (k * 10)).off + 8, none⟩ = some (.slice t.text.A t.text.n t.text.c) ∧
      w.cell? ⟨(ad.add (k * 10)).block, (ad.add (k * 10)).off + 9, none⟩ = some (.int .i64 t.slot) ∧ Hid (ts[k]? = some t) := by
  have ht : ts[k]? = some ts[k] := List.getElem?_eq_getElem hk
  generalize ts[k] = t at ht
  have key : ∀ j u, j < 10 → (viewRow t)[j]? = some u → ∃ ad, A = some ad ∧ ad.block < B ∧ w.cell? (ad.add (k * 10 + j)) = some u := fun j u hj hu => h _ _ ((viewCells_at ts k t ht j hj).trans hu)
  obtain ⟨ad, e, hb, h0⟩ := key 0 _ (by omega) rfl
  subst e
  have key' : ∀ j u, j < 10 → (viewRow t)[j]? = some u → w.cell? (ad.add (k * 10 + j)) = some u := by
    intro j u hj hu
    obtain ⟨ad', e, _, hc⟩ := key j u hj hu
    injection e with e
    subst e
    exact hc
  exact ⟨ad, t, rfl, hb, h0, by rw [← addr_off ad (k * 10) 1 (by decide)]; exact key' 1 _ (by omega) rfl, by rw [← addr_off ad (k * 10) 2 (by decide)]; exact key' 2 _ (by omega) rfl, by rw [← addr_off ad (k * 10) 3 (by decide)]; exact key' 3 _ (by omega) rfl, by rw [← addr_off ad (k * 10) 4 (by decide)]; exact key' 4 _ (by omega) rfl, by rw [← addr_off ad (k * 10) 5 (by decide)]; exact key' 5 _ (by omega) rfl, by rw [← addr_off ad (k * 10) 6 (by decide)]; exact key' 6 _ (by omega) rfl, by rw [← addr_off ad (k * 10) 7 (by decide)]; exact key' 7 _ (by omega) rfl, by rw [← addr_off ad (k * 10) 8 (by decide)]; exact key' 8 _ (by omega) rfl, by rw [← addr_off ad (k * 10) 9 (by decide)]; exact key' 9 _ (by omega) rfl, ht⟩

theorem view_info : (Tryz.prog.info? 43).map (fun i => (i.zero, i.size, i.bytes)) = some (some (.agg #[.int .i64 0, .string ⟨#[]⟩, .slice none 0 0, .string ⟨#[]⟩, .slice none 0 0, .slice none 0 0, .slice none 0 0, .string ⟨#[]⟩, .slice none 0 0, .int .i64 0]), 10, 184) := by kernel_rfl
theorem hook_info : (Tryz.prog.info? 94).map (fun i => (i.zero, i.size, i.bytes)) = some (some (.agg #[.int .i64 0, .bool false, .int .i64 0]), 3, 24) := by kernel_rfl

/-- views that come in: they lie below, and are not too large -/
structure ViewsIn (w : World) (A : Option Addr) (n : Nat) (ts : List VT) : Prop where
  lies : LiesS (fun b => b < w.heap.size) w A (viewCells ts)
  all : AllV (fun b => b < w.heap.size) w ts
  len : ts.length = n
  bulk : bkV (chV ts) ≤ 4194304
theorem ViewsIn.next {w w' : World} {A : Option Addr} {n : Nat} {ts : List VT} (h : ViewsIn w A n ts) (hb : Below w.heap.size w w') : ViewsIn w' A n ts :=
  ⟨(h.lies.keep (Stays.of hb)).mono fun _ hb2 _ => Nat.lt_of_lt_of_le hb2 hb.size, (h.all.keep (Stays.of hb)).mono fun _ hb2 _ => Nat.lt_of_lt_of_le hb2 hb.size, h.len, h.bulk⟩
theorem ViewsIn.small {w : World} {A : Option Addr} {n : Nat} {ts : List VT} (h : ViewsIn w A n ts) : n ≤ 4194304 := by
  have h1 := bkV_len (chV ts)
  rw [chV_length, h.len] at h1
  exact Nat.le_trans h1 h.bulk
theorem ViewsIn.kid {w : World} {A : Option Addr} {n : Nat} {ts : List VT} (h : ViewsIn w A n ts) {x : VT} (hx : x ∈ ts) : ViewsIn w x.K x.kn x.kids := by
  have h1 := h.all.get hx
  refine ⟨h1.kid, h.all.kids hx, h1.kn, ?_⟩
  have h3 := bkV_kids (chV_mem hx)
  rw [VT.ch_kids] at h3
  have := h.bulk
  omega

end Go.Proofs.YtnbdldapmllegaaGreat.mk

namespace Go.Proofs.YtnbdldapmllegaaGreat.mk
open Go.RowKit

/-- new blocks, but not the row's own -/
def OutV (base : Nat) (v : Value) (b : Nat) : Prop := base ≤ b ∧ v.ownBlock ≠ some b
def VRow (w : World) (base : Nat) (qs : List PV) (v : Value) : Prop :=
  ∃ A c us, v = .slice A us.length c ∧ w.ownsRow base 43 10 (.slice A us.length c) us.length (viewCells us) ∧ AllV (OutV base v) w us ∧ chV us = qs
theorem VRow.keep {w w' : World} {base : Nat} {qs : List PV} {v : Value} (h : VRow w base qs v) (hb : Below w.heap.size w w') : VRow w' base qs v := by
  obtain ⟨A, c, us, h1, h2, h3, h4⟩ := h
  exact ⟨A, c, us, h1, own_keep h2 hb, h3.keep (Stays.of hb), h4⟩
theorem VRow.zero (w : World) (base : Nat) : VRow w base [] (.slice none 0 0) := ⟨none, 0, [], rfl, World.ownsRow_nil _ _ _ _, AllV.nil _ _, rfl⟩
theorem VRow.mono {w : World} {base base' : Nat} {qs : List PV} {v : Value} (h : VRow w base qs v) (hb : base' ≤ base) : VRow w base' qs v := by
  obtain ⟨A, c, us, h1, h2, h3, h4⟩ := h
  exact ⟨A, c, us, h1, own_mono h2 hb, h3.mono fun b hb2 _ => ⟨Nat.le_trans hb hb2.1, hb2.2⟩, h4⟩
/-- as views that come in -/
theorem VRow.ins {w : World} {base : Nat} {qs : List PV} {A : Option Addr} {n c : Nat} (h : VRow w base qs (.slice A n c)) (hq : bkV qs ≤ 4194304) : ∃ us, ViewsIn w A n us ∧ chV us = qs := by
  obtain ⟨A', c', us, h1, h2, h3, h4⟩ := h
  injection h1 with e1 e2 e3
  subst e1 e2 e3
  exact ⟨us, ⟨(own_inS h2).mono fun b _ hb => hb, h3.mono fun b _ hb => hb, rfl, by rw [h4]; exact hq⟩, h4⟩
/-- as what a view reaches: all is new -/
theorem VRow.new {w : World} {base : Nat} {qs : List PV} {A : Option Addr} {n c : Nat} (h : VRow w base qs (.slice A n c)) : ∃ us, LiesS (fun b => base ≤ b) w A (viewCells us) ∧ us.length = n ∧ (A = none → c = 0) ∧ AllV (fun b => base ≤ b) w us ∧ chV us = qs := by
  obtain ⟨A', c', us, h1, h2, h3, h4⟩ := h
  injection h1 with e1 e2 e3
  subst e1 e2 e3
  obtain ⟨A2, c2, e, hA, _, _⟩ := own_form h2
  injection e with e1 _ e3
  subst e1 e3
  exact ⟨us, own_inS h2, rfl, hA, h3.mono fun b hb _ => hb.1, h4⟩
/-- one more -/
theorem VRow.more {w w2 : World} {base n : Nat} {A A' : Option Addr} {c c' : Nat} {us : List VT} {t : VT} {qs : List PV} (hn : us.length = n) (hall : AllV (OutV base (.slice A n c)) w us) (hq : chV us = qs)
    (ht : t.inS (OutV base (.slice A n c)) w) (hk : AllV (OutV base (.slice A n c)) w t.kids) (hg : w.grownBy w2 (Value.slice A n c).ownBlock)
    (hv : (Value.slice A' (n + 1) c').ownBlock = (Value.slice A n c).ownBlock ∨ (Value.slice A' (n + 1) c').ownBlock = some w.heap.size)
    (ho : w2.ownsRow base 43 10 (.slice A' (n + 1) c') (n + 1) (viewCells us ++ viewRow t)) : VRow w2 base (qs ++ [t.ch]) (.slice A' (n + 1) c') := by
  have h1 : AllV (fun b => OutV base (.slice A n c) b ∧ b < w.heap.size) w (us ++ [t]) := (hall.append (AllV.one ht hk)).mono fun b hb hl => ⟨hb, hl⟩
  refine ⟨A', c', us ++ [t], by rw [List.length_append, hn]; rfl, ?_, ?_, by rw [chV_append, hq]; rfl⟩
  · rw [List.length_append, hn, viewCells_snoc]; exact ho
  · refine (h1.keep ⟨hg.size, fun b hb hl => hg.block b hl (fun e => ?_)⟩).mono fun b hb _ => ?_
    · exact hb.1.2 e.symm
    · refine ⟨hb.1.1, ?_⟩
      rcases hv with hv | hv
      · rw [hv]; exact hb.1.2
      · rw [hv]; intro e; injection e with e; have := hb.2; omega

end Go.Proofs.YtnbdldapmllegaaGreat.mk

namespace Go.Proofs.YtnbdldapmllegaaGreat.mk
open Go.RowKit

set_option maxHeartbeats 2000000 in
set_option maxRecDepth 100000 in
theorem hooks_true (A : Option Addr) (n c : Nat) (hs : List PH) (B : Option Addr) (d : Nat) (w : World) (hl : Lies w w.heap.size A (hkCells hs)) (hl' : Lies w w.heap.size B (hkCells hs)) (hn : hs.length = n) (hn2 : n ≤ 4294967296) :
    Calls Tryz.prog 27 #[.slice A n c, .slice B n d] w fun e w' => e = .returned (.bool true) ∧ Below w.heap.size w w' := by
  have HN := Lib.hid hn
  have HL := Lib.hid hl
  have HL' := Lib.hid hl'
  clear hn hl hl'
  go_enter Tryz.func27, Tryz.ntmps27
  go_wp2_with fail
  go_loopw [5] (UpTo n w) (fun i _ => n - (intOf i).toNat)
  case atStart => exact ⟨0, Nat.zero_le _, rfl, Below.refl _ _⟩
  case round =>
    obtain ⟨k, hk, rfl, hb⟩ := hrel
    by_cases hlt : k < n
    · obtain ⟨ad, t, rfl, hbA, d0, d1, d2, HR⟩ := (HL.out.below hb).hook (k := k) (by rw [HN.out]; exact hlt)
      obtain ⟨ad', t', rfl, hbB, e0, e1, e2, HR'⟩ := (HL'.out.below hb).hook (k := k) (by rw [HN.out]; exact hlt)
      obtain rfl : t = t' := by have h1 := HR.out; rw [HR'.out] at h1; injection h1 with h1; exact h1.symm
      obtain ⟨a, b, c'⟩ := t
      have hk0 : (0 : Int) ≤ (k : Int) := Int.natCast_nonneg _
      have hk1 : (k : Int) < (n : Int) := by omega
      simp only at d0 d1 d2 e0 e1 e2
      go_wp2_with fail
      go_region_held3 (fun w' => w'.cell? (ad.add (k * 3)) = some (.int .i64 a) ∧ w'.cell? ⟨(ad.add (k * 3)).block, (ad.add (k * 3)).off + 1, none⟩ = some (.bool b) ∧ w'.cell? ⟨(ad.add (k * 3)).block, (ad.add (k * 3)).off + 2, none⟩ = some (.int .i64 c') ∧
        w'.cell? (ad'.add (k * 3)) = some (.int .i64 a) ∧ w'.cell? ⟨(ad'.add (k * 3)).block, (ad'.add (k * 3)).off + 1, none⟩ = some (.bool b) ∧ w'.cell? ⟨(ad'.add (k * 3)).block, (ad'.add (k * 3)).off + 2, none⟩ = some (.int .i64 c')) (exact ⟨d0, d1, d2, e0, e1, e2⟩) (fail)
      go_wp2_with fail
      go_roundw
      case rel => exact ⟨k + 1, by omega, by go_num, hb.drew⟩
      case measure => simp [intOf]; omega
    · go_wp2_with fail
      go_ret
      exact ⟨rfl, hb⟩

def CountVRel (L : List PV) (n : Nat) (w0 : World) (v i : Value) (wr : World) : Prop :=
  ∃ (k : Nat) (r : Int), k ≤ n ∧ i = .int .i64 (k : Int) ∧ v = .int .i64 r ∧ 0 ≤ r ∧ r ≤ bkV (L.take k) ∧ Below w0.heap.size w0 wr

set_option maxHeartbeats 2000000 in
set_option maxRecDepth 100000 in
theorem countV_any : ∀ (Q : List PV) (A : Option Addr) (n c : Nat) (ts : List VT) (m : Int) (w : World), chV ts = Q → ViewsIn w A n ts → 0 ≤ m → m ≤ 1000 →
    Calls Tryz.prog 18 #[.slice A n c, .int .i64 m] w fun e w' => (∃ r : Int, e = .returned (.int .i64 r) ∧ 0 ≤ r ∧ r ≤ bkV Q) ∧ Below w.heap.size w w' := by
  apply PV.ind
  intro Q IH A n c ts m w hq h hm0 hm1
  subst hq
  have H := Lib.hid h
  have HI : Hid (∀ x ∈ ts, ∀ (W : World) (m : Int), Below w.heap.size w W → 0 ≤ m → m ≤ 1000 → Calls Tryz.prog 18 #[.slice x.K x.kn x.kc, .int .i64 m] W fun e w' => (∃ r : Int, e = .returned (.int .i64 r) ∧ 0 ≤ r ∧ r ≤ bkV (chV x.kids)) ∧ Below W.heap.size W w') := fun x hx W m hb h0 h1 => by
    have h2 := IH x.ch (chV_mem hx) x.K x.kn x.kc x.kids m W (VT.ch_kids x).symm ((H.out.next hb).kid hx) h0 h1
    rw [VT.ch_kids] at h2
    exact h2
  have HBU := Lib.hid h.bulk
  have hn4 := h.small
  clear h IH
  go_enter Tryz.func18, Tryz.ntmps18
  go_wp2_with fail
  go_loopw [5, 6] (CountVRel (chV ts) n w) (fun _ i _ => n - (intOf i).toNat)
  case atStart => exact ⟨0, 0, Nat.zero_le _, rfl, rfl, Int.le_refl _, by omega, Below.refl _ _⟩
  case round =>
    obtain ⟨k, r, hk, rfl, rfl, hr0, hr1, hb⟩ := hrel
    have HB := Lib.hid hb
    have hrb : r ≤ 4194304 := by have := bkV_take (chV ts) k; have := HBU.out; omega
    have HR1 := Lib.hid hr1
    clear hb hr1
    by_cases hlt : k < n
    · have hk1 : (k : Int) < (n : Int) := by omega
      by_cases hrm : r ≤ m
      · obtain ⟨ad, x, rfl, hbA, _, _, _, _, _, _, d6, _, _, _, HX⟩ := (H.out.next HB.out).lies.lies.view (k := k) (by rw [H.out.len]; exact hlt)
        have HMEM := Lib.hid (List.mem_of_getElem? HX.out)
        have hk0 : (0 : Int) ≤ (k : Int) := Int.natCast_nonneg _
        have HC := Lib.hid (HI.out x HMEM.out wr (m - r) HB.out (by omega) (by omega))
        have HNX : Hid (bkV ((chV ts).take (k + 1)) = bkV ((chV ts).take k) + x.ch.bk) := by
          show _ = _
          rw [take_next (chV_at HX.out), bkV_append, bkV_one]
        have HKB : Hid (bkV (chV x.kids) + 1 ≤ x.ch.bk ∧ x.ch.bk ≤ 4194304) := by
          have h1 := x.ch.bk_eq
          rw [VT.ch_kids] at h1
          have h2 := bkV_mem (chV_mem HMEM.out)
          have := HBU.out
          exact ⟨by omega, by omega⟩
        go_wp2_with fail
        refine HC.out.mono ?_
        rintro e w2 ⟨⟨q, rfl, hq0, hq1⟩, hb2⟩
        have HB2 := Lib.hid (below_next HB.out (Nat.le_refl _) hb2)
        have hq2 : q ≤ 4194304 := by have := HKB.out; omega
        have HEND : Hid (r + 1 + q ≤ bkV ((chV ts).take (k + 1))) := by
          have h1 := HNX.out
          have h2 := HKB.out.1
          have h3 := HR1.out
          show _ ≤ _
          omega
        clear hb2 hq1
        go_wp2_with fail
        go_roundw
        case rel => exact ⟨k + 1, r + 1 + q, by omega, by go_num, by go_num, by omega, HEND.out, HB2.out⟩
        case measure => simp [intOf]; omega
      · have HEND : Hid (r ≤ bkV (chV ts)) := by
          have h1 := HR1.out
          have h2 := bkV_take (chV ts) k
          show _ ≤ _
          omega
        go_wp2_with fail
        go_ret
        exact ⟨⟨r, rfl, hr0, HEND.out⟩, HB.out⟩
    · have hk1 : ¬ (k : Int) < (n : Int) := by omega
      have HEND : Hid (r ≤ bkV (chV ts)) := by
        have h1 := HR1.out
        have h2 := bkV_take (chV ts) k
        show _ ≤ _
        omega
      go_wp2_with fail
      go_ret
      exact ⟨⟨r, rfl, hr0, HEND.out⟩, HB.out⟩

set_option maxHeartbeats 1000000 in
set_option maxRecDepth 100000 in
theorem few_any (A : Option Addr) (n c : Nat) (ts : List VT) (w : World) (h : ViewsIn w A n ts) :
    Calls Tryz.prog 7 #[.slice A n c, .int .i64 300] w fun e w' => (∃ b, e = .returned (.bool b)) ∧ Below w.heap.size w w' := by
  have HC := Lib.hid (countV_any (chV ts) A n c ts 300 w rfl h (by decide) (by decide))
  clear h
  go_enter Tryz.func7, Tryz.ntmps7
  go_wp2_with fail
  refine HC.out.mono ?_
  rintro e w1 ⟨⟨r, rfl, _, _⟩, hb⟩
  have HB := Lib.hid hb
  clear hb
  go_wp2_with fail
  go_ret
  exact ⟨⟨_, rfl⟩, HB.out⟩

end Go.Proofs.YtnbdldapmllegaaGreat.mk

namespace Go.Proofs.YtnbdldapmllegaaGreat.mk
open Go.RowKit

/-- what views of the same are in each part -/
theorem chV_both {ts us : List VT} (h : chV ts = chV us) {k : Nat} {x y : VT} (hx : ts[k]? = some x) (hy : us[k]? = some y) :
    x.kind = y.kind ∧ x.tag.ch = y.tag.ch ∧ x.key = y.key ∧ x.atts.map AT.ch = y.atts.map AT.ch ∧ x.hooks = y.hooks ∧ chV x.kids = chV y.kids ∧ x.text.ch = y.text.ch ∧ x.slot = y.slot := by
  have h1 := chV_at hx
  rw [h, chV_at hy] at h1
  injection h1 with h1
  rw [VT.ch_eq, VT.ch_eq] at h1
  injection h1 with h1 h2 h3 h4 h5 h6 h7 h8
  exact ⟨h1.symm, h2.symm, by apply ByteArray.ext; exact Array.toList_inj.1 h3.symm, h4.symm, h5.symm, h6.symm, h7.symm, h8.symm⟩
theorem two_new {w : World} {o1 o2 : Obj} : Below w.heap.size w ((w.alloc o1).alloc o2).drew := (((Below.refl _ _).alloc (Nat.le_refl _) _).alloc (by rw [World.size_alloc]; exact Nat.le_succ _) _).drew

set_option maxHeartbeats 8000000 in
set_option maxRecDepth 100000 in
theorem views_true : ∀ (Q : List PV) (A : Option Addr) (n c : Nat) (ts : List VT) (B : Option Addr) (d : Nat) (us : List VT) (w : World), chV ts = Q → chV us = Q → Lies w w.heap.size A (viewCells ts) → AllV (fun _ => True) w ts → ts.length = n → n ≤ 4194304 →
    Lies w w.heap.size B (viewCells us) → AllV (fun _ => True) w us →
    Calls Tryz.prog 9 #[.slice A n c, .slice B n d] w fun e w' => e = .returned (.bool true) ∧ Below w.heap.size w w' := by
  apply PV.ind
  intro Q IH A n c ts B d us w hq1 hq2 hl hok hn hn2 hl' hok'
  have HN := Lib.hid hn
  have HM : Hid (us.length = n) := by show _ = _; rw [← chV_length, hq2, ← hq1, chV_length]; exact hn
  have HL := Lib.hid hl
  have HL' := Lib.hid hl'
  have HOK := Lib.hid hok
  have HOK' := Lib.hid hok'
  have HQ := Lib.hid (hq1.trans hq2.symm)
  have HIH : Hid (∀ t ∈ ts, ∀ (A : Option Addr) (n c : Nat) (B : Option Addr) (d : Nat) (us : List VT) (w : World), chV us = chV t.kids → Lies w w.heap.size A (viewCells t.kids) → AllV (fun _ => True) w t.kids → t.kids.length = n → n ≤ 4194304 →
      Lies w w.heap.size B (viewCells us) → AllV (fun _ => True) w us →
      Calls Tryz.prog 9 #[.slice A n c, .slice B n d] w fun e w' => e = .returned (.bool true) ∧ Below w.heap.size w w') := by
    intro t ht A n c B d us w h1 h2 h3 h4 h5 h6 h7
    refine IH t.ch (by rw [← hq1]; exact chV_mem ht) A n c t.kids B d us w (VT.ch_kids t).symm (by rw [h1, VT.ch_kids]) h2 h3 h4 h5 h6 h7
  clear hn hl hl' hok hok' hq1 hq2 IH
  go_enter Tryz.func9, Tryz.ntmps9
  go_wp2_with fail
  go_loopw [5] (UpTo n w) (fun i _ => n - (intOf i).toNat)
  case atStart => exact ⟨0, Nat.zero_le _, rfl, Below.refl _ _⟩
  case round =>
    obtain ⟨k, hk, rfl, hb⟩ := hrel
    by_cases hlt : k < n
    · obtain ⟨ad, x, rfl, hbA, d0, d1, d2, d3, d4, d5, d6, d7, d8, d9, HR⟩ := (HL.out.below hb).view (k := k) (by rw [HN.out]; exact hlt)
      obtain ⟨ad', y, rfl, hbB, e0, e1, e2, e3, e4, e5, e6, e7, e8, e9, HR'⟩ := (HL'.out.below hb).view (k := k) (by rw [HM.out]; exact hlt)
      have hk0 : (0 : Int) ≤ (k : Int) := Int.natCast_nonneg _
      have hk1 : (k : Int) < (n : Int) := by omega
      obtain ⟨v0, v1, v2, v3, v4, v5, v6, v7⟩ := chV_both HQ.out HR.out HR'.out
      rw [← v0] at e0
      rw [← v2] at e3
      rw [← v7] at e9
      have hzw := hb.size
      have hba : ∀ j, ((⟨(ad.add (k * 10)).block, (ad.add (k * 10)).off + j, none⟩ : Addr)).block < wr.heap.size := fun j => by show (ad.add (k * 10)).block < _; rw [addr_block]; omega
      have hbb : ∀ j, ((⟨(ad'.add (k * 10)).block, (ad'.add (k * 10)).off + j, none⟩ : Addr)).block < wr.heap.size := fun j => by show (ad'.add (k * 10)).block < _; rw [addr_block]; omega
      have hba0 : (ad.add (k * 10)).block < wr.heap.size := by rw [addr_block]; omega
      have hbb0 : (ad'.add (k * 10)).block < wr.heap.size := by rw [addr_block]; omega
      have HKS : Hid (∀ w', Below wr.heap.size wr w' → w'.cell? (ad.add (k * 10)) = some (.int .i64 x.kind) ∧ w'.cell? ⟨(ad.add (k * 10)).block, (ad.add (k * 10)).off + 1, none⟩ = some (.string x.tag.s) ∧ w'.cell? ⟨(ad.add (k * 10)).block, (ad.add (k * 10)).off + 2, none⟩ = some (.slice x.tag.A x.tag.n x.tag.c) ∧ w'.cell? ⟨(ad.add (k * 10)).block, (ad.add (k * 10)).off + 3, none⟩ = some (.string x.key) ∧ w'.cell? ⟨(ad.add (k * 10)).block, (ad.add (k * 10)).off + 4, none⟩ = some (.slice x.A x.n x.c) ∧ w'.cell? ⟨(ad.add (k * 10)).block, (ad.add (k * 10)).off + 5, none⟩ = some (.slice x.H x.hn x.hc) ∧ w'.cell? ⟨(ad.add (k * 10)).block, (ad.add (k * 10)).off + 6, none⟩ = some (.slice x.K x.kn x.kc) ∧ w'.cell? ⟨(ad.add (k * 10)).block, (ad.add (k * 10)).off + 7, none⟩ = some (.string x.text.s) ∧ w'.cell? ⟨(ad.add (k * 10)).block, (ad.add (k * 10)).off + 8, none⟩ = some (.slice x.text.A x.text.n x.text.c) ∧ w'.cell? ⟨(ad.add (k * 10)).block, (ad.add (k * 10)).off + 9, none⟩ = some (.int .i64 x.slot) ∧ w'.cell? (ad'.add (k * 10)) = some (.int .i64 x.kind) ∧ w'.cell? ⟨(ad'.add (k * 10)).block, (ad'.add (k * 10)).off + 1, none⟩ = some (.string y.tag.s) ∧ w'.cell? ⟨(ad'.add (k * 10)).block, (ad'.add (k * 10)).off + 2, none⟩ = some (.slice y.tag.A y.tag.n y.tag.c) ∧ w'.cell? ⟨(ad'.add (k * 10)).block, (ad'.add (k * 10)).off + 3, none⟩ = some (.string x.key) ∧ w'.cell? ⟨(ad'.add (k * 10)).block, (ad'.add (k * 10)).off + 4, none⟩ = some (.slice y.A y.n y.c) ∧ w'.cell? ⟨(ad'.add (k * 10)).block, (ad'.add (k * 10)).off + 5, none⟩ = some (.slice y.H y.hn y.hc) ∧ w'.cell? ⟨(ad'.add (k * 10)).block, (ad'.add (k * 10)).off + 6, none⟩ = some (.slice y.K y.kn y.kc) ∧ w'.cell? ⟨(ad'.add (k * 10)).block, (ad'.add (k * 10)).off + 7, none⟩ = some (.string y.text.s) ∧ w'.cell? ⟨(ad'.add (k * 10)).block, (ad'.add (k * 10)).off + 8, none⟩ = some (.slice y.text.A y.text.n y.text.c) ∧ w'.cell? ⟨(ad'.add (k * 10)).block, (ad'.add (k * 10)).off + 9, none⟩ = some (.int .i64 x.slot) ∧ Below wr.heap.size wr w') := fun w' h =>
        ⟨(h.cell hba0).trans d0, (h.cell (hba 1)).trans d1, (h.cell (hba 2)).trans d2, (h.cell (hba 3)).trans d3, (h.cell (hba 4)).trans d4, (h.cell (hba 5)).trans d5, (h.cell (hba 6)).trans d6, (h.cell (hba 7)).trans d7, (h.cell (hba 8)).trans d8, (h.cell (hba 9)).trans d9, (h.cell hbb0).trans e0, (h.cell (hbb 1)).trans e1, (h.cell (hbb 2)).trans e2, (h.cell (hbb 3)).trans e3, (h.cell (hbb 4)).trans e4, (h.cell (hbb 5)).trans e5, (h.cell (hbb 6)).trans e6, (h.cell (hbb 7)).trans e7, (h.cell (hbb 8)).trans e8, (h.cell (hbb 9)).trans e9, h⟩
      have hmx := List.mem_of_getElem? HR.out
      have hmy := List.mem_of_getElem? HR'.out
      have hx := HOK.out.get hmx
      have hy := HOK'.out.get hmy
      have hxk := HOK.out.kids hmx
      have hyk := HOK'.out.kids hmy
      have hbw : ∀ {W : World}, Below wr.heap.size wr W → Stays (fun _ => True) w W := fun h => Stays.of (below_next hb (Nat.le_refl _) h)
      have HTS : Hid (∀ W, Below wr.heap.size wr W → Calls Tryz.prog 26 #[.agg #[.string x.tag.s, .slice x.tag.A x.tag.n x.tag.c], .agg #[.string y.tag.s, .slice y.tag.A y.tag.n y.tag.c]] W fun e w' => e = .returned (.bool true) ∧ Below W.heap.size W w') := fun W h => by
        have h1 := plainStr_any x.tag y.tag W (hx.tag.keep (hbw h)).ok (hy.tag.keep (hbw h)).ok
        rw [decide_eq_true v1] at h1
        exact h1
      have HXS : Hid (∀ W, Below wr.heap.size wr W → Calls Tryz.prog 26 #[.agg #[.string x.text.s, .slice x.text.A x.text.n x.text.c], .agg #[.string y.text.s, .slice y.text.A y.text.n y.text.c]] W fun e w' => e = .returned (.bool true) ∧ Below W.heap.size W w') := fun W h => by
        have h1 := plainStr_any x.text y.text W (hx.text.keep (hbw h)).ok (hy.text.keep (hbw h)).ok
        rw [decide_eq_true v6] at h1
        exact h1
      have hyn : y.n = x.n := by
        have := congrArg List.length v3
        rw [List.length_map, List.length_map, hx.an, hy.an] at this
        exact this.symm
      have hykn : y.kn = x.kn := by
        have := congrArg List.length v5
        rw [chV_length, chV_length, hx.kn, hy.kn] at this
        exact this.symm
      have hyhn : y.hn = x.hn := by
        have := congrArg List.length v4
        rw [hx.hn, hy.hn] at this
        exact this.symm
      have HAS : Hid (∀ W, Below wr.heap.size wr W → Calls Tryz.prog 12 #[.slice x.A x.n x.c, .slice y.A y.n y.c] W fun e w' => e = .returned (.bool true) ∧ Below W.heap.size W w') := fun W h => by
        have hsz := hx.am
        have h1 := plainAttrs_any x.A x.n x.c x.atts y.A y.n y.c y.atts W (hx.att.keep (hbw h)).lies (fun a ha => ((hx.atts a ha).keep (hbw h)).ok) hx.an (by omega) (hy.att.keep (hbw h)).lies (fun a ha => ((hy.atts a ha).keep (hbw h)).ok) hy.an
        rw [decide_eq_true v3] at h1
        exact h1
      have HHS : Hid (∀ W, Below wr.heap.size wr W → Calls Tryz.prog 27 #[.slice x.H x.hn x.hc, .slice y.H y.hn y.hc] W fun e w' => e = .returned (.bool true) ∧ Below W.heap.size W w') := fun W h => by
        have hsz := hx.hm
        have hy2 := (hy.hook.keep (hbw h)).lies
        rw [← v4] at hy2
        rw [hyhn]
        exact hooks_true x.H x.hn x.hc x.hooks y.H y.hc W (hx.hook.keep (hbw h)).lies hy2 hx.hn (by omega)
      have HKD : Hid (∀ W, Below wr.heap.size wr W → Calls Tryz.prog 9 #[.slice x.K x.kn x.kc, .slice y.K y.kn y.kc] W fun e w' => e = .returned (.bool true) ∧ Below W.heap.size W w') := fun W h => by
        rw [hykn]
        exact HIH.out x hmx x.K x.kn x.kc y.K y.kc y.kids W v5.symm (hx.kid.keep (hbw h)).lies (hxk.keep (hbw h)) hx.kn hx.km (hy.kid.keep (hbw h)).lies (hyk.keep (hbw h))
      have HBW := Lib.hid hb
      clear hba hbb hba0 hbb0 hbw hmx hmy hx hy hxk hyk v0 v1 v2 v3 v4 v5 v6 v7 hyn hykn hyhn hb hzw
      go_upto_region 6 with fail
      go_region_held3 (fun w' => w'.cell? (ad.add (k * 10)) = some (.int .i64 x.kind) ∧ w'.cell? ⟨(ad.add (k * 10)).block, (ad.add (k * 10)).off + 1, none⟩ = some (.string x.tag.s) ∧ w'.cell? ⟨(ad.add (k * 10)).block, (ad.add (k * 10)).off + 2, none⟩ = some (.slice x.tag.A x.tag.n x.tag.c) ∧ w'.cell? ⟨(ad.add (k * 10)).block, (ad.add (k * 10)).off + 3, none⟩ = some (.string x.key) ∧ w'.cell? ⟨(ad.add (k * 10)).block, (ad.add (k * 10)).off + 4, none⟩ = some (.slice x.A x.n x.c) ∧ w'.cell? ⟨(ad.add (k * 10)).block, (ad.add (k * 10)).off + 5, none⟩ = some (.slice x.H x.hn x.hc) ∧ w'.cell? ⟨(ad.add (k * 10)).block, (ad.add (k * 10)).off + 6, none⟩ = some (.slice x.K x.kn x.kc) ∧ w'.cell? ⟨(ad.add (k * 10)).block, (ad.add (k * 10)).off + 7, none⟩ = some (.string x.text.s) ∧ w'.cell? ⟨(ad.add (k * 10)).block, (ad.add (k * 10)).off + 8, none⟩ = some (.slice x.text.A x.text.n x.text.c) ∧ w'.cell? ⟨(ad.add (k * 10)).block, (ad.add (k * 10)).off + 9, none⟩ = some (.int .i64 x.slot) ∧ w'.cell? (ad'.add (k * 10)) = some (.int .i64 x.kind) ∧ w'.cell? ⟨(ad'.add (k * 10)).block, (ad'.add (k * 10)).off + 1, none⟩ = some (.string y.tag.s) ∧ w'.cell? ⟨(ad'.add (k * 10)).block, (ad'.add (k * 10)).off + 2, none⟩ = some (.slice y.tag.A y.tag.n y.tag.c) ∧ w'.cell? ⟨(ad'.add (k * 10)).block, (ad'.add (k * 10)).off + 3, none⟩ = some (.string x.key) ∧ w'.cell? ⟨(ad'.add (k * 10)).block, (ad'.add (k * 10)).off + 4, none⟩ = some (.slice y.A y.n y.c) ∧ w'.cell? ⟨(ad'.add (k * 10)).block, (ad'.add (k * 10)).off + 5, none⟩ = some (.slice y.H y.hn y.hc) ∧ w'.cell? ⟨(ad'.add (k * 10)).block, (ad'.add (k * 10)).off + 6, none⟩ = some (.slice y.K y.kn y.kc) ∧ w'.cell? ⟨(ad'.add (k * 10)).block, (ad'.add (k * 10)).off + 7, none⟩ = some (.string y.text.s) ∧ w'.cell? ⟨(ad'.add (k * 10)).block, (ad'.add (k * 10)).off + 8, none⟩ = some (.slice y.text.A y.text.n y.text.c) ∧ w'.cell? ⟨(ad'.add (k * 10)).block, (ad'.add (k * 10)).off + 9, none⟩ = some (.int .i64 x.slot) ∧ Below wr.heap.size wr w')
        (first
          | exact HKS.out _ (Below.drew (Below.refl _ _))
          | (go_split_ands; exact HKS.out _ (by assumption))
          | (go_split_ands; refine HKS.out _ (Below.alloc (by assumption) ?_ _); exact Below.size (by assumption))
          | exact HKS.out _ two_new)
        (fail)
      all_goals
        first
        | (obtain ⟨w9, hw9⟩ : ∃ w9 : World, ((wr.alloc (.cells #[.int .i64 x.kind, .string x.tag.s, .slice x.tag.A x.tag.n x.tag.c, .string x.key, .slice x.A x.n x.c, .slice x.H x.hn x.hc, .slice x.K x.kn x.kc, .string x.text.s, .slice x.text.A x.text.n x.text.c, .int .i64 x.slot] 43)).alloc (.cells #[.int .i64 x.kind, .string y.tag.s, .slice y.tag.A y.tag.n y.tag.c, .string x.key, .slice y.A y.n y.c, .slice y.H y.hn y.hc, .slice y.K y.kn y.kc, .string y.text.s, .slice y.text.A y.text.n y.text.c, .int .i64 x.slot] 43)).drew = w9 := ⟨_, rfl⟩
           rw [hw9]
           have yx9 : Whole w9 wr.heap.size 43 #[.int .i64 x.kind, .string x.tag.s, .slice x.tag.A x.tag.n x.tag.c, .string x.key, .slice x.A x.n x.c, .slice x.H x.hn x.hc, .slice x.K x.kn x.kc, .string x.text.s, .slice x.text.A x.text.n x.text.c, .int .i64 x.slot] := by rw [← hw9]; exact ((Whole.made _ _ _).alloc _).drew
           have yy9' : Whole w9 (wr.heap.size + 1) 43 #[.int .i64 x.kind, .string y.tag.s, .slice y.tag.A y.tag.n y.tag.c, .string x.key, .slice y.A y.n y.c, .slice y.H y.hn y.hc, .slice y.K y.kn y.kc, .string y.text.s, .slice y.text.A y.text.n y.text.c, .int .i64 x.slot] := by
             rw [← hw9]
             have h := Whole.made (wr.alloc (.cells #[.int .i64 x.kind, .string x.tag.s, .slice x.tag.A x.tag.n x.tag.c, .string x.key, .slice x.A x.n x.c, .slice x.H x.hn x.hc, .slice x.K x.kn x.kc, .string x.text.s, .slice x.text.A x.text.n x.text.c, .int .i64 x.slot] 43)) 43 #[.int .i64 x.kind, .string y.tag.s, .slice y.tag.A y.tag.n y.tag.c, .string x.key, .slice y.A y.n y.c, .slice y.H y.hn y.hc, .slice y.K y.kn y.kc, .string y.text.s, .slice y.text.A y.text.n y.text.c, .int .i64 x.slot]
             rw [World.size_alloc] at h
             exact h.drew
           have hb9 : Below wr.heap.size wr w9 := by rw [← hw9]; exact two_new
           clear hw9)
        | (obtain ⟨w9, hw9⟩ : ∃ w9 : World, ((wr.alloc (.cells #[.int .i64 x.kind, .string y.tag.s, .slice y.tag.A y.tag.n y.tag.c, .string x.key, .slice y.A y.n y.c, .slice y.H y.hn y.hc, .slice y.K y.kn y.kc, .string y.text.s, .slice y.text.A y.text.n y.text.c, .int .i64 x.slot] 43)).alloc (.cells #[.int .i64 x.kind, .string x.tag.s, .slice x.tag.A x.tag.n x.tag.c, .string x.key, .slice x.A x.n x.c, .slice x.H x.hn x.hc, .slice x.K x.kn x.kc, .string x.text.s, .slice x.text.A x.text.n x.text.c, .int .i64 x.slot] 43)).drew = w9 := ⟨_, rfl⟩
           rw [hw9]
           have yy9' : Whole w9 wr.heap.size 43 #[.int .i64 x.kind, .string y.tag.s, .slice y.tag.A y.tag.n y.tag.c, .string x.key, .slice y.A y.n y.c, .slice y.H y.hn y.hc, .slice y.K y.kn y.kc, .string y.text.s, .slice y.text.A y.text.n y.text.c, .int .i64 x.slot] := by rw [← hw9]; exact ((Whole.made _ _ _).alloc _).drew
           have yx9 : Whole w9 (wr.heap.size + 1) 43 #[.int .i64 x.kind, .string x.tag.s, .slice x.tag.A x.tag.n x.tag.c, .string x.key, .slice x.A x.n x.c, .slice x.H x.hn x.hc, .slice x.K x.kn x.kc, .string x.text.s, .slice x.text.A x.text.n x.text.c, .int .i64 x.slot] := by
             rw [← hw9]
             have h := Whole.made (wr.alloc (.cells #[.int .i64 x.kind, .string y.tag.s, .slice y.tag.A y.tag.n y.tag.c, .string x.key, .slice y.A y.n y.c, .slice y.H y.hn y.hc, .slice y.K y.kn y.kc, .string y.text.s, .slice y.text.A y.text.n y.text.c, .int .i64 x.slot] 43)) 43 #[.int .i64 x.kind, .string x.tag.s, .slice x.tag.A x.tag.n x.tag.c, .string x.key, .slice x.A x.n x.c, .slice x.H x.hn x.hc, .slice x.K x.kn x.kc, .string x.text.s, .slice x.text.A x.text.n x.text.c, .int .i64 x.slot]
             rw [World.size_alloc] at h
             exact h.drew
           have hb9 : Below wr.heap.size wr w9 := by rw [← hw9]; exact two_new
           clear hw9)
        have yy9 := And.intro yx9 yy9'
        clear yx9 yy9'
        have p90 := yy9.1.at_ 0
        have q90 := yy9.2.at_ 0
        have p91 := yy9.1.at_ 1
        have q91 := yy9.2.at_ 1
        have p92 := yy9.1.at_ 2
        have q92 := yy9.2.at_ 2
        have p93 := yy9.1.at_ 3
        have q93 := yy9.2.at_ 3
        have p99 := yy9.1.at_ 9
        have q99 := yy9.2.at_ 9
        go_wp2_with fail
        refine (HTS.out _ hb9).mono ?_
        rintro e w10 ⟨rfl, hq10⟩
        have yy10 := And.intro (yy9.1.below hq10 yy9.1.lt) (yy9.2.below hq10 yy9.2.lt)
        have hb10 : Below wr.heap.size wr w10 := below_next hb9 (Nat.le_refl _) hq10
        clear hq10 p90 q90 p91 q91 p92 q92 p93 q93 p99 q99
        have p107 := yy10.1.at_ 7
        have q107 := yy10.2.at_ 7
        have p108 := yy10.1.at_ 8
        have q108 := yy10.2.at_ 8
        go_wp2_with fail
        refine (HXS.out _ hb10).mono ?_
        rintro e w11 ⟨rfl, hq11⟩
        have yy11 := And.intro (yy10.1.below hq11 yy10.1.lt) (yy10.2.below hq11 yy10.2.lt)
        have hb11 : Below wr.heap.size wr w11 := below_next hb10 (Nat.le_refl _) hq11
        clear hq11 p107 q107 p108 q108
        have p114 := yy11.1.at_ 4
        have q114 := yy11.2.at_ 4
        go_wp2_with fail
        refine (HAS.out _ hb11).mono ?_
        rintro e w12 ⟨rfl, hq12⟩
        have yy12 := And.intro (yy11.1.below hq12 yy11.1.lt) (yy11.2.below hq12 yy11.2.lt)
        have hb12 : Below wr.heap.size wr w12 := below_next hb11 (Nat.le_refl _) hq12
        clear hq12 p114 q114
        have p125 := yy12.1.at_ 5
        have q125 := yy12.2.at_ 5
        go_wp2_with fail
        refine (HHS.out _ hb12).mono ?_
        rintro e w13 ⟨rfl, hq13⟩
        have yy13 := And.intro (yy12.1.below hq13 yy12.1.lt) (yy12.2.below hq13 yy12.2.lt)
        have hb13 : Below wr.heap.size wr w13 := below_next hb12 (Nat.le_refl _) hq13
        clear hq13 p125 q125
        have p136 := yy13.1.at_ 6
        have q136 := yy13.2.at_ 6
        go_wp2_with fail
        refine (HKD.out _ hb13).mono ?_
        rintro e w14 ⟨rfl, hq14⟩
        have yy14 := And.intro (yy13.1.below hq14 yy13.1.lt) (yy13.2.below hq14 yy13.2.lt)
        have hb14 : Below wr.heap.size wr w14 := below_next hb13 (Nat.le_refl _) hq14
        clear hq14 p136 q136
        go_wp2_with fail
        go_roundw
        case rel => exact ⟨k + 1, by omega, by go_num, below_next HBW.out (Nat.le_refl _) hb14⟩
        case measure => simp [intOf]; omega
    · have hk1 : ¬ (k : Int) < (n : Int) := by omega
      go_wp2_with fail
      go_ret
      exact ⟨rfl, hb⟩

end Go.Proofs.YtnbdldapmllegaaGreat.mk
