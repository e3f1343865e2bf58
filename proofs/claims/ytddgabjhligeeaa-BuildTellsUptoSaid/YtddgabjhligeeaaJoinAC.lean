/-
  The law's own merge.
-/
import Derived.Test.YtddgabjhligeeaaJoinAB
import Derived.Test.YtddgabjhligeeaaJoinX
import Derived.Test.YtddgabjhligeeaaJoinU
import Derived.Test.YtddgabjhligeeaaJoinR
import Derived.Test.YtddgabjhligeeaaJoinD
import Derived.Test.YtddgabjhligeeaaJoinG
import Derived.Test.YtddgabjhligeeaaJoinZ
namespace Go.Proofs.Ytddgabjhligeeaa.mk
open Go.RowKit

/-- how many were counted: no more than there are -/
def CntRel (ts : List TT) (n : Nat) (w : World) (s t : Value) (wr : World) : Prop :=
  ∃ k r : Nat, k ≤ n ∧ t = .int .i64 (k : Int) ∧ s = .int .i64 (r : Int) ∧ r + k ≤ n + wtL ((chL ts).take k) ∧ Below w.heap.size w wr

theorem merge_two {a b : Ch} (ha : a ≠ []) (hb : b ≠ []) : mergeP [txT a, txT [], txT b] = [txT (a ++ b)] := by
  show mgO [] [txT a, txT [], txT b] = _
  rw [mgO, mgO, mgO, mgO, addT_nil (t := txT a) rfl ha, addT_no (t := txT []) rfl rfl]
  exact addT_tx (t := txT b) rfl hb [] (txT a) rfl _
theorem merge_tx {a : Ch} (ha : a ≠ []) : mergeP [txT a] = [txT a] := by
  show mgO [] [txT a] = _
  rw [mgO, mgO]
  exact addT_nil (t := txT a) rfl ha _
end Go.Proofs.Ytddgabjhligeeaa.mk

namespace Go.Proofs.Ytddgabjhligeeaa.mk
open Go.RowKit

/-- blocks that came in, or are new, but not the row's own -/
def OutS (S : Nat → Prop) (base : Nat) (v : Value) (b : Nat) : Prop := S b ∨ (base ≤ b ∧ v.ownBlock ≠ some b)
/-- a row of trees that the law makes: all that they reach lies outside of the row's own block -/
def MRow (S : Nat → Prop) (w : World) (base : Nat) (qs : List PT) (v : Value) : Prop :=
  ∃ A c us, v = .slice A us.length c ∧ w.ownsRow base 44 6 (.slice A us.length c) us.length (treeCells us) ∧ AllS (OutS S base v) w us ∧ chL us = qs
theorem MRow.keep {S : Nat → Prop} {w w' : World} {base : Nat} {qs : List PT} {v : Value} (h : MRow S w base qs v) (hb : Below w.heap.size w w') : MRow S w' base qs v := by
  obtain ⟨A, c, us, h1, h2, h3, h4⟩ := h
  exact ⟨A, c, us, h1, own_keep h2 hb, h3.keep (Stays.of hb), h4⟩
theorem MRow.zero (S : Nat → Prop) (w : World) (base : Nat) : MRow S w base [] (.slice none 0 0) := ⟨none, 0, [], rfl, World.ownsRow_nil _ _ _ _, AllS.nil _ _, rfl⟩
theorem MRow.in0 {S : Nat → Prop} {w : World} {base : Nat} {qs : List PT} {A : Option Addr} {n c : Nat} (h : MRow S w base qs (.slice A n c)) (hq : bkL qs ≤ 1048576) : ∃ us, TreesIn0 w A n us ∧ chL us = qs := by
  obtain ⟨A', c', us, h1, h2, h3, h4⟩ := h
  injection h1 with e1 e2 e3
  subst e1 e2 e3
  exact ⟨us, ⟨(own_inS h2).mono fun b _ hb => hb, h3.mono fun b _ hb => hb, rfl, by rw [h4]; exact hq⟩, h4⟩
/-- one more -/
theorem MRow.more {S : Nat → Prop} {w w2 : World} {base n : Nat} {A A' : Option Addr} {c c' : Nat} {us : List TT} {t : TT} {qs : List PT} (hS : ∀ b, S b → b < base) (hown : ∀ g, (Value.slice A n c).ownBlock = some g → base ≤ g) (hn : us.length = n) (hall : AllS (OutS S base (.slice A n c)) w us) (hq : chL us = qs)
    (ht : t.inS (OutS S base (.slice A n c)) w) (hk : AllS (OutS S base (.slice A n c)) w t.kids) (hg : w.grownBy w2 (Value.slice A n c).ownBlock)
    (hv : (Value.slice A' (n + 1) c').ownBlock = (Value.slice A n c).ownBlock ∨ (Value.slice A' (n + 1) c').ownBlock = some w.heap.size)
    (ho : w2.ownsRow base 44 6 (.slice A' (n + 1) c') (n + 1) (treeCells us ++ treeRow t)) : MRow S w2 base (qs ++ [t.ch]) (.slice A' (n + 1) c') := by
  have h1 : AllS (fun b => OutS S base (.slice A n c) b ∧ b < w.heap.size) w (us ++ [t]) := (hall.append (AllS.one ht hk)).mono fun b hb hl => ⟨hb, hl⟩
  refine ⟨A', c', us ++ [t], by rw [List.length_append, hn]; rfl, ?_, ?_, by rw [chL_append, hq]; rfl⟩
  · rw [List.length_append, hn, treeCells_snoc]; exact ho
  · refine (h1.keep ⟨hg.size, fun b hb hl => hg.block b hl (fun e => ?_)⟩).mono fun b hb _ => ?_
    · rcases hb.1 with h | h
      · have := hS b h; have := hown b e.symm; omega
      · exact h.2 e.symm
    · rcases hb.1 with h | h
      · exact .inl h
      · refine .inr ⟨h.1, ?_⟩
        rcases hv with hv | hv
        · rw [hv]; exact h.2
        · rw [hv]; intro e; injection e with e; have := hb.2; omega
/-- one in place of another -/
theorem MRow.put {S : Nat → Prop} {w : World} {base n g k cap : Nat} {us : List TT} {T : TT} {qs : List PT} (hS : ∀ b, S b → b < base) (ho : w.ownsRow base 44 6 (.slice (some ⟨g, 0, none⟩) n cap) n (treeCells us)) (hn : us.length = n) (hk : k < us.length)
    (hall : AllS (OutS S base (.slice (some ⟨g, 0, none⟩) n cap)) w us) (ht : T.inS (OutS S base (.slice (some ⟨g, 0, none⟩) n cap)) w) (hkk : AllS (OutS S base (.slice (some ⟨g, 0, none⟩) n cap)) w T.kids) (hq : (chL us).set k T.ch = qs) :
    let w' := (((((w.setCell ⟨g, k * 6, none⟩ (.string T.tag.s)).setCell ⟨g, k * 6 + 1, none⟩ (.slice T.tag.A T.tag.n T.tag.c)).setCell ⟨g, k * 6 + 2, none⟩ (.slice T.A T.n T.c)).setCell ⟨g, k * 6 + 3, none⟩ (.slice T.K T.kn T.kc)).setCell ⟨g, k * 6 + 4, none⟩ (.string T.text.s)).setCell ⟨g, k * 6 + 5, none⟩ (.slice T.text.A T.text.n T.text.c)
    MRow S w' base qs (.slice (some ⟨g, 0, none⟩) n cap) ∧ Moved (fun b => b = g) w w' := by
  intro w'
  obtain ⟨o, hm⟩ := tree_stored T ho hk
  have hgb := (ho.lt g rfl).1
  refine ⟨⟨some ⟨g, 0, none⟩, cap, us.set k T, by rw [List.length_set, hn], by rw [List.length_set, hn]; exact o, ?_, ?_⟩, hm⟩
  · have h1 : AllS (OutS S base (.slice (some ⟨g, 0, none⟩) n cap)) w (us.set k T) := by
      intro y hy
      obtain ⟨t, ht', hy⟩ := nodes_mem hy
      rcases List.mem_or_eq_of_mem_set ht' with h | h
      · exact hall y (mem_nodes h hy)
      · rw [h, TT.nodes_eq] at hy
        rcases List.mem_cons.1 hy with e | hy
        · rw [e]; exact ht
        · exact hkk y hy
    refine h1.keep (hm.stays fun b _ hb e => ?_)
    rcases hb with h | h
    · have := hS _ h; omega
    · exact h.2 (by rw [e]; rfl)
  · rw [chL_map, List.map_set, ← chL_map]; exact hq

def MrgRel (S : Nat → Prop) (ts : List TT) (n : Nat) (w : World) (s t : Value) (wr : World) : Prop :=
  ∃ k : Nat, k ≤ n ∧ t = .int .i64 (k : Int) ∧ MRow S wr w.heap.size (mergeP ((chL ts).take k)) s ∧ Below w.heap.size w wr

theorem merge_bound {L : List PT} (h : bkL L ≤ 1048576) (k : Nat) : (mergeP (L.take k)).length ≤ 1048576 := by
  have h1 := bkL_len (mergeP (L.take k))
  have h2 := bk_merge (L.take k)
  have h3 := bk_take L k
  omega

/-- what comes in, in blocks of S -/
structure TreesInS (S : Nat → Prop) (w : World) (A : Option Addr) (n : Nat) (ts : List TT) : Prop where
  lt : ∀ b, S b → b < w.heap.size
  lies : LiesS S w A (treeCells ts)
  all : AllS S w ts
  len : ts.length = n
  bulk : bkL (chL ts) ≤ 1048576
theorem TreesInS.next {S : Nat → Prop} {w w' : World} {A : Option Addr} {n : Nat} {ts : List TT} (h : TreesInS S w A n ts) (hb : Below w.heap.size w w') : TreesInS S w' A n ts :=
  ⟨fun b hb2 => Nat.lt_of_lt_of_le (h.lt b hb2) hb.size, h.lies.keep (Stays.of hb), h.all.keep (Stays.of hb), h.len, h.bulk⟩
theorem TreesInS.small {S : Nat → Prop} {w : World} {A : Option Addr} {n : Nat} {ts : List TT} (h : TreesInS S w A n ts) : n ≤ 1048576 := by
  have h1 := bkL_len (chL ts)
  rw [chL_length, h.len] at h1
  exact Nat.le_trans h1 h.bulk
theorem TreesInS.kid {S : Nat → Prop} {w : World} {A : Option Addr} {n : Nat} {ts : List TT} (h : TreesInS S w A n ts) {x : TT} (hx : x ∈ ts) : TreesInS S w x.K x.kn x.kids := by
  have h1 := h.all.get hx
  refine ⟨h.lt, h1.kid, h.all.kids hx, h1.kn, ?_⟩
  have h2 : x.ch ∈ chL ts := by rw [chL_map]; exact List.mem_map.2 ⟨x, hx, rfl⟩
  have h3 := bkL_kids h2
  rw [TT.ch_kids] at h3
  have := h.bulk
  omega
theorem TreesIn0.inS {w : World} {A : Option Addr} {n : Nat} {ts : List TT} (h : TreesIn0 w A n ts) : TreesInS (fun b => b < w.heap.size) w A n ts := ⟨fun _ h => h, h.lies, h.all, h.len, h.bulk⟩

/-- the element that is put behind the others -/
def elT (x : TT) (A5 : Option Addr) (c5 : Nat) (as5 : List AT) (A6 : Option Addr) (n6 c6 : Nat) (ks : List TT) : TT := ⟨x.tag, A5, as5.length, c5, as5, A6, n6, c6, ks, noT⟩
theorem elT_ch (x : TT) (A5 : Option Addr) (c5 : Nat) (as5 : List AT) (A6 : Option Addr) (n6 c6 : Nat) (ks : List TT) : (elT x A5 c5 as5 A6 n6 c6 ks).ch = ⟨x.tag.ch, as5.map AT.ch, chL ks, []⟩ := by
  rw [TT.ch_eq]; show PT.mk _ _ _ noT.ch = _; rw [noT_ch]; rfl

/-- a region that draws its order, under a condition that the last operations need not keep -/
theorem wp_region_last {P : Program} {ops : Array Oper} {Q : Exit → Act → World → Prop} {S : World → Prop} {Z : Nat → Bool} {id : Nat} {a : Act} {w : World} (hm : P.follows .mixedOrders = true)
    (h : wpAnyL P .any ops Q S Z ops.size (Array.replicate ops.size false) a w.drew) : (Code.region id ops true).wp P Q a w := wp_region_any hm (wpAny_of_last _ _ _ _ h)

end Go.Proofs.Ytddgabjhligeeaa.mk
