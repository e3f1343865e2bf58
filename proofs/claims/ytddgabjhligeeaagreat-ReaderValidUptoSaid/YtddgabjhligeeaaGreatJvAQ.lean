/-
  Size and Depth: how many elements and texts there are, and how many elements stand in one another.
-/
import Derived.RangeFuncBound
import Derived.OwnWalkIn
import Derived.TacticsInMore
import Derived.LoopNIn
import Derived.LoopIn
import Derived.Test.YtddgabjhligeeaaGreatJvY
import Derived.Test.YtddgabjhligeeaaGreatJvAG
import Derived.Test.YtddgabjhligeeaaGreatJvZ
import Derived.Deep.DeepCutAuto
namespace Go.Proofs.YtddgabjhligeeaaGreat.mk
open Go.RowKit

theorem wide_fn (f : FuncId) : Fence.wide.fn f = True := rfl
theorem wide_depth : Fence.wide.depth = none := rfl
attribute [local go_sem] Oper.semAt_some wide_fn wide_depth

/-- a tree that is shown: it lies in S, its text perhaps in G; its kids in S -/
def ShT (S : Nat → Prop) (x : TT) (G : Nat → Prop) (W : World) : Prop := x.inS (fun b => S b ∨ G b) W ∧ LiesS S W x.K (treeCells x.kids) ∧ AllS S W x.kids
theorem ShT.keep {S G : Nat → Prop} {x : TT} {W W' : World} (h : ShT S x G W) (hm : Stays (fun b => S b ∨ G b) W W') : ShT S x G W' :=
  have hs : Stays S W W' := ⟨hm.1, fun b hb hl => hm.2 b (.inl hb) hl⟩
  ⟨h.1.keep hm, h.2.1.keep hs, h.2.2.keep hs⟩
theorem ShT.moved {S G : Nat → Prop} {x : TT} {W W' : World} (h : ShT S x G W) (hm : Moved (fun b => ¬ (S b ∨ G b)) W W') : ShT S x G W' := h.keep (hm.stays fun _ _ hi h => h hi)
def encT (x : TT) : Array Value := #[.agg #[.string x.tag.s, .slice x.tag.A x.tag.n x.tag.c, .slice x.A x.n x.c, .slice x.K x.kn x.kc, .string x.text.s, .slice x.text.A x.text.n x.text.c]]
end Go.Proofs.YtddgabjhligeeaaGreat.mk

namespace Go.Proofs.YtddgabjhligeeaaGreat.mk
open Go.RowKit
attribute [local go_sem] Oper.semAt_some wide_fn wide_depth

/-- a text as a tree -/
def txTT (t : LT) : TT := ⟨⟨⟨#[]⟩, none, 0, 0, []⟩, none, 0, 0, [], none, 0, 0, [], t⟩
theorem txTT_ch (t : LT) : (txTT t).ch = txT t.ch := by
  rw [TT.ch_eq]
  show PT.mk (LT.ch ⟨⟨#[]⟩, none, 0, 0, []⟩) [] (chL []) t.ch = _
  rw [chL]
  have : LT.ch ⟨⟨#[]⟩, none, 0, 0, []⟩ = [] := List.eq_nil_of_length_eq_zero (LT.ch_length _)
  rw [this]
  rfl
theorem txTT_sh {S G : Nat → Prop} {W : World} {t : LT} (h : t.inS G W) : ShT S (txTT t) G W :=
  ⟨⟨⟨LiesS.nil _ _ _, rfl, Nat.zero_le _, Nat.zero_le _⟩, h.mono fun _ hb _ => .inr hb, LiesS.nil _ _ _, rfl, fun _ => rfl, Nat.zero_le _, (by intro a ha; cases ha), LiesS.nil _ _ _, rfl, fun _ => rfl, Nat.zero_le _⟩, LiesS.nil _ _ _, AllS.nil _ _⟩
theorem catCh_in (us : List LT) : InR (catCh us) := by
  intro o ho
  obtain ⟨x, hx, rfl⟩ := List.mem_map.1 ho
  obtain ⟨t, _, hx⟩ := List.mem_flatMap.1 hx
  exact t.ch_in _ (List.mem_map.2 ⟨x, hx, rfl⟩)
/-- labelled texts put together, in memory of their own -/
theorem catT_any (us : List LT) (L : Option Addr) (m c : Nat) (W : World) (hl : Lies W W.heap.size L (ltCells us)) (hm : us.length = m) (hm2 : m ≤ 4294967296) (hok : ∀ t ∈ us, t.ok W W.heap.size) (hz : (catCh us).length ≤ 4294967296) :
    Calls Tryz.prog 54 #[.slice L m c] W fun e w' => ∃ t : LT, e = .returned (.agg #[.string t.s, .slice t.A t.n t.c]) ∧ Hid (t.ch = catCh us ∧ OwnL w' W.heap.size t) ∧ Below W.heap.size W w' := by
  refine (catl_any us L m c W hl hm hm2 hok hz).mono ?_
  rintro e W1 ⟨v, rfl, hown, hb1⟩
  obtain ⟨D, d, rfl, _, _, _⟩ := own_form hown
  exact ⟨toldT (catCh us) D d, rfl, ⟨toldT_ch (catCh_in us) D d, rfl, ⟨Nat.le_trans (runN_le _) hz, by show comp ((catCh us).map (·.2)) = comp ((toldT (catCh us) D d).ch.map (·.2)); rw [toldT_ch (catCh_in us)]⟩, (by show (txtOf _).size ≤ _; rw [txtOf_size]; exact hz), hown⟩, hb1⟩

theorem LT.s_nil (t : LT) : t.s.toList = [] ↔ t.ch = [] := by
  have h1 := t.ch_length
  have h2 : t.s.toList.length = t.s.size := by rw [ByteArray.toList_eq, Array.length_toList]; rfl
  constructor
  · intro h
    rw [h, List.length_nil] at h2
    exact List.eq_nil_of_length_eq_zero (by omega)
  · intro h
    rw [h, List.length_nil] at h1
    exact List.eq_nil_of_length_eq_zero (by omega)

/-- what iterators' helpers leave behind -/
def Showed (J : List TT → (Nat → Prop) → World → Prop) (pre : List TT) (qs : List PT) (K : Nat → Prop) (W : World) (e : Ending) (W' : World) : Prop :=
  e = .returned (.bool true) ∧ ∃ ys K', chL ys = qs ∧ J (pre ++ ys) K' W' ∧ (∀ b, K' b → K b ∨ (W.heap.size ≤ b ∧ b < W'.heap.size)) ∧ Moved K W W'

set_option maxHeartbeats 2000000 in
set_option maxRecDepth 100000 in
theorem together_any {l n1 : Nat} {S : Nat → Prop} {okp : List TT → Prop} {J : List TT → (Nat → Prop) → World → Prop} (hT : Takes Tryz.prog encT l n1 (ShT S) okp J) (hH : Held n1 J)
    (pre : List TT) (K : Nat → Prop) (A : Option Addr) (n c : Nat) (us : List LT) (W : World) (hJ : J pre K W) (hn1 : n1 ≤ W.heap.size) (hl : Lies W W.heap.size A (ltCells us)) (hn : us.length = n) (hn2 : n ≤ 4294967296)
    (hok : ∀ t ∈ us, t.ok W W.heap.size) (hz : (catCh us).length ≤ 4294967296) (hKb : ∀ b, K b → b < W.heap.size) (hokp : catCh us ≠ [] → ∀ x : TT, x.ch = txT (catCh us) → okp (pre ++ [x])) :
    Calls Tryz.prog 138 #[.slice A n c, .func (.yield l) #[] #[]] W (Showed J pre (txs (catCh us)) K W) := by
  have HJ := Lib.hid hJ
  have HH := Lib.hid hH
  have HT := Lib.hid hT
  have HP := Lib.hid hokp
  have HKB := Lib.hid hKb
  have hcat := Lib.hid (catT_any us A n c W hl hn hn2 hok hz)
  clear hJ hH hT hokp hKb hl hn hok
  go_enter Tryz.func138, Tryz.ntmps138
  go_wp2_with fail
  refine hcat.out.mono ?_
  rintro e W1 ⟨t, rfl, HO, hb1⟩
  clear hcat
  generalize hw3 : W1.alloc (.cells #[.string t.s, .slice t.A t.n t.c] 24) = W3
  have y3 : Whole W3 W1.heap.size 24 #[.string t.s, .slice t.A t.n t.c] := by rw [← hw3]; exact Whole.made _ _ _
  have hb3 : Below W1.heap.size W1 W3 := by rw [← hw3]; exact (Below.refl _ _).alloc (Nat.le_refl _) _
  have c0 : W3.cell? ⟨W1.heap.size, 0, none⟩ = some (.string t.s) := y3.at_ 0
  have c1 : W3.cell? ⟨W1.heap.size, 1, none⟩ = some (.slice t.A t.n t.c) := y3.at_ 1
  go_upto_region 2 with (fail)
  refine (wpIn_wide (n := 1)).1 ?_
  have HB3 : Hid (Below W.heap.size W W3) := below_next hb1 (Nat.le_refl _) hb3
  have HT3 : Hid (t.inS (fun b => W.heap.size ≤ b ∧ b < W3.heap.size) W3) := (HO.out.2.inS.keep (Stays.of hb3)).mono fun b hb hl => ⟨hb, hl⟩
  have hz3 : W.heap.size ≤ W3.heap.size := HB3.out.size
  have HJ3 : Hid (J pre K W3) := HH.out _ _ _ _ HJ.out hn1 (Moved.of_below HB3.out)
  clear hb1 hb3 hw3 y3
  gi_wp2_with fail
  rotate_left
  · have hne : ¬ t.s.toList = [] := by assumption
    have hcn : catCh us ≠ [] := fun h => hne ((LT.s_nil t).2 (HO.out.1.trans h))
    clear hne
    obtain ⟨fn, tmps, assign, body, hy, hR⟩ := HT.out pre K (fun b => W.heap.size ≤ b ∧ b < W3.heap.size) (txTT t) W3 HJ3.out (txTT_sh HT3.out) (HP.out hcn _ (by rw [txTT_ch, HO.out.1])) (by omega) (fun b hb => ⟨by omega, hb.2, fun h => by have := HKB.out b h; omega⟩)
    dsimp only [encT, txTT] at hy
    rw [hy, Oper.uponIn_round]
    refine ⟨(fun hd => by cases hd), hR.mono ?_⟩
    rintro e W4 ⟨rfl, K', hj, hg, hm⟩
    have HFIN : Hid (Showed J pre (txs (catCh us)) K W (.returned (.bool true)) W4) := by
      refine ⟨rfl, [txTT t], K', ?_, hj, ?_, (Moved.of_below HB3.out).join hm fun i hi h => h.elim id fun h => by omega⟩
      · rw [chL, chL, txTT_ch, HO.out.1, txs_some hcn]
      · intro b hb
        rcases hg b hb with h | h | h
        · exact .inl h
        · exact .inr ⟨h.1, Nat.lt_of_lt_of_le h.2 hm.size⟩
        · exact .inr (by omega)
    clear hj hg hm hy c0 c1
    gi_wp2_with fail
    go_wp2_with fail
    go_ret
    exact HFIN.out
  · have hne : t.s.toList = [] := by assumption
    have hcn : catCh us = [] := HO.out.1.symm.trans ((LT.s_nil t).1 hne)
    have HFIN : Hid (Showed J pre (txs (catCh us)) K W (.returned (.bool true)) W3) := by
      refine ⟨rfl, [], K, ?_, ?_, fun b hb => .inl hb, Moved.of_below HB3.out⟩
      · rw [chL, hcn]; rfl
      · rw [List.append_nil]; exact HJ3.out
    clear hne hcn c0 c1
    go_wp2_with fail
    go_ret
    exact HFIN.out

end Go.Proofs.YtddgabjhligeeaaGreat.mk

namespace Go.Proofs.YtddgabjhligeeaaGreat.mk
open Go.RowKit
attribute [local go_sem] Oper.semAt_some wide_fn wide_depth

set_option maxHeartbeats 400000 in
theorem siblings_any (A : Option Addr) (n c : Nat) (w : World) :
    Calls Tryz.prog 98 #[.slice A n c] w fun e w' => e = .returned (.func (.func 137) #[] #[.pointer (some ⟨w.heap.size, 0, none⟩)]) ∧ w'.cell? ⟨w.heap.size, 0, none⟩ = some (.slice A n c) ∧ w.heap.size < w'.heap.size ∧ Below w.heap.size w w' := by
  go_enter Tryz.func98, Tryz.ntmps98
  go_wp2
  go_ret
  exact ⟨rfl, (Whole.made w _ _).at_ 0, (Whole.made w _ _).lt, (Below.refl _ _).alloc (Nat.le_refl _) _⟩

theorem strT_info : (Tryz.prog.info? 24).map (fun i => (i.zero, i.size, i.bytes)) = some (some (.agg #[.string ⟨#[]⟩, .slice none 0 0]), 2, 40) := by kernel_rfl

/-- a tree that is an element, as it is shown -/
def elTT (t : TT) : TT := ⟨t.tag, t.A, t.n, t.c, t.atts, t.K, t.kn, t.kc, t.kids, ⟨⟨#[]⟩, none, 0, 0, []⟩⟩
theorem lt_none_ch : LT.ch ⟨⟨#[]⟩, none, 0, 0, []⟩ = [] := List.eq_nil_of_length_eq_zero (LT.ch_length _)
theorem elTT_ch (t : TT) : (elTT t).ch = ⟨t.ch.tag, t.ch.attrs, t.ch.kids, []⟩ := by
  rw [TT.ch_eq, TT.ch_tag, TT.ch_attrs, TT.ch_kids]
  show PT.mk t.tag.ch (t.atts.map AT.ch) (chL t.kids) (LT.ch ⟨⟨#[]⟩, none, 0, 0, []⟩) = _
  rw [lt_none_ch]
theorem elTT_sh {S : Nat → Prop} {W : World} {t : TT} (h : t.inS S W) (hk : AllS S W t.kids) : ShT S (elTT t) (fun _ => False) W :=
  ⟨⟨h.tag.mono fun _ hb _ => .inl hb, ⟨LiesS.nil _ _ _, rfl, Nat.zero_le _, Nat.zero_le _⟩, h.att.mono fun _ hb _ => .inl hb, h.an, h.ac, h.am, fun a ha => (h.atts a ha).mono fun _ hb _ => .inl hb, h.kid.mono fun _ hb _ => .inl hb, h.kn, h.kc, h.km⟩, h.kid, hk⟩
theorem own_zero {w : World} {base : Nat} {e : TypeId} {size n c : Nat} {A : Option Addr} {xs : List Value} (h : w.ownsRow base e size (.slice A n c) n xs) : w.ownsRow base e size (.slice A 0 c) 0 [] := by
  refine ⟨by simp, ?_⟩
  rcases h.2 with ⟨hv, h0⟩ | ⟨g, cap, cur, hv, hg, hc, hnc, hcm, hcs, _⟩
  · injection hv with h1 _ h3
    subst h1 h3
    exact .inl ⟨rfl, rfl⟩
  · injection hv with h1 _ h3
    subst h1 h3
    exact .inr ⟨g, c, cur, rfl, hg, hc, Nat.zero_le _, hcm, hcs, by simp⟩

def SibRel (S : Nat → Prop) (J : List TT → (Nat → Prop) → World → Prop) (Q : List PT) (n : Nat) (W : World) (v i : Value) (wr : World) : Prop :=
  ∃ (k : Nat) (us : List LT) (xs : List TT) (K : Nat → Prop), k ≤ n ∧ i = .int .i64 (k : Int) ∧ wr.ownsRow W.heap.size 24 2 v us.length (ltCells us) ∧ (∀ g, v.ownBlock = some g → ¬ K g) ∧ (∀ u ∈ us, u.inS S wr) ∧
    J xs K wr ∧ (∀ b, K b → b < wr.heap.size ∧ ¬ S b) ∧ sibs Q = chL xs ++ sibF (Q.drop k) (catCh us) ∧ us.length ≤ k ∧ (catCh us).length ≤ bkL (Q.take k) ∧ Stays S W wr

theorem catCh_snoc (us : List LT) (t : LT) : catCh (us ++ [t]) = catCh us ++ t.ch := by simp [catCh]
theorem ltCells_snoc (us : List LT) (t : LT) : ltCells (us ++ [t]) = ltCells us ++ [.string t.s, .slice t.A t.n t.c] := by simp [ltCells]

/-- a round that comes to a text -/
theorem sib_text {S : Nat → Prop} {J : List TT → (Nat → Prop) → World → Prop} {Q : List PT} {n k : Nat} {W wr w5 w7 : World} {v v' : Value} {us : List LT} {xs : List TT} {K : Nat → Prop} {t : TT} {o : Obj} (hH : Held W.heap.size J) (hS : ∀ b, S b → b < W.heap.size)
    (hk : k < n) (hq : Q[k]? = some t.ch) (htx : t.ch.tag = []) (hown : wr.ownsRow W.heap.size 24 2 v us.length (ltCells us)) (hvk : ∀ g, v.ownBlock = some g → ¬ K g) (hus : ∀ u ∈ us, u.inS S wr) (hJ : J xs K wr) (hK : ∀ b, K b → b < wr.heap.size ∧ ¬ S b)
    (hsib : sibs Q = chL xs ++ sibF (Q.drop k) (catCh us)) (hul : us.length ≤ k) (hcl : (catCh us).length ≤ bkL (Q.take k)) (hst : Stays S W wr) (hb5 : Below wr.heap.size wr w5) (ht : t.inS S w5)
    (hown7 : w7.ownsRow W.heap.size 24 2 v' (us.length + 1) (ltCells us ++ [.string t.text.s, .slice t.text.A t.text.n t.text.c])) (hg : (w5.alloc o).grownBy w7 v.ownBlock) (hv' : v'.ownBlock = v.ownBlock ∨ v'.ownBlock = some (w5.alloc o).heap.size) :
    SibRel S J Q n W v' (.int .i64 ((k : Int) + 1)) w7 := by
  have hz5 := hb5.size
  have hz6 : (w5.alloc o).heap.size = w5.heap.size + 1 := by simp
  have hz7 := hg.size
  have hb6 : Below wr.heap.size wr (w5.alloc o) := hb5.alloc hz5 o
  have hzr := hst.1
  have hgl : ∀ g, v.ownBlock = some g → W.heap.size ≤ g ∧ g < wr.heap.size := hown.lt
  have hm : Moved (fun b => W.heap.size ≤ b ∧ ¬ K b) wr w7 :=
    (Moved.of_below hb6).join (Y := fun b => v.ownBlock = some b) ⟨hg.os, hg.tape, hg.output, hg.size, fun i hi hn => hg.block i hi (fun e => hn e.symm)⟩ (fun i _ h => ⟨(hgl i h).1, hvk i h⟩)
  have hss : Stays S w5 w7 := ⟨by omega, fun b hb hl => (hg.block b (by omega) (fun e => by have := (hgl b e.symm).1; have := hS b hb; omega)).trans (Below.heap_alloc _ _ _ hl)⟩
  have hss2 : Stays S wr w7 := (Stays.of hb5).trans hss
  refine ⟨k + 1, us ++ [t.text], xs, K, by omega, by simp, ?_, ?_, ?_, hH _ _ _ _ hJ hzr hm, ?_, ?_, ?_, ?_, hst.trans hss2⟩
  · rw [List.length_append, List.length_singleton, ltCells_snoc]; exact hown7
  · intro g h
    rcases hv' with e | e
    · exact hvk g (by rw [← e]; exact h)
    · rw [e] at h
      injection h with h
      intro hk
      have := (hK g hk).1
      omega
  · intro u hu
    rcases List.mem_append.1 hu with hu | hu
    · exact (hus u hu).keep hss2
    · obtain rfl := List.mem_singleton.1 hu
      exact ht.text.keep hss
  · exact fun b hb => ⟨by have := (hK b hb).1; omega, (hK b hb).2⟩
  · rw [hsib, sib_drop hq, if_pos htx, catCh_snoc, TT.ch_text]
  · rw [List.length_append, List.length_singleton]; omega
  · rw [catCh_snoc, List.length_append, take_next hq, bkL_append, bkL_one, PT.bk_eq, TT.ch_text]
    omega

/-- a round that comes to an element: what was pending is shown, then it -/
theorem sib_el {S : Nat → Prop} {J : List TT → (Nat → Prop) → World → Prop} {Q : List PT} {n k : Nat} {W wr w5 w6 w7 : World} {A : Option Addr} {m c : Nat} {us : List LT} {xs ys : List TT} {K K' K'' : Nat → Prop} {t : TT} (hS : ∀ b, S b → b < W.heap.size)
    (hk : k < n) (hq : Q[k]? = some t.ch) (htx : t.ch.tag ≠ []) (hown : wr.ownsRow W.heap.size 24 2 (.slice A m c) m (ltCells us)) (hvk : ∀ g, (Value.slice A m c).ownBlock = some g → ¬ K g) (hK : ∀ b, K b → b < wr.heap.size ∧ ¬ S b)
    (hsib : sibs Q = chL xs ++ sibF (Q.drop k) (catCh us)) (hst : Stays S W wr) (hb5 : Below wr.heap.size wr w5)
    (hys : chL ys = txs (catCh us)) (hK' : ∀ b, K' b → K b ∨ (w5.heap.size ≤ b ∧ b < w6.heap.size)) (hm6 : Moved K w5 w6) (hJ : J (xs ++ ys ++ [elTT t]) K'' w7) (hK'' : ∀ b, K'' b → K' b ∨ False ∨ (w6.heap.size ≤ b ∧ b < w7.heap.size)) (hm7 : Moved K' w6 w7) :
    SibRel S J Q n W (.slice A 0 c) (.int .i64 ((k : Int) + 1)) w7 := by
  have hz5 := hb5.size
  have hz6 := hm6.size
  have hz7 := hm7.size
  have hzr := hst.1
  have hm57 : Moved K w5 w7 := hm6.join hm7 fun i hi h => (hK' i h).elim id fun h => by omega
  have hm : Moved K wr w7 := (Moved.of_below hb5).join hm57 fun _ _ h => h
  have hb : ∀ b, K'' b → K b ∨ wr.heap.size ≤ b := fun b h => by
    rcases hK'' b h with h | h | h
    · rcases hK' b h with h | h
      · exact .inl h
      · exact .inr (by omega)
    · exact h.elim
    · exact .inr (by omega)
  have hown7 := hm.own hown hvk
  refine ⟨k + 1, [], xs ++ ys ++ [elTT t], K'', by omega, by simp, own_zero hown7, ?_, (fun u hu => by cases hu), hJ, ?_, ?_, Nat.zero_le _, Nat.zero_le _, ?_⟩
  · intro g h h2
    have h3 : (Value.slice A m c).ownBlock = some g := by cases A <;> exact h
    rcases hb g h2 with h2 | h2
    · exact hvk g h3 h2
    · have := (hown.lt g h3).2; omega
  · intro b h
    refine ⟨?_, ?_⟩
    · rcases hK'' b h with h | h | h
      · rcases hK' b h with h | h
        · have := (hK b h).1; omega
        · omega
      · exact h.elim
      · omega
    · rcases hb b h with h | h
      · exact (hK b h).2
      · intro hs; have := hS b hs; omega
  · rw [hsib, sib_drop hq, if_neg htx, chL_append, chL_append, hys, chL, chL, elTT_ch]
    simp [catCh]
  · exact hst.trans (hm.stays fun i hi hs h => (hK i h).2 hs)

end Go.Proofs.YtddgabjhligeeaaGreat.mk

namespace Go.Proofs.YtddgabjhligeeaaGreat.mk
open Go.RowKit
attribute [local go_sem] Oper.semAt_some wide_fn wide_depth

set_option maxHeartbeats 4000000 in
set_option maxRecDepth 100000 in
theorem sibs_gives {S : Nat → Prop} {A : Option Addr} {n c bx : Nat} {ts : List TT} {W : World} (hc : W.cell? ⟨bx, 0, none⟩ = some (.slice A n c)) (hl : LiesS S W A (treeCells ts)) (hok : AllS S W ts) (hn : ts.length = n) (hS : ∀ b, S b → b < W.heap.size) (hbk : bkL (chL ts) ≤ 1048576) :
    Gives Tryz.prog 137 #[.pointer (some ⟨bx, 0, none⟩)] encT (ShT S) (fun pre => chL pre <+: sibs (chL ts)) (fun xs => chL xs = sibs (chL ts)) S W := by
  intro l J K0 hH hT hJ hK0
  obtain ⟨i0, hi, hz0, hz1, hz2⟩ := info_parts strT_info
  have hnb : n ≤ 1048576 := by have := bkL_len (chL ts); rw [chL_length, hn] at this; omega
  have HN := Lib.hid hn
  have HL := Lib.hid hl
  have HOK := Lib.hid hok
  have HH := Lib.hid hH
  have HT := Lib.hid hT
  have HS := Lib.hid hS
  have HBK := Lib.hid hbk
  have HST : Hid (SibRel S J (chL ts) n W (.slice none 0 0) (.int .i64 0) W) :=
    ⟨0, [], [], K0, Nat.zero_le _, rfl, World.ownsRow_nil _ _ _ _, (fun g h => by cases h), (fun u hu => by cases hu), hJ, hK0, rfl, Nat.zero_le _, Nat.zero_le _, Stays.refl _ _⟩
  clear hn hl hok hH hT hS hJ hK0 hbk
  go_enter Tryz.func137, Tryz.ntmps137
  go_wp2_with fail
  go_loopw [3, 8] (SibRel S J (chL ts) n W) (fun _ i _ => n - (intOf i).toNat)
  case atStart => exact HST.out
  case round =>
    clear HST
    obtain ⟨k, us, xs, K, hk, rfl, hown, hvk, hus, hJ, hK, hsib, hul, hcl, hst⟩ := hrel
    obtain ⟨A5, c5, rfl, _, _, _⟩ := own_form hown
    have HOW := Lib.hid hown
    have HVK := Lib.hid hvk
    have HUS := Lib.hid hus
    have HJ := Lib.hid hJ
    have HK := Lib.hid hK
    have HSIB := Lib.hid hsib
    have HCL := Lib.hid hcl
    have HSTS := Lib.hid hst
    have hzr := hst.1
    have HPB : Hid ((catCh us).length ≤ 1048576) := Nat.le_trans hcl (Nat.le_trans (bk_take _ _) HBK.out)
    clear hown hvk hus hJ hK hsib hcl hst
    by_cases hlt : k < n
    · obtain ⟨ad, t, rfl, hbA, d0, d1, d2, d3, d4, d5, HR⟩ := (HL.out.keep HSTS.out).lies.tree (k := k) (by rw [HN.out]; exact hlt)
      have hk0 : (0 : Int) ≤ (k : Int) := Int.natCast_nonneg _
      have hk1 : (k : Int) < (n : Int) := by omega
      have HQ := Lib.hid (chL_at HR.out)
      have HTI : Hid (t.inS S wr ∧ AllS S wr t.kids) := ⟨((HOK.out.keep HSTS.out).get (List.mem_of_getElem? HR.out)), (HOK.out.keep HSTS.out).kids (List.mem_of_getElem? HR.out)⟩
      go_wp2_with fail
      generalize hw4 : wr.alloc (.cells #[.string t.tag.s, .slice t.tag.A t.tag.n t.tag.c, .slice t.A t.n t.c, .slice t.K t.kn t.kc, .string t.text.s, .slice t.text.A t.text.n t.text.c] 48) = w4
      have y4 : Whole w4 wr.heap.size 48 #[.string t.tag.s, .slice t.tag.A t.tag.n t.tag.c, .slice t.A t.n t.c, .slice t.K t.kn t.kc, .string t.text.s, .slice t.text.A t.text.n t.text.c] := by rw [← hw4]; exact Whole.made _ _ _
      have hb4 : Below wr.heap.size wr w4 := by rw [← hw4]; exact (Below.refl _ _).alloc (Nat.le_refl _) _
      clear hw4 d0 d1 d2 d3 d4 d5
      have e0 : w4.cell? ⟨wr.heap.size, 0, none⟩ = some (.string t.tag.s) := y4.at_ 0
      have e1 : w4.cell? ⟨wr.heap.size, 1, none⟩ = some (.slice t.tag.A t.tag.n t.tag.c) := y4.at_ 1
      have e2 : w4.cell? ⟨wr.heap.size, 2, none⟩ = some (.slice t.A t.n t.c) := y4.at_ 2
      have e3 : w4.cell? ⟨wr.heap.size, 3, none⟩ = some (.slice t.K t.kn t.kc) := y4.at_ 3
      have e4 : w4.cell? ⟨wr.heap.size, 4, none⟩ = some (.string t.text.s) := y4.at_ 4
      have e5 : w4.cell? ⟨wr.heap.size, 5, none⟩ = some (.slice t.text.A t.text.n t.text.c) := y4.at_ 5
      go_wp2_with fail
      refine (element_any t w4).mono ?_
      rintro e w5 ⟨rfl, hb5⟩
      have y5 := y4.below hb5 y4.lt
      have HB5 : Hid (Below wr.heap.size wr w5) := below_next hb4 (Nat.le_refl _) hb5
      have hz4 := y4.lt
      have hz5 := hb5.size
      clear e0 e1 e2 e3 e4 e5 y4 hb4 hb5
      have e0 : w5.cell? ⟨wr.heap.size, 0, none⟩ = some (.string t.tag.s) := y5.at_ 0
      have e1 : w5.cell? ⟨wr.heap.size, 1, none⟩ = some (.slice t.tag.A t.tag.n t.tag.c) := y5.at_ 1
      have e2 : w5.cell? ⟨wr.heap.size, 2, none⟩ = some (.slice t.A t.n t.c) := y5.at_ 2
      have e3 : w5.cell? ⟨wr.heap.size, 3, none⟩ = some (.slice t.K t.kn t.kc) := y5.at_ 3
      have e4 : w5.cell? ⟨wr.heap.size, 4, none⟩ = some (.string t.text.s) := y5.at_ 4
      have e5 : w5.cell? ⟨wr.heap.size, 5, none⟩ = some (.slice t.text.A t.text.n t.text.c) := y5.at_ 5
      have HT5 : Hid (t.inS S w5 ∧ AllS S w5 t.kids) := ⟨HTI.out.1.keep (Stays.of HB5.out), HTI.out.2.keep (Stays.of HB5.out)⟩
      have hown5 := own_keep HOW.out HB5.out
      cases he : elB t with
      | false =>
        have HTX : Hid (t.ch.tag = []) := by
          show _ = _
          rw [TT.ch_tag]
          unfold elB at he
          simpa using he
        clear he y5
        generalize hzu : us.length = z at *
        have HZ := Lib.hid hzu
        clear hzu
        go_wp2_with (at_builtin; refine wpList_append_own_at _ rfl _ _ 42 rfl W.heap.size 24 i0 _ 2 40 Tryz.underlying42 hi hz0 hz1 hz2 rfl (by decide) (.slice A5 z c5) z _ rfl (hown5.alloc _) ⟨w5.heap.size, 0, none⟩ 1 1 [.string t.text.s, .slice t.text.A t.text.n t.text.c] rfl rfl (cells_new w5 _ _) (by simp [Value.oneCell']) (by simp only [maxLen]; omega) (by omega) (by simp; omega) ?_)
        intro v' w7 hown7 hgrow _ hv'
        obtain ⟨A7, d7, rfl, _, _, _⟩ := own_form hown7
        have HIN : Hid (SibRel S J (chL ts) n W (.slice A7 (z + 1) d7) (.int .i64 ((k : Int) + 1)) w7) := by
          have how := HOW.out
          have hon := hown7
          have hvk := HVK.out
          rw [← HZ.out] at how hon hvk
          have hul' : us.length ≤ k := by rw [HZ.out]; exact hul
          rw [← HZ.out]
          exact sib_text HH.out HS.out hlt HQ.out HTX.out how hvk HUS.out HJ.out HK.out HSIB.out hul' HCL.out HSTS.out HB5.out HT5.out.1 hon (by rw [← HZ.out] at hgrow; exact hgrow) (by rw [← HZ.out] at hv'; rw [World.size_alloc]; exact hv')
        clear hgrow hown7 hown5 hv' e0 e1 e2 e3 e4 e5
        go_wp2_with fail
        go_roundw
        case rel => exact HIN.out
        case measure => simp [intOf]; omega
      | true =>
        have HTX : Hid (t.ch.tag ≠ []) := by
          show _ ≠ _
          rw [TT.ch_tag]
          exact (elB_iff t).1 he
        clear he
        have HKEEP : Hid (∀ w6, Moved K w5 w6 → w6.cell? ⟨wr.heap.size, 0, none⟩ = some (.string t.tag.s) ∧ w6.cell? ⟨wr.heap.size, 1, none⟩ = some (.slice t.tag.A t.tag.n t.tag.c) ∧ w6.cell? ⟨wr.heap.size, 2, none⟩ = some (.slice t.A t.n t.c) ∧ w6.cell? ⟨wr.heap.size, 3, none⟩ = some (.slice t.K t.kn t.kc)) := fun w6 h => by
          have y6 := h.whole y5 (fun h => by have := (HK.out _ h).1; omega)
          exact ⟨y6.at_ 0, y6.at_ 1, y6.at_ 2, y6.at_ 3⟩
        have hJ5 : J xs K w5 := HH.out _ _ _ _ HJ.out hzr (Moved.of_below HB5.out)
        have htog := together_any HT.out HH.out xs K A5 us.length c5 us w5 hJ5 (by omega) (Lies.own hown5) rfl (by omega) (fun u hu => ((HUS.out u hu).keep (Stays.of HB5.out)).ok) (by have := HPB.out; omega) (fun b h => by have := (HK.out b h).1; omega) (fun hp x hx => by
          show chL (xs ++ [x]) <+: _
          rw [HSIB.out, sib_drop HQ.out, if_neg HTX.out, chL_append, chL, chL, hx, txs_some hp, List.prefix_append_right_inj]
          exact ⟨_, rfl⟩)
        have HTOG := Lib.hid htog
        clear htog hJ5 y5
        go_upto_region 6 with (fail)
        refine (wpIn_wide (n := 1)).1 ?_
        gi_wp2_with fail
        refine callsIn_wide.2 (HTOG.out.mono ?_)
        rintro e w6 ⟨rfl, ys, K', hys, hJ6, hK', hm6⟩
        clear e0 e1 e2 e3 e4 e5
        obtain ⟨f0, f1, f2, f3⟩ := HKEEP.out w6 hm6
        have hz6 := hm6.size
        have hpre : chL (xs ++ ys ++ [elTT t]) <+: sibs (chL ts) := by
          rw [HSIB.out, sib_drop HQ.out, if_neg HTX.out, chL_append, chL_append, hys, chL, chL, elTT_ch, List.append_assoc, List.prefix_append_right_inj, List.prefix_append_right_inj]
          exact ⟨_, rfl⟩
        obtain ⟨fn, tmps, assign, body, hy, hR⟩ := HT.out (xs ++ ys) K' (fun _ => False) (elTT t) w6 hJ6 ((elTT_sh HT5.out.1 HT5.out.2).moved (hm6.mono fun i _ h => by rintro (h2 | h2); exact (HK.out _ h).2 h2; exact h2)) hpre (by omega) (fun b h => h.elim)
        have HA := Lib.hid hys
        have HB := Lib.hid hK'
        have HC := Lib.hid hm6
        dsimp only [encT, elTT] at hy
        clear hpre hJ6 hys hK' hm6
        gi_wp2_with fail
        refine hR.mono ?_
        rintro e w7 ⟨rfl, K'', hJ7, hK'', hm7⟩
        have HIN : Hid (SibRel S J (chL ts) n W (.slice A5 0 c5) (.int .i64 ((k : Int) + 1)) w7) :=
          sib_el HS.out hlt HQ.out HTX.out HOW.out HVK.out HK.out HSIB.out HSTS.out HB5.out HA.out HB.out HC.out hJ7 hK'' (hm7.mono fun i _ h => h.elim id fun h => h.elim)
        clear hJ7 hK'' hm7 hy hR f0 f1 f2 f3 hown5 HTOG HKEEP
        gi_wp2_with fail
        go_wp2_with fail
        go_roundw
        case rel => exact HIN.out
        case measure => simp [intOf]; omega
    · obtain rfl : k = n := by omega
      have hown5 := HOW.out
      have hqe : sibF ((chL ts).drop k) (catCh us) = txs (catCh us) := sib_end (by rw [chL_length, HN.out]; exact Nat.le_refl _) _
      have htog := together_any HT.out HH.out xs K A5 us.length c5 us wr HJ.out hzr (Lies.own hown5) rfl (by omega) (fun u hu => (HUS.out u hu).ok) (by have := HPB.out; omega) (fun b h => (HK.out b h).1) (fun hp x hx => by
        show chL (xs ++ [x]) <+: _
        rw [HSIB.out, hqe, chL_append, chL, chL, hx, txs_some hp]
        exact List.prefix_refl _)
      have HQE := Lib.hid hqe
      clear hqe hown5
      go_wp2_with fail
      refine htog.mono ?_
      rintro e w6 ⟨rfl, ys, K', hys, hJ6, hK', hm6⟩
      have HFIN : Hid (∃ xs K', chL xs = sibs (chL ts) ∧ J xs K' w6) := ⟨xs ++ ys, K', by rw [chL_append, hys, HSIB.out, HQE.out], hJ6⟩
      clear hys hJ6 hK' hm6 htog
      go_wp2_with fail
      go_end0
      exact ⟨⟨_, rfl⟩, HFIN.out⟩

end Go.Proofs.YtddgabjhligeeaaGreat.mk

namespace Go.Proofs.YtddgabjhligeeaaGreat.mk
open Go.RowKit
attribute [local go_sem] Oper.semAt_some wide_fn wide_depth

theorem PT.lt_ind {p : List PT → Prop} (h : ∀ L, (∀ L', bkL L' < bkL L → p L') → p L) : ∀ L, p L := by
  have key : ∀ n L, bkL L < n → p L := by
    intro n
    induction n with
    | zero => intro L h0; omega
    | succ n ih => intro L hl; exact h L fun L' hl' => ih _ (by omega)
  exact fun L => key _ L (Nat.lt_succ_self _)
theorem sib_lt {L : List PT} {x : PT} (h : x ∈ sibs L) : bkL x.kids < bkL L := by
  obtain ⟨_, h2⟩ := sibs_ok h
  rcases h2 with h2 | ⟨t, ht, h2⟩
  · rw [h2]
    cases L with
    | nil => cases h
    | cons y ys =>
      rw [bkL, bkL, PT.bk_eq]
      omega
  · rw [h2]; exact bkL_kids ht

end Go.Proofs.YtddgabjhligeeaaGreat.mk

namespace Go.Proofs.YtddgabjhligeeaaGreat.mk
open Go.RowKit
attribute [local go_sem] Oper.semAt_some wide_fn wide_depth

end Go.Proofs.YtddgabjhligeeaaGreat.mk

namespace Go.Proofs.YtddgabjhligeeaaGreat.mk
open Go.RowKit
attribute [local go_sem] Oper.semAt_some wide_fn wide_depth

theorem wt_small (Q : List PT) : wtL (mergeP Q) ≤ bkL Q := Nat.le_trans (bk_wt _) (bk_merge _)

end Go.Proofs.YtddgabjhligeeaaGreat.mk
