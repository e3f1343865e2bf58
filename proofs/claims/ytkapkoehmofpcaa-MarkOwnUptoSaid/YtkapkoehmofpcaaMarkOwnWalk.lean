/-
  MarkOwn: what is handed in stays; what is told shares nothing with it: the walk.
-/
import Derived.Test.YtkapkoehmofpcaaAny
import Derived.Test.YtkapkoehmofpcaaMarkAlive
import Derived.Test.YtkapkoehmofpcaaMarkCut
import Derived.Test.YtkapkoehmofpcaaMarkRefIs
import Derived.Test.YtkapkoehmofpcaaMarkTold
import Derived.Test.YtkapkoehmofpcaaMarkRefOf
import Derived.Deep.RegionHeld3
import Derived.Deep.DeepCutAuto
import Derived.Outline
namespace Go.Proofs.Ytkapkoehmofpcaa.mk
open Go.RowKit

theorem step_append_src {P : Program} (w : World) {ops : Array Oper} {o : Oper} {a : Act} {K : Act → World → Prop} {Q : Exit → Act → World → Prop} {E : Prop} (hgd : o.guard = none) (s x : Operand) (t : TypeId)
    (ho : o.op = .call { callee := .builtin .append, args := #[s, x], argTypes := #[t, t] })
    (base : Nat) (e : TypeId) (i : TypeInfo) (z : Value) (size bytes : Nat) (ht : P.underlying t = some (.slice e)) (hi : P.info? e = some i) (hz : i.zero = some z)
    (hsize : i.size = size) (hby : i.bytes = bytes) (hzs : z.cells.size = size) (hsz : 0 < size)
    (v : Value) (n : Nat) (xs : List Value) (hs : a.eval s = v) (hown : w.ownsRow base e size v n xs)
    (B : Nat) (A : Option Addr) (m c : Nat) (news : List Value) (hx : a.eval x = .slice A m c) (hA : A = none → c = 0) (hl : news.length = m * size) (hr : Lies w B A news) (h1 : ∀ u ∈ news, u.oneCell' = true)
    (h63 : n + m ≤ maxLen) (hbytes : (n + m) * bytes ≤ 140737488355328) (hbase : base ≤ w.heap.size)
    (h : ∀ v' w', w'.ownsRow base e size v' (n + m) (xs ++ news) → w.grownBy w' v.ownBlock → (v'.ownBlock = v.ownBlock ∨ v'.ownBlock = some w.heap.size) → K (a.put o.dst v') w') :
    if Region.wanted o (yielded ops a.tmps) = true then Oper.wp P o a w K Q else E := by
  have hw : Region.wanted o (yielded ops a.tmps) = true := by simp [Region.wanted, hgd]
  rw [if_pos hw]
  obtain ⟨v', w', hrun, h2, h3, h4⟩ := run_append_src (P := P) w o.type t base e i z size bytes ht hi hz hsize hby hzs hsz v n xs hown B A m c news hA hl hr h1 h63 hbytes hbase
  unfold Oper.wp execOp
  simp only [ho, resolve, invoke, builtin, Sem.run_bind, Sem.run_pure, Result.andThen_ok, List.map_toArray, List.map_cons, List.map_nil, hs, hx, hrun]
  exact h v' w' h2 h3 h4
theorem lit_own2 {W : World} {g base : Nat} {t : TypeId} {size : Nat} (h : Whole W g t #[]) (hb : base ≤ g) : W.ownsRow base t size (.slice (some ⟨g, 0, none⟩) 0 0) 0 [] :=
  ⟨by simp, .inr ⟨g, 0, #[], rfl, hb, h, Nat.le_refl _, by simp, by simp, by simp⟩⟩
theorem whole0 {X : World} {g : Nat} {cs : Array Value} {t : TypeId} (hg : g = X.heap.size) : Whole (X.alloc (.cells cs t)) g t cs := hg ▸ Whole.made X t cs
theorem whole1 {X : World} {o : Obj} {g : Nat} {cs : Array Value} {t : TypeId} (hg : g = X.heap.size) : Whole ((X.alloc (.cells cs t)).alloc o) g t cs := (whole0 hg).alloc o
theorem whole2 {X : World} {o : Obj} {g : Nat} {cs : Array Value} {t : TypeId} (hg : g = X.heap.size + 1) : Whole ((X.alloc o).alloc (.cells cs t)) g t cs := whole0 (by rw [hg, World.size_alloc])
theorem below_al' {B : Nat} {wr W : World} (h : Below B wr W) (o : Obj) (hB : B ≤ wr.heap.size := by exact Nat.le_refl _) : Below B wr (W.alloc o) := h.alloc (Nat.le_trans hB h.size) o
theorem below_set2 {B g : Nat} {wr w3 : World} {u v : Value} (h : Below B wr w3) (hg : B ≤ g) : Below B wr ((w3.setCell ⟨g, 0, none⟩ u).setCell ⟨g, 1, none⟩ v) := (h.setCell hg _).setCell hg _

theorem kind_ne {w : World} {a b : Nat} {t u : TypeId} {c : Array Value} {fz : Nat × Nat} {d : Array Value} (ha : w.heap[a]? = some (.cells c t fz)) (hb : Whole w b u d) (h : t ≠ u) : a ≠ b := by
  rintro rfl
  unfold Whole at hb
  rw [ha] at hb
  injection hb with hb
  injection hb with _ hb
  exact h hb

/-- a bit is set -/
def upd (L : Nat → Bool) (i : Nat) (k : Nat) : Bool := if k = i then true else L k
theorem getD_upd {listed : Array Bool} {i : Nat} (h : i < listed.size) : (fun k => (listed.setIfInBounds i true).getD k false) = upd (fun k => listed.getD k false) i := by
  funext k
  unfold upd
  by_cases hk : k = i
  · subst hk; rw [if_pos rfl]; simp [Array.getD, h]
  · rw [if_neg hk]
    by_cases hs : k < listed.size
    · simp [Array.getD, hs, Array.getElem_setIfInBounds_ne, Ne.symm hk]
    · simp [Array.getD, hs]

theorem upd_of {L : Nat → Bool} {i k : Nat} (h : L k = true) : upd L i k = true := by unfold upd; split <;> first | rfl | exact h
theorem getD_tf {listed : Array Bool} {i : Nat} (h : listed.getD i true = false) : listed.getD i false = false := by
  unfold Array.getD at h ⊢
  split at h
  · rename_i hi; rw [dif_pos hi]; exact h
  · cases h

/-- an answer: the text with these runs, in memory of its own -/
def Res (s : ByteArray) (qs : List (Int × Int)) (B : Nat) (w : World) (x : Value) : Prop :=
  ∃ A' c', x = .agg #[.string s, .slice A' qs.length c'] ∧ w.ownsRow B 30 2 (.slice A' qs.length c') qs.length (runCells qs)
/-- a variable of the call's own; if it has been stored, what it holds -/
def Var (B : Nat) (w : World) (x : Value) (done : Bool) (y : Value) : Prop :=
  ∃ p u v, x = .pointer (some ⟨p, 0, none⟩) ∧ B ≤ p ∧ Whole w p 24 #[u, v] ∧ (done = true → y = .agg #[u, v])
def Lit1 (s : ByteArray) (A3 : Option Addr) (m c3 B : Nat) (w : World) (x : Value) : Prop :=
  ∃ g, x = .slice (some ⟨g, 0, none⟩) 1 1 ∧ Whole w g 24 #[.string s, .slice A3 m c3] ∧ B ≤ g
theorem Res.below {s : ByteArray} {qs : List (Int × Int)} {B : Nat} {w w' : World} {x : Value} (h : Res s qs B w x) (hb : Below w.heap.size w w') : Res s qs B w' x := by
  obtain ⟨A', c', e, h⟩ := h
  exact ⟨A', c', e, own_keep h hb⟩
theorem Var.below {B : Nat} {w w' : World} {x y : Value} {d : Bool} (h : Var B w x d y) (hb : Below w.heap.size w w') : Var B w' x d y := by
  obtain ⟨p, u, v, e, h1, h2, h3⟩ := h
  exact ⟨p, u, v, e, h1, h2.below hb h2.lt, h3⟩
theorem Lit1.below {s : ByteArray} {A3 : Option Addr} {m c3 B : Nat} {w w' : World} {x : Value} (h : Lit1 s A3 m c3 B w x) (hb : Below w.heap.size w w') : Lit1 s A3 m c3 B w' x := by
  obtain ⟨g, e, h1, h2⟩ := h
  exact ⟨g, e, h1.below hb h1.lt, h2⟩
theorem Res.put {s : ByteArray} {qs : List (Int × Int)} {B p : Nat} {w : World} {x a b : Value} {cs : Array Value} (h : Res s qs B w x) (hp : Whole w p 24 cs) : Res s qs B ((w.setCell ⟨p, 0, none⟩ a).setCell ⟨p, 1, none⟩ b) x := by
  obtain ⟨A', c', e, h⟩ := h
  have hk : ∀ gg, (Value.slice A' qs.length c').ownBlock = some gg → gg ≠ p := fun gg e => by
    obtain ⟨cur, hc⟩ := own_kind h e
    exact kind_ne hc hp (by decide)
  exact ⟨A', c', e, own_far (own_far h _ (fun e => hk _ e rfl) _) _ (fun e => hk _ e rfl) _⟩
theorem Var.put {B p : Nat} {w : World} {x y a b : Value} {d : Bool} (h : Var B w x d y) (hp : x ≠ .pointer (some ⟨p, 0, none⟩)) : Var B ((w.setCell ⟨p, 0, none⟩ a).setCell ⟨p, 1, none⟩ b) x d y := by
  obtain ⟨p', u, v, e, h1, h2, h3⟩ := h
  have hn : p' ≠ p := by rintro rfl; exact hp e
  exact ⟨p', u, v, e, h1, (h2.far _ hn _).far _ hn _, h3⟩

/-- what is known while the three answers and the three variables are made, in whatever order -/
structure Own4 (s : ByteArray) (A3 : Option Addr) (m c3 q : Nat) (qs : List (Int × Int)) (wc : World) (L : Nat → Bool) (x4 x5 x6 x18 x19 x20 x21 x22 x23 x24 x25 x26 x27 : Value) (w : World) : Prop where
  bel : Below wc.heap.size wc w
  h0 : L 0 = true → x18 = .agg #[.string s, .slice A3 m c3]
  h1 : L 1 = true → Res s qs wc.heap.size w x19
  h2 : L 2 = true → x20 = .agg #[.string s, .slice A3 m c3]
  h3 : L 3 = true → x21 = .pointer (some ⟨q, 0, none⟩)
  h4 : L 4 = true → x22 = .string s
  h5 : L 5 = true → x23 = .int .i64 s.size
  h6 : L 6 = true → Res s qs wc.heap.size w x24
  h7 : L 7 = true → x25 = .agg #[.string s, .slice A3 m c3]
  h8 : L 8 = true → L 9 = false → Lit1 s A3 m c3 wc.heap.size w x26
  h9 : L 9 = true → Res s qs wc.heap.size w x27
  h10 : L 10 = true → Var wc.heap.size w x4 (L 13) x19
  h11 : L 11 = true → Var wc.heap.size w x5 (L 14) x24
  h12 : L 12 = true → Var wc.heap.size w x6 (L 15) x27
  d45 : L 10 = true → L 11 = true → x4 ≠ x5
  d46 : L 10 = true → L 12 = true → x4 ≠ x6
  d56 : L 11 = true → L 12 = true → x5 ≠ x6
  o13 : L 13 = true → L 1 = true ∧ L 10 = true ∧ L 9 = true
  o14 : L 14 = true → L 6 = true ∧ L 11 = true ∧ L 13 = true
  o15 : L 15 = true → L 9 = true ∧ L 12 = true ∧ L 14 = true
theorem Own4.keep {s : ByteArray} {A3 : Option Addr} {m c3 q : Nat} {qs : List (Int × Int)} {wc : World} {L : Nat → Bool} {x4 x5 x6 x18 x19 x20 x21 x22 x23 x24 x25 x26 x27 : Value} {w w' : World} (h : Own4 s A3 m c3 q qs wc L x4 x5 x6 x18 x19 x20 x21 x22 x23 x24 x25 x26 x27 w) (hb : Below w.heap.size w w') : Own4 s A3 m c3 q qs wc L x4 x5 x6 x18 x19 x20 x21 x22 x23 x24 x25 x26 x27 w' :=
  ⟨below_next h.bel (Nat.le_refl _) hb, h.h0, fun e => (h.h1 e).below hb, h.h2, h.h3, h.h4, h.h5, fun e => (h.h6 e).below hb, h.h7, fun e f => (h.h8 e f).below hb, fun e => (h.h9 e).below hb, fun e => (h.h10 e).below hb, fun e => (h.h11 e).below hb, fun e => (h.h12 e).below hb, h.d45, h.d46, h.d56, h.o13, h.o14, h.o15⟩
/-- a pointer to a block that there was is none to a new one -/
theorem Var.old {B : Nat} {w : World} {x y : Value} {d : Bool} (h : Var B w x d y) : x ≠ .pointer (some ⟨w.heap.size, 0, none⟩) := by
  obtain ⟨p, u, v, rfl, h1, h2, h3⟩ := h
  intro e
  injection e with e
  injection e with e
  injection e with e
  have := h2.lt
  omega

/-- the variable in: its text, and runs of its own -/
def OwnIn (s : ByteArray) (rs : List (Int × Int)) (m : Nat) (w1 : World) (s3 : Value) (wx : World) : Prop :=
  ∃ q A3 c3, s3 = .pointer (some ⟨q, 0, none⟩) ∧ Whole wx q 24 #[.string s, .slice A3 m c3] ∧ wx.ownsRow w1.heap.size 30 2 (.slice A3 m c3) m (runCells rs) ∧ Below w1.heap.size w1 wx ∧ w1.heap.size ≤ q

theorem own_in1 {s : ByteArray} {rs : List (Int × Int)} {m : Nat} {w1 w2 : World} {A3 : Option Addr} {c3 : Nat} (h : w2.ownsRow w1.heap.size 30 2 (.slice A3 m c3) m (runCells rs)) (hb : Below w1.heap.size w1 w2) :
    OwnIn s rs m w1 (.pointer (some ⟨w2.heap.size, 0, none⟩)) (w2.alloc (.cells #[.string s, .slice A3 m c3] 24)) :=
  ⟨_, A3, c3, rfl, Whole.made _ _ _, h.alloc _, hb.alloc hb.size _, hb.size⟩
theorem own_in2 {s : ByteArray} {rs : List (Int × Int)} {m g : Nat} {w1 w2 : World} {A3 : Option Addr} {c3 : Nat} {cs : Array Value} (h : w2.ownsRow w1.heap.size 30 2 (.slice A3 m c3) m (runCells rs)) (hb : Below w1.heap.size w1 w2) (hz : Whole w2 g 24 cs) (hg : w1.heap.size ≤ g) (hcs : cs.size = 2 := by rfl) :
    OwnIn s rs m w1 (.pointer (some ⟨g, 0, none⟩)) ((w2.setCell ⟨g, 0, none⟩ (.string s)).setCell ⟨g, 1, none⟩ (.slice A3 m c3)) := by
  have hk : ∀ gg, (Value.slice A3 m c3).ownBlock = some gg → gg ≠ g := fun gg e => by
    obtain ⟨cur, hc⟩ := own_kind h e
    exact kind_ne hc hz (by decide)
  have hsz : (Array.setIfInBounds (Array.setIfInBounds cs 0 (.string s)) 1 (.slice A3 m c3)) = #[.string s, .slice A3 m c3] := by
    match cs, hcs with
    | ⟨[_, _]⟩, _ => rfl
  have hw2 := (hz.put 0 (.string s)).put 1 (.slice A3 m c3)
  rw [hsz] at hw2
  exact ⟨g, A3, c3, rfl, hw2, own_far (own_far h _ (fun e => hk _ e rfl) _) _ (fun e => hk _ e rfl) _, below_set2 hb hg, hg⟩

theorem cut_all (s : ByteArray) : (⟨((s.data.toList.take s.size).drop 0).toArray⟩ : ByteArray) = s := by
  rw [List.drop_zero, List.take_of_length_le (by rw [Array.length_toList]; exact Nat.le_refl _)]
theorem cut_runs (s : ByteArray) (rs : List (Int × Int)) : comp (((origins s.size rs).take s.size).drop 0) = taken s.size rs := by
  rw [List.drop_zero, List.take_of_length_le (by rw [origins_length]; exact Nat.le_refl _)]
  rfl
theorem cat_os1 (s : ByteArray) (A : Option Addr) (m c : Nat) (rs : List (Int × Int)) : catOs [⟨s, A, m, c, rs⟩] = origins s.size rs := by simp [catOs, LT.os]
theorem cat_bs1 (s : ByteArray) (A : Option Addr) (m c : Nat) (rs : List (Int × Int)) : (⟨(catBs [⟨s, A, m, c, rs⟩]).toArray⟩ : ByteArray) = s := by simp [catBs, LT.bs]
theorem lies_whole {W : World} {g : Nat} {t : TypeId} {cs : Array Value} {l : List Value} (h : Whole W g t cs) (hl : cs.toList = l := by rfl) : Lies W W.heap.size (some ⟨g, 0, none⟩) l := by
  intro j u hu
  refine ⟨_, rfl, h.lt, ?_⟩
  have hadd : (⟨g, 0, none⟩ : Addr).add j = ⟨g, j, none⟩ := by unfold Addr.add; split <;> simp_all
  rw [hadd, h.at_ j, ← hu, ← hl]
  simp

/-- runs, of which the first ones have been written over -/
def sevens (rs : List (Int × Int)) (k : Nat) : List (Int × Int) := List.replicate k (7, 7) ++ rs.drop k
theorem sevens_at (rs : List (Int × Int)) (k : Nat) : (sevens rs k)[k]? = rs[k]? := by
  unfold sevens
  rw [List.getElem?_append_right (by simp), List.length_replicate, Nat.sub_self, List.getElem?_drop, Nat.add_zero]
def OwnLoop (rs : List (Int × Int)) (m : Nat) (A3 : Option Addr) (c3 : Nat) (w1 wc : World) (i : Value) (wr : World) : Prop :=
  ∃ k : Nat, k ≤ m ∧ i = .int .i64 k ∧ wr.ownsRow w1.heap.size 30 2 (.slice A3 m c3) m (runCells (sevens rs k)) ∧ Moved (fun b => (Value.slice A3 m c3).ownBlock = some b) wc wr
theorem row_block {w : World} {B e size n c : Nat} {ad : Addr} {xs : List Value} (h : w.ownsRow B e size (.slice (some ad) n c) n xs) : ∃ g, ad = ⟨g, 0, none⟩ ∧ B ≤ g := by
  rcases h.2 with ⟨hv, _⟩ | ⟨g, cap, cur, hv, hg, _⟩
  · simp at hv
  · injection hv with h1
    injection h1 with h1
    exact ⟨g, h1, hg⟩
theorem add_of {ad : Addr} {g : Nat} (h : ad = ⟨g, 0, none⟩) (j : Nat) : ad.add j = ⟨g, j, none⟩ := by subst h; unfold Addr.add; split <;> simp_all
theorem own_free {w : World} {B e size n c g : Nat} {ad : Addr} {xs : List Value} (h : w.ownsRow B e size (.slice (some ad) n c) n xs) (had : ad = ⟨g, 0, none⟩) (j : Nat) : w.frozen? ⟨g, j, none⟩ = false := by
  obtain ⟨cur, hc⟩ := own_kind h (g := g) (by rw [had]; rfl)
  exact frozen_of_row _ _ _ _ _ hc
theorem sevens_set (rs : List (Int × Int)) {k : Nat} (h : k < rs.length) : ((runCells (sevens rs k)).set (k * 2) (.int .i64 7)).set (k * 2 + 1) (.int .i64 7) = runCells (sevens rs (k + 1)) := by
  have e1 : rs.drop k = rs[k] :: rs.drop (k + 1) := List.drop_eq_getElem_cons h
  have hl : (runCells (List.replicate k ((7 : Int), (7 : Int)))).length = k * 2 := by rw [runCells_length, List.length_replicate]
  have e2 : runCells (sevens rs k) = runCells (List.replicate k (7, 7)) ++ (.int .i64 rs[k].1 :: .int .i64 rs[k].2 :: runCells (rs.drop (k + 1))) := by
    unfold sevens
    rw [runCells_append, e1]
    rfl
  have e3 : runCells (sevens rs (k + 1)) = runCells (List.replicate k (7, 7)) ++ (.int .i64 7 :: .int .i64 7 :: runCells (rs.drop (k + 1))) := by
    unfold sevens
    rw [List.replicate_succ', runCells_append, runCells_append, List.append_assoc]
    rfl
  rw [e2, e3, List.set_append_right _ _ (by omega), hl, Nat.sub_self, List.set_append_right _ _ (by omega), hl, show k * 2 + 1 - k * 2 = 1 by omega]
  rfl
theorem own_seven {w : World} {B m c3 k g : Nat} {ad : Addr} {rs : List (Int × Int)} (h : w.ownsRow B 30 2 (.slice (some ad) m c3) m (runCells (sevens rs k))) (had : ad = ⟨g, 0, none⟩) (hk : k < rs.length) :
    ((w.setCell (ad.add (k * 2)) (.int .i64 7)).setCell ⟨(ad.add (k * 2)).block, (ad.add (k * 2)).off + 1, none⟩ (.int .i64 7)).ownsRow B 30 2 (.slice (some ad) m c3) m (runCells (sevens rs (k + 1))) := by
  rw [add_of had]
  subst had
  have h1 := (h.stored (k * 2) (.int .i64 7)).1
  have h2 := (h1.stored (k * 2 + 1) (.int .i64 7)).1
  rw [sevens_set rs hk] at h2
  exact h2

/-- the three answers, each in a variable -/
def OwnRes (s : ByteArray) (qs : List (Int × Int)) (wc : World) (s4 s5 s6 : Value) (wx : World) : Prop :=
  Below wc.heap.size wc wx ∧ (∃ y, Res s qs wc.heap.size wx y ∧ Var wc.heap.size wx s4 true y) ∧ (∃ y, Res s qs wc.heap.size wx y ∧ Var wc.heap.size wx s5 true y) ∧ (∃ y, Res s qs wc.heap.size wx y ∧ Var wc.heap.size wx s6 true y)

set_option maxHeartbeats 4000000 in
set_option maxRecDepth 100000 in
theorem own_walk (s : ByteArray) (A : Option Addr) (m c : Nat) (rs : List (Int × Int)) (w : World) (hl : Lies w w.heap.size A (runCells rs)) (hm : rs.length = m) (hm2 : m ≤ 1048576) (hA : A = none → c = 0) (hs : s.size ≤ 1048576) :
    Calls Try.prog 3 #[.agg #[.string s, .slice A m c]] w fun e w' => e = .returned (.bool true) ∧ Below w.heap.size w w' := by
  have HM := Lib.hid hm
  clear hm
  obtain ⟨i0, hi, hz0, hz1, hz2⟩ := info_parts run_info
  go_enter Try.func3, Try.ntmps3
  go_wp2_with fail
  refine (alive_any _).mono ?_
  rintro e w1 ⟨rfl, hb1⟩
  simp only [World.size_alloc] at hb1
  have hz1' := hb1.size
  simp only [World.size_alloc] at hz1'
  have y0 : Whole w1 w.heap.size 24 #[.string s, .slice A m c] := (Whole.made w _ _).below hb1 (Nat.lt_succ_self _)
  have c0 : w1.cell? ⟨w.heap.size, 0, none⟩ = some (.string s) := y0.at_ 0
  have c1 : w1.cell? ⟨w.heap.size, 1, none⟩ = some (.slice A m c) := y0.at_ 1
  have hl1 : Lies w1 w1.heap.size A (runCells rs) := ((hl.alloc (Nat.le_refl _) _).mono (Nat.le_succ _)).next hb1 (by simp)
  have hbw : Below w.heap.size w w1 := below_made hb1
  go_wp2_with fail
  go_upto_region 4 with (fail)
  go_cut [3] (fun s3 wx => OwnIn s rs m w1 s3 wx)
  case first =>
    have HKS : Hid (∀ w', Below w1.heap.size w1 w' → w'.cell? ⟨w.heap.size, 0, none⟩ = some (.string s) ∧ w'.cell? ⟨w.heap.size, 1, none⟩ = some (.slice A m c) ∧ Below w1.heap.size w1 w') := fun w' h => ⟨(h.cell y0.lt).trans (y0.at_ 0), (h.cell y0.lt).trans (y0.at_ 1), h⟩
    have HL1 := Lib.hid hl1
    have s1 := Lib.hid (show (runCells rs).length = m * 2 by rw [runCells_length, HM.out])
    have s3 : Hid (0 + m ≤ maxLen) := by show _ ≤ _; simp only [maxLen]; omega
    have s4 : Hid ((0 + m) * 16 ≤ 140737488355328) := by show _ ≤ _; omega
    clear hl1
    go_region_held3 (fun w' => w'.cell? ⟨w.heap.size, 0, none⟩ = some (.string s) ∧ w'.cell? ⟨w.heap.size, 1, none⟩ = some (.slice A m c) ∧ Below w1.heap.size w1 w')
      (first
        | exact HKS.out _ (Below.drew (Below.refl _ _))
        | exact HKS.out _ hB2
        | exact HKS.out _ (hB2.alloc (by have := hB2.size; omega) _)
        | (go_split_ands; exact HKS.out _ (by assumption))
        | (go_split_ands; exact HKS.out _ (below_al' (by assumption) _))
        | (go_split_ands; exact HKS.out _ (below_set2 hB2 (by omega))))
      (first
        | (refine step_append_src _ (by rfl) (.tmp 13) (.tmp 15) 22 (by rfl) w1.heap.size 30 i0 _ 2 16 Try.underlying22 hi hz0 hz1 hz2 rfl (by omega) (.slice (some ⟨w1.heap.size, 0, none⟩) 0 0) 0 [] (by rfl) ?_ w1.heap.size A m c (runCells rs) (by rfl) hA s1.out ?_ (runCells_one' _) s3.out s4.out ?_ ?_
           · (first | exact lit_own2 (whole0 rfl) (Nat.le_refl _) | exact lit_own2 (whole1 rfl) (Nat.le_refl _) | exact lit_own2 (Whole.drew (whole0 rfl)) (Nat.le_refl _) | exact lit_own2 (Whole.drew (whole1 rfl)) (Nat.le_refl _))
           · (go_split_ands; exact HL1.out.below (by assumption))
           · (go_split_ands; exact Below.size (by assumption))
           intro v2 w2 hown2 hg2 hat2
           simp only [Nat.zero_add, List.nil_append] at hown2
           obtain ⟨A3, c3, rfl, _, _, _⟩ := own_form hown2
           have hB2 : Below w1.heap.size w1 w2 := (by go_split_ands; exact Below.grown (by assumption) hg2 (Below.size (by assumption)) (fun x hx => by simp [Value.ownBlock] at hx; omega))
           (first | (have z1 : Whole w2 (w1.heap.size + 1) 24 #[.string ⟨#[]⟩, .slice none 0 0] := Whole.grown (Whole.drew (whole2 (by rfl))) hg2 (by simp [Value.ownBlock]); have f0 := z1.at_ 0; have f1 := z1.at_ 1; have f2 := z1.free 0; have f3 := z1.free 1) | skip))
        | (refine step_append_src _ (by rfl) (.tmp 13) (.tmp 15) 22 (by rfl) w1.heap.size 30 i0 _ 2 16 Try.underlying22 hi hz0 hz1 hz2 rfl (by omega) (.slice (some ⟨w1.heap.size + 1, 0, none⟩) 0 0) 0 [] (by rfl) ?_ w1.heap.size A m c (runCells rs) (by rfl) hA s1.out ?_ (runCells_one' _) s3.out s4.out ?_ ?_
           · (first | exact lit_own2 (whole2 rfl) (Nat.le_succ _) | exact lit_own2 (Whole.drew (whole2 rfl)) (Nat.le_succ _))
           · (go_split_ands; exact HL1.out.below (by assumption))
           · (go_split_ands; exact Below.size (by assumption))
           intro v2 w2 hown2 hg2 hat2
           simp only [Nat.zero_add, List.nil_append] at hown2
           obtain ⟨A3, c3, rfl, _, _, _⟩ := own_form hown2
           have hB2 : Below w1.heap.size w1 w2 := (by go_split_ands; exact Below.grown (by assumption) hg2 (Below.size (by assumption)) (fun x hx => by simp [Value.ownBlock] at hx; omega))
           have z1 : Whole w2 w1.heap.size 24 #[.string ⟨#[]⟩, .slice none 0 0] := Whole.grown (Whole.drew (whole1 (by rfl))) hg2 (by simp [Value.ownBlock])
           have f0 := z1.at_ 0
           have f1 := z1.at_ 1
           have f2 := z1.free 0
           have f3 := z1.free 1))
    all_goals
      go_wp2_with fail
      go_meet
      first
        | exact own_in1 hown2 hB2
        | exact own_in2 hown2 hB2 z1 (by omega)
  case rest =>
    obtain ⟨q, A3, c3, rfl, hWq, hown3, hb3, hq⟩ := hcut
    obtain ⟨wd, rfl⟩ : ∃ wd : World, wd = wc := ⟨_, rfl⟩
    have HO3 := Lib.hid hown3
    have HL3 := Lib.hid (Lies.own hown3)
    have hws := hb3.size
    generalize hqs : taken s.size rs = qs at *
    have HQS := Lib.hid hqs
    clear hqs hown3
    have HFX : Hid (∀ w', Below wd.heap.size wd w' → Calls Try.prog 8 #[.agg #[.string s, .slice A3 m c3]] w' fun e w'' => ∃ x, e = .returned x ∧ Res s qs wd.heap.size w'' x ∧ Below w'.heap.size w' w'') := fun w' hb => by
      have h := fix_any s A3 m c3 rs w' (HL3.out.next hb (Nat.le_refl _)) HM.out (by omega) (by omega)
      rw [HQS.out] at h
      refine h.mono ?_
      rintro e w'' ⟨v, rfl, ho, hb'⟩
      obtain ⟨A', c', rfl, _, _, _⟩ := own_form ho
      exact ⟨_, rfl, ⟨A', c', rfl, own_mono ho hb.size⟩, hb'⟩
    have HCU : Hid (∀ w', Below wd.heap.size wd w' → Calls Try.prog 9 #[.agg #[.string s, .slice A3 m c3], .int .i64 0, .int .i64 s.size] w' fun e w'' => ∃ x, e = .returned x ∧ Res s qs wd.heap.size w'' x ∧ Below w'.heap.size w' w'') := fun w' hb => by
      have h := cut_any s A3 m c3 rs 0 s.size 0 s.size w' (HL3.out.next hb (Nat.le_refl _)) HM.out (by omega) (by omega) (by omega) (by omega)
      rw [cut_all, cut_runs, HQS.out] at h
      refine h.mono ?_
      rintro e w'' ⟨v, rfl, ho, hb'⟩
      obtain ⟨A', c', rfl, _, _, _⟩ := own_form ho
      exact ⟨_, rfl, ⟨A', c', rfl, own_mono ho hb.size⟩, hb'⟩
    have HCA : Hid (∀ w' g, Below wd.heap.size wd w' → Whole w' g 24 #[.string s, .slice A3 m c3] → Calls Try.prog 10 #[.slice (some ⟨g, 0, none⟩) 1 1] w' fun e w'' => ∃ x, e = .returned x ∧ Res s qs wd.heap.size w'' x ∧ Below w'.heap.size w' w'') := fun w' g hb hg => by
      have h := cat_any (some ⟨g, 0, none⟩) 1 1 [⟨s, A3, m, c3, rs⟩] w' (lies_whole hg) rfl (by decide) (by intro t ht; simp only [List.mem_singleton] at ht; subst ht; exact ⟨HL3.out.next hb (Nat.le_refl _), HM.out, by show m ≤ _; omega, by show s.size ≤ _; omega⟩) (by rw [cat_os1, origins_length]; omega)
      rw [cat_os1, cat_bs1, show comp (origins s.size rs) = taken s.size rs from rfl, HQS.out] at h
      refine h.mono ?_
      rintro e w'' ⟨v, rfl, ho, hb'⟩
      obtain ⟨A', c', rfl, _, _, _⟩ := own_form ho
      exact ⟨_, rfl, ⟨A', c', rfl, own_mono ho hb.size⟩, hb'⟩
    go_upto_region 5 with (fail)
    go_cut [4, 5, 6] (fun s4 s5 s6 wx => OwnRes s qs wd s4 s5 s6 wx)
    case first =>
      refine wp_region_any (by kernel_rfl) ?_
      refine wpAny_inv (fun listed a w' => listed.size = 16 ∧ ∃ x4 x5 x6 x18 x19 x20 x21 x22 x23 x24 x25 x26 x27, a = ⟨#[.agg #[.string s, .slice A m c], .pointer (some ⟨w.heap.size, 0, none⟩), .bool false, .pointer (some ⟨q, 0, none⟩), x4, x5, x6, undef, undef, u9, u10, u11, u12, u13, u14, u15, u16, u17, x18, x19, x20, x21, x22, x23, x24, x25, x26, x27, u28, u29, u30, u31, u32, u33, u34, u35, u36, u37, u38, u39, u40, u41, u42, u43, u44, u45, u46, u47, u48, u49, u50, u51, u52, u53, u54, u55, u56, u57, u58, u59, u60, u61, u62, u63, u64, u65], []⟩ ∧ Own4 s A3 m c3 q qs wd (fun k => listed.getD k false) x4 x5 x6 x18 x19 x20 x21 x22 x23 x24 x25 x26 x27 w') ?_ ?_ _ _ _ _ (by rfl) (by decide) ⟨rfl, _, _, _, _, _, _, _, _, _, _, _, _, _, rfl, ?_⟩
      · rintro listed a w' ⟨hsz, x4, x5, x6, x18, x19, x20, x21, x22, x23, x24, x25, x26, x27, rfl, h⟩ hr
        have al := ready_nil (md := .any) hsz (by kernel_rfl) hr
        have al' : ∀ k, k < 16 → listed.getD k false = true := al
        go_wp2_with fail
        go_meet
        refine ⟨h.bel, ⟨_, h.h1 (al' 1 (by decide)), ?_⟩, ⟨_, h.h6 (al' 6 (by decide)), ?_⟩, ⟨_, h.h9 (al' 9 (by decide)), ?_⟩⟩
        · have h1 := h.h10 (al' 10 (by decide)); rw [al' 13 (by decide)] at h1; exact h1
        · have h1 := h.h11 (al' 11 (by decide)); rw [al' 14 (by decide)] at h1; exact h1
        · have h1 := h.h12 (al' 12 (by decide)); rw [al' 15 (by decide)] at h1; exact h1
      · rintro listed a w' i ⟨hsz, x4, x5, x6, x18, x19, x20, x21, x22, x23, x24, x25, x26, x27, rfl, h⟩ hi
        obtain ⟨hi1, hi2, hrd⟩ := ready_mem hi
        have d0 : w'.cell? ⟨q, 0, none⟩ = some (.string s) := (h.bel.cell hWq.lt).trans (hWq.at_ 0)
        have d1 : w'.cell? ⟨q, 1, none⟩ = some (.slice A3 m c3) := (h.bel.cell hWq.lt).trans (hWq.at_ 1)
        have h16 : i = 0 ∨ i = 1 ∨ i = 2 ∨ i = 3 ∨ i = 4 ∨ i = 5 ∨ i = 6 ∨ i = 7 ∨ i = 8 ∨ i = 9 ∨ i = 10 ∨ i = 11 ∨ i = 12 ∨ i = 13 ∨ i = 14 ∨ i = 15 := by have : i < 16 := hi1; omega
        rcases h16 with rfl | rfl | rfl | rfl | rfl | rfl | rfl | rfl | rfl | rfl | rfl | rfl | rfl | rfl | rfl | rfl
        · have hlt : 0 < listed.size := by rw [hsz]; decide
          have nme := getD_tf hi2
          clear hrd hi
          refine wpOp_step (i := 0) rfl (fun K' hK => ?_)
          go_simp
          refine hK _ _ ⟨by simpa using hsz, x4, x5, x6, _, x19, x20, x21, x22, x23, x24, x25, x26, x27, rfl, ?_⟩
          rw [getD_upd hlt]
          exact ⟨h.bel, (fun _ => rfl), h.h1, h.h2, h.h3, h.h4, h.h5, h.h6, h.h7, h.h8, h.h9, h.h10, h.h11, h.h12, h.d45, h.d46, h.d56, (fun e => ⟨upd_of (h.o13 e).1, upd_of (h.o13 e).2.1, upd_of (h.o13 e).2.2⟩), (fun e => ⟨upd_of (h.o14 e).1, upd_of (h.o14 e).2.1, upd_of (h.o14 e).2.2⟩), (fun e => ⟨upd_of (h.o15 e).1, upd_of (h.o15 e).2.1, upd_of (h.o15 e).2.2⟩)⟩
        · have hlt : 1 < listed.size := by rw [hsz]; decide
          have nme := getD_tf hi2
          have hd : listed.getD 0 false = true := by simpa [Region.binds] using hrd
          have e0 := hd
          clear hrd hi
          obtain rfl := h.h0 e0
          have nl : listed.getD 13 false = false := by cases hx : listed.getD 13 false with | false => rfl | true => exact absurd (h.o13 hx).1 (by rw [nme]; decide)
          refine wpOp_step (i := 1) rfl (fun K' hK => ?_)
          go_simp
          refine (HFX.out _ h.bel).mono ?_
          rintro e w' ⟨x, rfl, hr, hb⟩
          refine hK _ _ ⟨by simpa using hsz, x4, x5, x6, _, _, x20, x21, x22, x23, x24, x25, x26, x27, rfl, ?_⟩
          rw [getD_upd hlt]
          have h' := h.keep hb
          exact ⟨h'.bel, h'.h0, (fun _ => hr), h'.h2, h'.h3, h'.h4, h'.h5, h'.h6, h'.h7, h'.h8, h'.h9, (fun e => by obtain ⟨p, u, v, g1, g2, g3, g4⟩ := h'.h10 e; exact ⟨p, u, v, g1, g2, g3, fun e' => absurd (show listed.getD 13 false = true from e') (by rw [nl]; decide)⟩), h'.h11, h'.h12, h'.d45, h'.d46, h'.d56, (fun e => ⟨upd_of (h.o13 e).1, upd_of (h.o13 e).2.1, upd_of (h.o13 e).2.2⟩), (fun e => ⟨upd_of (h.o14 e).1, upd_of (h.o14 e).2.1, upd_of (h.o14 e).2.2⟩), (fun e => ⟨upd_of (h.o15 e).1, upd_of (h.o15 e).2.1, upd_of (h.o15 e).2.2⟩)⟩
        · have hlt : 2 < listed.size := by rw [hsz]; decide
          have nme := getD_tf hi2
          clear hrd hi
          refine wpOp_step (i := 2) rfl (fun K' hK => ?_)
          go_simp
          refine hK _ _ ⟨by simpa using hsz, x4, x5, x6, x18, x19, _, x21, x22, x23, x24, x25, x26, x27, rfl, ?_⟩
          rw [getD_upd hlt]
          exact ⟨h.bel, h.h0, h.h1, (fun _ => rfl), h.h3, h.h4, h.h5, h.h6, h.h7, h.h8, h.h9, h.h10, h.h11, h.h12, h.d45, h.d46, h.d56, (fun e => ⟨upd_of (h.o13 e).1, upd_of (h.o13 e).2.1, upd_of (h.o13 e).2.2⟩), (fun e => ⟨upd_of (h.o14 e).1, upd_of (h.o14 e).2.1, upd_of (h.o14 e).2.2⟩), (fun e => ⟨upd_of (h.o15 e).1, upd_of (h.o15 e).2.1, upd_of (h.o15 e).2.2⟩)⟩
        · have hlt : 3 < listed.size := by rw [hsz]; decide
          have nme := getD_tf hi2
          clear hrd hi
          refine wpOp_step (i := 3) rfl (fun K' hK => ?_)
          go_simp
          refine hK _ _ ⟨by simpa using hsz, x4, x5, x6, x18, x19, x20, _, x22, x23, x24, x25, x26, x27, rfl, ?_⟩
          rw [getD_upd hlt]
          exact ⟨h.bel, h.h0, h.h1, h.h2, (fun _ => rfl), h.h4, h.h5, h.h6, h.h7, h.h8, h.h9, h.h10, h.h11, h.h12, h.d45, h.d46, h.d56, (fun e => ⟨upd_of (h.o13 e).1, upd_of (h.o13 e).2.1, upd_of (h.o13 e).2.2⟩), (fun e => ⟨upd_of (h.o14 e).1, upd_of (h.o14 e).2.1, upd_of (h.o14 e).2.2⟩), (fun e => ⟨upd_of (h.o15 e).1, upd_of (h.o15 e).2.1, upd_of (h.o15 e).2.2⟩)⟩
        · have hlt : 4 < listed.size := by rw [hsz]; decide
          have nme := getD_tf hi2
          have hd : listed.getD 3 false = true := by simpa [Region.binds] using hrd
          have e3 := hd
          clear hrd hi
          obtain rfl := h.h3 e3
          refine wpOp_step (i := 4) rfl (fun K' hK => ?_)
          go_simp
          refine hK _ _ ⟨by simpa using hsz, x4, x5, x6, x18, x19, x20, _, _, x23, x24, x25, x26, x27, rfl, ?_⟩
          rw [getD_upd hlt]
          exact ⟨h.bel, h.h0, h.h1, h.h2, h.h3, (fun _ => rfl), h.h5, h.h6, h.h7, h.h8, h.h9, h.h10, h.h11, h.h12, h.d45, h.d46, h.d56, (fun e => ⟨upd_of (h.o13 e).1, upd_of (h.o13 e).2.1, upd_of (h.o13 e).2.2⟩), (fun e => ⟨upd_of (h.o14 e).1, upd_of (h.o14 e).2.1, upd_of (h.o14 e).2.2⟩), (fun e => ⟨upd_of (h.o15 e).1, upd_of (h.o15 e).2.1, upd_of (h.o15 e).2.2⟩)⟩
        · have hlt : 5 < listed.size := by rw [hsz]; decide
          have nme := getD_tf hi2
          have hd : listed.getD 4 false = true := by simpa [Region.binds] using hrd
          have e4 := hd
          clear hrd hi
          obtain rfl := h.h4 e4
          refine wpOp_step (i := 5) rfl (fun K' hK => ?_)
          go_simp
          refine hK _ _ ⟨by simpa using hsz, x4, x5, x6, x18, x19, x20, x21, _, _, x24, x25, x26, x27, rfl, ?_⟩
          rw [getD_upd hlt]
          exact ⟨h.bel, h.h0, h.h1, h.h2, h.h3, h.h4, (fun _ => rfl), h.h6, h.h7, h.h8, h.h9, h.h10, h.h11, h.h12, h.d45, h.d46, h.d56, (fun e => ⟨upd_of (h.o13 e).1, upd_of (h.o13 e).2.1, upd_of (h.o13 e).2.2⟩), (fun e => ⟨upd_of (h.o14 e).1, upd_of (h.o14 e).2.1, upd_of (h.o14 e).2.2⟩), (fun e => ⟨upd_of (h.o15 e).1, upd_of (h.o15 e).2.1, upd_of (h.o15 e).2.2⟩)⟩
        · have hlt : 6 < listed.size := by rw [hsz]; decide
          have nme := getD_tf hi2
          have hd : listed.getD 2 false = true ∧ listed.getD 5 false = true ∧ listed.getD 1 false = true := by simp [Region.binds] at hrd; simp [hrd]
          obtain ⟨e2, e5, e1⟩ := hd
          clear hrd hi
          obtain rfl := h.h2 e2
          obtain rfl := h.h5 e5
          have nl : listed.getD 14 false = false := by cases hx : listed.getD 14 false with | false => rfl | true => exact absurd (h.o14 hx).1 (by rw [nme]; decide)
          refine wpOp_step (i := 6) rfl (fun K' hK => ?_)
          go_simp
          refine (HCU.out _ h.bel).mono ?_
          rintro e w' ⟨x, rfl, hr, hb⟩
          refine hK _ _ ⟨by simpa using hsz, x4, x5, x6, x18, x19, _, x21, x22, _, _, x25, x26, x27, rfl, ?_⟩
          rw [getD_upd hlt]
          have h' := h.keep hb
          exact ⟨h'.bel, h'.h0, h'.h1, h'.h2, h'.h3, h'.h4, h'.h5, (fun _ => hr), h'.h7, h'.h8, h'.h9, h'.h10, (fun e => by obtain ⟨p, u, v, g1, g2, g3, g4⟩ := h'.h11 e; exact ⟨p, u, v, g1, g2, g3, fun e' => absurd (show listed.getD 14 false = true from e') (by rw [nl]; decide)⟩), h'.h12, h'.d45, h'.d46, h'.d56, (fun e => ⟨upd_of (h.o13 e).1, upd_of (h.o13 e).2.1, upd_of (h.o13 e).2.2⟩), (fun e => ⟨upd_of (h.o14 e).1, upd_of (h.o14 e).2.1, upd_of (h.o14 e).2.2⟩), (fun e => ⟨upd_of (h.o15 e).1, upd_of (h.o15 e).2.1, upd_of (h.o15 e).2.2⟩)⟩
        · have hlt : 7 < listed.size := by rw [hsz]; decide
          have nme := getD_tf hi2
          clear hrd hi
          refine wpOp_step (i := 7) rfl (fun K' hK => ?_)
          go_simp
          refine hK _ _ ⟨by simpa using hsz, x4, x5, x6, x18, x19, x20, x21, x22, x23, x24, _, x26, x27, rfl, ?_⟩
          rw [getD_upd hlt]
          exact ⟨h.bel, h.h0, h.h1, h.h2, h.h3, h.h4, h.h5, h.h6, (fun _ => rfl), h.h8, h.h9, h.h10, h.h11, h.h12, h.d45, h.d46, h.d56, (fun e => ⟨upd_of (h.o13 e).1, upd_of (h.o13 e).2.1, upd_of (h.o13 e).2.2⟩), (fun e => ⟨upd_of (h.o14 e).1, upd_of (h.o14 e).2.1, upd_of (h.o14 e).2.2⟩), (fun e => ⟨upd_of (h.o15 e).1, upd_of (h.o15 e).2.1, upd_of (h.o15 e).2.2⟩)⟩
        · have hlt : 8 < listed.size := by rw [hsz]; decide
          have nme := getD_tf hi2
          have hd : listed.getD 7 false = true := by simpa [Region.binds] using hrd
          have e7 := hd
          clear hrd hi
          obtain rfl := h.h7 e7
          refine wpOp_step (i := 8) rfl (fun K' hK => ?_)
          go_simp
          refine hK _ _ ⟨by simpa using hsz, x4, x5, x6, x18, x19, x20, x21, x22, x23, x24, _, _, x27, rfl, ?_⟩
          rw [getD_upd hlt]
          have h' := h.keep ((Below.refl _ _).alloc (Nat.le_refl _) (.cells #[.string s, .slice A3 m c3] 24))
          exact ⟨h'.bel, h'.h0, h'.h1, h'.h2, h'.h3, h'.h4, h'.h5, h'.h6, h'.h7, (fun _ _ => ⟨_, rfl, Whole.made _ _ _, h.bel.size⟩), h'.h9, h'.h10, h'.h11, h'.h12, h'.d45, h'.d46, h'.d56, (fun e => ⟨upd_of (h.o13 e).1, upd_of (h.o13 e).2.1, upd_of (h.o13 e).2.2⟩), (fun e => ⟨upd_of (h.o14 e).1, upd_of (h.o14 e).2.1, upd_of (h.o14 e).2.2⟩), (fun e => ⟨upd_of (h.o15 e).1, upd_of (h.o15 e).2.1, upd_of (h.o15 e).2.2⟩)⟩
        · have hlt : 9 < listed.size := by rw [hsz]; decide
          have nme := getD_tf hi2
          have hd : listed.getD 8 false = true ∧ listed.getD 6 false = true := by simp [Region.binds] at hrd; simp [hrd]
          obtain ⟨e8, e6⟩ := hd
          clear hrd hi
          obtain ⟨g, rfl, hg1, hg2⟩ := h.h8 e8 nme
          have nl : listed.getD 15 false = false := by cases hx : listed.getD 15 false with | false => rfl | true => exact absurd (h.o15 hx).1 (by rw [nme]; decide)
          refine wpOp_step (i := 9) rfl (fun K' hK => ?_)
          go_simp
          refine (HCA.out _ g h.bel hg1).mono ?_
          rintro e w' ⟨x, rfl, hr, hb⟩
          refine hK _ _ ⟨by simpa using hsz, x4, x5, x6, x18, x19, x20, x21, x22, x23, x24, x25, _, _, rfl, ?_⟩
          rw [getD_upd hlt]
          have h' := h.keep hb
          exact ⟨h'.bel, h'.h0, h'.h1, h'.h2, h'.h3, h'.h4, h'.h5, h'.h6, h'.h7, (fun _ e => absurd (show true = false from e) (by decide)), (fun _ => hr), h'.h10, h'.h11, (fun e => by obtain ⟨p, u, v, g1, g2, g3, g4⟩ := h'.h12 e; exact ⟨p, u, v, g1, g2, g3, fun e' => absurd (show listed.getD 15 false = true from e') (by rw [nl]; decide)⟩), h'.d45, h'.d46, h'.d56, (fun e => ⟨upd_of (h.o13 e).1, upd_of (h.o13 e).2.1, upd_of (h.o13 e).2.2⟩), (fun e => ⟨upd_of (h.o14 e).1, upd_of (h.o14 e).2.1, upd_of (h.o14 e).2.2⟩), (fun e => ⟨upd_of (h.o15 e).1, upd_of (h.o15 e).2.1, upd_of (h.o15 e).2.2⟩)⟩
        · have hlt : 10 < listed.size := by rw [hsz]; decide
          have nme := getD_tf hi2
          clear hrd hi
          have nl : listed.getD 13 false = false := by cases hx : listed.getD 13 false with | false => rfl | true => exact absurd (h.o13 hx).2.1 (by rw [nme]; decide)
          refine wpOp_step (i := 10) rfl (fun K' hK => ?_)
          go_simp
          refine hK _ _ ⟨by simpa using hsz, _, x5, x6, x18, x19, x20, x21, x22, x23, x24, x25, x26, x27, rfl, ?_⟩
          rw [getD_upd hlt]
          have h' := h.keep ((Below.refl _ _).alloc (Nat.le_refl _) (.cells #[.string ⟨#[]⟩, .slice none 0 0] 24))
          exact ⟨h'.bel, h'.h0, h'.h1, h'.h2, h'.h3, h'.h4, h'.h5, h'.h6, h'.h7, h'.h8, h'.h9, (fun _ => ⟨_, _, _, rfl, h.bel.size, Whole.made _ _ _, fun e' => absurd (show listed.getD 13 false = true from e') (by rw [nl]; decide)⟩), h'.h11, h'.h12, (fun _ e => (h.h11 e).old.symm), (fun _ e => (h.h12 e).old.symm), h'.d56, (fun e => ⟨upd_of (h.o13 e).1, upd_of (h.o13 e).2.1, upd_of (h.o13 e).2.2⟩), (fun e => ⟨upd_of (h.o14 e).1, upd_of (h.o14 e).2.1, upd_of (h.o14 e).2.2⟩), (fun e => ⟨upd_of (h.o15 e).1, upd_of (h.o15 e).2.1, upd_of (h.o15 e).2.2⟩)⟩
        · have hlt : 11 < listed.size := by rw [hsz]; decide
          have nme := getD_tf hi2
          clear hrd hi
          have nl : listed.getD 14 false = false := by cases hx : listed.getD 14 false with | false => rfl | true => exact absurd (h.o14 hx).2.1 (by rw [nme]; decide)
          refine wpOp_step (i := 11) rfl (fun K' hK => ?_)
          go_simp
          refine hK _ _ ⟨by simpa using hsz, x4, _, x6, x18, x19, x20, x21, x22, x23, x24, x25, x26, x27, rfl, ?_⟩
          rw [getD_upd hlt]
          have h' := h.keep ((Below.refl _ _).alloc (Nat.le_refl _) (.cells #[.string ⟨#[]⟩, .slice none 0 0] 24))
          exact ⟨h'.bel, h'.h0, h'.h1, h'.h2, h'.h3, h'.h4, h'.h5, h'.h6, h'.h7, h'.h8, h'.h9, h'.h10, (fun _ => ⟨_, _, _, rfl, h.bel.size, Whole.made _ _ _, fun e' => absurd (show listed.getD 14 false = true from e') (by rw [nl]; decide)⟩), h'.h12, (fun e _ => (h.h10 e).old), h'.d46, (fun _ e => (h.h12 e).old.symm), (fun e => ⟨upd_of (h.o13 e).1, upd_of (h.o13 e).2.1, upd_of (h.o13 e).2.2⟩), (fun e => ⟨upd_of (h.o14 e).1, upd_of (h.o14 e).2.1, upd_of (h.o14 e).2.2⟩), (fun e => ⟨upd_of (h.o15 e).1, upd_of (h.o15 e).2.1, upd_of (h.o15 e).2.2⟩)⟩
        · have hlt : 12 < listed.size := by rw [hsz]; decide
          have nme := getD_tf hi2
          clear hrd hi
          have nl : listed.getD 15 false = false := by cases hx : listed.getD 15 false with | false => rfl | true => exact absurd (h.o15 hx).2.1 (by rw [nme]; decide)
          refine wpOp_step (i := 12) rfl (fun K' hK => ?_)
          go_simp
          refine hK _ _ ⟨by simpa using hsz, x4, x5, _, x18, x19, x20, x21, x22, x23, x24, x25, x26, x27, rfl, ?_⟩
          rw [getD_upd hlt]
          have h' := h.keep ((Below.refl _ _).alloc (Nat.le_refl _) (.cells #[.string ⟨#[]⟩, .slice none 0 0] 24))
          exact ⟨h'.bel, h'.h0, h'.h1, h'.h2, h'.h3, h'.h4, h'.h5, h'.h6, h'.h7, h'.h8, h'.h9, h'.h10, h'.h11, (fun _ => ⟨_, _, _, rfl, h.bel.size, Whole.made _ _ _, fun e' => absurd (show listed.getD 15 false = true from e') (by rw [nl]; decide)⟩), h'.d45, (fun e _ => (h.h10 e).old), (fun e _ => (h.h11 e).old), (fun e => ⟨upd_of (h.o13 e).1, upd_of (h.o13 e).2.1, upd_of (h.o13 e).2.2⟩), (fun e => ⟨upd_of (h.o14 e).1, upd_of (h.o14 e).2.1, upd_of (h.o14 e).2.2⟩), (fun e => ⟨upd_of (h.o15 e).1, upd_of (h.o15 e).2.1, upd_of (h.o15 e).2.2⟩)⟩
        · have hlt : 13 < listed.size := by rw [hsz]; decide
          have nme := getD_tf hi2
          have hd : listed.getD 10 false = true ∧ listed.getD 1 false = true ∧ listed.getD 9 false = true := by simp [Region.binds] at hrd; simp [hrd]
          obtain ⟨e10, e1, e9⟩ := hd
          clear hrd hi
          obtain ⟨p, u, v, hx, hp1, hp2, _⟩ := h.h10 e10
          obtain ⟨A', c', hy, hyo⟩ := h.h1 e1
          subst hx
          subst hy
          have k0 : w'.cell? ⟨p, 0, none⟩ = some u := hp2.at_ 0
          have k1 : w'.cell? ⟨p, 1, none⟩ = some v := hp2.at_ 1
          have k2 := hp2.free 0
          have k3 := hp2.free 1
          have E9 : listed.getD 9 false = true := e9
          refine wpOp_step (i := 13) rfl (fun K' hK => ?_)
          go_simp
          refine hK _ _ ⟨by simpa using hsz, _, x5, x6, x18, _, x20, x21, x22, x23, x24, x25, x26, x27, rfl, ?_⟩
          rw [getD_upd hlt]
          exact ⟨(below_set2 h.bel hp1), h.h0, (fun e => (h.h1 e).put hp2), h.h2, h.h3, h.h4, h.h5, (fun e => (h.h6 e).put hp2), h.h7, (fun _ e => absurd (show listed.getD 9 false = false from e) (by rw [E9]; decide)), (fun e => (h.h9 e).put hp2), (fun _ => ⟨p, _, _, rfl, hp1, (hp2.put 0 _).put 1 _, fun _ => rfl⟩), (fun e => (h.h11 e).put (fun hh => h.d45 e10 e hh.symm)), (fun e => (h.h12 e).put (fun hh => h.d46 e10 e hh.symm)), h.d45, h.d46, h.d56, (fun _ => ⟨upd_of e1, upd_of e10, upd_of e9⟩), (fun e => ⟨upd_of (h.o14 e).1, upd_of (h.o14 e).2.1, upd_of (h.o14 e).2.2⟩), (fun e => ⟨upd_of (h.o15 e).1, upd_of (h.o15 e).2.1, upd_of (h.o15 e).2.2⟩)⟩
        · have hlt : 14 < listed.size := by rw [hsz]; decide
          have nme := getD_tf hi2
          have hd : listed.getD 11 false = true ∧ listed.getD 6 false = true ∧ listed.getD 13 false = true ∧ listed.getD 10 false = true ∧ listed.getD 1 false = true := by simp [Region.binds] at hrd; simp [hrd]
          obtain ⟨e11, e6, e13, e10, e1⟩ := hd
          clear hrd hi
          obtain ⟨p, u, v, hx, hp1, hp2, _⟩ := h.h11 e11
          obtain ⟨A', c', hy, hyo⟩ := h.h6 e6
          subst hx
          subst hy
          have k0 : w'.cell? ⟨p, 0, none⟩ = some u := hp2.at_ 0
          have k1 : w'.cell? ⟨p, 1, none⟩ = some v := hp2.at_ 1
          have k2 := hp2.free 0
          have k3 := hp2.free 1
          have E9 : listed.getD 9 false = true := (h.o13 e13).2.2
          refine wpOp_step (i := 14) rfl (fun K' hK => ?_)
          go_simp
          refine hK _ _ ⟨by simpa using hsz, x4, _, x6, x18, x19, x20, x21, x22, x23, _, x25, x26, x27, rfl, ?_⟩
          rw [getD_upd hlt]
          exact ⟨(below_set2 h.bel hp1), h.h0, (fun e => (h.h1 e).put hp2), h.h2, h.h3, h.h4, h.h5, (fun e => (h.h6 e).put hp2), h.h7, (fun _ e => absurd (show listed.getD 9 false = false from e) (by rw [E9]; decide)), (fun e => (h.h9 e).put hp2), (fun e => (h.h10 e).put (h.d45 e e11)), (fun _ => ⟨p, _, _, rfl, hp1, (hp2.put 0 _).put 1 _, fun _ => rfl⟩), (fun e => (h.h12 e).put (fun hh => h.d56 e11 e hh.symm)), h.d45, h.d46, h.d56, (fun e => ⟨upd_of (h.o13 e).1, upd_of (h.o13 e).2.1, upd_of (h.o13 e).2.2⟩), (fun _ => ⟨upd_of e6, upd_of e11, upd_of e13⟩), (fun e => ⟨upd_of (h.o15 e).1, upd_of (h.o15 e).2.1, upd_of (h.o15 e).2.2⟩)⟩
        · have hlt : 15 < listed.size := by rw [hsz]; decide
          have nme := getD_tf hi2
          have hd : listed.getD 12 false = true ∧ listed.getD 9 false = true ∧ listed.getD 14 false = true ∧ listed.getD 11 false = true ∧ listed.getD 6 false = true := by simp [Region.binds] at hrd; simp [hrd]
          obtain ⟨e12, e9, e14, e11, e6⟩ := hd
          clear hrd hi
          obtain ⟨p, u, v, hx, hp1, hp2, _⟩ := h.h12 e12
          obtain ⟨A', c', hy, hyo⟩ := h.h9 e9
          subst hx
          subst hy
          have k0 : w'.cell? ⟨p, 0, none⟩ = some u := hp2.at_ 0
          have k1 : w'.cell? ⟨p, 1, none⟩ = some v := hp2.at_ 1
          have k2 := hp2.free 0
          have k3 := hp2.free 1
          have E9 : listed.getD 9 false = true := e9
          refine wpOp_step (i := 15) rfl (fun K' hK => ?_)
          go_simp
          refine hK _ _ ⟨by simpa using hsz, x4, x5, _, x18, x19, x20, x21, x22, x23, x24, x25, x26, _, rfl, ?_⟩
          rw [getD_upd hlt]
          exact ⟨(below_set2 h.bel hp1), h.h0, (fun e => (h.h1 e).put hp2), h.h2, h.h3, h.h4, h.h5, (fun e => (h.h6 e).put hp2), h.h7, (fun _ e => absurd (show listed.getD 9 false = false from e) (by rw [E9]; decide)), (fun e => (h.h9 e).put hp2), (fun e => (h.h10 e).put (h.d46 e e12)), (fun e => (h.h11 e).put (h.d56 e e12)), (fun _ => ⟨p, _, _, rfl, hp1, (hp2.put 0 _).put 1 _, fun _ => rfl⟩), h.d45, h.d46, h.d56, (fun e => ⟨upd_of (h.o13 e).1, upd_of (h.o13 e).2.1, upd_of (h.o13 e).2.2⟩), (fun e => ⟨upd_of (h.o14 e).1, upd_of (h.o14 e).2.1, upd_of (h.o14 e).2.2⟩), (fun _ => ⟨upd_of e9, upd_of e12, upd_of e14⟩)⟩
      · exact ⟨Below.drew (Below.refl _ _), (fun e => absurd e (by decide)), (fun e => absurd e (by decide)), (fun e => absurd e (by decide)), (fun e => absurd e (by decide)), (fun e => absurd e (by decide)), (fun e => absurd e (by decide)), (fun e => absurd e (by decide)), (fun e => absurd e (by decide)), (fun e => absurd e (by decide)), (fun e => absurd e (by decide)), (fun e => absurd e (by decide)), (fun e => absurd e (by decide)), (fun e => absurd e (by decide)), (fun e => absurd e (by decide)), (fun e => absurd e (by decide)), (fun e => absurd e (by decide)), (fun e => absurd e (by decide)), (fun e => absurd e (by decide)), (fun e => absurd e (by decide))⟩
    case rest =>
      obtain ⟨hbd, ⟨ya, ⟨Aa, ca, rfl, hoa⟩, ⟨pa, ua, va, rfl, hpa, hWa, hya⟩⟩, ⟨yb, ⟨Ab, cb, rfl, hob⟩, ⟨pb, ub, vb, rfl, hpb, hWb, hyb⟩⟩, ⟨yc, ⟨Ac, cc, rfl, hoc⟩, ⟨pc, uc, vc, rfl, hpc, hWc, hyc⟩⟩⟩ := hcut
      have ea := hya rfl
      have eb := hyb rfl
      have ec := hyc rfl
      simp only [Value.agg.injEq] at ea eb ec
      have ea' := congrArg Array.toList ea
      have eb' := congrArg Array.toList eb
      have ec' := congrArg Array.toList ec
      simp only [List.cons.injEq, and_true] at ea' eb' ec'
      obtain ⟨rfl, rfl⟩ := ea'
      obtain ⟨rfl, rfl⟩ := eb'
      obtain ⟨rfl, rfl⟩ := ec'
      clear hya hyb hyc ea eb ec
      have hWq2 := hWq.below hbd hWq.lt
      have ho3 := own_keep HO3.out hbd
      have hy0 : Whole wc w.heap.size 24 #[.string s, .slice A m c] := (y0.below hb3 y0.lt).below hbd (Nat.lt_of_lt_of_le y0.lt hb3.size)
      have hb1c : Below w1.heap.size w1 wc := hb3.trans (hbd.mono hb3.size)
      have hlc : Lies wc w1.heap.size A (runCells rs) := hl1.below hb1c
      have hm3 : Moved (fun b => (Value.slice A3 m c3).ownBlock = some b) wc wc := Moved.refl _ _
      have nq : ¬ (Value.slice A3 m c3).ownBlock = some q := fun e => by obtain ⟨cur, hc⟩ := own_kind ho3 e; exact kind_ne hc hWq2 (by decide) rfl
      have na : ¬ (Value.slice A3 m c3).ownBlock = some pa := fun e => by obtain ⟨cur, hc⟩ := own_kind ho3 e; exact kind_ne hc hWa (by decide) rfl
      have nb : ¬ (Value.slice A3 m c3).ownBlock = some pb := fun e => by obtain ⟨cur, hc⟩ := own_kind ho3 e; exact kind_ne hc hWb (by decide) rfl
      have nc : ¬ (Value.slice A3 m c3).ownBlock = some pc := fun e => by obtain ⟨cur, hc⟩ := own_kind ho3 e; exact kind_ne hc hWc (by decide) rfl
      have nr : ∀ g, (Value.slice A3 m c3).ownBlock = some g → w1.heap.size ≤ g ∧ g < wd.heap.size := fun g e => ⟨(HO3.out.lt g e).1, (HO3.out.lt g e).2⟩
      have NQ := Lib.hid nq
      have NA := Lib.hid na
      have NB := Lib.hid nb
      have NC := Lib.hid nc
      have NR := Lib.hid nr
      have HOA := Lib.hid hoa
      have HOB := Lib.hid hob
      have HOC := Lib.hid hoc
      have HO4 := Lib.hid ho3
      clear nq na nb nc nr hoa hob hoc ho3 hm3
      have hw1c : w1.heap.size ≤ wc.heap.size := hb1c.size
      have hwdc := hbd.size
      have hwlt := y0.lt
      go_wp2_with fail
      go_loopw [7] (OwnLoop rs m A3 c3 w1 wc) (fun i _ => m - (intOf i).toNat)
      case atStart => exact ⟨0, Nat.zero_le _, rfl, by simpa [sevens] using HO4.out, Moved.refl _ _⟩
      case round =>
        obtain ⟨k, hk, rfl, hown, hmv⟩ := hrel
        have g0 := hmv.whole hWq2 NQ.out
        have bl : Below w1.heap.size wc wr := hmv.below hw1c (fun x hx e => by have := (NR.out x e).1; omega)
        have hx := hy0.below bl (by omega)
        have hq1 : wr.cell? ⟨q, 1, none⟩ = some (.slice A3 m c3) := g0.at_ 1
        have hx0 : wr.cell? ⟨w.heap.size, 0, none⟩ = some (.string s) := hx.at_ 0
        have hx1 : wr.cell? ⟨w.heap.size, 1, none⟩ = some (.slice A m c) := hx.at_ 1
        by_cases hlt : k < m
        · have hsl : (sevens rs k).length = m := by unfold sevens; rw [List.length_append, List.length_replicate, List.length_drop, HM.out]; omega
          obtain ⟨ad, l, o, rfl, hb, hc1, hc2, HR⟩ := (Lies.own hown).run (k := k) (by rw [hsl]; exact hlt)
          obtain ⟨ad2, l2, o2, rfl, hb2, hc3, hc4, HR2⟩ := (hlc.below bl).run (k := k) (by rw [HM.out]; exact hlt)
          have heq : (l, o) = (l2, o2) := by
            have h1 := HR.out
            rw [sevens_at rs k, HR2.out] at h1
            injection h1 with h1
            exact h1.symm
          injection heq with heq1 heq2
          subst heq1
          subst heq2
          obtain ⟨g, had, hgW⟩ := row_block hown
          have fz1 : wr.frozen? (ad.add (k * 2)) = false := by rw [add_of had]; exact own_free hown had _
          have fz2 : wr.frozen? ⟨(ad.add (k * 2)).block, (ad.add (k * 2)).off + 1, none⟩ = false := by rw [add_of had]; exact own_free hown had _
          have HAD := Lib.hid had
          have HOW := Lib.hid hown
          have HMV := Lib.hid hmv
          have hk0 : (0 : Int) ≤ (k : Int) := Int.natCast_nonneg _
          have hk1 : (k : Int) < (m : Int) := by omega
          clear hown hmv hsl had hgW
          go_wp2_with fail
          go_quiet (fail)
          have hst : ((wr.drewN nq).setCell (ad.add (k * 2)) (.int .i64 7)).cell? ⟨(ad.add (k * 2)).block, (ad.add (k * 2)).off + 1, none⟩ = some (.int .i64 o) := (World.cell?_setCell_other _ _ _ _ (fun e => by have := congrArg Addr.off e; simp at this)).trans hc2
          go_wp2_with fail
          go_roundw
          case rel =>
            refine ⟨k + 1, by omega, by go_num, own_seven (own_same HOW.out (fun _ _ => rfl)) HAD.out (by rw [HM.out]; exact hlt), ?_⟩
            have hS : (Value.slice (some ad) m c3).ownBlock = some (ad.add (k * 2)).block := by rw [addr_block]; rfl
            exact Moved.setCell (p := ⟨(ad.add (k * 2)).block, (ad.add (k * 2)).off + 1, none⟩) (Moved.setCell (p := ad.add (k * 2)) (w := wr.drewN nq) ⟨HMV.out.os, HMV.out.tape, HMV.out.output, HMV.out.size, HMV.out.block⟩ hS _) hS _
          case measure => simp [intOf]; omega
        · have hbr : Below w.heap.size w wr := hbw.trans ((hb1c.trans bl).mono (by omega))
          have GA := hmv.whole hWa NA.out
          have GB := hmv.whole hWb NB.out
          have GC := hmv.whole hWc NC.out
          have RA := hmv.own HOA.out (fun g e e2 => by have h1 := (HOA.out.lt g e).1; have h2 := (NR.out g e2).2; omega)
          have RB := hmv.own HOB.out (fun g e e2 => by have h1 := (HOB.out.lt g e).1; have h2 := (NR.out g e2).2; omega)
          have RC := hmv.own HOC.out (fun g e e2 => by have h1 := (HOC.out.lt g e).1; have h2 := (NR.out g e2).2; omega)
          have hLr : Lies wr wr.heap.size A (runCells rs) := (hlc.below bl).mono (by have := bl.size; omega)
          have hql : qs.length ≤ s.size := by rw [← HQS.out]; have := comp_length_le (origins s.size rs); rw [origins_length] at this; exact this
          have hlen : (chars s.data.toList rs).length = s.size := by rw [chars_length, Array.length_toList]; rfl
          have HLN := Lib.hid hlen
          have HIS : Hid (isB s.data.toList qs (chars s.data.toList rs) = true) := by
            show _ = _
            unfold isB
            rw [decide_eq_true_iff, chars_fst, chars_snd, Array.length_toList]
            exact ⟨rfl, HQS.out.symm⟩
          clear hlen hown hmv
          generalize hLL : chars s.data.toList rs = L at *
          have HLL := Lib.hid hLL
          clear hLL
          generalize hz : qs.length = z at *
          have HQN := Lib.hid hz
          clear hz
          have LA := Lib.hid (Lies.own RA)
          have LB := Lib.hid (Lies.own RB)
          have LC := Lib.hid (Lies.own RC)
          have HBR := Lib.hid hbr
          clear RA RB RC HOA HOB HOC HO4
          go_wp2_with fail
          refine (refOf_any s A m c rs _ hLr HM.out (by omega) (by omega)).mono ?_
          rw [HLL.out]
          rintro e w5 ⟨v5, rfl, ho5, hb5⟩
          obtain ⟨A5, c5, rfl, _, _, _⟩ := own_form ho5
          have L5 := Lib.hid (Lies.own ho5)
          have ga := GA.below hb5 GA.lt
          have x0 : w5.cell? ⟨pa, 0, none⟩ = some (.string s) := ga.at_ 0
          have x1 : w5.cell? ⟨pa, 1, none⟩ = some (.slice Aa z ca) := ga.at_ 1
          clear ho5
          go_wp2_with fail
          refine (refIs_any s Aa z ca qs A5 s.size c5 L _ (LA.out.next hb5 (Nat.le_refl _)) HQN.out (by omega) L5.out HLN.out (by omega)).mono ?_
          rw [HIS.out]
          rintro e w6 ⟨rfl, hb6⟩
          have b6 := below_next hb5 (Nat.le_refl _) hb6
          have gb := GB.below b6 GB.lt
          have z0 : w6.cell? ⟨pb, 0, none⟩ = some (.string s) := gb.at_ 0
          have z1 : w6.cell? ⟨pb, 1, none⟩ = some (.slice Ab z cb) := gb.at_ 1
          go_wp2_with fail
          refine (refIs_any s Ab z cb qs A5 s.size c5 L _ (LB.out.next b6 (Nat.le_refl _)) HQN.out (by omega) (L5.out.next hb6 (Nat.le_refl _)) HLN.out (by omega)).mono ?_
          rw [HIS.out]
          rintro e w7 ⟨rfl, hb7⟩
          have b7 := below_next b6 (Nat.le_refl _) hb7
          have gc := GC.below b7 GC.lt
          have v0 : w7.cell? ⟨pc, 0, none⟩ = some (.string s) := gc.at_ 0
          have v1 : w7.cell? ⟨pc, 1, none⟩ = some (.slice Ac z cc) := gc.at_ 1
          go_wp2_with fail
          refine (refIs_any s Ac z cc qs A5 s.size c5 L _ (LC.out.next b7 (Nat.le_refl _)) HQN.out (by omega) ((L5.out.next hb6 (Nat.le_refl _)).next hb7 (Nat.le_refl _)) HLN.out (by omega)).mono ?_
          rw [HIS.out]
          rintro e w8 ⟨rfl, hb8⟩
          go_wp2_with fail
          go_ret
          exact ⟨rfl, below_next (below_next HBR.out (Nat.le_refl _) b7) (Nat.le_refl _) hb8⟩

end Go.Proofs.Ytkapkoehmofpcaa.mk
