/-
  The contract of the reference's Cat; appending whatever slice to a row of the call's own.
-/
import Derived.Test.YtfmjnmijhbnnjaaJoinO
import Derived.Laws.AppendOwnNone
namespace Go.Proofs.Ytfmjnmijhbnnjaa.mk
open Go.RowKit

/-- append of a slice, nil or not, onto a row of the call's own -/
theorem wpList_append_src {P : Program} (w : World) {ops : Array Oper} {rest : List Oper} {o : Oper} {a : Act} {Q : Exit → Act → World → Prop} (hgd : o.guard = none) (s x : Operand) (t : TypeId)
    (ho : o.op = .call { callee := .builtin .append, args := #[s, x], argTypes := #[t, t] })
    (base : Nat) (e : TypeId) (i : TypeInfo) (z : Value) (size bytes : Nat) (ht : P.underlying t = some (.slice e)) (hi : P.info? e = some i) (hz : i.zero = some z)
    (hsize : i.size = size) (hby : i.bytes = bytes) (hzs : z.cells.size = size) (hsz : 0 < size)
    (v : Value) (n : Nat) (xs : List Value) (hs : a.eval s = v) (hown : w.ownsRow base e size v n xs)
    (B : Nat) (A : Option Addr) (m c : Nat) (news : List Value) (hx : a.eval x = .slice A m c) (hA : A = none → c = 0) (hl : news.length = m * size) (hr : Lies w B A news) (h1 : ∀ u ∈ news, u.oneCell' = true)
    (h63 : n + m ≤ maxLen) (hbytes : (n + m) * bytes ≤ 140737488355328) (hbase : base ≤ w.heap.size)
    (h : ∀ v' w', w'.ownsRow base e size v' (n + m) (xs ++ news) → w.grownBy w' v.ownBlock → (v'.ownBlock = v.ownBlock ∨ v'.ownBlock = some w.heap.size) → wpList P ops Q rest (a.put o.dst v') w') : wpList P ops Q (o :: rest) a w := by
  rcases A with _ | ad
  · have hn : news = [] := by
      rcases news with _ | ⟨u, r⟩
      · rfl
      · obtain ⟨ad, e, _⟩ := hr 0 u rfl
        cases e
    subst hn
    have hm : m = 0 := by
      have := hl
      simp only [List.length_nil] at this
      rcases Nat.eq_zero_or_pos m with h0 | h0
      · exact h0
      · have := Nat.mul_pos h0 hsz; omega
    subst hm
    obtain rfl := hA rfl
    refine wpList_append_own_none hgd s x t ho base e i size ht hi v n xs hs hown hx ?_
    exact h v w (by simpa using hown) (World.grownBy.refl _ _) (.inl rfl)
  · refine wpList_append_own_at w hgd s x t ho base e i z size bytes ht hi hz hsize hby hzs hsz v n xs hs hown ad m c news hx hl (fun j u hu => ?_) h1 h63 hbytes hbase (fun v' w' h2 h3 _ h5 => h v' w' h2 h3 h5)
    obtain ⟨ad', e, _, hc⟩ := hr j u hu
    injection e with e
    subst e
    exact hc

set_option maxHeartbeats 1000000 in
set_option maxRecDepth 100000 in
theorem refCat_any (A B : Option Addr) (n m c d : Nat) (k l : List (UInt8 × Int)) (w : World) (ha : Lies w w.heap.size A (chCells k)) (hb : Lies w w.heap.size B (chCells l)) (hA : A = none → c = 0) (hB : B = none → d = 0)
    (hn : k.length = n) (hm : l.length = m) (hn2 : n ≤ 4294967296) (hm2 : m ≤ 4294967296) :
    Calls Try.prog 9 #[.slice A n c, .slice B m d] w fun e w' => ∃ v, e = .returned v ∧ w'.ownsRow w.heap.size 33 2 v (n + m) (chCells (k ++ l)) ∧ Below w.heap.size w w' := by
  obtain ⟨i0, hi, hz0, hz1, hz2⟩ := info_parts ch_info
  have HN := Lib.hid hn
  have HM := Lib.hid hm
  have HA := Lib.hid hA
  have HB := Lib.hid hB
  have ha1 := Lib.hid (ha.alloc (Nat.le_refl _) (.cells #[] 33))
  have h00 := Lib.hid (World.ownsRow_lit (base := w.heap.size) (e := 33) (size := 2) w #[] 0 (Nat.le_refl _) (by simp) rfl)
  clear hn hm hA hB ha
  go_enter Try.func9, Try.ntmps9
  go_wp2_with (at_builtin; refine wpList_append_src _ rfl (.tmp 6) (.tmp 7) 26 rfl w.heap.size 33 i0 _ 2 16 Try.underlying26 hi hz0 hz1 hz2 rfl (by decide) (.slice (some ⟨w.heap.size, 0, none⟩) 0 0) 0 [] rfl h00.out w.heap.size A n c (chCells k) rfl HA.out (by rw [chCells_length, HN.out]) ha1.out (chCells_one' k) (by simp only [maxLen]; omega) (by omega) (by simp) ?_)
  intro v1 w1 hown1 hg1 hat1
  have hb1 : Below w.heap.size w w1 := ((Below.refl _ _).alloc (Nat.le_refl _) _).grown hg1 (by simp) (by simp [Value.ownBlock])
  have hz := hb1.size
  have hbl := Lib.hid (hb.below hb1)
  clear hb hg1 hat1
  go_wp2_with (at_builtin; refine wpList_append_src _ rfl (.tmp 9) (.tmp 10) 26 rfl w.heap.size 33 i0 _ 2 16 Try.underlying26 hi hz0 hz1 hz2 rfl (by decide) v1 n (chCells k) rfl hown1 w.heap.size B m d (chCells l) rfl HB.out (by rw [chCells_length, HM.out]) hbl.out (chCells_one' l) (by simp only [maxLen]; omega) (by omega) (by omega) ?_)
  intro v2 w2 hown2 hg2 hat2
  go_wp2
  go_ret
  refine ⟨v2, rfl, ?_, hb1.grown hg2 (by omega) (fun x hx => (hown1.lt x hx).1)⟩
  rw [chCells_append]
  simpa using hown2

end Go.Proofs.Ytfmjnmijhbnnjaa.mk
