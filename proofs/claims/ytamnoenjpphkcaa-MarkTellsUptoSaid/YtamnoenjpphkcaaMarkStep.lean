/-
  Appending whatever slice to a row of the call's own, at a step of a region that draws its order; rising lists that grow by one.
-/
import Derived.Test.YtamnoenjpphkcaaMarkOrigins
import Derived.Test.YtamnoenjpphkcaaMarkCutsWalk
import Derived.Test.YtamnoenjpphkcaaMarkCheck
import Derived.Test.YtamnoenjpphkcaaMarkAt
namespace Go.Proofs.Ytamnoenjpphkcaa.mk
open Go.RowKit

theorem step_append_src {P : Program} (w : World) {ops : Array Oper} {o : Oper} {a : Act} {K : Act → World → Prop} {Q : Exit → Act → World → Prop} {E : Prop} (hgd : o.guard = none) (s x : Operand) (t : TypeId)
    (ho : o.op = .call { callee := .builtin .append, args := #[s, x], argTypes := #[t, t] })
    (base : Nat) (e : TypeId) (i : TypeInfo) (z : Value) (size bytes : Nat) (ht : P.underlying t = some (.slice e)) (hi : P.info? e = some i) (hz : i.zero = some z)
    (hsize : i.size = size) (hby : i.bytes = bytes) (hzs : z.cells.size = size) (hsz : 0 < size)
    (v : Value) (n : Nat) (xs : List Value) (hs : a.eval s = v) (hown : w.ownsRow base e size v n xs)
    (B : Nat) (A : Option Addr) (m c : Nat) (news : List Value) (hx : a.eval x = .slice A m c) (hA : A = none → c = 0) (hl : news.length = m * size) (hr : Lies w B A news) (h1 : ∀ u ∈ news, u.oneCell' = true)
    (h63 : n + m ≤ maxLen) (hbytes : (n + m) * bytes ≤ 140737488355328) (hbase : base ≤ w.heap.size)
    (h : ∀ v' w', w'.ownsRow base e size v' (n + m) (xs ++ news) → w.grownBy w' v.ownBlock → (v'.ownBlock = v.ownBlock ∨ v'.ownBlock = some w.heap.size) → K (a.put o.dst v') w') :
    if Region.wanted o (yielded ops a.tmps) = true then Oper.wp P o a w K Q else E := by
  have hw : Region.wanted o (yielded ops a.tmps) = true := by simp [Region.wanted, hgd]
  rw [if_pos hw]
  rcases A with _ | ad
  · have hn : news = [] := by
      rcases news with _ | ⟨u, r⟩
      · rfl
      · obtain ⟨ad, e, _⟩ := hr 0 u rfl
        cases e
    subst hn
    have hm : m = 0 := by
      have := hl
      simp only [List.length_nil] at this
      rcases Nat.eq_zero_or_pos m with h0 | h0
      · exact h0
      · have := Nat.mul_pos h0 hsz; omega
    subst hm
    obtain rfl := hA rfl
    have hrun := run_append_owned_none (P := P) (w := w) base t o.type e i size ht hi v n xs hown
    unfold Oper.wp
    simp [execOp, ho, resolve, invoke, builtin, hs, hx, hrun, Result.andThen]
    exact h v w (by simpa using hown) (World.grownBy.refl _ _) (.inl rfl)
  · obtain ⟨v', w', hr, h2, h3, h4, h5⟩ := run_append_own_at (P := P) w base t o.type e i z size bytes ht hi hz hsize hby hzs hsz v n xs hown ad m c news hl (fun j u hu => by
      obtain ⟨ad', e, _, hc⟩ := hr j u hu
      injection e with e
      subst e
      exact hc) h1 h63 hbytes hbase
    unfold Oper.wp execOp
    simp only [ho, resolve, invoke, builtin, Sem.run_bind, Sem.run_pure, Result.andThen_ok, List.map_toArray, List.map_cons, List.map_nil, hs, hx, hr]
    exact h v' w' h2 h3 h5

/-- a new row of no elements -/
theorem lit_own {W : World} {g base : Nat} {t : TypeId} (h : Whole W g t #[]) (hb : base ≤ g) : W.ownsRow base t 1 (.slice (some ⟨g, 0, none⟩) 0 0) 0 [] :=
  ⟨rfl, .inr ⟨g, 0, #[], rfl, hb, h, Nat.le_refl _, by simp, rfl, rfl⟩⟩

theorem rise_ins {os : List Int} {p : Int} {m : Nat} (h : os.Pairwise (· < ·)) (h1 : ∀ x ∈ os.take m, x < p) (h2 : ∀ x, os[m]? = some x → p < x) : (os.take m ++ [p] ++ os.drop m).Pairwise (· < ·) := by
  rw [List.append_assoc, List.singleton_append, List.pairwise_append]
  have hd : ∀ x ∈ os.drop m, p < x := by
    intro x hx
    cases hh : os.drop m with
    | nil => rw [hh] at hx; simp at hx
    | cons y r =>
      have hy : os[m]? = some y := by
        have : (os.drop m)[0]? = some y := by rw [hh]; rfl
        rwa [List.getElem?_drop, Nat.add_zero] at this
      have hpw : (os.drop m).Pairwise (· < ·) := List.Pairwise.sublist (List.drop_sublist _ _) h
      rw [hh, List.pairwise_cons] at hpw
      rw [hh] at hx
      have := h2 y hy
      rcases List.mem_cons.1 hx with rfl | hx
      · exact this
      · have := hpw.1 x hx; omega
  refine ⟨List.Pairwise.sublist (List.take_sublist _ _) h, ?_, ?_⟩
  · rw [List.pairwise_cons]
    exact ⟨hd, List.Pairwise.sublist (List.drop_sublist _ _) h⟩
  · intro a ha b hb
    have := h1 a ha
    rcases List.mem_cons.1 hb with rfl | hb
    · exact this
    · have := hd b hb; omega
theorem mem_ins {os ts : List Int} {p : Int} {m : Nat} (h : ∀ x, x ∈ os ↔ x ∈ ts) (x : Int) : x ∈ os.take m ++ [p] ++ os.drop m ↔ x ∈ ts ++ [p] := by
  have e : x ∈ os ↔ x ∈ os.take m ∨ x ∈ os.drop m := by
    rw [← List.mem_append, List.take_append_drop]
  simp only [List.mem_append, ← h, e]
  constructor
  · rintro ((h | h) | h)
    · exact .inl (.inl h)
    · exact .inr h
    · exact .inl (.inr h)
  · rintro ((h | h) | h)
    · exact .inl (.inl h)
    · exact .inr h
    · exact .inl (.inr h)
theorem mem_keep {os ts : List Int} {p : Int} (h : ∀ x, x ∈ os ↔ x ∈ ts) (hp : p ∈ os) (x : Int) : x ∈ os ↔ x ∈ ts ++ [p] := by
  rw [List.mem_append, ← h]
  constructor
  · exact .inl
  · rintro (h | h)
    · exact h
    · rw [List.mem_singleton.1 h]; exact hp
theorem take_lt {os : List Int} {p y : Int} {m : Nat} (h : ∀ x ∈ os.take m, x < p) (hy : os[m]? = some y) (hlt : y < p) : ∀ x ∈ os.take (m + 1), x < p := by
  intro x hx
  rw [take_next hy, List.mem_append] at hx
  rcases hx with hx | hx
  · exact h x hx
  · rw [List.mem_singleton.1 hx]; exact hlt

end Go.Proofs.Ytamnoenjpphkcaa.mk
