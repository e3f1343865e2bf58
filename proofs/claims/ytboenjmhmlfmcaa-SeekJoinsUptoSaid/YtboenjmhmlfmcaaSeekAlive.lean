/-
  The contract of the statements' own test of seek: the page's example.
-/
import Derived.Test.YtboenjmhmlfmcaaSeekParts
namespace Go.Proofs.Ytboenjmhmlfmcaa.mk
open Go.RowKit

theorem cutAll_map {α β : Type} (g : α → β) (p : β → Bool) (l : List α) : cutAll p (l.map g) = ((cutAll (fun x => p (g x)) l).1.map (List.map g), (cutAll (fun x => p (g x)) l).2.map g) := by
  induction l using snocInd with
  | nil => rfl
  | append_singleton l x ih =>
    rw [List.map_append, List.map_singleton, cutAll_snoc, cutAll_snoc, ih]
    split <;> simp
theorem parts_map {α β : Type} (g : α → β) (p : β → Bool) (l : List α) : (parts (fun x => p (g x)) l).map (List.map g) = parts p (l.map g) := by
  unfold parts
  rw [cutAll_map, List.map_append, List.map_singleton]
theorem parts_fst (f : UInt8 → Bool) (L : List (UInt8 × Int)) : (parts (onB f) L).map (List.map (·.1)) = parts f (L.map (·.1)) := parts_map (fun x : UInt8 × Int => x.1) f L

theorem cutAll_le {α : Type} (p : α → Bool) (l : List α) : (∀ q ∈ (cutAll p l).1, q.length ≤ l.length) ∧ (cutAll p l).2.length ≤ l.length := by
  induction l using snocInd with
  | nil => simp [cutAll]
  | append_singleton l x ih =>
    rw [List.length_append, List.length_singleton]
    cases h : p x with
    | true =>
      rw [cutAll_hit h]
      refine ⟨fun q hq => ?_, by simp⟩
      rcases List.mem_append.1 hq with hq | hq
      · have := ih.1 q hq; omega
      · simp at hq; subst hq; have := ih.2; omega
    | false =>
      rw [cutAll_miss h]
      refine ⟨fun q hq => by have := ih.1 q hq; omega, ?_⟩
      rw [List.length_append, List.length_singleton]
      have := ih.2
      omega
theorem parts_le {α : Type} (p : α → Bool) (l : List α) : ∀ q ∈ parts p l, q.length ≤ l.length := by
  intro q hq
  unfold parts at hq
  rcases List.mem_append.1 hq with hq | hq
  · exact (cutAll_le p l).1 q hq
  · simp at hq; subst hq; exact (cutAll_le p l).2
theorem bytesOf_size (q : List (UInt8 × Int)) : (bytesOf q).size = q.length := by
  show ((q.map (·.1)).toArray).size = _
  simp
theorem TellAll.get {w : World} {base : Nat} {qs : List (List (UInt8 × Int))} {ts : List LT} (h : TellAll w base qs ts) {i : Nat} {t : LT} (ht : ts[i]? = some t) : ∃ q, qs[i]? = some q ∧ Told w base q t := by
  have hi : i < qs.length := by rw [← h.1]; exact (List.getElem?_eq_some_iff.1 ht).1
  exact ⟨_, List.getElem?_eq_getElem hi, h.2 i _ t (List.getElem?_eq_getElem hi) ht⟩
theorem TellAll.ok {w : World} {base : Nat} {qs : List (List (UInt8 × Int))} {ts : List LT} (h : TellAll w base qs ts) (hq : ∀ q ∈ qs, q.length ≤ 4294967296) : ∀ t ∈ ts, t.ok w w.heap.size := by
  intro t ht
  obtain ⟨i, hi⟩ := List.mem_iff_getElem?.1 ht
  obtain ⟨q, hqq, h1, h2, h3, h4⟩ := h.get hi
  have hl := hq q (List.mem_of_getElem? hqq)
  refine ⟨Lies.own h4, h3, ?_, by rw [h1, bytesOf_size]; exact hl⟩
  rw [← h3, h2]
  have := comp_length_le (q.map (·.2))
  rw [List.length_map] at this
  omega
theorem TellAll.bs {w : World} {base : Nat} {qs : List (List (UInt8 × Int))} {ts : List LT} (h : TellAll w base qs ts) : ts.map LT.bs = qs.map (List.map (·.1)) := by
  refine List.ext_getElem? (fun i => ?_)
  rw [List.getElem?_map, List.getElem?_map]
  cases ht : ts[i]? with
  | none =>
    have : qs[i]? = none := List.getElem?_eq_none (by rw [← h.1]; exact List.getElem?_eq_none_iff.1 ht)
    rw [this]; rfl
  | some t =>
    obtain ⟨q, hq, h1, _⟩ := h.get ht
    rw [hq]
    show some t.s.data.toList = some (q.map (·.1))
    rw [h1]
    rfl
theorem two_of {α : Type} {l : List α} (h : l.length = 2) : ∃ a b, l = [a, b] := by
  match l, h with
  | [a, b], _ => exact ⟨a, b, rfl⟩
theorem maxLen_keep {w w' : World} {m : Int} (h : w.cell? ⟨0, 0, none⟩ = some (.int .i64 m)) (hb : Below w.heap.size w w') : w'.cell? ⟨0, 0, none⟩ = some (.int .i64 m) :=
  (hb.cell (block_zero _ _ _ h)).trans h

set_option maxHeartbeats 1000000 in
set_option maxRecDepth 100000 in
theorem alive4_any (m : Int) (w : World) (hm : w.cell? ⟨0, 0, none⟩ = some (.int .i64 m)) : Calls Try.prog 6 #[] w fun e w' => e = .returned (.bool true) ∧ Below w.heap.size w w' := by
  have HM := Lib.hid hm
  clear hm
  go_enter Try.func6, Try.ntmps6
  go_wp2_with fail
  refine (of_any ⟨#[97, 44, 98]⟩ 0 _ (by show (3 : Nat) ≤ _; omega)).mono ?_
  rintro e w1 ⟨v1, rfl, ho1, hb1⟩
  obtain ⟨A1, c1, rfl, _, _, _⟩ := own_form ho1
  have hlen : (comp (List.replicate (ByteArray.mk #[97, 44, 98]).size (nearO 0))).length ≤ 3 := by
    have := comp_length_le (List.replicate (ByteArray.mk #[97, 44, 98]).size (nearO 0))
    rw [List.length_replicate] at this
    exact this
  generalize hq : comp (List.replicate (ByteArray.mk #[97, 44, 98]).size (nearO 0)) = q at *
  clear hq
  go_wp2_with fail
  refine (split2_any ⟨#[97, 44, 98]⟩ A1 q.length c1 q 44 _ (Lies.own ho1) rfl (by show (3 : Nat) ≤ _; omega) (by omega)).mono ?_
  rintro e w2 ⟨v2, ts, rfl, ho2, hT, hb2⟩
  have hP : (parts (onB (atB 44)) (chars (ByteArray.mk #[97, 44, 98]).data.toList q)).map (List.map (·.1)) = [[97], [98]] := by
    rw [parts_fst, chars_fst]
    decide
  obtain ⟨t0, t1, rfl, h0, h1⟩ : ∃ t0 t1, ts = [t0, t1] ∧ t0.s = ⟨#[97]⟩ ∧ t1.s = ⟨#[98]⟩ := by
    generalize parts (onB (atB 44)) (chars (ByteArray.mk #[97, 44, 98]).data.toList q) = qs at *
    obtain ⟨q0, q1, rfl⟩ := two_of (l := qs) (by have := congrArg List.length hP; simpa using this)
    simp only [List.map_cons, List.map_nil, List.cons.injEq, and_true] at hP
    obtain ⟨hT1, hT2⟩ := hT
    obtain ⟨t0, t1, rfl⟩ := two_of (l := ts) hT1
    refine ⟨t0, t1, rfl, ?_, ?_⟩
    · rw [(hT2 0 q0 t0 rfl rfl).1]; unfold bytesOf; rw [hP.1]
    · rw [(hT2 1 q1 t1 rfl rfl).1]; unfold bytesOf; rw [hP.2]
  obtain ⟨A2, c2, rfl, _, _, _⟩ := own_form ho2
  have hLi := Lies.own ho2
  obtain ⟨ad, u0, rfl, hbA, d0, d1, HR0⟩ := hLi.lt (k := 0) (by simp)
  obtain ⟨ad', u1, e', hbA', d2, d3, HR1⟩ := hLi.lt (k := 1) (by simp)
  injection e' with e'
  subst e'
  have r0 : u0 = t0 := by have h := HR0.out; simpa using h.symm
  have r1 : u1 = t1 := by have h := HR1.out; simpa using h.symm
  subst r0 r1
  rw [h0, addr_zero] at d0
  rw [h1, show 1 * 2 = 2 from rfl, addr_two] at d2
  clear d1 d3 hbA'
  have hbw : Below w.heap.size w w2 := below_next hb1 (Nat.le_refl _) hb2
  have HT := Lib.hid hT
  have HI : Hid (findI (ByteArray.mk #[97, 98, 99]).data.toList (ByteArray.mk #[99]).data.toList 0 = 2) := by show _ = _; decide
  clear hT hP ho1 ho2 hLi h0 h1
  go_wp2_with fail
  refine (of_any ⟨#[97, 98, 99]⟩ 0 _ (by show (3 : Nat) ≤ _; omega)).mono ?_
  rintro e w3 ⟨v3, rfl, ho3, hb3⟩
  obtain ⟨A3, c3, rfl, _, _, _⟩ := own_form ho3
  generalize (comp (List.replicate (ByteArray.mk #[97, 98, 99]).size (nearO 0))).length = n3 at *
  go_wp2_with fail
  refine (index_any ⟨#[97, 98, 99]⟩ A3 n3 c3 ⟨#[99]⟩ 0 m _ (by show (3 : Nat) ≤ _; omega) (maxLen_keep HM.out (below_next hbw (Nat.le_refl _) hb3))).mono ?_
  rw [HI.out]
  rintro e w4 ⟨rfl, hb4⟩
  go_wp2
  go_ret
  exact ⟨rfl, below_next (below_next hbw (Nat.le_refl _) hb3) (Nat.le_refl _) hb4⟩

end Go.Proofs.Ytboenjmhmlfmcaa.mk
