/-
  The contract of mark's Same.
-/
import Derived.Test.YtnbdldapmllegaaGreatJrR
import Derived.Test.YtnbdldapmllegaaGreatJrS
import Derived.Deep.RegionHeld3
import Derived.WalkSpells
import Derived.Test.YtnbdldapmllegaaGreatJrH
import Derived.Outline
namespace Go.Proofs.YtnbdldapmllegaaGreat.mk
open Go.RowKit

/-- a labelled text is told, in new memory -/
def Tells (s : ByteArray) (rs : List (Int × Int)) (w : World) (e : Ending) (w' : World) : Prop :=
  ∃ v, e = .returned (.agg #[.string s, v]) ∧ w'.ownsRow w.heap.size 79 2 v rs.length (runCells rs) ∧ Below w.heap.size w w'

/-- behind the store of an answer into its own block -/
theorem tells_end {w w2 : World} {s : ByteArray} {rs : List (Int × Int)} {v : Value} {g : Nat} (hg : w.heap.size ≤ g) (hown : w2.ownsRow (g + 1) 79 2 v rs.length (runCells rs)) (hb : Below w.heap.size w w2) :
    Tells s rs w (.returned (.agg #[.string s, v])) ((w2.setCell ⟨g, 0, none⟩ (.string s)).setCell ⟨g, 1, none⟩ v) := by
  refine ⟨v, rfl, own_mono (base := g + 1) (own_far (own_far hown _ (fun h => ?_) _) _ (fun h => ?_) _) (by omega), (hb.setCell hg _).setCell hg _⟩
  · have := (hown.lt _ h).1; simp at this; omega
  · have := (hown.lt _ h).1; simp at this; omega

set_option maxHeartbeats 1000000 in
set_option maxRecDepth 100000 in
theorem of_any (s : ByteArray) (o : Int) (w : World) (hs : s.size ≤ 4294967296) :
    Calls Tryz.prog 16 #[.string s, .int .i64 o] w (Tells s (comp (List.replicate s.size (nearO o))) w) := by
  go_enter Tryz.func16, Tryz.ntmps16
  go_wp2_with fail
  refine (clone_any s _ (by omega)).mono ?_
  rintro e w1 ⟨rfl, hb1⟩
  simp only [World.size_alloc] at hb1
  have hz1 := hb1.size
  simp only [World.size_alloc] at hz1
  have hW : Whole w1 w.heap.size 28 #[.string ⟨#[]⟩, .slice none 0 0] := (Whole.made w _ _).below hb1 (Nat.lt_succ_self _)
  go_wp2_with fail
  refine (nearest_any _ _).mono ?_
  rintro e w' ⟨rfl, rfl⟩
  go_wp2_with fail
  refine (join_comp (w.heap.size + 1) (.slice none 0 0) [] (s.size : Int) (nearO o) _ (World.ownsRow_nil _ _ _ _) (by omega) (by simp) (by omega)).mono ?_
  rintro e w2 hj
  obtain ⟨v, rfl, hown, hg2, _⟩ := hj
  have hW2 := hW.grown hg2 (by simp [Value.ownBlock])
  have hb2 : Below (w.heap.size + 1) (w.alloc (.cells #[.string ⟨#[]⟩, .slice none 0 0] 28)) w2 := hb1.grown hg2 (by omega) (by simp [Value.ownBlock])
  obtain ⟨A, c, rfl, _, _, _⟩ := own_form hown
  have f0 := hW2.free 0
  have f1 := hW2.free 1
  have c0 : w2.cell? ⟨w.heap.size, 0, none⟩ = some (.string ⟨#[]⟩) := hW2.at_ 0
  have c1 : w2.cell? ⟨w.heap.size, 1, none⟩ = some (.slice none 0 0) := hW2.at_ 1
  rw [List.nil_append, Int.toNat_natCast] at hown
  have HO := Lib.hid hown
  clear hown hg2 hb1
  simp only [List.nil_append, Int.toNat_natCast] at *
  generalize comp (List.replicate s.size (nearO o)) = q at *
  go_wp2
  refine bodyPost_ret (v := .agg #[.string s, .slice A q.length c]) ?_ rfl ?_
  · simp [results, Tryz.results16, go_sem, c0, c1]
  · exact tells_end (Nat.le_refl _) HO.out (below_made hb2)

set_option maxHeartbeats 2000000 in
set_option maxRecDepth 100000 in
theorem fix_any (s : ByteArray) (A : Option Addr) (n c : Nat) (rs : List (Int × Int)) (w : World) (hl : Lies w w.heap.size A (runCells rs)) (hn : rs.length = n) (hs : s.size ≤ 4294967296) (hn2 : n ≤ 4294967296) :
    Calls Tryz.prog 44 #[.agg #[.string s, .slice A n c]] w (Tells s (taken s.size rs) w) := by
  have HN := Lib.hid hn
  clear hn
  go_enter Tryz.func44, Tryz.ntmps44
  go_wp2_with fail
  generalize hw0 : (w.alloc (.cells #[.string s, .slice A n c] 28)).alloc (.cells #[.string ⟨#[]⟩, .slice none 0 0] 28) = w0
  have y0 : Whole w0 w.heap.size 28 #[.string s, .slice A n c] := by rw [← hw0]; exact (Whole.made w _ _).alloc _
  have y1 : Whole w0 (w.heap.size + 1) 28 #[.string ⟨#[]⟩, .slice none 0 0] := by
    rw [← hw0]
    have h := Whole.made (w.alloc (.cells #[.string s, .slice A n c] 28)) 28 #[.string ⟨#[]⟩, .slice none 0 0]
    simp only [World.size_alloc] at h
    exact h
  have hz0 : w.heap.size + 2 ≤ w0.heap.size := by rw [← hw0]; simp
  have hz1 : w.heap.size + 1 ≤ w0.heap.size := by omega
  have hl0 : Lies w0 (w.heap.size + 1) A (runCells rs) := by rw [← hw0]; exact ((hl.alloc (Nat.le_refl _) _).alloc (by simp) _).mono (by omega)
  have hb0 : Below w.heap.size w w0 := by rw [← hw0]; exact ((Below.refl _ _).alloc (Nat.le_refl _) _).alloc (by simp) _
  have HW := Lib.hid hw0
  clear hw0
  have c0 : w0.cell? ⟨w.heap.size, 0, none⟩ = some (.string s) := y0.at_ 0
  have c1 : w0.cell? ⟨w.heap.size, 1, none⟩ = some (.slice A n c) := y0.at_ 1
  have KS : ∀ w', Below (w.heap.size + 1) w0 w' → w'.cell? ⟨w.heap.size, 0, none⟩ = some (.string s) ∧ w'.cell? ⟨w.heap.size, 1, none⟩ = some (.slice A n c) ∧ Below (w.heap.size + 1) w0 w' := fun w' h =>
    ⟨(h.cell (Nat.lt_succ_self _)).trans (y0.at_ 0), (h.cell (Nat.lt_succ_self _)).trans (y0.at_ 1), h⟩
  have HKS := Lib.hid KS
  clear KS
  have y1' := y1.drew
  go_region_held3 (fun w' => w'.cell? ⟨w.heap.size, 0, none⟩ = some (.string s) ∧ w'.cell? ⟨w.heap.size, 1, none⟩ = some (.slice A n c) ∧ Below (w.heap.size + 1) w0 w')
    (first
      | exact HKS.out _ (Below.drew (Below.refl _ _))
      | (go_split_ands; exact HKS.out _ (by assumption))
      | (go_split_ands; exact HKS.out _ (below_next (by assumption) hz1 hbC))
      | (go_split_ands; exact HKS.out _ (below_next (by assumption) hz1 hbT))
      | (go_split_ands; refine HKS.out _ ?_; refine Below.setCell (p := ⟨w.heap.size + 1, 1, none⟩) ?_ (Nat.le_refl _) _; refine Below.setCell (p := ⟨w.heap.size + 1, 0, none⟩) ?_ (Nat.le_refl _) _; assumption))
    (first
      | (go_at_call 40; refine (clone_any s _ (by omega)).mono ?_; rintro e w1 ⟨rfl, hbC⟩; have hwC : Whole w1 (w.heap.size + 1) 28 #[.string ⟨#[]⟩, .slice none 0 0] := Whole.below (by assumption) hbC (Whole.lt (by assumption)); have c10 := hwC.at_ 0; have c11 := hwC.at_ 1; have f10 := hwC.free 0; have f11 := hwC.free 1)
      | (go_at_call 50; refine (taken_any s A n c rs _ ?_ HN.out hs hn2).mono ?_; (go_split_ands; exact hl0.next (by assumption) hz1); rintro e w2 ⟨v, rfl, hown, hbT⟩; obtain ⟨A', c', rfl, _, _, _⟩ := own_form hown; have hwT : Whole w2 (w.heap.size + 1) 28 #[.string ⟨#[]⟩, .slice none 0 0] := Whole.below (by assumption) hbT (Whole.lt (by assumption)); have c20 := hwT.at_ 0; have c21 := hwT.at_ 1; have f20 := hwT.free 0; have f21 := hwT.free 1))
  all_goals
    go_wp2
    refine bodyPost_ret (v := .agg #[.string s, .slice A' (taken s.size rs).length c']) ?_ rfl ?_
    · simp [results, Tryz.results44, go_sem, *]
    · first
        | exact tells_end (g := w.heap.size + 1) (Nat.le_succ _) (own_mono hown (by have := hbC.size; simp at this; omega)) (below_next (below_next hb0.drew (Nat.le_refl _) hbC) (Nat.le_refl _) hbT)
        | exact tells_end (g := w.heap.size + 1) (Nat.le_succ _) (own_mono (own_keep hown hbC) (by simp; omega)) (below_next (below_next hb0.drew (Nat.le_refl _) hbT) (Nat.le_refl _) hbC)

theorem field_runs (s : ByteArray) (A : Option Addr) (n c : Nat) (w : World) : (Instr.field 28 (.agg #[.string s, .slice A n c]) 1).run Tryz.prog w = .ok (.slice A n c) w := by kernel_rfl
end Go.Proofs.YtnbdldapmllegaaGreat.mk

namespace Go.Proofs.YtnbdldapmllegaaGreat.mk
open Go.RowKit

/-- a labelled text as it lies in memory -/
structure LT where
  s : ByteArray
  A : Option Addr
  n : Nat
  c : Nat
  rs : List (Int × Int)
def LT.v (t : LT) : Value := .agg #[.string t.s, .slice t.A t.n t.c]
def LT.ok (w : World) (B : Nat) (t : LT) : Prop := Lies w B t.A (runCells t.rs) ∧ t.rs.length = t.n ∧ t.n ≤ 4294967296 ∧ t.s.size ≤ 4294967296
def LT.os (t : LT) : List Int := origins t.s.size t.rs
def LT.bs (t : LT) : List UInt8 := t.s.data.toList
theorem LT.bs_length (t : LT) : t.bs.length = t.s.size := by unfold LT.bs; rw [Array.length_toList]; rfl
theorem LT.ok.next {w0 w : World} {B : Nat} {t : LT} (h : t.ok w0 B) (hb : Below B w0 w) (hz : B ≤ w0.heap.size) : t.ok w w.heap.size := ⟨h.1.next hb hz, h.2⟩

/-- a builder stays while its block and its row of bytes stay -/
theorem builder_same {T B b : Nat} {bs : List Value} {w w' : World} (h : Lib.IsBuilderF T 5 B b bs w) (hk : ∀ (k : Nat) (o : Obj), w.heap[k]? = some o → (∀ c fz, o ≠ .cells c 79 fz) → w'.heap[k]? = some o) (hT : T ≠ 79) : Lib.IsBuilderF T 5 B b bs w' := by
  have key : ∀ p, Lib.BuilderAtF T 5 B b p bs w → Lib.BuilderAtF T 5 B b p bs w' := by
    rintro p ⟨hB, v, hbk, hown, hne⟩
    refine ⟨hB, v, hk _ _ hbk (by intro c fz e; injection e with _ e _; exact hT e), ⟨hown.1, ?_⟩, hne⟩
    rcases hown.2 with h0 | ⟨g, cap, cur, fz, hv, hg, hgg, r⟩
    · exact .inl h0
    · exact .inr ⟨g, cap, cur, fz, hv, hg, hk _ _ hgg (by intro c fz' e; injection e with _ e _; exact absurd e (by decide)), r⟩
  rcases h with h | h
  · exact .inl (key _ h)
  · exact .inr (key _ h)
theorem builder_below {T B b : Nat} {bs : List Value} {w w' : World} (h : Lib.IsBuilderF T 5 B b bs w) (hb : Below w.heap.size w w') (hT : T ≠ 79) : Lib.IsBuilderF T 5 B b bs w' :=
  builder_same h (fun k _ hk _ => (hb.block k (Array.getElem?_eq_some_iff.1 hk).1).trans hk) hT
/-- a row of runs lies in a block of runs -/
theorem own_kind {w : World} {base n : Nat} {e : TypeId} {size : Nat} {v : Value} {xs : List Value} (h : w.ownsRow base e size v n xs) {g : Nat} (hg : v.ownBlock = some g) : ∃ cur, w.heap[g]? = some (.cells cur e (0, 0)) := by
  rcases h.2 with ⟨rfl, _⟩ | ⟨g', cap, cur, rfl, _, hh, _⟩
  · simp [Value.ownBlock] at hg
  · have : g' = g := by simpa [Value.ownBlock] using hg
    subst this; exact ⟨cur, hh⟩
theorem builder_grown {T B b : Nat} {bs : List Value} {w w' : World} {base n : Nat} {v : Value} {xs : List Value} (h : Lib.IsBuilderF T 5 B b bs w) (hown : w.ownsRow base 79 2 v n xs) (hg : w.grownBy w' v.ownBlock) (hT : T ≠ 79) : Lib.IsBuilderF T 5 B b bs w' := by
  refine builder_same h (fun k o hk hno => ?_) hT
  rw [hg.block k (Array.getElem?_eq_some_iff.1 hk).1 (fun e => ?_)]
  · exact hk
  · obtain ⟨cur, hc⟩ := own_kind hown e.symm
    rw [hk] at hc
    injection hc with hc
    exact hno _ _ hc
theorem builder_alloc {T B b : Nat} {bs : List Value} {w : World} (h : Lib.IsBuilderF T 5 B b bs w) (o : Obj) (hT : T ≠ 79) : Lib.IsBuilderF T 5 B b bs (w.alloc o) :=
  builder_below h ((Below.refl _ _).alloc (Nat.le_refl _) o) hT
/-- a row of runs stays while a builder writes -/
theorem own_others {w w' : World} {base n : Nat} {v : Value} {xs : List Value} {b : Nat} (h : w.ownsRow base 79 2 v n xs) (hk : Lib.OthersKept 5 (some b) w w') (hb : b < base) : w'.ownsRow base 79 2 v n xs := by
  refine own_same h fun g hg => ?_
  obtain ⟨cur, hc⟩ := own_kind h hg
  rw [hk g _ hc (by have := (h.lt g hg).1; intro e; injection e with e; omega) (by intro c fz e; injection e with _ e _; exact absurd e (by decide)), hc]
theorem byteCells_append (a b : List UInt8) : Lib.byteCells (a ++ b) = Lib.byteCells a ++ Lib.byteCells b := by simp [Lib.byteCells]

theorem expand_take_le (l : List Int) (j : Nat) : (expand ((comp l).take j)).length ≤ l.length := by
  have : l.length = (expand (comp l)).length := by rw [expand_comp]
  rw [this]
  have h : (expand ((comp l).take j ++ (comp l).drop j)).length = (expand (comp l)).length := by rw [List.take_append_drop]
  rw [← h, expand_append, List.length_append]
  omega
end Go.Proofs.YtnbdldapmllegaaGreat.mk

namespace Go.Proofs.YtnbdldapmllegaaGreat.mk
open Go.RowKit

end Go.Proofs.YtnbdldapmllegaaGreat.mk

namespace Go.Proofs.YtnbdldapmllegaaGreat.mk
open Go.RowKit

theorem pre_take (n : Nat) (rs : List (Int × Int)) : pre n rs = (rs.flatMap fun r => List.replicate r.1.toNat (nearO r.2)).take n := by
  induction rs using snocInd with
  | nil => simp [pre]
  | append_singleton rs r ih =>
    rw [pre_snoc, ih, List.flatMap_append, List.take_append, List.flatMap_singleton, List.take_replicate, List.length_take]
    congr 2
    omega
theorem mem_comp (q : List Int) : ∀ r ∈ comp q, r.2 ∈ q := by
  intro r hr
  have h := expand_comp q
  obtain ⟨a, b, e⟩ := List.append_of_mem hr
  have hp := comp_pos q r hr
  rw [e, expand_append] at h
  rw [← h]
  simp only [List.mem_append]
  right
  simp only [expand, List.flatMap_cons, List.mem_append]
  left
  exact List.mem_replicate.2 ⟨by omega, rfl⟩
theorem flatMap_same {α β : Type} {f g : α → List β} {l : List α} (h : ∀ x ∈ l, f x = g x) : l.flatMap f = l.flatMap g := by
  induction l with
  | nil => rfl
  | cons x l ih => rw [List.flatMap_cons, List.flatMap_cons, h x (by simp), ih (fun y hy => h y (by simp [hy]))]
theorem origins_told {q : List Int} (h : ∀ o ∈ q, 0 ≤ o ∧ o ≤ 65536) : origins q.length (comp q) = q := by
  have e : (comp q).flatMap (fun r => List.replicate r.1.toNat (nearO r.2)) = q := by
    have h1 : (comp q).flatMap (fun r => List.replicate r.1.toNat (nearO r.2)) = (comp q).flatMap (fun r => List.replicate r.1.toNat r.2) := by
      refine flatMap_same fun r hr => ?_
      have := h r.2 (mem_comp q r hr)
      rw [nearO_in this.1 this.2]
    rw [h1]
    exact expand_comp q
  have hp : pre q.length (comp q) = q := by rw [pre_take, e, List.take_of_length_le (Nat.le_refl _)]
  unfold origins
  rw [hp]
  simp

end Go.Proofs.YtnbdldapmllegaaGreat.mk

namespace Go.Proofs.YtnbdldapmllegaaGreat.mk
open Go.RowKit

/-- origins that may be -/
def InR (l : List (UInt8 × Int)) : Prop := ∀ o ∈ l.map (·.2), 0 ≤ o ∧ o ≤ 65536
theorem InR.take {l : List (UInt8 × Int)} (h : InR l) (n : Nat) : InR (l.take n) := fun o ho => h o (by rw [List.map_take] at ho; exact List.mem_of_mem_take ho)
theorem InR.drop {l : List (UInt8 × Int)} (h : InR l) (n : Nat) : InR (l.drop n) := fun o ho => h o (by rw [List.map_drop] at ho; exact List.mem_of_mem_drop ho)
theorem InR.append {a b : List (UInt8 × Int)} (h : InR a) (k : InR b) : InR (a ++ b) := by
  intro o ho
  rw [List.map_append] at ho
  rcases List.mem_append.1 ho with ho | ho
  · exact h o ho
  · exact k o ho
theorem chars_told {l : List (UInt8 × Int)} (h : InR l) : chars (l.map (·.1)) (comp (l.map (·.2))) = l := by
  refine chars_ext ?_ ?_
  · rw [chars_fst]
  · rw [chars_snd, List.length_map]
    have := origins_told h
    rw [List.length_map] at this
    exact this
theorem InR.chars (s : List UInt8) (rs : List (Int × Int)) : InR (mk.chars s rs) := by
  intro o ho
  rw [chars_snd] at ho
  exact origins_in _ _ o ho
theorem InR.sub {a b : List (UInt8 × Int)} (h : InR b) (hs : ∀ x ∈ a, x ∈ b) : InR a := by
  intro o ho
  obtain ⟨x, hx, rfl⟩ := List.mem_map.1 ho
  exact h _ (List.mem_map.2 ⟨x, hs x hx, rfl⟩)

end Go.Proofs.YtnbdldapmllegaaGreat.mk

namespace Go.Proofs.YtnbdldapmllegaaGreat.mk
open Go.RowKit

theorem builder_above {T B b : Nat} {bs : List Value} {w w' : World} (h : Lib.IsBuilderF T 5 B b bs w) (hk : ∀ k, B ≤ k → k < w.heap.size → w'.heap[k]? = w.heap[k]?) : Lib.IsBuilderF T 5 B b bs w' := by
  have key : ∀ p, Lib.BuilderAtF T 5 B b p bs w → Lib.BuilderAtF T 5 B b p bs w' := by
    rintro p ⟨hB, v, hbk, hown, hne⟩
    refine ⟨hB, v, (hk _ hB (Array.getElem?_eq_some_iff.1 hbk).1).trans hbk, ⟨hown.1, ?_⟩, hne⟩
    rcases hown.2 with h0 | ⟨g, cap, cur, fz, hv, hg, hgg, r⟩
    · exact .inl h0
    · exact .inr ⟨g, cap, cur, fz, hv, hg, (hk _ hg (Array.getElem?_eq_some_iff.1 hgg).1).trans hgg, r⟩
  rcases h with h | h
  · exact .inl (key _ h)
  · exact .inr (key _ h)

/-- nothing below B changes but what S names -/
structure Kept (S : Nat → Prop) (B : Nat) (w w' : World) : Prop where
  os : w'.os = w.os
  tape : w'.tape = w.tape
  output : w'.output = w.output
  size : w.heap.size ≤ w'.heap.size
  block : ∀ k, k < B → ¬ S k → w'.heap[k]? = w.heap[k]?
theorem Kept.refl (S : Nat → Prop) (B : Nat) (w : World) : Kept S B w w := ⟨rfl, rfl, rfl, Nat.le_refl _, fun _ _ _ => rfl⟩
theorem Kept.below {S : Nat → Prop} {B : Nat} {w0 w w' : World} (h : Kept S B w0 w) (hb : Below B w w') : Kept S B w0 w' :=
  ⟨hb.os.trans h.os, hb.tape.trans h.tape, hb.output.trans h.output, Nat.le_trans h.size hb.size, fun k hk hs => (hb.block k hk).trans (h.block k hk hs)⟩
theorem Kept.moved {S : Nat → Prop} {B : Nat} {w0 w w' : World} (h : Kept S B w0 w) (hb : Moved S w w') (hB : B ≤ w.heap.size) : Kept S B w0 w' :=
  ⟨hb.os.trans h.os, hb.tape.trans h.tape, hb.output.trans h.output, Nat.le_trans h.size hb.size, fun k hk hs => (hb.block k (by omega) hs).trans (h.block k hk hs)⟩

/-- the state of rewrite: the builder's bytes, the origins that are put, and the runs that are ranged over -/
def RwSt (N : Nat) (S : Nat → Prop) (qs : List (Int × Int)) (ta : Value) (w0 : World) (bs : List UInt8) (os : List Int) (v : Value) (wr : World) : Prop :=
  wr.ownsRow (N + 3) 79 2 v (comp os).length (runCells (comp os)) ∧ wr.ownsRow (N + 3) 79 2 ta qs.length (runCells qs) ∧ (∀ g, v.ownBlock = some g → ta.ownBlock ≠ some g) ∧
    Lib.IsBuilderF 68 5 (N + 2) (N + 2) (Lib.byteCells bs) wr ∧ Kept S (N + 2) w0 wr ∧ N + 3 ≤ wr.heap.size

theorem RwSt.moved {N : Nat} {S : Nat → Prop} {qs : List (Int × Int)} {ta : Value} {w0 : World} {bs : List UInt8} {os : List Int} {v : Value} {w w' : World} (h : RwSt N S qs ta w0 bs os v w) (hm : Moved S w w') (hS : ∀ g, S g → g < N) : RwSt N S qs ta w0 bs os v w' := by
  obtain ⟨h1, h2, h3, h4, h5, h6⟩ := h
  have hz := hm.size
  refine ⟨hm.own h1 (fun g hg hs => ?_), hm.own h2 (fun g hg hs => ?_), h3, builder_above h4 (fun k hk hl => hm.block k hl (fun hs => ?_)), h5.moved hm (by omega), by omega⟩
  · have := (h1.lt g hg).1; have := hS g hs; omega
  · have := (h2.lt g hg).1; have := hS g hs; omega
  · have := hS k hs; omega
theorem RwSt.below {N : Nat} {S : Nat → Prop} {qs : List (Int × Int)} {ta : Value} {w0 : World} {bs : List UInt8} {os : List Int} {v : Value} {w w' : World} (h : RwSt N S qs ta w0 bs os v w) (hb : Below w.heap.size w w') : RwSt N S qs ta w0 bs os v w' := by
  obtain ⟨h1, h2, h3, h4, h5, h6⟩ := h
  have hz := hb.size
  exact ⟨own_keep h1 hb, own_keep h2 hb, h3, builder_above h4 (fun k _ hl => hb.block k hl), h5.below (hb.mono (by omega)), by omega⟩
theorem RwSt.write {N : Nat} {S : Nat → Prop} {qs : List (Int × Int)} {ta : Value} {w0 : World} {bs : List UInt8} {os : List Int} {v : Value} {w w' : World} {s : ByteArray} (h : RwSt N S qs ta w0 bs os v w)
    (hbu : Lib.BuilderAtF 68 5 (N + 2) (N + 2) (.pointer (some ⟨N + 2, 0, none⟩)) (Lib.byteCells bs ++ Lib.strCells s) w') (hb : Below (N + 2) w w') (ho : Lib.OthersKept 5 (some (N + 2)) w w') : RwSt N S qs ta w0 (bs ++ s.data.toList) os v w' := by
  obtain ⟨h1, h2, h3, h4, h5, h6⟩ := h
  have hz := hb.size
  refine ⟨own_others h1 ho (by omega), own_others h2 ho (by omega), h3, ?_, h5.below hb, by omega⟩
  rw [byteCells_append]; exact .inr hbu
theorem RwSt.join {N : Nat} {S : Nat → Prop} {qs : List (Int × Int)} {ta : Value} {w0 : World} {bs : List UInt8} {os os' : List Int} {v v' : Value} {w w' : World} (h : RwSt N S qs ta w0 bs os v w)
    (hown : w'.ownsRow (N + 3) 79 2 v' (comp os').length (runCells (comp os'))) (hg : w.grownBy w' v.ownBlock) (hat : v'.ownBlock = v.ownBlock ∨ ∃ k, w.heap.size ≤ k ∧ v'.ownBlock = some k) : RwSt N S qs ta w0 bs os' v' w' := by
  obtain ⟨h1, h2, h3, h4, h5, h6⟩ := h
  have hz := hg.size
  refine ⟨hown, own_same h2 (fun g hg' => hg.block g (h2.lt g hg').2 (fun e => h3 g e.symm hg')), ?_, builder_grown h4 h1 hg (by decide), h5.below ((Below.refl _ _).grown hg (by omega) (fun k hk => by have := (h1.lt k hk).1; omega)), by omega⟩
  intro g hg'
  rcases hat with e | ⟨k, hk, e⟩
  · exact h3 g (e.symm.trans hg')
  · rw [e] at hg'; injection hg' with hg'; subst hg'
    intro e2
    have := (h2.lt k e2).2
    omega

theorem joinR_len (rs : List (Int × Int)) (n o : Int) : (joinR rs n o).length ≤ rs.length + 1 := by
  by_cases h : n < 1
  · rw [joinR_less h]; omega
  rcases snoc_cases rs with rfl | ⟨r, ⟨l, p⟩, rfl⟩
  · rw [joinR_nil h]; simp
  · by_cases hp : p = o
    · subst hp; rw [joinR_same h]; simp
    · rw [joinR_other h hp]; simp
theorem expand_at {qs : List (Int × Int)} {j m : Nat} {l o : Int} (h : qs[j]? = some (l, o)) (hm : m < l.toNat) : (expand qs)[(expand (qs.take j)).length + m]? = some o := by
  have e : qs = qs.take j ++ (l, o) :: qs.drop (j + 1) := by
    obtain ⟨hj, h2⟩ := List.getElem?_eq_some_iff.1 h
    rw [← h2, ← List.drop_eq_getElem_cons hj, List.take_append_drop]
  have e2 := congrArg expand e
  rw [expand_append] at e2
  rw [e2, List.getElem?_append_right (by omega), Nat.add_sub_cancel_left]
  simp only [expand, List.flatMap_cons]
  rw [List.getElem?_append_left (by simpa using hm), List.getElem?_replicate, if_pos hm]
theorem expand_take_next {qs : List (Int × Int)} {j : Nat} {l o : Int} (h : qs[j]? = some (l, o)) : (expand (qs.take (j + 1))).length = (expand (qs.take j)).length + l.toNat := by
  rw [take_next h, expand_append, List.length_append]
  simp [expand]
theorem expand_take_len (qs : List (Int × Int)) (j : Nat) : (expand (qs.take j)).length ≤ (expand qs).length := by
  conv => rhs; rw [← List.take_append_drop j qs]
  rw [expand_append, List.length_append]; omega
theorem chars_at {s : ByteArray} {rs : List (Int × Int)} {k : Nat} {o : Int} (hk : k < s.size) (ho : (origins s.size rs)[k]? = some o) : (chars s.data.toList rs)[k]? = some (s[k]'hk, o) := by
  have hsl : s.data.toList.length = s.size := by rw [Array.length_toList]; rfl
  unfold chars
  rw [hsl, List.getElem?_zip_eq_some]
  refine ⟨?_, ho⟩
  rw [List.getElem?_eq_getElem (by rw [hsl]; exact hk)]
  rfl

end Go.Proofs.YtnbdldapmllegaaGreat.mk

namespace Go.Proofs.YtnbdldapmllegaaGreat.mk
open Go.RowKit

/-- what a loop over taken runs keeps: the runs made so far, and the taken ones -/
def Seg (os qs : List Int) (j : Nat) (ta : Value) (Bt B : Nat) (w0 : World) (r : Value) (wr : World) : Prop :=
  wr.ownsRow (B + 2) 79 2 r (comp os).length (runCells (comp os)) ∧ wr.ownsRow Bt 79 2 ta (comp qs).length (runCells (comp qs)) ∧ (∀ g, r.ownBlock = some g → ta.ownBlock ≠ some g) ∧ Below (B + 2) w0 wr ∧ j ≤ (comp qs).length
theorem seg_in {os qs : List Int} {ta r v' : Value} {Bt B j : Nat} {w0 wr w' : World} {o n : Int} {lo : Int × Int} {ob : Obj} (hB : B + 2 ≤ wr.heap.size) (hr : (comp qs)[j]? = some lo) (h : Seg os qs j ta Bt B w0 r wr)
    (h1 : w'.ownsRow (B + 2) 79 2 v' (comp (os ++ List.replicate n.toNat o)).length (runCells (comp (os ++ List.replicate n.toNat o))))
    (hg : (wr.alloc ob).grownBy w' r.ownBlock) (hat : v'.ownBlock = r.ownBlock ∨ ∃ k, (wr.alloc ob).heap.size ≤ k ∧ v'.ownBlock = some k) :
    Seg (os ++ List.replicate n.toNat o) qs (j + 1) ta Bt B w0 v' w' := by
  obtain ⟨hown, hta, hne, hbw, _⟩ := h
  have hj : j < (comp qs).length := (List.getElem?_eq_some_iff.1 hr).1
  refine ⟨h1, ?_, ?_, ?_, by omega⟩
  · refine (hta.alloc ob).kept hg ?_
    cases hr : r.ownBlock with
    | none => cases ht : ta.ownBlock <;> simp
    | some g => exact .inr (hne g hr)
  · intro g hgv
    rcases hat with h | ⟨k, hk, h⟩
    · exact hne g (h.symm.trans hgv)
    · rw [h] at hgv
      injection hgv with hgv
      subst hgv
      intro e2
      have := (hta.lt _ e2).2
      simp at hk
      omega
  · exact (hbw.alloc (by omega) ob).grown hg (by simp; omega) (fun k hk => (hown.lt k hk).1)

theorem expand_next {rr : List (Int × Int)} {j : Nat} {l o : Int} (h : rr[j]? = some (l, o)) : expand (rr.take (j + 1)) = expand (rr.take j) ++ List.replicate l.toNat o := by
  rw [take_next h, expand_append]; simp [expand]

/-- the origins of a cut, so far -/
theorem cut_next (x y : List Int) (l a b : Nat) (o : Int) :
    ((x ++ List.replicate l o ++ y).take (min (x.length + l) b)).drop a = ((x ++ List.replicate l o ++ y).take (min x.length b)).drop a ++ List.replicate (min (b : Int) ((x.length : Int) + l) - max (a : Int) x.length).toNat o := by
  have h1 : (x ++ List.replicate l o ++ y).take (min x.length b) = x.take (min x.length b) := by
    rw [List.append_assoc, List.take_append_of_le_length (by omega)]
  have h2 : (x ++ List.replicate l o ++ y).take (min (x.length + l) b) = x.take (min x.length b) ++ List.replicate (min (x.length + l) b - min x.length b) o := by
    rw [List.take_append_of_le_length (by simp; omega), List.take_append, List.take_replicate]
    congr 1
    · by_cases hb : x.length ≤ b
      · rw [List.take_of_length_le (by omega), List.take_of_length_le (by omega)]
      · congr 1; omega
    · congr 1; omega
  rw [h2, h1, List.drop_append, List.drop_replicate]
  congr 2
  rw [List.length_take]
  omega

def CutRel (qs : List Int) (a b : Nat) (ta : Value) (Bt B : Nat) (w0 : World) (r at_ i : Value) (wr : World) : Prop :=
  ∃ j : Nat, i = .int .i64 j ∧ at_ = .int .i64 ((expand ((comp qs).take j)).length : Int) ∧ Seg ((qs.take (min (expand ((comp qs).take j)).length b)).drop a) qs j ta Bt B w0 r wr

theorem extract_list (s : ByteArray) (a b : Nat) : s.extract a b = ⟨((s.data.toList.take b).drop a).toArray⟩ := by
  apply ByteArray.ext
  apply Array.toList_inj.1
  rw [ByteArray.data_extract, Array.toList_extract]
  simp [List.drop_take]

set_option maxHeartbeats 2000000 in
set_option maxRecDepth 100000 in
theorem cut_any (s : ByteArray) (A : Option Addr) (n c : Nat) (rs : List (Int × Int)) (f t : Int) (a b : Nat) (w : World) (hl : Lies w w.heap.size A (runCells rs)) (hn : rs.length = n) (hs : s.size ≤ 4294967296) (hn2 : n ≤ 4294967296)
    (ha : min (max f 0) (s.size : Int) = a) (hb : min (max t 0) (s.size : Int) = b) :
    Calls Tryz.prog 68 #[.agg #[.string s, .slice A n c], .int .i64 f, .int .i64 t] w (Tells ⟨((s.data.toList.take b).drop a).toArray⟩ (comp (((origins s.size rs).take b).drop a)) w) := by
  have HN := Lib.hid hn
  have has : a ≤ s.size := by omega
  have hbs : b ≤ s.size := by omega
  have HA := Lib.hid ha
  have HB := Lib.hid hb
  clear hn ha hb
  go_enter Tryz.func68, Tryz.ntmps68
  go_wp2_with fail
  generalize hw0 : (w.alloc (.cells #[.string s, .slice A n c] 28)).alloc (.cells #[.string ⟨#[]⟩, .slice none 0 0] 28) = w0
  have y0 : Whole w0 w.heap.size 28 #[.string s, .slice A n c] := by rw [← hw0]; exact (Whole.made w _ _).alloc _
  have y1 : Whole w0 (w.heap.size + 1) 28 #[.string ⟨#[]⟩, .slice none 0 0] := by
    rw [← hw0]
    have h := Whole.made (w.alloc (.cells #[.string s, .slice A n c] 28)) 28 #[.string ⟨#[]⟩, .slice none 0 0]
    simp only [World.size_alloc] at h
    exact h
  have hz0 : w.heap.size + 2 ≤ w0.heap.size := by rw [← hw0]; simp
  have hl0 : Lies w0 w0.heap.size A (runCells rs) := by rw [← hw0]; exact ((hl.alloc (Nat.le_refl _) _).alloc (by simp) _).mono (by simp; omega)
  have hb0 : Below w.heap.size w w0 := by rw [← hw0]; exact ((Below.refl _ _).alloc (Nat.le_refl _) _).alloc (by simp) _
  have HW := Lib.hid hw0
  clear hw0
  have c0 : w0.cell? ⟨w.heap.size, 0, none⟩ = some (.string s) := y0.at_ 0
  have c1 : w0.cell? ⟨w.heap.size, 1, none⟩ = some (.slice A n c) := y0.at_ 1
  refine (place_any _ _ _).mono ?_
  rintro e w' ⟨rfl, rfl⟩
  rw [HA.out]
  go_wp2_with fail
  refine (place_any _ _ _).mono ?_
  rintro e w' ⟨rfl, rfl⟩
  rw [HB.out]
  by_cases hba : b ≤ a
  · have f0 := y1.free 0
    have f1 := y1.free 1
    have d0 : w0.cell? ⟨w.heap.size + 1, 0, none⟩ = some (.string ⟨#[]⟩) := y1.at_ 0
    have d1 : w0.cell? ⟨w.heap.size + 1, 1, none⟩ = some (.slice none 0 0) := y1.at_ 1
    have H1 : Hid ((s.data.toList.take b).drop a = []) := List.drop_eq_nil_of_le (by rw [List.length_take]; omega)
    have H2 : Hid (((origins s.size rs).take b).drop a = []) := List.drop_eq_nil_of_le (by rw [List.length_take]; omega)
    go_wp2_with fail
    refine bodyPost_ret (v := .agg #[.string ⟨#[]⟩, .slice none 0 0]) ?_ rfl ?_
    · simp [results, Tryz.results68, go_sem, d0, d1]
    · rw [H1.out, H2.out]
      exact tells_end (g := w.heap.size + 1) (s := ⟨#[]⟩) (rs := []) (Nat.le_succ _) (World.ownsRow_nil _ _ _ _) hb0
  · go_wp2_with fail
    refine (taken_any s A n c rs _ hl0 HN.out hs hn2).mono ?_
    rintro e w2 ⟨ta, rfl, hta, hbT⟩
    unfold taken at *
    generalize hqs : origins s.size rs = qs at *
    have hql0 : qs.length = s.size := by rw [← hqs, origins_length]
    have hql : qs.length ≤ s.size := by omega
    have HQL := Lib.hid hql0
    have HQS := Lib.hid hqs
    clear hqs c0 c1 hql0
    obtain ⟨At, ct, rfl, _, _, _⟩ := own_form hta
    have hcl := comp_length_le qs
    have hbw2 : Below (w.heap.size + 2) w0 w2 := hbT.mono hz0
    go_wp2_with fail
    obtain ⟨wo, rfl⟩ : ∃ wo : World, wo = w2 := ⟨_, rfl⟩
    go_loopw [8, 9, 28] (CutRel qs a b (.slice At (comp qs).length ct) w0.heap.size w.heap.size w0) (fun _ _ i _ => (comp qs).length - (intOf i).toNat)
    case atStart => exact ⟨0, rfl, by simp [expand], by simpa [expand, comp, runCells] using World.ownsRow_nil _ _ _ _, hta, by simp [Value.ownBlock], hbw2, Nat.zero_le _⟩
    case round =>
      obtain ⟨j, rfl, rfl, hseg⟩ := hrel
      have hj := hseg.2.2.2.2
      have hws := hseg.2.2.2.1.size
      have HS := Lib.hid hseg
      clear hseg
      have hexl := expand_take_le qs j
      by_cases hjl : j < (comp qs).length
      · obtain ⟨ad', l, p, rfl, hbA, hd1, hd2, HR2⟩ := (Lies.own HS.out.2.1).run (k := j) hjl
        have hlo : l ≤ qs.length := comp_le qs (l, p) (List.mem_of_getElem? HR2.out)
        have hlp : 1 ≤ l := comp_pos qs (l, p) (List.mem_of_getElem? HR2.out)
        have hjb : j ≤ 4294967296 := by omega
        have HX := Lib.hid (expand_next HR2.out)
        have HNX : Hid ((qs.take (min (expand ((comp qs).take (j + 1))).length b)).drop a = (qs.take (min (expand ((comp qs).take j)).length b)).drop a ++ List.replicate (min (b : Int) (((expand ((comp qs).take j)).length : Int) + l) - max (a : Int) (expand ((comp qs).take j)).length).toNat p) := by
          show _ = _
          have hsplit : qs = expand ((comp qs).take j) ++ List.replicate l.toNat p ++ expand ((comp qs).drop (j + 1)) := by
            rw [← HX.out, ← expand_append, List.take_append_drop, expand_comp]
          have h := cut_next (expand ((comp qs).take j)) (expand ((comp qs).drop (j + 1))) l.toNat a b p
          rw [← hsplit] at h
          rw [HX.out, List.length_append, List.length_replicate, h]
          congr 3
          omega
        have hxl1 : (expand ((comp qs).take (j + 1))).length = (expand ((comp qs).take j)).length + l.toNat := by rw [HX.out, List.length_append, List.length_replicate]
        have hxl := expand_take_le qs (j + 1)
        have HXL := Lib.hid hxl1
        clear hxl1
        generalize hd : (expand ((comp qs).take j)).length = d at *
        generalize hz : (comp qs).length = z at *
        have HZ := Lib.hid hz
        have HD := Lib.hid hd
        clear hz hd
        go_wp2_with fail
        refine (join_comp (w.heap.size + 2) u8 ((qs.take (min d b)).drop a) (min (b : Int) ((d : Int) + l) - max (a : Int) d) p _ (HS.out.1.alloc _) (by simp; omega) (by rw [List.length_drop, List.length_take]; omega) (by omega)).mono ?_
        rintro e w5 ⟨v', rfl, hown5, hg5, hat5⟩
        have HIN := Lib.hid (seg_in (by omega) HR2.out HS.out hown5 hg5 hat5)
        have hcp : w5.cell? ⟨wr.heap.size, 0, none⟩ = some (.int .i64 l) := (Whole.grown (Whole.made wr 79 #[.int .i64 l, .int .i64 p]) hg5 (fun e => by have := (HS.out.1.lt _ e.symm).2; omega)).at_ 0
        clear hg5 hat5 hown5
        go_wp2
        go_roundw
        case rel => exact ⟨j + 1, by go_num, by rw [HXL.out]; simp; omega, by rw [HNX.out]; exact HIN.out⟩
        case measure => simp [intOf]; omega
      · have H3 := HS.out.1
        have hmn : min (expand ((comp qs).take j)).length b = b := by
          rw [List.take_of_length_le (by omega), expand_comp]; have := HQL.out; omega
        rw [hmn] at H3
        have HB2 := HS.out.2.2.2.1
        have hW0 := y0.below HB2 (by omega)
        have e0 : wr.cell? ⟨w.heap.size, 0, none⟩ = some (.string s) := hW0.at_ 0
        clear hmn
        generalize hd : (expand ((comp qs).take j)).length = d at *
        generalize hz : (comp qs).length = z at *
        have HZ := Lib.hid hz
        have HD := Lib.hid hd
        clear hz hd
        go_wp2_with fail
        refine (clone_any (s.extract a b) _ (by rw [ByteArray.size_extract]; omega)).mono ?_
        rintro e w5 ⟨rfl, hb5⟩
        rw [extract_list]
        have H5 := own_keep H3 hb5
        have hW5 := (y1.below HB2 (by omega)).below hb5 (by omega)
        obtain ⟨A5, c5, rfl, _, _, _⟩ := own_form H5
        have f0 := hW5.free 0
        have f1 := hW5.free 1
        have d0 : w5.cell? ⟨w.heap.size + 1, 0, none⟩ = some (.string ⟨#[]⟩) := hW5.at_ 0
        have d1 : w5.cell? ⟨w.heap.size + 1, 1, none⟩ = some (.slice none 0 0) := hW5.at_ 1
        clear H3
        generalize comp ((qs.take b).drop a) = res at *
        have HO := Lib.hid H5
        clear H5
        generalize (s.data.toList.take b).drop a = st at *
        go_wp2
        refine bodyPost_ret (v := .agg #[.string ⟨st.toArray⟩, .slice A5 res.length c5]) ?_ rfl ?_
        · simp [results, Tryz.results68, go_sem, d0, d1]
        · exact tells_end (g := w.heap.size + 1) (Nat.le_succ _) HO.out (below_next (hb0.trans (HB2.mono (by omega))) (Nat.le_refl _) hb5)

end Go.Proofs.YtnbdldapmllegaaGreat.mk

namespace Go.Proofs.YtnbdldapmllegaaGreat.mk
open Go.RowKit

end Go.Proofs.YtnbdldapmllegaaGreat.mk

namespace Go.Proofs.YtnbdldapmllegaaGreat.mk
open Go.RowKit

/-! which bytes it has not -/
end Go.Proofs.YtnbdldapmllegaaGreat.mk

namespace Go.Proofs.YtnbdldapmllegaaGreat.mk
open Go.RowKit

/-- the greatest origin, 0 of none -/
def worstO (l : List Int) : Int := l.foldl max 0
theorem worstO_append (a b : List Int) : worstO (a ++ b) = b.foldl max (worstO a) := by unfold worstO; rw [List.foldl_append]
theorem foldl_max_replicate (n : Nat) (o acc : Int) (h : 0 < n) : (List.replicate n o).foldl max acc = max acc o := by
  induction n generalizing acc with
  | zero => omega
  | succ n ih =>
    rw [List.replicate_succ, List.foldl_cons]
    rcases Nat.eq_zero_or_pos n with rfl | h0
    · rfl
    · rw [ih _ h0]; omega

def WorstRel (qs : List Int) (ta : Value) (Bt : Nat) (w0 : World) (v i : Value) (wr : World) : Prop :=
  ∃ j : Nat, j ≤ (comp qs).length ∧ i = .int .i64 j ∧ v = .int .i64 (worstO (expand ((comp qs).take j))) ∧ wr.ownsRow Bt 79 2 ta (comp qs).length (runCells (comp qs)) ∧ Below w0.heap.size w0 wr

set_option maxHeartbeats 1000000 in
set_option maxRecDepth 100000 in
theorem worst_any (s : ByteArray) (A : Option Addr) (n c : Nat) (rs : List (Int × Int)) (w : World) (hl : Lies w w.heap.size A (runCells rs)) (hn : rs.length = n) (hs : s.size ≤ 4294967296) (hn2 : n ≤ 4294967296) :
    Calls Tryz.prog 21 #[.agg #[.string s, .slice A n c]] w fun e w' => e = .returned (.int .i64 (worstO (origins s.size rs))) ∧ Below w.heap.size w w' := by
  have HN := Lib.hid hn
  clear hn
  go_enter Tryz.func21, Tryz.ntmps21
  go_wp2_with fail
  refine (taken_any s A n c rs _ ((hl.alloc (Nat.le_refl _) _).mono (by simp)) HN.out hs hn2).mono ?_
  rintro e w2 ⟨ta, rfl, hta, hbT⟩
  have hbw : Below w.heap.size w w2 := ((Below.refl _ _).alloc (Nat.le_refl _) _).trans (hbT.mono (by simp))
  have hz2 := hbw.size
  unfold taken at *
  generalize hqs : origins s.size rs = qs at *
  have hql : qs.length ≤ s.size := by rw [← hqs, origins_length]; exact Nat.le_refl _
  have HQS := Lib.hid hqs
  clear hqs
  obtain ⟨At, ct, rfl, _, _, _⟩ := own_form hta
  have hcl := comp_length_le qs
  go_wp2_with fail
  obtain ⟨wo, rfl⟩ : ∃ wo : World, wo = w2 := ⟨_, rfl⟩
  go_loopw [3, 9] (WorstRel qs (.slice At (comp qs).length ct) w.heap.size w) (fun _ i _ => (comp qs).length - (intOf i).toNat)
  case atStart => exact ⟨0, Nat.zero_le _, rfl, by simp [expand, worstO], own_mono hta (by simp), hbw⟩
  case round =>
    obtain ⟨j, hj, rfl, rfl, hta3, hbl⟩ := hrel
    have hws := hbl.size
    by_cases hjl : j < (comp qs).length
    · obtain ⟨ad', l, p, rfl, hbA, hd1, hd2, HR2⟩ := (Lies.own hta3).run (k := j) hjl
      have hlp : 1 ≤ l := comp_pos qs (l, p) (List.mem_of_getElem? HR2.out)
      have HNX : Hid (worstO (expand ((comp qs).take (j + 1))) = max (worstO (expand ((comp qs).take j))) p) := by
        show _ = _
        rw [expand_next HR2.out, worstO_append, foldl_max_replicate _ _ _ (by omega)]
      generalize hz : (comp qs).length = z at *
      have HT := Lib.hid hta3
      have HZ := Lib.hid hz
      clear hz hta3 hta
      generalize hx : worstO (expand ((comp qs).take j)) = x at *
      clear hx
      go_wp2_with fail
      go_roundw
      case rel => exact ⟨j + 1, by rw [HZ.out]; omega, by go_num, by rw [HNX.out], by rw [HZ.out]; exact HT.out.alloc _, hbl.alloc (by omega) _⟩
      case measure => simp [intOf]; omega
    · have HE : Hid (worstO (expand ((comp qs).take j)) = worstO qs) := by
        show _ = _
        rw [List.take_of_length_le (by omega), expand_comp]
      generalize hz : (comp qs).length = z at *
      clear hz
      go_wp2_with fail
      go_ret
      exact ⟨ret_int (HE.out.trans (congrArg worstO HQS.out.symm)), hbl⟩

set_option maxHeartbeats 1000000 in
set_option maxRecDepth 100000 in
theorem pure_any (s : ByteArray) (A : Option Addr) (n c : Nat) (rs : List (Int × Int)) (w : World) (hl : Lies w w.heap.size A (runCells rs)) (hn : rs.length = n) (hs : s.size ≤ 4294967296) (hn2 : n ≤ 4294967296) :
    Calls Tryz.prog 36 #[.agg #[.string s, .slice A n c]] w fun e w' => e = .returned (.bool (worstO (origins s.size rs) == 0)) ∧ Below w.heap.size w w' := by
  go_enter Tryz.func36, Tryz.ntmps36
  go_wp2_with fail
  refine (worst_any s A n c rs _ ((hl.alloc (Nat.le_refl _) _).mono (by simp)) hn hs hn2).mono ?_
  rintro e w2 ⟨rfl, hb⟩
  generalize hx : worstO (origins s.size rs) = x at *
  have HX := Lib.hid hx
  clear hx
  go_wp2
  go_ret
  exact ⟨by rw [HX.out]; rfl, ((Below.refl _ _).alloc (Nat.le_refl _) _).trans (hb.mono (by simp))⟩

end Go.Proofs.YtnbdldapmllegaaGreat.mk

namespace Go.Proofs.YtnbdldapmllegaaGreat.mk
open Go.RowKit

def worC (l : List (UInt8 × Int)) : Int := worstO (l.map (·.2))
theorem worstO_in {l : List Int} (h : ∀ o ∈ l, 0 ≤ o ∧ o ≤ 65536) : 0 ≤ worstO l ∧ worstO l ≤ 65536 := by
  have key : ∀ (l : List Int) (acc : Int), (∀ o ∈ l, 0 ≤ o ∧ o ≤ 65536) → 0 ≤ acc ∧ acc ≤ 65536 → 0 ≤ l.foldl max acc ∧ l.foldl max acc ≤ 65536 := by
    intro l
    induction l with
    | nil => intro acc _ h; exact h
    | cons x l ih => intro acc hl h; rw [List.foldl_cons]; exact ih _ (fun o ho => hl o (by simp [ho])) (by have := hl x (by simp); omega)
  exact key l 0 h (by omega)
end Go.Proofs.YtnbdldapmllegaaGreat.mk

namespace Go.Proofs.YtnbdldapmllegaaGreat.mk
open Go.RowKit

/-- runs as they should be -/
def Good (rs : List (Int × Int)) : Prop := ∀ r ∈ rs, 1 ≤ r.1 ∧ 0 ≤ r.2 ∧ r.2 ≤ 65536
theorem Good.nil : Good [] := by intro r h; simp at h
theorem Good.append {a b : List (Int × Int)} (ha : Good a) (hb : Good b) : Good (a ++ b) := by
  intro r h
  rcases List.mem_append.1 h with h | h
  · exact ha r h
  · exact hb r h
theorem Good.one {l o : Int} (h : 1 ≤ l ∧ 0 ≤ o ∧ o ≤ 65536) : Good [(l, o)] := by intro r hr; simp at hr; subst hr; exact h
theorem Good.tail {r : Int × Int} {a : List (Int × Int)} (h : Good (r :: a)) : Good a := fun x hx => h x (by simp [hx])
theorem Good.comp {l : List Int} (h : ∀ o ∈ l, 0 ≤ o ∧ o ≤ 65536) : Good (mk.comp l) := by
  intro r hr
  have h1 := comp_pos l r hr
  have h2 : r.2 ∈ expand (mk.comp l) := by
    unfold expand
    rw [List.mem_flatMap]
    exact ⟨r, hr, by rw [List.mem_replicate]; exact ⟨by omega, rfl⟩⟩
  rw [expand_comp] at h2
  exact ⟨h1, h r.2 h2⟩
theorem good_length {a : List (Int × Int)} (h : Good a) : a.length ≤ (expand a).length := by
  induction a with
  | nil => simp
  | cons r a ih =>
    have h1 := h r (by simp)
    have h2 := ih h.tail
    simp only [expand, List.flatMap_cons, List.length_append, List.length_replicate, List.length_cons] at h2 ⊢
    omega
theorem expand_cons (r : Int × Int) (a : List (Int × Int)) : expand (r :: a) = List.replicate r.1.toNat r.2 ++ expand a := by simp [expand]
theorem expand_one (l o : Int) : expand [(l, o)] = List.replicate l.toNat o := by simp [expand]

/-- the variable in block bv is a slice of block g that holds these runs -/
def RunsAt (w : World) (bv g : Nat) (qs : List (Int × Int)) : Prop :=
  ∃ A n c, Whole w bv 26 #[.slice A n c] ∧ qs.length = n ∧ n ≤ c ∧ (0 < n → ∃ off cs, A = some ⟨g, off, none⟩ ∧ Whole w g 79 cs ∧ ∀ j u, (runCells qs)[j]? = some u → cs[off + j]? = some u)
def Two (bv g : Nat) (k : Nat) : Prop := k = bv ∨ k = g

theorem run_tail {l o : Int} {qs : List (Int × Int)} {cs : Array Value} {off : Nat} (h : ∀ j u, (runCells ((l, o) :: qs))[j]? = some u → cs[off + j]? = some u) (v : Value) : ∀ j u, (runCells qs)[j]? = some u → (cs.setIfInBounds off v)[off + 2 + j]? = some u := by
  intro j u hu
  rw [Array.getElem?_setIfInBounds_ne (by omega), Nat.add_assoc]
  refine h (2 + j) u ?_
  rw [show 2 + j = j + 1 + 1 by omega]
  exact hu
theorem take_cut {w : World} {bv g n c off : Nat} {cs : Array Value} {l o l' : Int} {qs : List (Int × Int)} (hne : bv ≠ g) (hV : Whole w bv 26 #[.slice (some ⟨g, off, none⟩) n c]) (hW : Whole w g 79 cs) (hn : qs.length + 1 = n) (hc : n ≤ c)
    (h : ∀ j u, (runCells ((l, o) :: qs))[j]? = some u → cs[off + j]? = some u) : RunsAt (w.setCell ⟨g, off, none⟩ (.int .i64 l')) bv g ((l', o) :: qs) := by
  refine ⟨_, n, c, hV.far _ hne _, by simpa using hn, hc, fun _ => ⟨off, _, rfl, hW.put off _, ?_⟩⟩
  intro j u hu
  have x0 := h 0 (.int .i64 l) rfl
  rcases j with _ | j
  · have e : u = .int .i64 l' := by simpa [runCells] using hu.symm
    rw [e, Nat.add_zero, Array.getElem?_setIfInBounds_self_of_lt (by simpa using (Array.getElem?_eq_some_iff.1 x0).1)]
  · rw [Array.getElem?_setIfInBounds_ne (by omega)]
    exact h (j + 1) u hu
theorem take_drop {w : World} {bv g n c off : Nat} {A A' : Option Addr} {cs : Array Value} {l o : Int} {qs : List (Int × Int)} (hne : bv ≠ g) (hV : Whole w bv 26 #[.slice A n c]) (hW : Whole w g 79 cs) (hn : qs.length + 1 = n) (hc : n ≤ c)
    (h : ∀ j u, (runCells ((l, o) :: qs))[j]? = some u → cs[off + j]? = some u) (hA : 1 < c → A' = some ⟨g, off + 2, none⟩) (v : Value) : RunsAt ((w.setCell ⟨g, off, none⟩ v).setCell ⟨bv, 0, none⟩ (.slice A' (n - 1) (c - 1))) bv g qs := by
  refine ⟨A', n - 1, c - 1, (hV.far ⟨g, off, none⟩ hne _).put 0 _, by omega, by omega, fun hp => ⟨off + 2, _, hA (by omega), (hW.put off v).far ⟨bv, 0, none⟩ (Ne.symm hne) _, run_tail h v⟩⟩
theorem take_own {w : World} {base z : Nat} {v' : Value} {ts : List (Int × Int)} {k o : Int} (hz : ts.length = z) (h : w.ownsRow base 79 2 v' (z + 1) (runCells ts ++ [.int .i64 k, .int .i64 o])) :
    w.ownsRow base 79 2 v' (ts ++ [(k, o)]).length (runCells (ts ++ [(k, o)])) := by
  rw [runCells_append, List.length_append, hz]
  exact h

def TakeRel (qs0 : List (Int × Int)) (m0 bv g : Nat) (w0 : World) (m v : Value) (wr : World) : Prop :=
  ∃ (k : Nat) (ts qs : List (Int × Int)), m = .int .i64 (k : Int) ∧ wr.ownsRow w0.heap.size 79 2 v ts.length (runCells ts) ∧ RunsAt wr bv g qs ∧ Good ts ∧ Good qs ∧ expand ts ++ expand qs = expand qs0 ∧ (expand ts).length + k = m0 ∧ Moved (Two bv g) w0 wr

/-- what is told: runs for m bytes; the variable holds the others -/
def UtfTakes (qs0 : List (Int × Int)) (m0 bv g : Nat) (w : World) (e : Ending) (w' : World) : Prop :=
  ∃ v ts qs, e = .returned v ∧ w'.ownsRow w.heap.size 79 2 v ts.length (runCells ts) ∧ RunsAt w' bv g qs ∧ Good ts ∧ Good qs ∧ expand ts ++ expand qs = expand qs0 ∧ (expand ts).length = m0 ∧ Moved (Two bv g) w w'

set_option maxHeartbeats 1000000 in
set_option maxRecDepth 100000 in
theorem take_any (qs0 : List (Int × Int)) (m0 bv g : Nat) (w : World) (hr : RunsAt w bv g qs0) (hg : Good qs0) (hm : m0 ≤ (expand qs0).length) (hz : (expand qs0).length ≤ 4294967296) (hbv : bv < w.heap.size) (hgl : g < w.heap.size) :
    Calls Tryz.prog 70 #[.int .i64 m0, .pointer (some ⟨bv, 0, none⟩)] w (UtfTakes qs0 m0 bv g w) := by
  obtain ⟨i0, hi, hz0, hz1, hz2⟩ := info_parts run_info
  go_enter Tryz.func70, Tryz.ntmps70
  go_wp2_with fail
  go_loopw [0, 4] (TakeRel qs0 m0 bv g w) (fun m _ _ => (intOf m).toNat)
  case atStart => exact ⟨m0, [], qs0, rfl, World.ownsRow_nil _ _ _ _, hr, Good.nil, hg, by simp [expand], by simp [expand], Moved.refl _ _⟩
  case round =>
    obtain ⟨k, ts, qs, rfl, hown, ⟨A, n, c, hV, hn, hnc, hcell⟩, hgt, hgq, hex, hlen, hmv⟩ := hrel
    have hws := hmv.size
    have c0 : wr.cell? ⟨bv, 0, none⟩ = some (.slice A n c) := hV.at_ 0
    have hkz : (expand ts).length + (expand qs).length = (expand qs0).length := by rw [← List.length_append, hex]
    obtain ⟨A4, d4, rfl, _, _, _⟩ := own_form hown
    by_cases hk : 0 < k
    · cases qs with
      | nil => exfalso; have h0 : (expand ([] : List (Int × Int))).length = 0 := rfl; omega
      | cons r qs1 =>
        obtain ⟨l, o⟩ := r
        have hn' : qs1.length + 1 = n := by simpa using hn
        obtain ⟨off, cs, rfl, hW, hcs⟩ := hcell (by omega)
        obtain ⟨hl1, ho1, ho2⟩ := hgq (l, o) (by simp)
        simp only at hl1 ho1 ho2
        have hne : bv ≠ g := by
          intro e
          subst e
          have h1 := hV
          have h2 := hW
          unfold Whole at h1 h2
          rw [h1] at h2
          injection h2 with h2
          injection h2 with _ h2
          exact absurd h2 (by decide)
        have x0 := hcs 0 (.int .i64 l) rfl
        have x1 := hcs 1 (.int .i64 o) rfl
        have d0 : wr.cell? ⟨g, off, none⟩ = some (.int .i64 l) := (hW.at_ off).trans x0
        have d1 : wr.cell? ⟨g, off + 1, none⟩ = some (.int .i64 o) := (hW.at_ (off + 1)).trans x1
        have e1 := expand_cons (l, o) qs1
        have hl2 : l ≤ 4294967296 := by
          have := congrArg List.length e1
          rw [List.length_append, List.length_replicate] at this
          simp only at this
          omega
        have hk2 : k ≤ 4294967296 := by omega
        have hn0 : (0 : Int) < n := by omega
        have HN := Lib.hid hn'
        have HCS := Lib.hid hcs
        have HEX := Lib.hid hex
        have HLEN := Lib.hid hlen
        have HE1 := Lib.hid e1
        have htl := good_length hgt
        have X0 := Lib.hid x0
        clear hn hn' hcs hex hlen e1 x0 x1 hcell
        generalize hz : ts.length = z at *
        have HZ := Lib.hid hz
        clear hz
        by_cases hkl : (k : Int) < l
        · have hmin : min (k : Int) l = (k : Int) := by omega
          go_wp2_with (at_builtin; refine wpList_append_own_at _ rfl _ _ 26 rfl w.heap.size 79 i0 _ 2 16 Tryz.underlying26 hi hz0 hz1 hz2 rfl (by decide) (.slice A4 z d4) z _ rfl (hown.alloc _) ⟨wr.heap.size, 0, none⟩ 1 1 [.int .i64 (k : Int), .int .i64 o] rfl rfl (cells_new wr _ _) (by simp [Value.oneCell']) (by simp only [maxLen]; omega) (by omega) (by simp; omega) ?_)
          intro v' w1 hown1 hgrow _ _
          obtain ⟨A5, d5, rfl, _, _, _⟩ := own_form hown1
          have hfar : ∀ x, x < w.heap.size → some x ≠ (Value.slice A4 z d4).ownBlock := fun x hx e => by have := hown.lt x e.symm; omega
          have hV1 : Whole w1 bv 26 _ := (hV.alloc _).grown hgrow (hfar _ hbv)
          have hW1 : Whole w1 g 79 cs := (hW.alloc _).grown hgrow (hfar _ hgl)
          have y0 : w1.cell? ⟨bv, 0, none⟩ = some (.slice (some ⟨g, off, none⟩) n c) := hV1.at_ 0
          have y1 : w1.cell? ⟨g, off, none⟩ = some (.int .i64 l) := (hW1.at_ off).trans X0.out
          have y2 := hW1.free off
          have y3 := hV1.free 0
          have hmv1 : Moved (Two bv g) w w1 := (hmv.alloc _).grown hgrow (fun x hx => (hown.lt x hx).1)
          have hlt5 := hown1.lt
          have HMV := Lib.hid hmv1
          have HO1 := Lib.hid hown1
          have HL5 : Hid (∀ x, x < w.heap.size → (Value.slice A5 (z + 1) d5).ownBlock ≠ some x) := fun x hx e => by have := hlt5 x e; omega
          clear hgrow hfar hmv1 hown1 hlt5 c0 d0 d1 hmv hown hV hW
          go_wp2_with fail
          go_roundw
          case rel =>
            refine ⟨0, ts ++ [((k : Int), o)], (l - k, o) :: qs1, by go_num, ?_, take_cut hne hV1 hW1 HN.out hnc HCS.out, hgt.append (Good.one ⟨by omega, ho1, ho2⟩), ?_, ?_, ?_, ?_⟩
            · exact own_far (take_own HZ.out HO1.out) _ (HL5.out _ hgl) _
            · exact (Good.one ⟨by omega, ho1, ho2⟩).append hgq.tail
            · rw [← HEX.out, expand_append, expand_one, expand_cons, HE1.out]
              simp only [List.append_assoc]
              rw [← List.append_assoc (List.replicate _ _) (List.replicate _ _), List.replicate_append_replicate]
              congr 3
              omega
            · rw [expand_append, expand_one, List.length_append, List.length_replicate]; have := HLEN.out; omega
            · exact HMV.out.setCell (.inr rfl) _
          case measure => simp [intOf]; omega
        · have hmin : min (k : Int) l = l := by omega
          by_cases hc1 : c = 1
          · subst hc1
            go_wp2_with (at_builtin; refine wpList_append_own_at _ rfl _ _ 26 rfl w.heap.size 79 i0 _ 2 16 Tryz.underlying26 hi hz0 hz1 hz2 rfl (by decide) (.slice A4 z d4) z _ rfl (hown.alloc _) ⟨wr.heap.size, 0, none⟩ 1 1 [.int .i64 l, .int .i64 o] rfl rfl (cells_new wr _ _) (by simp [Value.oneCell']) (by simp only [maxLen]; omega) (by omega) (by simp; omega) ?_)
            intro v' w1 hown1 hgrow _ _
            obtain ⟨A5, d5, rfl, _, _, _⟩ := own_form hown1
            have hfar : ∀ x, x < w.heap.size → some x ≠ (Value.slice A4 z d4).ownBlock := fun x hx e => by have := hown.lt x e.symm; omega
            have hV1 : Whole w1 bv 26 _ := (hV.alloc _).grown hgrow (hfar _ hbv)
            have hW1 : Whole w1 g 79 cs := (hW.alloc _).grown hgrow (hfar _ hgl)
            have y0 : w1.cell? ⟨bv, 0, none⟩ = some (.slice (some ⟨g, off, none⟩) n 1) := hV1.at_ 0
            have y1 : w1.cell? ⟨g, off, none⟩ = some (.int .i64 l) := (hW1.at_ off).trans X0.out
            have y2 := hW1.free off
            have y3 := hV1.free 0
            have hmv1 : Moved (Two bv g) w w1 := (hmv.alloc _).grown hgrow (fun x hx => (hown.lt x hx).1)
            have hlt5 := hown1.lt
            have HMV := Lib.hid hmv1
            have HO1 := Lib.hid hown1
            have HL5 : Hid (∀ x, x < w.heap.size → (Value.slice A5 (z + 1) d5).ownBlock ≠ some x) := fun x hx e => by have := hlt5 x e; omega
            clear hgrow hfar hmv1 hown1 hlt5 c0 d0 d1 hmv hown hV hW
            go_wp2_with fail
            go_roundw
            case rel =>
              refine ⟨k - l.toNat, ts ++ [(l, o)], qs1, ?_, ?_, ?_, hgt.append (Good.one ⟨by omega, ho1, ho2⟩), hgq.tail, ?_, ?_, ?_⟩
              · exact congrArg (Value.int .i64) (by omega)
              · exact own_far (own_far (take_own HZ.out HO1.out) _ (HL5.out _ hgl) _) _ (HL5.out _ hbv) _
              · (have h := take_drop (c := 1) (A' := some ⟨g, off, none⟩) hne hV1 hW1 HN.out hnc HCS.out (fun h => absurd h (by omega)) (.int .i64 0); rw [show n - 1 = 0 by omega] at h; exact h)
              · rw [← HEX.out, expand_append, expand_one, HE1.out]
                simp only [List.append_assoc]
              · rw [expand_append, expand_one, List.length_append, List.length_replicate]; have := HLEN.out; omega
              · exact (HMV.out.setCell (.inr rfl) _).setCell (.inl rfl) _
            case measure => simp [intOf]; omega
          · have hc2 : 1 < c := by omega
            go_wp2_with (at_builtin; refine wpList_append_own_at _ rfl _ _ 26 rfl w.heap.size 79 i0 _ 2 16 Tryz.underlying26 hi hz0 hz1 hz2 rfl (by decide) (.slice A4 z d4) z _ rfl (hown.alloc _) ⟨wr.heap.size, 0, none⟩ 1 1 [.int .i64 l, .int .i64 o] rfl rfl (cells_new wr _ _) (by simp [Value.oneCell']) (by simp only [maxLen]; omega) (by omega) (by simp; omega) ?_)
            intro v' w1 hown1 hgrow _ _
            obtain ⟨A5, d5, rfl, _, _, _⟩ := own_form hown1
            have hfar : ∀ x, x < w.heap.size → some x ≠ (Value.slice A4 z d4).ownBlock := fun x hx e => by have := hown.lt x e.symm; omega
            have hV1 : Whole w1 bv 26 _ := (hV.alloc _).grown hgrow (hfar _ hbv)
            have hW1 : Whole w1 g 79 cs := (hW.alloc _).grown hgrow (hfar _ hgl)
            have y0 : w1.cell? ⟨bv, 0, none⟩ = some (.slice (some ⟨g, off, none⟩) n c) := hV1.at_ 0
            have y1 : w1.cell? ⟨g, off, none⟩ = some (.int .i64 l) := (hW1.at_ off).trans X0.out
            have y2 := hW1.free off
            have y3 := hV1.free 0
            have hmv1 : Moved (Two bv g) w w1 := (hmv.alloc _).grown hgrow (fun x hx => (hown.lt x hx).1)
            have hlt5 := hown1.lt
            have HMV := Lib.hid hmv1
            have HO1 := Lib.hid hown1
            have HL5 : Hid (∀ x, x < w.heap.size → (Value.slice A5 (z + 1) d5).ownBlock ≠ some x) := fun x hx e => by have := hlt5 x e; omega
            clear hgrow hfar hmv1 hown1 hlt5 c0 d0 d1 hmv hown hV hW
            go_wp2_with fail
            go_roundw
            case rel =>
              refine ⟨k - l.toNat, ts ++ [(l, o)], qs1, ?_, ?_, ?_, hgt.append (Good.one ⟨by omega, ho1, ho2⟩), hgq.tail, ?_, ?_, ?_⟩
              · exact congrArg (Value.int .i64) (by omega)
              · exact own_far (own_far (take_own HZ.out HO1.out) _ (HL5.out _ hgl) _) _ (HL5.out _ hbv) _
              · exact take_drop (c := c) hne hV1 hW1 HN.out hnc HCS.out (fun _ => rfl) _
              · rw [← HEX.out, expand_append, expand_one, HE1.out]
                simp only [List.append_assoc]
              · rw [expand_append, expand_one, List.length_append, List.length_replicate]; have := HLEN.out; omega
              · exact (HMV.out.setCell (.inr rfl) _).setCell (.inl rfl) _
            case measure => simp [intOf]; omega
    · obtain rfl : k = 0 := by omega
      go_wp2_with fail
      go_ret
      exact ⟨_, ts, qs, rfl, hown, ⟨A, n, c, hV, hn, hnc, hcell⟩, hgt, hgq, hex, by omega, hmv⟩

end Go.Proofs.YtnbdldapmllegaaGreat.mk

namespace Go.Proofs.YtnbdldapmllegaaGreat.mk
open Go.RowKit

end Go.Proofs.YtnbdldapmllegaaGreat.mk
