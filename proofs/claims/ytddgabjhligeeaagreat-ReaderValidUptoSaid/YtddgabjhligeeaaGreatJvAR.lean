/-
  Calls that tell labelled texts, as what they tell: Cat, Lower, Decode, Fix.
-/
import Derived.Test.YtddgabjhligeeaaGreatJvAH
import Derived.Test.YtddgabjhligeeaaGreatJvY
import Derived.Test.YtddgabjhligeeaaGreatJvAN
import Derived.Test.YtddgabjhligeeaaGreatJvAB
namespace Go.Proofs.YtddgabjhligeeaaGreat.mk
open Go.RowKit

/-- a labelled text is told, in memory of its own -/
def ToldO (l : Ch) (w : World) (e : Ending) (w' : World) : Prop :=
  ∃ t : LT, e = .returned (.agg #[.string t.s, .slice t.A t.n t.c]) ∧ Hid (t.ch = l ∧ OwnL w' w.heap.size t) ∧ Below w.heap.size w w'
theorem toldO_of {l : Ch} {w w' : World} {e : Ending} (hi : InR l) (hn : l.length ≤ 4294967296) (h : Tells (txtOf l) (comp (l.map (·.2))) w e w') : ToldO l w e w' := by
  obtain ⟨v, rfl, ho, hb⟩ := h
  obtain ⟨A, c, rfl, _, _, _⟩ := own_form ho
  exact ⟨toldT l A c, rfl, ⟨toldT_ch hi A c, rfl, ⟨Nat.le_trans (runN_le l) hn, by show comp (l.map (·.2)) = comp ((toldT l A c).ch.map (·.2)); rw [toldT_ch hi]⟩, by show (txtOf l).size ≤ _; rw [txtOf_size]; exact hn, ho⟩, hb⟩
theorem catCh_flat13 (us : List LT) : catCh us = (us.map LT.ch).flatten := by unfold catCh; rw [List.flatMap_def]
theorem InR.cat13 (us : List LT) : InR (catCh us) := by
  induction us with
  | nil => intro o ho; cases ho
  | cons u us ih => exact (u.ch_in).append ih
theorem cat13_any (us : List LT) (A : Option Addr) (n c : Nat) (w : World) (hl : Lies w w.heap.size A (ltCells us)) (hn : us.length = n) (hn2 : n ≤ 4294967296) (hok : ∀ u ∈ us, u.ok w w.heap.size) (hz : (catCh us).length ≤ 4294967296) :
    Calls Tryz.prog 54 #[.slice A n c] w (ToldO (catCh us) w) := (catl_any us A n c w hl hn hn2 hok hz).mono fun _ _ h => toldO_of (InR.cat13 us) hz h
theorem low13_any (a : LT) (w : World) (ha : a.ok w w.heap.size) :
    Calls Tryz.prog 146 #[.agg #[.string a.s, .slice a.A a.n a.c]] w (ToldO (lowL a.ch) w) := by
  have h := lower_any a.s a.A a.n a.c a.rs w ha.1 ha.2.1 ha.2.2.2 ha.2.2.1
  have e1 : (lowL a.ch).map (·.1) = a.s.data.toList.map lowB := by
    unfold lowL
    rw [List.map_map]
    show a.ch.map (lowB ∘ (·.1)) = _
    rw [← List.map_map, LT.ch_fst]; rfl
  have e2 : comp ((lowL a.ch).map (·.2)) = taken a.s.size a.rs := by
    unfold lowL
    rw [List.map_map]
    show comp (a.ch.map (·.2)) = _
    rw [LT.ch_snd]; rfl
  refine h.mono fun e w' h => toldO_of (l := lowL a.ch) ?_ (by rw [lowL_length, LT.ch_length]; exact ha.2.2.2) ?_
  · intro o ho
    unfold lowL at ho
    rw [List.map_map] at ho
    exact a.ch_in o ho
  · unfold txtOf
    rw [e1, e2]
    exact h
theorem dec13_any (a : LT) (w : World) (ha : a.ok w w.heap.size) :
    Calls Tryz.prog 114 #[.agg #[.string a.s, .slice a.A a.n a.c]] w (ToldO (decE a.ch) w) :=
  (entDecode_any a.s a.A a.n a.c a.rs w ha.1 ha.2.1 ha.2.2.2 ha.2.2.1).mono fun _ _ h => toldO_of a.ch_in.decE (Nat.le_trans (decE_len _) (by rw [LT.ch_length]; exact ha.2.2.2)) h
theorem fix13_any (a : LT) (w : World) (ha : a.ok w w.heap.size) :
    Calls Tryz.prog 38 #[.agg #[.string a.s, .slice a.A a.n a.c]] w fun e w' => ∃ (A : Option Addr) (c : Nat), e = .returned (.agg #[.string (txtOf a.ch), .slice A (comp (a.ch.map (·.2))).length c]) ∧ w'.ownsRow w.heap.size 53 2 (.slice A (comp (a.ch.map (·.2))).length c) (comp (a.ch.map (·.2))).length (runCells (comp (a.ch.map (·.2)))) ∧ Below w.heap.size w w' := by
  refine (fix_any a.s a.A a.n a.c a.rs w ha.1 ha.2.1 ha.2.2.2 ha.2.2.1).mono ?_
  rintro e w' ⟨v, rfl, ho, hb⟩
  have e1 : txtOf a.ch = a.s := by unfold txtOf; rw [LT.ch_fst]; rfl
  have e2 : comp (a.ch.map (·.2)) = taken a.s.size a.rs := by rw [LT.ch_snd]; rfl
  rw [← e2] at ho
  obtain ⟨A, c, rfl, _, _, _⟩ := own_form ho
  exact ⟨A, c, by rw [e1], ho, hb⟩

end Go.Proofs.YtddgabjhligeeaaGreat.mk
