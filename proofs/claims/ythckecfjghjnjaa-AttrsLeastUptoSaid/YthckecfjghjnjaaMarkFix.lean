/-
  Contracts of mark's Of and Fix.
-/
import Derived.Test.YthckecfjghjnjaaMarkTaken
import Derived.Test.YthckecfjghjnjaaMarkBuf
import Derived.Deep.RegionHeld3
import Derived.WalkSpells
namespace Go.Proofs.Ythckecfjghjnjaa.mk
open Go.RowKit

/-- a labelled text is told, in new memory -/
def Tells (s : ByteArray) (rs : List (Int × Int)) (w : World) (e : Ending) (w' : World) : Prop :=
  ∃ v, e = .returned (.agg #[.string s, v]) ∧ w'.ownsRow w.heap.size 63 2 v rs.length (runCells rs) ∧ Below w.heap.size w w'

/-- behind the store of an answer into its own block -/
theorem tells_end {w w2 : World} {s : ByteArray} {rs : List (Int × Int)} {v : Value} {g : Nat} (hg : w.heap.size ≤ g) (hown : w2.ownsRow (g + 1) 63 2 v rs.length (runCells rs)) (hb : Below w.heap.size w w2) :
    Tells s rs w (.returned (.agg #[.string s, v])) ((w2.setCell ⟨g, 0, none⟩ (.string s)).setCell ⟨g, 1, none⟩ v) := by
  refine ⟨v, rfl, own_mono (base := g + 1) (own_far (own_far hown _ (fun h => ?_) _) _ (fun h => ?_) _) (by omega), (hb.setCell hg _).setCell hg _⟩
  · have := (hown.lt _ h).1; simp at this; omega
  · have := (hown.lt _ h).1; simp at this; omega
theorem below_next {B : Nat} {w0 w w1 : World} (h : Below B w0 w) (hz : B ≤ w0.heap.size) (h2 : Below w.heap.size w w1) : Below B w0 w1 := h.trans (h2.mono (Nat.le_trans hz h.size))
theorem Lies.next {B : Nat} {w0 w : World} {A : Option Addr} {xs : List Value} (h : Lies w0 B A xs) (hb : Below B w0 w) (hz : B ≤ w0.heap.size) : Lies w w.heap.size A xs := (h.below hb).mono (Nat.le_trans hz hb.size)
theorem own_keep {w w' : World} {base : Nat} {e : TypeId} {size n : Nat} {v : Value} {xs : List Value} (h : w.ownsRow base e size v n xs) (hb : Below w.heap.size w w') : w'.ownsRow base e size v n xs :=
  own_same h fun g hg => hb.block g (h.lt g hg).2
theorem below_made {w w2 : World} {o : Obj} (h : Below (w.heap.size + 1) (w.alloc o) w2) : Below w.heap.size w w2 := ((Below.refl _ _).alloc (Nat.le_refl _) _).trans (h.mono (Nat.le_succ _))

set_option maxHeartbeats 1000000 in
set_option maxRecDepth 100000 in
theorem of_any (s : ByteArray) (o : Int) (w : World) (hs : s.size ≤ 4294967296) :
    Calls Try.prog 16 #[.string s, .int .i64 o] w (Tells s (comp (List.replicate s.size (nearO o))) w) := by
  go_enter Try.func16, Try.ntmps16
  go_wp2_with fail
  refine (clone_any s _ (by omega)).mono ?_
  rintro e w1 ⟨rfl, hb1⟩
  simp only [World.size_alloc] at hb1
  have hz1 := hb1.size
  simp only [World.size_alloc] at hz1
  have hW : Whole w1 w.heap.size 25 #[.string ⟨#[]⟩, .slice none 0 0] := (Whole.made w _ _).below hb1 (Nat.lt_succ_self _)
  go_wp2_with fail
  refine (nearest_any _ _).mono ?_
  rintro e w' ⟨rfl, rfl⟩
  go_wp2_with fail
  refine (join_comp (w.heap.size + 1) (.slice none 0 0) [] (s.size : Int) (nearO o) _ (World.ownsRow_nil _ _ _ _) (by omega) (by simp) (by omega)).mono ?_
  rintro e w2 hj
  obtain ⟨v, rfl, hown, hg2, _⟩ := hj
  have hW2 := hW.grown hg2 (by simp [Value.ownBlock])
  have hb2 : Below (w.heap.size + 1) (w.alloc (.cells #[.string ⟨#[]⟩, .slice none 0 0] 25)) w2 := hb1.grown hg2 (by omega) (by simp [Value.ownBlock])
  obtain ⟨A, c, rfl, _, _, _⟩ := own_form hown
  have f0 := hW2.free 0
  have f1 := hW2.free 1
  have c0 : w2.cell? ⟨w.heap.size, 0, none⟩ = some (.string ⟨#[]⟩) := hW2.at_ 0
  have c1 : w2.cell? ⟨w.heap.size, 1, none⟩ = some (.slice none 0 0) := hW2.at_ 1
  rw [List.nil_append, Int.toNat_natCast] at hown
  have HO := Lib.hid hown
  clear hown hg2 hb1
  simp only [List.nil_append, Int.toNat_natCast] at *
  generalize comp (List.replicate s.size (nearO o)) = q at *
  go_wp2
  refine bodyPost_ret (v := .agg #[.string s, .slice A q.length c]) ?_ rfl ?_
  · simp [results, Try.results16, go_sem, c0, c1]
  · exact tells_end (Nat.le_refl _) HO.out (below_made hb2)

set_option maxHeartbeats 2000000 in
set_option maxRecDepth 100000 in
theorem fix_any (s : ByteArray) (A : Option Addr) (n c : Nat) (rs : List (Int × Int)) (w : World) (hl : Lies w w.heap.size A (runCells rs)) (hn : rs.length = n) (hs : s.size ≤ 4294967296) (hn2 : n ≤ 4294967296) :
    Calls Try.prog 19 #[.agg #[.string s, .slice A n c]] w (Tells s (taken s.size rs) w) := by
  have HN := Lib.hid hn
  clear hn
  go_enter Try.func19, Try.ntmps19
  go_wp2_with fail
  generalize hw0 : (w.alloc (.cells #[.string s, .slice A n c] 25)).alloc (.cells #[.string ⟨#[]⟩, .slice none 0 0] 25) = w0
  have y0 : Whole w0 w.heap.size 25 #[.string s, .slice A n c] := by rw [← hw0]; exact (Whole.made w _ _).alloc _
  have y1 : Whole w0 (w.heap.size + 1) 25 #[.string ⟨#[]⟩, .slice none 0 0] := by
    rw [← hw0]
    have h := Whole.made (w.alloc (.cells #[.string s, .slice A n c] 25)) 25 #[.string ⟨#[]⟩, .slice none 0 0]
    simp only [World.size_alloc] at h
    exact h
  have hz0 : w.heap.size + 2 ≤ w0.heap.size := by rw [← hw0]; simp
  have hz1 : w.heap.size + 1 ≤ w0.heap.size := by omega
  have hl0 : Lies w0 (w.heap.size + 1) A (runCells rs) := by rw [← hw0]; exact ((hl.alloc (Nat.le_refl _) _).alloc (by simp) _).mono (by omega)
  have hb0 : Below w.heap.size w w0 := by rw [← hw0]; exact ((Below.refl _ _).alloc (Nat.le_refl _) _).alloc (by simp) _
  have HW := Lib.hid hw0
  clear hw0
  have c0 : w0.cell? ⟨w.heap.size, 0, none⟩ = some (.string s) := y0.at_ 0
  have c1 : w0.cell? ⟨w.heap.size, 1, none⟩ = some (.slice A n c) := y0.at_ 1
  have KS : ∀ w', Below (w.heap.size + 1) w0 w' → w'.cell? ⟨w.heap.size, 0, none⟩ = some (.string s) ∧ w'.cell? ⟨w.heap.size, 1, none⟩ = some (.slice A n c) ∧ Below (w.heap.size + 1) w0 w' := fun w' h =>
    ⟨(h.cell (Nat.lt_succ_self _)).trans (y0.at_ 0), (h.cell (Nat.lt_succ_self _)).trans (y0.at_ 1), h⟩
  have HKS := Lib.hid KS
  clear KS
  have y1' := y1.drew
  go_region_held3 (fun w' => w'.cell? ⟨w.heap.size, 0, none⟩ = some (.string s) ∧ w'.cell? ⟨w.heap.size, 1, none⟩ = some (.slice A n c) ∧ Below (w.heap.size + 1) w0 w')
    (first
      | exact HKS.out _ (Below.drew (Below.refl _ _))
      | (go_split_ands; exact HKS.out _ (by assumption))
      | (go_split_ands; exact HKS.out _ (below_next (by assumption) hz1 hbC))
      | (go_split_ands; exact HKS.out _ (below_next (by assumption) hz1 hbT))
      | (go_split_ands; refine HKS.out _ ?_; refine Below.setCell (p := ⟨w.heap.size + 1, 1, none⟩) ?_ (Nat.le_refl _) _; refine Below.setCell (p := ⟨w.heap.size + 1, 0, none⟩) ?_ (Nat.le_refl _) _; assumption))
    (first
      | (go_at_call 30; refine (clone_any s _ (by omega)).mono ?_; rintro e w1 ⟨rfl, hbC⟩; have hwC : Whole w1 (w.heap.size + 1) 25 #[.string ⟨#[]⟩, .slice none 0 0] := Whole.below (by assumption) hbC (Whole.lt (by assumption)); have c10 := hwC.at_ 0; have c11 := hwC.at_ 1; have f10 := hwC.free 0; have f11 := hwC.free 1)
      | (go_at_call 34; refine (taken_any s A n c rs _ ?_ HN.out hs hn2).mono ?_; (go_split_ands; exact hl0.next (by assumption) hz1); rintro e w2 ⟨v, rfl, hown, hbT⟩; obtain ⟨A', c', rfl, _, _, _⟩ := own_form hown; have hwT : Whole w2 (w.heap.size + 1) 25 #[.string ⟨#[]⟩, .slice none 0 0] := Whole.below (by assumption) hbT (Whole.lt (by assumption)); have c20 := hwT.at_ 0; have c21 := hwT.at_ 1; have f20 := hwT.free 0; have f21 := hwT.free 1))
  all_goals
    go_wp2
    refine bodyPost_ret (v := .agg #[.string s, .slice A' (taken s.size rs).length c']) ?_ rfl ?_
    · simp [results, Try.results19, go_sem, *]
    · first
        | exact tells_end (g := w.heap.size + 1) (Nat.le_succ _) (own_mono hown (by have := hbC.size; simp at this; omega)) (below_next (below_next hb0.drew (Nat.le_refl _) hbC) (Nat.le_refl _) hbT)
        | exact tells_end (g := w.heap.size + 1) (Nat.le_succ _) (own_mono (own_keep hown hbC) (by simp; omega)) (below_next (below_next hb0.drew (Nat.le_refl _) hbT) (Nat.le_refl _) hbC)

theorem field_runs (s : ByteArray) (A : Option Addr) (n c : Nat) (w : World) : (Instr.field 25 (.agg #[.string s, .slice A n c]) 1).run Try.prog w = .ok (.slice A n c) w := by kernel_rfl
theorem field_text (s : ByteArray) (A : Option Addr) (n c : Nat) (w : World) : (Instr.field 25 (.agg #[.string s, .slice A n c]) 0).run Try.prog w = .ok (.string s) w := by kernel_rfl

end Go.Proofs.Ythckecfjghjnjaa.mk
