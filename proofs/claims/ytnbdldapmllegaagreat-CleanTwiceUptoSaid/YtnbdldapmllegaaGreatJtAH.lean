/-
  Contracts of attrs' Get, Drop and Once.
-/
import Derived.Test.YtnbdldapmllegaaGreatJtAF
import Derived.Laws.EntriesVeiled
namespace Go.Proofs.YtnbdldapmllegaaGreat.mk
open Go.RowKit Go.Maps

theorem KeptPost.tells {S : Nat → Prop} {I : World → Prop} {qs : List PA} {w w0 w' : World} {e : Ending} (h : KeptPost S I qs w0 e w') (hb : Below w.heap.size w w0) (hS : ∀ g, S g → w.heap.size ≤ g) : TellsA qs w e w' := by
  obtain ⟨A, c, ts, h1, h2, h3, h4, h5, _⟩ := h
  exact ⟨A, c, ts, h1, own_mono h2 hb.size, h3.mono hb.size, h4, hb.trans (h5.below hb.size (fun k hk hs => by have := hS k hs; omega))⟩

set_option maxHeartbeats 1000000 in
set_option maxRecDepth 100000 in
theorem once_any (A : Option Addr) (n c : Nat) (ts : List AT) (w : World) (hl : Lies w w.heap.size A (atCells ts)) (hok : AllOk w w.heap.size ts) (hn : ts.length = n) (hn2 : n ≤ 4294967295) :
    Calls Tryz.prog 14 #[.slice A n c] w (TellsA (onceA (ts.map AT.ch)) w) := by
  have HN := Lib.hid hn
  have HL := Lib.hid hl
  have HOK := Lib.hid hok
  clear hn hl hok
  go_enter Tryz.func14, Tryz.ntmps14
  go_wp2_with fail
  refine (fresh_any w).mono ?_
  rintro e w1 ⟨rfl, y1, hM1, hb1⟩
  have hz1 := y1.lt
  have hne := map_ne_cells hM1 y1
  go_wp2_with fail
  refine (kept_any 62 #[.pointer (some ⟨w.heap.size + 1, 0, none⟩)] (· = w.heap.size) (fun k w' => (w'.cell? ⟨w.heap.size + 1, 0, none⟩ = some (.map (some w.heap.size)) ∧ w1.heap.size ≤ w'.heap.size) ∧ MapF w' w.heap.size k (cntN (ts.map AT.ch) k)) (onceP (ts.map AT.ch)) w.heap.size A n c ts w1 (HL.out.below hb1) (HOK.out.keep (fun _ hp => hb1.cell hp)) HN.out (by omega) (fun _ _ => rfl) (by omega) (fun g h => by omega) (fun _ w' w'' h hb => ⟨⟨(hb.cell hz1).trans h.1.1, Nat.le_trans h.1.2 hb.size⟩, h.2.same (hb.block _ (by omega))⟩) ⟨⟨y1.at_ 0, Nat.le_refl _⟩, hM1⟩ ?_).mono ?_
  · intro k t w' ht hI hto hz
    have hkn : k < n := by rw [← HN.out]; exact (List.getElem?_eq_some_iff.1 ht).1
    have hcl := cntN_le (ts.map AT.ch) k t.nm.bs
    refine (freshF_any t (w.heap.size + 1) w.heap.size k (cntN (ts.map AT.ch) k) w' hI.1.1 (by omega) hI.2 ⟨hcl.1, by omega⟩ (by omega) hto.1.2.2.2).mono ?_
    rintro e w'' ⟨rfl, hM, hmv⟩
    have hct := cntN_once (chs_at ht)
    have hcx := cntN_next (chs_at ht)
    rw [AT.nmB] at hct hcx
    refine ⟨by rw [hct], ⟨⟨(hmv.cell (World.block_lt_of_cell? w' _ hI.1.1) (by show ¬ (w.heap.size + 1 = w.heap.size); omega)).trans hI.1.1, Nat.le_trans hz hmv.size⟩, by rw [hcx]; exact hM⟩, hmv⟩
  · intro e w3 h
    obtain ⟨A3, c3, us, rfl, h2, h3, h4, h5⟩ := h.tells hb1 (fun g h => by omega)
    have H2 := Lib.hid h2
    have H3 := Lib.hid h3
    clear h2 h3 h
    go_wp2
    go_ret
    exact ⟨A3, c3, us, rfl, H2.out, H3.out, h4, h5⟩

end Go.Proofs.YtnbdldapmllegaaGreat.mk
