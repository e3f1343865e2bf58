/-
  Contract of Origins.
-/
import Derived.Test.YtamnoenjpphkcaaMarkRise
import Derived.Test.YtamnoenjpphkcaaMarkWorst
namespace Go.Proofs.Ytamnoenjpphkcaa.mk
open Go.RowKit

theorem int_info : (Try.prog.info? 3).map (fun i => (i.zero, i.size, i.bytes)) = some (some (.int .i64 0), 1, 8) := by kernel_rfl

theorem cells_new' (w : World) (t : TypeId) (cs : List Value) {g : Nat} (hg : g = w.heap.size) : ∀ j u, cs[j]? = some u → (w.alloc (.cells cs.toArray t)).cell? ((⟨g, 0, none⟩ : Addr).add j) = some u := by
  subst hg
  exact cells_new w t cs

def OriginsRel (qs : List Int) (ta : Value) (Bt : Nat) (w0 : World) (v i : Value) (wr : World) : Prop :=
  ∃ j : Nat, j ≤ (comp qs).length ∧ i = .int .i64 j ∧ wr.ownsRow Bt 3 1 v j (intCells (((comp qs).take j).map (·.2))) ∧ wr.ownsRow Bt 54 2 ta (comp qs).length (runCells (comp qs)) ∧ (∀ g, ta.ownBlock = some g → v.ownBlock ≠ some g) ∧ Below w0.heap.size w0 wr

set_option maxHeartbeats 1000000 in
set_option maxRecDepth 100000 in
theorem origins_any (s : ByteArray) (A : Option Addr) (n c : Nat) (rs : List (Int × Int)) (w : World) (hl : Lies w w.heap.size A (runCells rs)) (hn : rs.length = n) (hs : s.size ≤ 4294967296) (hn2 : n ≤ 4294967296) :
    Calls Try.prog 17 #[.agg #[.string s, .slice A n c]] w fun e w' => ∃ v, e = .returned v ∧ w'.ownsRow w.heap.size 3 1 v (rising ((taken s.size rs).map (·.2))).length (intCells (rising ((taken s.size rs).map (·.2)))) ∧ Below w.heap.size w w' := by
  obtain ⟨i0, hi, hz0, hz1, hz2⟩ := info_parts int_info
  have HN := Lib.hid hn
  clear hn
  go_enter Try.func17, Try.ntmps17
  go_wp2_with fail
  refine (taken_any s A n c rs _ ((hl.alloc (Nat.le_refl _) _).mono (by simp)) HN.out hs hn2).mono ?_
  rintro e w2 ⟨ta, rfl, hta, hbT⟩
  have hbw : Below w.heap.size w w2 := ((Below.refl _ _).alloc (Nat.le_refl _) _).trans (hbT.mono (by simp))
  have hws2 := hbw.size
  unfold taken at *
  generalize hqs : origins s.size rs = qs at *
  have hql : qs.length ≤ s.size := by rw [← hqs, origins_length]; exact Nat.le_refl _
  have HQS := Lib.hid hqs
  clear hqs
  obtain ⟨At, ct, rfl, _, _, _⟩ := own_form hta
  have hcl := comp_length_le qs
  go_wp2_with fail
  obtain ⟨wo, rfl⟩ : ∃ wo : World, wo = w2 := ⟨_, rfl⟩
  go_loopw [3, 9] (OriginsRel qs (.slice At (comp qs).length ct) w.heap.size w) (fun _ i _ => (comp qs).length - (intOf i).toNat)
  case atStart => exact ⟨0, Nat.zero_le _, rfl, by simpa [intCells] using World.ownsRow_nil _ _ _ _, own_mono hta (by simp), fun g _ h => by simp [Value.ownBlock] at h, hbw⟩
  case round =>
    obtain ⟨j, hj, rfl, hown, hta3, hne, hbl⟩ := hrel
    have hws := hbl.size
    obtain ⟨A3, d3, rfl, _, _, _⟩ := own_form hown
    by_cases hjl : j < (comp qs).length
    · obtain ⟨ad', l, p, rfl, hbA, hd1, hd2, HR2⟩ := (Lies.own hta3).run (k := j) hjl
      have HNX : Hid (((comp qs).take (j + 1)).map (·.2) = ((comp qs).take j).map (·.2) ++ [p]) := by
        show _ = _
        rw [take_next HR2.out, List.map_append]; rfl
      generalize hz : (comp qs).length = z at *
      have HT := Lib.hid hta3
      have HZ := Lib.hid hz
      clear hz hta3 hta
      go_wp2_with (at_builtin; refine wpList_append_own_at _ rfl (.tmp 13) (.tmp 16) 30 rfl w.heap.size 3 i0 _ 1 8 Try.underlying30 hi hz0 hz1 hz2 rfl (by decide) (.slice A3 j d3) j (intCells (((comp qs).take j).map (·.2))) rfl ((hown.alloc _).alloc _) ⟨wr.heap.size + 1, 0, none⟩ 1 1 [.int .i64 p] rfl rfl (cells_new' (wr.alloc _) _ _ (by simp)) (by simp [Value.oneCell']) (by simp only [maxLen]; omega) (by omega) (by simp; omega) ?_)
      intro v' w1 h1 h2 _ h3
      have hbl1 : Below w.heap.size w w1 := (((hbl.alloc (by omega) _).alloc (by simp; omega) _).grown h2 (by simp; omega) (fun x hx => (hown.lt x hx).1))
      have hT1 := Lib.hid (((HT.out.alloc _).alloc _).kept h2 (.inr (by rw [show (Value.slice (some ad') z ct).ownBlock = some ad'.block from rfl]; exact fun e => hne _ rfl e.symm)))
      have hN1 : Hid (∀ g, (Value.slice (some ad') z ct).ownBlock = some g → v'.ownBlock ≠ some g) := by
        intro g hg e
        rcases h3 with h | h
        · exact hne g hg (h ▸ e)
        · rw [h] at e
          simp [Value.ownBlock] at hg e
          omega
      go_wp2
      go_roundw
      case rel => exact ⟨j + 1, by rw [HZ.out]; omega, by go_num, by rw [HNX.out]; simpa [intCells] using h1, by rw [HZ.out]; exact hT1.out, hN1.out, hbl1⟩
      case measure => simp [intOf]; omega
    · obtain rfl : j = (comp qs).length := by omega
      rw [List.take_of_length_le (Nat.le_refl _)] at hown
      generalize hzs : (comp qs).map (·.2) = zs at *
      have hzl : zs.length = (comp qs).length := by rw [← hzs, List.length_map]
      have HZS := Lib.hid hzs
      rw [← hzl] at hown
      clear hzs
      generalize hz : (comp qs).length = z at *
      have HZ := Lib.hid hz
      clear hz
      obtain rfl : z = zs.length := hzl.symm
      go_wp2_with fail
      refine (sort_own _ _ zs wr hown (by omega)).mono ?_
      rintro e w3 ⟨rfl, hown3, hg3⟩
      go_wp2_with fail
      have hml : (zs.mergeSort fun x y => decide (x ≤ y)).length = zs.length := List.length_mergeSort _
      refine (compact_own _ _ (zs.mergeSort fun x y => decide (x ≤ y)) w3 (by rw [hml]; exact hown3) (by rw [hml]; omega)).mono ?_
      rintro e w4 ⟨v', rfl, hown4, hg4⟩
      go_wp2_with fail
      go_ret
      have hb3 := hbl.grown hg3 (by omega) (fun x hx => (hown.lt x hx).1)
      refine ⟨v', rfl, ?_, hb3.grown hg4 hb3.size (fun x hx => (hown3.lt x hx).1)⟩
      unfold taken
      rw [HQS.out, HZS.out]
      exact hown4

end Go.Proofs.Ytamnoenjpphkcaa.mk
