/-
  The contract of url's Ready.
-/
import Derived.Test.YtpbpnffbaelcaaaUrlPure
import Derived.Test.YtpbpnffbaelcaaaFoldReplace
import Derived.Test.YtpbpnffbaelcaaaLtCh
namespace Go.Proofs.Ytpbpnffbaelcaaa.mk
open Go.RowKit

theorem ends_t (a : LT) (w : World) (ha : a.ok w w.heap.size) :
    Calls Try.prog 20 #[a.v] w (Tells (txtOf (trimL edgeC a.ch)) (comp ((trimL edgeC a.ch).map (·.2))) w) := ends_any a.s a.A a.n a.c a.rs w ha.1 ha.2.1 ha.2.2.2 ha.2.2.1
theorem without_t (a : LT) (w : World) (ha : a.ok w w.heap.size) :
    Calls Try.prog 19 #[a.v, .string ⟨#[9, 10, 13]⟩] w (Tells (txtOf (a.ch.filter keepC)) (comp ((a.ch.filter keepC).map (·.2))) w) := by
  have h := without_any a.s ⟨#[9, 10, 13]⟩ a.A a.n a.c a.rs w ha.1 ha.2.1 ha.2.2.2 ha.2.2.1 (by decide)
  have e : replL (fun b => (ByteArray.mk #[9, 10, 13]).data.toList.contains b) [] (chars a.s.data.toList a.rs) = a.ch.filter keepC := replL_filter _ _
  rw [e] at h
  exact h

set_option maxHeartbeats 1000000 in
set_option maxRecDepth 100000 in
theorem ready_any (a : LT) (w : World) (ha : a.ok w w.heap.size) :
    Calls Try.prog 8 #[a.v] w (Tells (txtOf (readyL a.ch)) (comp ((readyL a.ch).map (·.2))) w) := by
  have hsz := ha.2.2.2
  obtain ⟨l1, hl1⟩ : ∃ l, l = trimL edgeC a.ch := ⟨_, rfl⟩
  obtain ⟨R, hR⟩ : ∃ R, R = readyL a.ch := ⟨_, rfl⟩
  have hlen1 : l1.length ≤ 4294967296 := by rw [hl1]; exact Nat.le_trans (trimL_length _ _) (by rw [LT.ch_length]; exact hsz)
  have hin1 : InR l1 := by rw [hl1]; exact a.ch_in.sub fun _ hx => trimL_mem hx
  have HE : Hid (∀ W, Below w.heap.size w W → Calls Try.prog 20 #[.agg #[.string a.s, .slice a.A a.n a.c]] W (Tells (txtOf l1) (comp (l1.map (·.2))) W)) := fun W hb => by
    rw [hl1]
    exact ends_t a W (ha.next hb (Nat.le_refl _))
  have HW : Hid (∀ W D k, Lies W W.heap.size D (runCells (comp (l1.map (·.2)))) → Calls Try.prog 19 #[.agg #[.string (txtOf l1), .slice D (comp (l1.map (·.2))).length k], .string ⟨#[9, 10, 13]⟩] W (Tells (txtOf R) (comp (R.map (·.2))) W)) := fun W D k h => by
    have h2 := without_t (toldT l1 D k) W (toldT_ok k h hlen1)
    rw [toldT_ch hin1] at h2
    rw [hR]
    unfold readyL
    rw [← hl1]
    exact h2
  rw [← hR]
  clear hR hl1 hlen1 hin1 hsz ha
  generalize comp (l1.map (·.2)) = q1 at *
  generalize hq2 : comp (R.map (·.2)) = q2 at *
  clear hq2
  generalize txtOf l1 = t1 at *
  generalize txtOf R = t2 at *
  obtain ⟨s, A, n, c, rs⟩ := a
  simp only at HE
  show Calls Try.prog 8 #[.agg #[.string s, .slice A n c]] w _
  go_enter Try.func8, Try.ntmps8
  go_wp2_with fail
  generalize hwE : (w.alloc (.cells #[.string s, .slice A n c] 24)).alloc (.cells #[.string ⟨#[]⟩, .slice none 0 0] 24) = wE
  have y3 : Whole wE (w.heap.size + 1) 24 #[.string ⟨#[]⟩, .slice none 0 0] := by
    rw [← hwE]
    have h := Whole.made (w.alloc (.cells #[.string s, .slice A n c] 24)) 24 #[.string ⟨#[]⟩, .slice none 0 0]
    simp only [World.size_alloc] at h
    exact h
  have hzE : w.heap.size + 2 ≤ wE.heap.size := by rw [← hwE]; simp
  have hbE : Below w.heap.size w wE := by rw [← hwE]; exact ((Below.refl _ _).alloc (Nat.le_refl _) _).alloc (by simp) _
  clear hwE
  refine (HE.out _ hbE).mono ?_
  rintro e w1 ⟨v1, rfl, ho1, hb1⟩
  obtain ⟨A1, c1, rfl, _, _, _⟩ := own_form ho1
  have hz1 := hb1.size
  go_wp2_with fail
  refine (HW.out _ A1 c1 (Lies.own ho1)).mono ?_
  rintro e w2 ⟨v2, rfl, ho2, hb2⟩
  obtain ⟨A2, c2, rfl, _, _, _⟩ := own_form ho2
  have hb12 : Below wE.heap.size wE w2 := below_next hb1 (Nat.le_refl _) hb2
  have hW := y3.below hb12 y3.lt
  have f0 := hW.free 0
  have f1 := hW.free 1
  have d0 : w2.cell? ⟨w.heap.size + 1, 0, none⟩ = some (.string ⟨#[]⟩) := hW.at_ 0
  have d1 : w2.cell? ⟨w.heap.size + 1, 1, none⟩ = some (.slice none 0 0) := hW.at_ 1
  have HO := Lib.hid ho2
  clear ho2 ho1
  go_wp2
  refine bodyPost_ret (v := .agg #[.string t2, .slice A2 q2.length c2]) ?_ rfl ?_
  · simp [results, Try.results8, go_sem, d0, d1]
  · exact tells_end (g := w.heap.size + 1) (by omega) (own_mono HO.out (by omega)) (below_next hbE (Nat.le_refl _) hb12)

end Go.Proofs.Ytpbpnffbaelcaaa.mk
