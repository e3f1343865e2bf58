/-
  The walk of the statement AttrsChanges.
-/
import Derived.Test.YthckecfjghjnjaaAttTx
import Derived.Test.YthckecfjghjnjaaAttAlive
namespace Go.Proofs.Ythckecfjghjnjaa.mk
open Go.RowKit Go.Maps

theorem putA_length (L : List PA) (x : PA) : (putA L x).length ≤ L.length + 1 := by
  unfold putA
  split
  · rw [List.length_set]; omega
  · rw [List.length_append]; simp
theorem dropA_length (L : List PA) (nm : List UInt8) : (dropA L nm).length ≤ L.length := sel_len _ _

/-- a list of attributes that lies somewhere, of at most so many -/
def ListOf (w : World) (qs : List PA) (m : Nat) (v : Value) : Prop :=
  ∃ A c us, v = .slice A us.length c ∧ Lies w w.heap.size A (atCells us) ∧ AllOk w w.heap.size us ∧ us.map AT.ch = qs ∧ us.length ≤ m
theorem TellsA.list {qs : List PA} {w w' : World} {e : Ending} (h : TellsA qs w e w') : ∃ v, e = .returned v ∧ ListOf w' qs qs.length v ∧ Below w.heap.size w w' := by
  obtain ⟨A, c, us, rfl, h1, h2, h3, h4⟩ := h
  exact ⟨_, rfl, ⟨A, c, us, rfl, Lies.own h1, h2.ok, h3, by rw [← h3, List.length_map]; exact Nat.le_refl _⟩, h4⟩
theorem ListOf.le {w : World} {qs : List PA} {m m' : Nat} {v : Value} (h : ListOf w qs m v) (hm : m ≤ m') : ListOf w qs m' v := by
  obtain ⟨A, c, us, h1, h2, h3, h4, h5⟩ := h
  exact ⟨A, c, us, h1, h2, h3, h4, Nat.le_trans h5 hm⟩
theorem ListOf.next {w w' : World} {qs : List PA} {m : Nat} {v : Value} (h : ListOf w qs m v) (hb : Below w.heap.size w w') : ListOf w' qs m v := by
  obtain ⟨A, c, us, h1, h2, h3, h4, h5⟩ := h
  exact ⟨A, c, us, h1, h2.next hb (Nat.le_refl _), h3.next hb (Nat.le_refl _), h4, h5⟩

def PutsRel (L ps : List PA) (n z : Nat) (w0 : World) (x i : Value) (wr : World) : Prop :=
  ∃ k : Nat, k ≤ z ∧ i = .int .i64 (k : Int) ∧ ListOf wr (putsA L (ps.take k)) (n + k) x ∧ Below w0.heap.size w0 wr
def DropsRel (L : List PA) (ds : List (List UInt8)) (n z : Nat) (w0 : World) (x i : Value) (wr : World) : Prop :=
  ∃ k : Nat, k ≤ z ∧ i = .int .i64 (k : Int) ∧ ListOf wr (dropsA L (ds.take k)) n x ∧ Below w0.heap.size w0 wr

theorem sameA_nil (A B : List PA) : sameA A B = decide ((diffP A B).length + (diffD A B).length = 0) := by
  unfold sameA
  rw [Bool.eq_iff_iff, Bool.and_eq_true, List.isEmpty_iff, List.isEmpty_iff, decide_eq_true_iff, ← List.length_eq_zero_iff, ← List.length_eq_zero_iff]
  omega

set_option maxHeartbeats 4000000 in
set_option maxRecDepth 100000 in
theorem attrsChanges_any (L : Option Addr) (n c : Nat) (ts : List AT) (M : Option Addr) (m d : Nat) (bs : List AT) (w : World) (hl : Lies w w.heap.size L (atCells ts)) (hok : AllOk w w.heap.size ts) (hn : ts.length = n) (hn2 : n ≤ 1048576)
    (hl' : Lies w w.heap.size M (atCells bs)) (hok' : AllOk w w.heap.size bs) (hm : bs.length = m) (hm2 : m ≤ 1048576) :
    Calls Try.prog 4 #[.slice L n c, .slice M m d] w fun e w' => e = .returned (.bool true) ∧ Below w.heap.size w w' := by
  have HSM : Hid (∀ W, Below w.heap.size w W → Calls Try.prog 14 #[.slice L n c, .slice M m d] W (ChgPost (diffP (ts.map AT.ch) (bs.map AT.ch)) ((diffD (ts.map AT.ch) (bs.map AT.ch)).map nmB) W)) := fun W h =>
    changes_any L n c ts M m d bs W (hl.next h (Nat.le_refl _)) (hok.next h (Nat.le_refl _)) hn (by omega) (hl'.next h (Nat.le_refl _)) (hok'.next h (Nat.le_refl _)) hm (by omega)
  have HON : Hid (∀ W, Below w.heap.size w W → Calls Try.prog 12 #[.slice L n c] W (TellsA (onceA (ts.map AT.ch)) W)) := fun W h =>
    once_any L n c ts W (hl.next h (Nat.le_refl _)) (hok.next h (Nat.le_refl _)) hn (by omega)
  have HXB : Hid (∀ W A z cc us, Below w.heap.size w W → Lies W W.heap.size A (atCells us) → AllOk W W.heap.size us → us.length = z → z ≤ 4294967295 → Calls Try.prog 15 #[.slice A z cc, .slice M m d] W fun e w' => e = .returned (.bool (sameA (us.map AT.ch) (bs.map AT.ch))) ∧ Below W.heap.size W w') := fun W A z cc us h h1 h2 h3 h4 =>
    sameL_any A z cc us M m d bs W h1 h2 h3 h4 (hl'.next h (Nat.le_refl _)) (hok'.next h (Nat.le_refl _)) hm (by omega)
  have HAA : Hid (∀ W, Below w.heap.size w W → Calls Try.prog 15 #[.slice L n c, .slice L n c] W fun e w' => e = .returned (.bool true) ∧ Below W.heap.size W w') := fun W h => by
    have h1 := sameL_any L n c ts L n c ts W (hl.next h (Nat.le_refl _)) (hok.next h (Nat.le_refl _)) hn (by omega) (hl.next h (Nat.le_refl _)) (hok.next h (Nat.le_refl _)) hn (by omega)
    rw [sameA_self] at h1
    exact h1
  have HAB : Hid (∀ W, Below w.heap.size w W → Calls Try.prog 15 #[.slice L n c, .slice M m d] W fun e w' => e = .returned (.bool (sameA (ts.map AT.ch) (bs.map AT.ch))) ∧ Below W.heap.size W w') := fun W h =>
    sameL_any L n c ts M m d bs W (hl.next h (Nat.le_refl _)) (hok.next h (Nat.le_refl _)) hn (by omega) (hl'.next h (Nat.le_refl _)) (hok'.next h (Nat.le_refl _)) hm (by omega)
  have HBA : Hid (∀ W, Below w.heap.size w W → Calls Try.prog 15 #[.slice M m d, .slice L n c] W fun e w' => e = .returned (.bool (sameA (ts.map AT.ch) (bs.map AT.ch))) ∧ Below W.heap.size W w') := fun W h => by
    rw [sameA_comm]
    exact sameL_any M m d bs L n c ts W (hl'.next h (Nat.le_refl _)) (hok'.next h (Nat.le_refl _)) hm (by omega) (hl.next h (Nat.le_refl _)) (hok.next h (Nat.le_refl _)) hn (by omega)
  have HSA : Hid (sameA (dropsA (putsA (onceA (ts.map AT.ch)) (diffP (ts.map AT.ch) (bs.map AT.ch))) ((diffD (ts.map AT.ch) (bs.map AT.ch)).map nmB)) (bs.map AT.ch) = true) := changed_same _ _
  have HSN : Hid (sameA (ts.map AT.ch) (bs.map AT.ch) = decide ((diffP (ts.map AT.ch) (bs.map AT.ch)).length + (diffD (ts.map AT.ch) (bs.map AT.ch)).length = 0)) := sameA_nil _ _
  have HOL : Hid ((onceA (ts.map AT.ch)).length ≤ n) := by
    show _ ≤ _
    have h1 := sel_len (onceP (ts.map AT.ch)) (ts.map AT.ch)
    rw [List.length_map, hn] at h1
    exact h1
  have HPL : Hid ((diffP (ts.map AT.ch) (bs.map AT.ch)).length ≤ m) := by
    show _ ≤ _
    have h1 := sel_len (isI (putP (onceA (ts.map AT.ch))) (onceA (bs.map AT.ch))) (onceA (bs.map AT.ch))
    have h2 := sel_len (onceP (bs.map AT.ch)) (bs.map AT.ch)
    rw [List.length_map, hm] at h2
    exact Nat.le_trans h1 h2
  have HDL : Hid ((diffD (ts.map AT.ch) (bs.map AT.ch)).length ≤ n) := by
    show _ ≤ _
    have h1 := sel_len (isI (fun x => (getA (onceA (bs.map AT.ch)) (nmB x)).isNone) (onceA (ts.map AT.ch))) (onceA (ts.map AT.ch))
    have h2 := sel_len (onceP (ts.map AT.ch)) (ts.map AT.ch)
    rw [List.length_map, hn] at h2
    exact Nat.le_trans h1 h2
  generalize hP : diffP (ts.map AT.ch) (bs.map AT.ch) = P at *
  generalize hD : diffD (ts.map AT.ch) (bs.map AT.ch) = D at *
  generalize hO : onceA (ts.map AT.ch) = O at *
  generalize hB : sameA (ts.map AT.ch) (bs.map AT.ch) = b at *
  clear hP hD hO hB hl hok hl' hok' hn hm
  go_enter Try.func4, Try.ntmps4
  go_wp2_with fail
  refine (alive10_any w).mono ?_
  rintro e w1 ⟨rfl, hb1⟩
  go_wp2_with fail
  refine (HSM.out w1 hb1).mono ?_
  rintro e w2 ⟨A5, c5, ps, A6, c6, ns, rfl, hp1, hp2, hp3, hd1, hd2, hd3, hb2⟩
  have hbw2 := below_next hb1 (Nat.le_refl _) hb2
  have HBW2 := Lib.hid hbw2
  have LP := Lib.hid (Lies.own hp1)
  have LD := Lib.hid (Lies.own hd1)
  have OP := Lib.hid hp2.ok
  have QP := Lib.hid hp3
  have QD := Lib.hid hd2
  have hzp : ps.length ≤ m := by have h1 := congrArg List.length hp3; rw [List.length_map] at h1; rw [h1]; exact HPL.out
  have hzd : ns.length ≤ n := by have h1 := congrArg List.length hd2; rw [List.length_map, List.length_map] at h1; rw [h1]; exact HDL.out
  have HLP : Hid (P.length = ps.length) := by show _ = _; rw [← hp3, List.length_map]
  have HLD : Hid (D.length = ns.length) := by show _ = _; have h1 := congrArg List.length hd2; rw [List.length_map, List.length_map] at h1; exact h1.symm
  generalize hzp1 : ps.length = zp at *
  generalize hzd1 : ns.length = zd at *
  have HZP := Lib.hid hzp1
  have HZD := Lib.hid hzd1
  clear hp1 hp2 hp3 hd1 hd2 hd3 hb1 hb2 hbw2 hzp1 hzd1
  go_wp2_with fail
  refine (HON.out w2 HBW2.out).mono ?_
  rintro e w3 h3
  obtain ⟨v3, rfl, hl3, hb3⟩ := h3.list
  have HL3 : Hid (ListOf w3 O n v3) := hl3.le HOL.out
  clear h3 hl3
  have HBW3 := Lib.hid (below_next HBW2.out (Nat.le_refl _) hb3)
  have HB23 := Lib.hid hb3
  clear hb3
  go_wp2_with fail
  go_loopw [7, 8] (PutsRel O P n zp w3) (fun _ i _ => zp - (intOf i).toNat)
  case atStart => exact ⟨0, Nat.zero_le _, rfl, HL3.out, Below.refl _ _⟩
  case round =>
    obtain ⟨k, hk, rfl, hx, hb⟩ := hrel
    have HB := Lib.hid hb
    have HBW := Lib.hid (below_next HBW3.out (Nat.le_refl _) hb)
    have hb2r := below_next HB23.out (Nat.le_refl _) hb
    obtain ⟨A7, c7, us, rfl, hx1, hx2, hx3, hx4⟩ := hx
    have HX1 := Lib.hid hx1
    have HX2 := Lib.hid hx2
    have HX3 := Lib.hid hx3
    clear hx1 hx2 hx3 hb
    generalize hz7 : us.length = z7 at *
    have HZ7 := Lib.hid hz7
    clear hz7
    by_cases hlt : k < zp
    · obtain ⟨ad, t, rfl, hbA, d0, d1, d2, d3, HR⟩ := (LP.out.below hb2r).att (k := k) (by rw [HZP.out]; exact hlt)
      have hk0 : (0 : Int) ≤ (k : Int) := Int.natCast_nonneg _
      have hk1 : (k : Int) < (zp : Int) := by omega
      have HTK : Hid (P.take (k + 1) = P.take k ++ [t.ch]) := take_next (by rw [← QP.out]; exact chs_at HR.out)
      have HTO := Lib.hid ((OP.out.get HR.out).next hb2r (Nat.le_refl _))
      clear hb2r
      go_wp2_with fail
      refine (put_any A7 z7 c7 us t wr HX1.out HX2.out HZ7.out (by omega) HTO.out).mono ?_
      rintro e w4 h4
      obtain ⟨v4, rfl, hl4, hb4⟩ := h4.list
      have HIN : Hid (PutsRel O P n zp w3 v4 (.int .i64 ((k : Int) + 1)) w4) := by
        refine ⟨k + 1, by omega, by simp, ?_, below_next HB.out (Nat.le_refl _) hb4⟩
        rw [HTK.out, putsA_snoc, ← HX3.out]
        refine hl4.le ?_
        have h1 := putA_length (us.map AT.ch) t.ch
        rw [List.length_map, HZ7.out] at h1
        omega
      clear h4 hl4 hb4
      go_wp2_with fail
      go_roundw
      case rel => exact HIN.out
      case measure => simp [intOf]; omega
    · obtain rfl : zp = k := by omega
      have HX : Hid (ListOf wr (putsA O P) (n + zp) (.slice A7 z7 c7)) := by
        refine ⟨A7, c7, us, by rw [HZ7.out], HX1.out, HX2.out, ?_, by rw [HZ7.out]; exact hx4⟩
        rw [HX3.out, List.take_of_length_le (by rw [HLP.out]; exact Nat.le_refl _)]
      have HB2R := Lib.hid hb2r
      clear hb2r HX1 HX2 HX3
      obtain ⟨we, rfl⟩ : ∃ we : World, we = wr := ⟨_, rfl⟩
      go_wp2_with fail
      go_loopw [7, 9] (DropsRel (putsA O P) (D.map nmB) (n + zp) zd we) (fun _ i _ => zd - (intOf i).toNat)
      case atStart => exact ⟨0, Nat.zero_le _, rfl, HX.out, Below.refl _ _⟩
      case round =>
        obtain ⟨k, hk, rfl, hx, hb⟩ := hrel
        have HB' := Lib.hid hb
        have HBW' := Lib.hid (below_next HBW.out (Nat.le_refl _) hb)
        have hb2r := below_next HB2R.out (Nat.le_refl _) hb
        obtain ⟨A8, c8, vs, rfl, hx1, hx2, hx3, hx5⟩ := hx
        have HV1 := Lib.hid hx1
        have HV2 := Lib.hid hx2
        have HV3 := Lib.hid hx3
        clear hx1 hx2 hx3 hb
        generalize hz8 : vs.length = z8 at *
        have HZ8 := Lib.hid hz8
        clear hz8
        by_cases hlt : k < zd
        · obtain ⟨ad, s, rfl, hbA, d0, HR⟩ := (LD.out.below hb2r).tx (k := k) (by rw [HZD.out]; exact hlt)
          have hk0 : (0 : Int) ≤ (k : Int) := Int.natCast_nonneg _
          have hk1 : (k : Int) < (zd : Int) := by omega
          have HTK : Hid ((D.map nmB).take (k + 1) = (D.map nmB).take k ++ [s.data.toList]) := take_next (by rw [← QD.out, List.getElem?_map, HR.out]; rfl)
          clear hb2r
          go_wp2_with fail
          refine (drop_any A8 z8 c8 vs s wr HV1.out HV2.out HZ8.out (by omega)).mono ?_
          rintro e w4 h4
          obtain ⟨v4, rfl, hl4, hb4⟩ := h4.list
          have HIN : Hid (DropsRel (putsA O P) (D.map nmB) (n + zp) zd we v4 (.int .i64 ((k : Int) + 1)) w4) := by
            refine ⟨k + 1, by omega, by simp, ?_, below_next HB'.out (Nat.le_refl _) hb4⟩
            rw [HTK.out, dropsA_snoc, ← HV3.out]
            refine hl4.le ?_
            have h1 := dropA_length (vs.map AT.ch) s.data.toList
            rw [List.length_map, HZ8.out] at h1
            omega
          clear h4 hl4 hb4
          go_wp2_with fail
          go_roundw
          case rel => exact HIN.out
          case measure => simp [intOf]; omega
        · obtain rfl : zd = k := by omega
          have HE : Hid (sameA (vs.map AT.ch) (bs.map AT.ch) = true) := by
            show _ = _
            rw [HV3.out, List.take_of_length_le (by rw [List.length_map, HLD.out]; exact Nat.le_refl _)]
            exact HSA.out
          have HBN : Hid (b = decide (zp + zd = 0)) := by show _ = _; rw [HSN.out, HLP.out, HLD.out]
          clear hb2r
          go_wp2_with fail
          refine (HXB.out wr A8 z8 c8 vs HBW'.out HV1.out HV2.out HZ8.out (by omega)).mono ?_
          rw [HE.out]
          rintro e w5 ⟨rfl, hb5⟩
          have HB5 := Lib.hid (below_next HBW'.out (Nat.le_refl _) hb5)
          clear hb5
          go_wp2_with fail
          refine (HAA.out w5 HB5.out).mono ?_
          rintro e w6 ⟨rfl, hb6⟩
          have HB6 := Lib.hid (below_next HB5.out (Nat.le_refl _) hb6)
          clear hb6
          go_wp2_with fail
          refine (HAB.out w6 HB6.out).mono ?_
          rintro e w7 ⟨rfl, hb7⟩
          have HB7 := Lib.hid (below_next HB6.out (Nat.le_refl _) hb7)
          clear hb7
          by_cases h0 : zp + zd = 0
          · obtain rfl : b = true := HBN.out.trans (decide_eq_true h0)
            obtain rfl : zp = 0 := by omega
            obtain rfl : zd = 0 := by omega
            go_wp2_with fail
            refine (HAB.out w7 HB7.out).mono ?_
            rintro e w8 ⟨rfl, hb8⟩
            have HB8 := Lib.hid (below_next HB7.out (Nat.le_refl _) hb8)
            clear hb8
            go_wp2_with fail
            refine (HBA.out w8 HB8.out).mono ?_
            rintro e w9 ⟨rfl, hb9⟩
            go_wp2_with fail
            go_ret
            exact ⟨rfl, below_next HB8.out (Nat.le_refl _) hb9⟩
          · obtain rfl : b = false := HBN.out.trans (decide_eq_false h0)
            have h0' : ((zp : Int) + (zd : Int) == 0) = false := by rw [beq_eq_false_iff_ne]; omega
            have h0'' : ¬ ((zp : Int) + (zd : Int) = 0) := by omega
            go_wp2_with fail
            refine (HAB.out w7 HB7.out).mono ?_
            rintro e w8 ⟨rfl, hb8⟩
            have HB8 := Lib.hid (below_next HB7.out (Nat.le_refl _) hb8)
            clear hb8
            go_wp2_with fail
            refine (HBA.out w8 HB8.out).mono ?_
            rintro e w9 ⟨rfl, hb9⟩
            go_wp2_with fail
            go_ret
            exact ⟨rfl, below_next HB8.out (Nat.le_refl _) hb9⟩

end Go.Proofs.Ythckecfjghjnjaa.mk
