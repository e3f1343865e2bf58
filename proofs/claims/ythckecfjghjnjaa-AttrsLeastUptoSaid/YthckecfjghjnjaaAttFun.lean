/-
  Contracts of attrs' named, of slices.IndexFunc at attributes, and of kept, whatever the function that tells what is wanted.
-/
import Derived.Test.YthckecfjghjnjaaAttFix
namespace Go.Proofs.Ythckecfjghjnjaa.mk
open Go.RowKit

set_option maxHeartbeats 400000 in
theorem named_any (s : ByteArray) (w : World) :
    Calls Try.prog 18 #[.string s] w fun e w' => e = .returned (.func (.func 33) #[] #[.pointer (some ⟨w.heap.size, 0, none⟩)]) ∧ w'.cell? ⟨w.heap.size, 0, none⟩ = some (.string s) ∧ Below w.heap.size w w' := by
  go_enter Try.func18, Try.ntmps18
  go_wp2
  go_ret
  exact ⟨rfl, (Whole.made w _ _).at_ 0, (Below.refl _ _).alloc (Nat.le_refl _) _⟩

set_option maxHeartbeats 400000 in
theorem namedF_any (a : AT) (g : Nat) (s : ByteArray) (w : World) (h : w.cell? ⟨g, 0, none⟩ = some (.string s)) :
    Calls Try.prog 33 #[.agg #[.string a.nm.s, .slice a.nm.A a.nm.n a.nm.c, .string a.vl.s, .slice a.vl.A a.vl.n a.vl.c], .pointer (some ⟨g, 0, none⟩)] w fun e w' => e = .returned (.bool (nmB a.ch == s.data.toList)) ∧ Below w.heap.size w w' := by
  have hg := World.block_lt_of_cell? w _ h
  go_enter Try.func33, Try.ntmps33
  go_wp2_with fail
  have h' : (w.alloc (.cells #[.string a.nm.s, .slice a.nm.A a.nm.n a.nm.c, .string a.vl.s, .slice a.vl.A a.vl.n a.vl.c] 27)).cell? ⟨g, 0, none⟩ = some (.string s) := (((Below.refl w.heap.size w).alloc (Nat.le_refl _) _).cell hg).trans h
  have hb : Below w.heap.size w (w.alloc (.cells #[.string a.nm.s, .slice a.nm.A a.nm.n a.nm.c, .string a.vl.s, .slice a.vl.A a.vl.n a.vl.c] 27)) := (Below.refl _ _).alloc (Nat.le_refl _) _
  go_wp2
  go_ret
  refine ⟨ret_bool ?_, hb⟩
  rw [AT.nmB, ByteArray.toList_eq, ByteArray.toList_eq]
  rfl

/-- the place of a name; -1 where there is none -/
def plI (L : List PA) (nm : List UInt8) : Int := if placeN L nm < L.length then (placeN L nm : Int) else -1

def IdxRel (nm : List UInt8) (L : List PA) (n : Nat) (w0 : World) (i : Value) (wr : World) : Prop :=
  ∃ k : Nat, k ≤ n ∧ i = .int .i64 (k : Int) ∧ (∀ (j : Nat) (q : PA), j < k → L[j]? = some q → nmB q ≠ nm) ∧ Below w0.heap.size w0 wr

set_option maxHeartbeats 1000000 in
set_option maxRecDepth 100000 in
theorem attIndex_any (F : Nat) (caps : Array Value) (nm : List UInt8) (A : Option Addr) (n c : Nat) (ts : List AT) (w : World) (hl : Lies w w.heap.size A (atCells ts)) (hn : ts.length = n) (hn2 : n ≤ 4294967296)
    (hE : ∀ args w', Sem.run Try.prog (callFunc F args) w' = .ok (.enter F args) w')
    (hF : ∀ (t : AT) w', Below w.heap.size w w' → Calls Try.prog F (#[.agg #[.string t.nm.s, .slice t.nm.A t.nm.n t.nm.c, .string t.vl.s, .slice t.vl.A t.vl.n t.vl.c]] ++ caps) w' fun e w'' => e = .returned (.bool (nmB t.ch == nm)) ∧ Below w'.heap.size w' w'') :
    Calls Try.prog 17 #[.slice A n c, .func (.func F) #[] caps] w fun e w' => e = .returned (.int .i64 (plI (ts.map AT.ch) nm)) ∧ Below w.heap.size w w' := by
  have HN := Lib.hid hn
  have HE := Lib.hid hE
  have HF := Lib.hid hF
  have HL := Lib.hid hl
  have HLN : Hid ((ts.map AT.ch).length = n) := by show _ = _; rw [List.length_map]; exact hn
  clear hn hE hF hl
  go_enter Try.func17, Try.ntmps17
  go_wp2_with fail
  go_loopw [8] (IdxRel nm (ts.map AT.ch) n w) (fun i _ => n - (intOf i).toNat)
  case atStart => exact ⟨0, Nat.zero_le _, rfl, fun j q hj _ => by omega, Below.refl _ _⟩
  case round =>
    obtain ⟨k, hk, rfl, hno, hb⟩ := hrel
    have HNO := Lib.hid hno
    clear hno
    by_cases hlt : k < n
    · obtain ⟨ad, t, rfl, hbA, d0, d1, d2, d3, HR⟩ := (HL.out.below hb).att (k := k) (by rw [HN.out]; exact hlt)
      have hk0 : (0 : Int) ≤ (k : Int) := Int.natCast_nonneg _
      have hk1 : (k : Int) < (n : Int) := by omega
      have HRC := Lib.hid (chs_at HR.out)
      go_wp2_with fail
      rw [HE.out]
      refine (HF.out t _ hb).mono ?_
      rintro e w2 ⟨rfl, hb2⟩
      have hb3 := below_next hb (Nat.le_refl _) hb2
      cases he : nmB t.ch == nm with
      | true =>
        have HP : Hid (plI (ts.map AT.ch) nm = (k : Int)) := by
          show _ = _
          unfold plI
          rw [placeN_of HRC.out (beq_iff_eq.1 he) HNO.out, HLN.out, if_pos hlt]
        clear he
        go_wp2_with fail
        go_ret
        exact ⟨by rw [HP.out]; rfl, hb3⟩
      | false =>
        have hne := beq_eq_false_iff_ne.1 he
        have HS : Hid (∀ (j : Nat) (q : PA), j < k + 1 → (ts.map AT.ch)[j]? = some q → nmB q ≠ nm) := by
          intro j q hj hq
          rcases Nat.lt_or_ge j k with h | h
          · exact HNO.out j q h hq
          · obtain rfl : j = k := by omega
            rw [HRC.out] at hq
            injection hq with hq
            rw [← hq]; exact hne
        clear he hne
        go_wp2_with fail
        go_roundw
        case rel => exact ⟨k + 1, by omega, by go_num, HS.out, hb3⟩
        case measure => simp [intOf]; omega
    · have HP : Hid (plI (ts.map AT.ch) nm = -1) := by
        show _ = _
        unfold plI
        rw [placeN_none (fun j q hq => HNO.out j q (by have := (List.getElem?_eq_some_iff.1 hq).1; rw [HLN.out] at this; omega) hq), if_neg (Nat.lt_irrefl _)]
      go_wp2_with fail
      go_ret
      exact ⟨by rw [HP.out]; rfl, hb⟩

/-- what is told of those that are wanted -/
def KeptPost (S : Nat → Prop) (I : World → Prop) (qs : List PA) (w : World) (e : Ending) (w' : World) : Prop :=
  ∃ A c ts, e = .returned (.slice A ts.length c) ∧ w'.ownsRow w.heap.size 27 4 (.slice A ts.length c) ts.length (atCells ts) ∧ AllOwn w' w.heap.size ts ∧ ts.map AT.ch = qs ∧ Moved S w w' ∧ I w'

def KeptRel (S : Nat → Prop) (Inv : Nat → World → Prop) (p : Nat → Bool) (L : List PA) (n : Nat) (w0 : World) (v i : Value) (wr : World) : Prop :=
  ∃ (k : Nat) (us : List AT), k ≤ n ∧ i = .int .i64 (k : Int) ∧ wr.ownsRow w0.heap.size 27 4 v us.length (atCells us) ∧ AllOwn wr w0.heap.size us ∧ us.map AT.ch = selTo p L k ∧ Moved S w0 wr ∧ Inv k wr

theorem Moved.cell {S : Nat → Prop} {w w' : World} (h : Moved S w w') {p : Addr} (hp : p.block < w.heap.size) (hs : ¬ S p.block) : w'.cell? p = w.cell? p := by
  unfold World.cell?
  rw [h.block _ hp hs]
theorem AllOwn.moved {S : Nat → Prop} {w w' : World} {base : Nat} {ts : List AT} (h : AllOwn w base ts) (hm : Moved S w w') (hs : ∀ g, S g → g < base) : AllOwn w' base ts :=
  fun t ht => (h t ht).keep fun g _ hg hc => hm.block g (Array.getElem?_eq_some_iff.1 hc).1 (fun h => by have := hs g h; omega)

/-- a round that leaves one out -/
theorem kept_miss {S : Nat → Prop} {Inv : Nat → World → Prop} {p : Nat → Bool} {L : List PA} {n k : Nat} {w0 w w1 w2 : World} {v : Value} {us : List AT} {x : PA} (hx : L[k]? = some x) (hk : k < n) (hp : p k = false) (hS : ∀ g, S g → g < w0.heap.size)
    (hown : w.ownsRow w0.heap.size 27 4 v us.length (atCells us)) (hA : AllOwn w w0.heap.size us) (hq : us.map AT.ch = selTo p L k) (hm : Moved S w0 w) (hb : Below w.heap.size w w1) (hm1 : Moved S w1 w2) (hI : Inv (k + 1) w2) :
    KeptRel S Inv p L n w0 v (.int .i64 ((k : Int) + 1)) w2 := by
  have hm01 : Moved S w w2 := (Moved.of_below hb).trans hm1
  refine ⟨k + 1, us, by omega, by simp, hm01.own hown (fun g hg h => by have := (hown.lt g hg).1; have := hS g h; omega), hA.moved hm01 hS, ?_, hm.trans hm01, hI⟩
  rw [selTo_next hx, hp, hq]
  simp
/-- a round that keeps one -/
theorem kept_hit {S : Nat → Prop} {Inv : Nat → World → Prop} {p : Nat → Bool} {L : List PA} {n k : Nat} {w0 w w1 w2 w3 w4 : World} {v v' : Value} {us : List AT} {t : AT} {x : PA} {ob : Obj} (hx : L[k]? = some x) (hk : k < n) (hp : p k = true) (hS : ∀ g, S g → g < w0.heap.size)
    (hIn : ∀ k w' w'', Inv k w' → Below w0.heap.size w' w'' → Inv k w'')
    (hown : w.ownsRow w0.heap.size 27 4 v us.length (atCells us)) (hA : AllOwn w w0.heap.size us) (hq : us.map AT.ch = selTo p L k) (hm : Moved S w0 w) (hb : Below w.heap.size w w1) (hm1 : Moved S w1 w2) (hI : Inv (k + 1) w2)
    (ht : t.ch = x) (ho : OwnA w3 w2.heap.size t) (hb3 : Below w2.heap.size w2 w3) (hown4 : w4.ownsRow w0.heap.size 27 4 v' (us.length + 1) (atCells us ++ atRow t)) (hg : (w3.alloc ob).grownBy w4 v.ownBlock) :
    KeptRel S Inv p L n w0 v' (.int .i64 ((k : Int) + 1)) w4 := by
  have hm03 : Moved S w w3 := ((Moved.of_below hb).trans hm1).trans (Moved.of_below hb3)
  have hown3 : (w3.alloc ob).ownsRow w0.heap.size 27 4 v us.length (atCells us) := (hm03.own hown (fun g hg h => by have := (hown.lt g hg).1; have := hS g h; omega)).alloc _
  have hlt := fun g (hg : v.ownBlock = some g) => (hown3.lt g hg).1
  have hz : w0.heap.size ≤ w.heap.size := hm.size
  have hz2 : w.heap.size ≤ w2.heap.size := ((Moved.of_below (S := S) hb).trans hm1).size
  have hbg : Below w0.heap.size w2 w4 := ((hb3.mono (by omega)).alloc (by have := hb3.size; omega) ob).grown hg (by have := hb3.size; simp; omega) hlt
  refine ⟨k + 1, us ++ [t], by omega, by simp, ?_, ?_, ?_, ((hm.trans hm03).alloc ob).grown hg (fun g hg => hlt g hg), hIn _ _ _ hI hbg⟩
  · rw [atCells_snoc, List.length_append, List.length_singleton]
    exact hown4
  · have h3 : AllOwn (w3.alloc ob) w0.heap.size (us ++ [t]) := ((hA.moved hm03 hS).snoc (ho.mono (by omega))).below ((Below.refl _ _).alloc (Nat.le_refl _) _)
    exact fun y hy => (h3 y hy).grown hown3 (by decide) hg
  · rw [List.map_append, hq, selTo_next hx, hp]
    simp [ht]

set_option maxHeartbeats 2000000 in
set_option maxRecDepth 100000 in
theorem kept_any (F : Nat) (caps : Array Value) (S : Nat → Prop) (Inv : Nat → World → Prop) (p : Nat → Bool) (B0 : Nat) (A : Option Addr) (n c : Nat) (ts : List AT) (w : World) (hl : Lies w B0 A (atCells ts)) (hok : AllOk w B0 ts) (hn : ts.length = n) (hn2 : n ≤ 4294967296)
    (hE : ∀ args w', Sem.run Try.prog (callFunc F args) w' = .ok (.enter F args) w') (hB0 : B0 ≤ w.heap.size) (hS : ∀ g, S g → B0 ≤ g ∧ g < w.heap.size) (hI : ∀ k w' w'', Inv k w' → Below w.heap.size w' w'' → Inv k w'') (hI0 : Inv 0 w)
    (hF : ∀ (k : Nat) (t : AT) w', ts[k]? = some t → Inv k w' → t.ok w' w'.heap.size → w.heap.size ≤ w'.heap.size → Calls Try.prog F (#[.agg #[.string t.nm.s, .slice t.nm.A t.nm.n t.nm.c, .string t.vl.s, .slice t.vl.A t.vl.n t.vl.c]] ++ caps) w' fun e w'' => e = .returned (.bool (p k)) ∧ Inv (k + 1) w'' ∧ Moved S w' w'') :
    Calls Try.prog 20 #[.slice A n c, .func (.func F) #[] caps] w (KeptPost S (Inv n) (sel p (ts.map AT.ch)) w) := by
  obtain ⟨i0, hi, hz0, hz1, hz2⟩ := info_parts att_info
  have HN := Lib.hid hn
  have HE := Lib.hid hE
  have HF := Lib.hid hF
  have HL := Lib.hid hl
  have HS := Lib.hid hS
  have HI := Lib.hid hI
  have HI0 := Lib.hid hI0
  have HOK := Lib.hid hok
  have HLN : Hid ((ts.map AT.ch).length = n) := by show _ = _; rw [List.length_map]; exact hn
  have HS2 : Hid (∀ g, S g → g < w.heap.size) := fun g h => (hS g h).2
  clear hn hE hF hl hS hI hI0 hok
  go_enter Try.func20, Try.ntmps20
  go_wp2_with fail
  go_loopw [5, 10] (KeptRel S Inv p (ts.map AT.ch) n w) (fun _ i _ => n - (intOf i).toNat)
  case atStart => exact ⟨0, [], Nat.zero_le _, rfl, World.ownsRow_nil _ _ _ _, (by intro t ht; cases ht), rfl, Moved.refl _ _, HI0.out⟩
  case round =>
    obtain ⟨k, us, hk, rfl, hown, hA, hq, hm, hinv⟩ := hrel
    have hkeep : ∀ q : Addr, q.block < B0 → wr.cell? q = w.cell? q := fun q hq => hm.cell (by omega) (fun h => by have := (HS.out _ h).1; omega)
    have HKEEP := Lib.hid hkeep
    have hzr := hm.size
    have hul : us.length ≤ k := by
      have h1 := selTo_len p (ts.map AT.ch) k
      rw [← hq, List.length_map] at h1
      exact h1
    obtain ⟨A5, c5, rfl, _, _, _⟩ := own_form hown
    have HOW := Lib.hid hown
    have HA := Lib.hid hA
    have HQ := Lib.hid hq
    have HM := Lib.hid hm
    have HINV := Lib.hid hinv
    clear hown hA hq hm hinv hkeep
    by_cases hlt : k < n
    · obtain ⟨ad, t, rfl, hbA, d0, d1, d2, d3, HR⟩ := (HL.out.keep HKEEP.out).att (k := k) (by rw [HN.out]; exact hlt)
      have hk0 : (0 : Int) ≤ (k : Int) := Int.natCast_nonneg _
      have hk1 : (k : Int) < (n : Int) := by omega
      have HRC := Lib.hid (chs_at HR.out)
      have HTO : Hid (t.ok wr B0) := (HOK.out.keep HKEEP.out).get HR.out
      go_wp2_with fail
      generalize hw4 : wr.alloc (.cells #[.string t.nm.s, .slice t.nm.A t.nm.n t.nm.c, .string t.vl.s, .slice t.vl.A t.vl.n t.vl.c] 27) = w4
      have y4 : Whole w4 wr.heap.size 27 #[.string t.nm.s, .slice t.nm.A t.nm.n t.nm.c, .string t.vl.s, .slice t.vl.A t.vl.n t.vl.c] := by rw [← hw4]; exact Whole.made _ _ _
      have hb4 : Below wr.heap.size wr w4 := by rw [← hw4]; exact (Below.refl _ _).alloc (Nat.le_refl _) _
      clear hw4 d0 d1 d2 d3
      have hz4 := hb4.size
      have e0 : w4.cell? ⟨wr.heap.size, 0, none⟩ = some (.string t.nm.s) := y4.at_ 0
      have e1 : w4.cell? ⟨wr.heap.size, 1, none⟩ = some (.slice t.nm.A t.nm.n t.nm.c) := y4.at_ 1
      have e2 : w4.cell? ⟨wr.heap.size, 2, none⟩ = some (.string t.vl.s) := y4.at_ 2
      have e3 : w4.cell? ⟨wr.heap.size, 3, none⟩ = some (.slice t.vl.A t.vl.n t.vl.c) := y4.at_ 3
      go_wp2_with fail
      rw [HE.out]
      refine (HF.out k t w4 HR.out (HI.out _ _ _ HINV.out (hb4.mono (by omega))) ((HTO.out.below (hb4.mono (by omega))).mono (by omega)) (by omega)).mono ?_
      rintro e w5 ⟨rfl, hinv5, hm5⟩
      clear e0 e1 e2 e3
      cases hp : p k with
      | false =>
        have HIN : Hid (KeptRel S Inv p (ts.map AT.ch) n w (.slice A5 us.length c5) (.int .i64 ((k : Int) + 1)) w5) := kept_miss HRC.out hlt hp HS2.out HOW.out HA.out HQ.out HM.out hb4 hm5 hinv5
        clear hinv5 hm5 hp y4 hb4
        go_wp2_with fail
        go_roundw
        case rel => exact HIN.out
        case measure => simp [intOf]; omega
      | true =>
        have hns : ¬ S wr.heap.size := fun h => by have := HS2.out _ h; omega
        have y5 := hm5.whole y4 hns
        have e0 : w5.cell? ⟨wr.heap.size, 0, none⟩ = some (.string t.nm.s) := y5.at_ 0
        have e1 : w5.cell? ⟨wr.heap.size, 1, none⟩ = some (.slice t.nm.A t.nm.n t.nm.c) := y5.at_ 1
        have e2 : w5.cell? ⟨wr.heap.size, 2, none⟩ = some (.string t.vl.s) := y5.at_ 2
        have e3 : w5.cell? ⟨wr.heap.size, 3, none⟩ = some (.slice t.vl.A t.vl.n t.vl.c) := y5.at_ 3
        have hz5 := hm5.size
        have HTO5 : Hid (t.ok w5 w5.heap.size) := ((HTO.out.below (hb4.mono (by omega))).keep (fun q hq => hm5.cell (by omega) (fun h => by have := (HS.out _ h).1; omega))).mono (by omega)
        have H5 := Lib.hid hm5
        have HI5 := Lib.hid hinv5
        have HP := Lib.hid hp
        have HB4 := Lib.hid hb4
        clear hinv5 hm5 hp y4 y5 hb4
        go_wp2_with fail
        refine (fixA_any t w5 HTO5.out).mono ?_
        rintro e w6 ⟨t', rfl, hch, ho6, hb6⟩
        have hown6 : w6.ownsRow w.heap.size 27 4 (.slice A5 us.length c5) us.length (atCells us) := (((Moved.of_below HB4.out).trans H5.out).trans (Moved.of_below hb6)).own HOW.out (fun g hg h => by have := (HOW.out.lt g hg).1; have := HS2.out g h; omega)
        have hz6 := hb6.size
        have HO6 := Lib.hid ho6
        have HB6 := Lib.hid hb6
        have HCH := Lib.hid hch
        clear ho6 hb6 hch e0 e1 e2 e3
        unfold AT.v
        generalize hz : us.length = z at *
        have HZ := Lib.hid hz
        clear hz
        go_wp2_with (at_builtin; refine wpList_append_own_at _ rfl _ _ 22 rfl w.heap.size 27 i0 _ 4 80 Try.underlying22 hi hz0 hz1 hz2 rfl (by decide) (.slice A5 z c5) z _ rfl (hown6.alloc _) ⟨w6.heap.size, 0, none⟩ 1 1 (atRow t') rfl rfl (cells_new w6 _ _) (by simp [Value.oneCell', atRow]) (by simp only [maxLen]; omega) (by omega) (by simp; omega) ?_)
        intro v' w7 hown7 hgrow _ _
        obtain ⟨A7, d7, rfl, _, _, _⟩ := own_form hown7
        have HIN : Hid (KeptRel S Inv p (ts.map AT.ch) n w (.slice A7 (z + 1) d7) (.int .i64 ((k : Int) + 1)) w7) := by
          have hgr := hgrow
          have hon := hown7
          have how := HOW.out
          rw [← HZ.out] at hgr hon how ⊢
          exact kept_hit HRC.out hlt HP.out HS2.out HI.out how HA.out HQ.out HM.out HB4.out H5.out HI5.out HCH.out HO6.out HB6.out hon hgr
        clear hgrow hown7 hown6
        go_wp2_with fail
        go_roundw
        case rel => exact HIN.out
        case measure => simp [intOf]; omega
    · obtain rfl : k = n := by omega
      go_wp2_with fail
      go_ret
      exact ⟨A5, c5, us, rfl, HOW.out, HA.out, by rw [HQ.out]; unfold sel; rw [HLN.out], HM.out, HINV.out⟩

end Go.Proofs.Ythckecfjghjnjaa.mk
