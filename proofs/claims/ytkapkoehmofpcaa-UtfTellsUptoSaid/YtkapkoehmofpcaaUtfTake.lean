/-
  Contracts of utf's taker and of the function that it tells.
-/
import Derived.Test.YtkapkoehmofpcaaApp
import Derived.Test.YtkapkoehmofpcaaMarkFix
import Derived.Outline
namespace Go.Proofs.Ytkapkoehmofpcaa.mk
open Go.RowKit

/-- runs as they should be -/
def Good (rs : List (Int × Int)) : Prop := ∀ r ∈ rs, 1 ≤ r.1 ∧ 0 ≤ r.2 ∧ r.2 ≤ 65536
theorem Good.nil : Good [] := by intro r h; simp at h
theorem Good.append {a b : List (Int × Int)} (ha : Good a) (hb : Good b) : Good (a ++ b) := by
  intro r h
  rcases List.mem_append.1 h with h | h
  · exact ha r h
  · exact hb r h
theorem Good.one {l o : Int} (h : 1 ≤ l ∧ 0 ≤ o ∧ o ≤ 65536) : Good [(l, o)] := by intro r hr; simp at hr; subst hr; exact h
theorem Good.tail {r : Int × Int} {a : List (Int × Int)} (h : Good (r :: a)) : Good a := fun x hx => h x (by simp [hx])
theorem Good.comp {l : List Int} (h : ∀ o ∈ l, 0 ≤ o ∧ o ≤ 65536) : Good (mk.comp l) := by
  intro r hr
  have h1 := comp_pos l r hr
  have h2 : r.2 ∈ expand (mk.comp l) := by
    unfold expand
    rw [List.mem_flatMap]
    exact ⟨r, hr, by rw [List.mem_replicate]; exact ⟨by omega, rfl⟩⟩
  rw [expand_comp] at h2
  exact ⟨h1, h r.2 h2⟩
theorem good_length {a : List (Int × Int)} (h : Good a) : a.length ≤ (expand a).length := by
  induction a with
  | nil => simp
  | cons r a ih =>
    have h1 := h r (by simp)
    have h2 := ih h.tail
    simp only [expand, List.flatMap_cons, List.length_append, List.length_replicate, List.length_cons] at h2 ⊢
    omega
theorem expand_cons (r : Int × Int) (a : List (Int × Int)) : expand (r :: a) = List.replicate r.1.toNat r.2 ++ expand a := by simp [expand]
theorem expand_one (l o : Int) : expand [(l, o)] = List.replicate l.toNat o := by simp [expand]

/-- the variable in block bv is a slice of block g that holds these runs -/
def RunsAt (w : World) (bv g : Nat) (qs : List (Int × Int)) : Prop :=
  ∃ A n c, Whole w bv 22 #[.slice A n c] ∧ qs.length = n ∧ n ≤ c ∧ (0 < n → ∃ off cs, A = some ⟨g, off, none⟩ ∧ Whole w g 30 cs ∧ ∀ j u, (runCells qs)[j]? = some u → cs[off + j]? = some u)
def Two (bv g : Nat) (k : Nat) : Prop := k = bv ∨ k = g

theorem run_tail {l o : Int} {qs : List (Int × Int)} {cs : Array Value} {off : Nat} (h : ∀ j u, (runCells ((l, o) :: qs))[j]? = some u → cs[off + j]? = some u) (v : Value) : ∀ j u, (runCells qs)[j]? = some u → (cs.setIfInBounds off v)[off + 2 + j]? = some u := by
  intro j u hu
  rw [Array.getElem?_setIfInBounds_ne (by omega), Nat.add_assoc]
  refine h (2 + j) u ?_
  rw [show 2 + j = j + 1 + 1 by omega]
  exact hu
theorem take_cut {w : World} {bv g n c off : Nat} {cs : Array Value} {l o l' : Int} {qs : List (Int × Int)} (hne : bv ≠ g) (hV : Whole w bv 22 #[.slice (some ⟨g, off, none⟩) n c]) (hW : Whole w g 30 cs) (hn : qs.length + 1 = n) (hc : n ≤ c)
    (h : ∀ j u, (runCells ((l, o) :: qs))[j]? = some u → cs[off + j]? = some u) : RunsAt (w.setCell ⟨g, off, none⟩ (.int .i64 l')) bv g ((l', o) :: qs) := by
  refine ⟨_, n, c, hV.far _ hne _, by simpa using hn, hc, fun _ => ⟨off, _, rfl, hW.put off _, ?_⟩⟩
  intro j u hu
  have x0 := h 0 (.int .i64 l) rfl
  rcases j with _ | j
  · have e : u = .int .i64 l' := by simpa [runCells] using hu.symm
    rw [e, Nat.add_zero, Array.getElem?_setIfInBounds_self_of_lt (by simpa using (Array.getElem?_eq_some_iff.1 x0).1)]
  · rw [Array.getElem?_setIfInBounds_ne (by omega)]
    exact h (j + 1) u hu
theorem take_drop {w : World} {bv g n c off : Nat} {A A' : Option Addr} {cs : Array Value} {l o : Int} {qs : List (Int × Int)} (hne : bv ≠ g) (hV : Whole w bv 22 #[.slice A n c]) (hW : Whole w g 30 cs) (hn : qs.length + 1 = n) (hc : n ≤ c)
    (h : ∀ j u, (runCells ((l, o) :: qs))[j]? = some u → cs[off + j]? = some u) (hA : 1 < c → A' = some ⟨g, off + 2, none⟩) (v : Value) : RunsAt ((w.setCell ⟨g, off, none⟩ v).setCell ⟨bv, 0, none⟩ (.slice A' (n - 1) (c - 1))) bv g qs := by
  refine ⟨A', n - 1, c - 1, (hV.far ⟨g, off, none⟩ hne _).put 0 _, by omega, by omega, fun hp => ⟨off + 2, _, hA (by omega), (hW.put off v).far ⟨bv, 0, none⟩ (Ne.symm hne) _, run_tail h v⟩⟩
theorem take_own {w : World} {base z : Nat} {v' : Value} {ts : List (Int × Int)} {k o : Int} (hz : ts.length = z) (h : w.ownsRow base 30 2 v' (z + 1) (runCells ts ++ [.int .i64 k, .int .i64 o])) :
    w.ownsRow base 30 2 v' (ts ++ [(k, o)]).length (runCells (ts ++ [(k, o)])) := by
  rw [runCells_append, List.length_append, hz]
  exact h

def TakeRel (qs0 : List (Int × Int)) (m0 bv g : Nat) (w0 : World) (m v : Value) (wr : World) : Prop :=
  ∃ (k : Nat) (ts qs : List (Int × Int)), m = .int .i64 (k : Int) ∧ wr.ownsRow w0.heap.size 30 2 v ts.length (runCells ts) ∧ RunsAt wr bv g qs ∧ Good ts ∧ Good qs ∧ expand ts ++ expand qs = expand qs0 ∧ (expand ts).length + k = m0 ∧ Moved (Two bv g) w0 wr

/-- what is told: runs for m bytes; the variable holds the others -/
def Takes (qs0 : List (Int × Int)) (m0 bv g : Nat) (w : World) (e : Ending) (w' : World) : Prop :=
  ∃ v ts qs, e = .returned v ∧ w'.ownsRow w.heap.size 30 2 v ts.length (runCells ts) ∧ RunsAt w' bv g qs ∧ Good ts ∧ Good qs ∧ expand ts ++ expand qs = expand qs0 ∧ (expand ts).length = m0 ∧ Moved (Two bv g) w w'

set_option maxHeartbeats 1000000 in
set_option maxRecDepth 100000 in
theorem take_any (qs0 : List (Int × Int)) (m0 bv g : Nat) (w : World) (hr : RunsAt w bv g qs0) (hg : Good qs0) (hm : m0 ≤ (expand qs0).length) (hz : (expand qs0).length ≤ 4294967296) (hbv : bv < w.heap.size) (hgl : g < w.heap.size) :
    Calls Try.prog 47 #[.int .i64 m0, .pointer (some ⟨bv, 0, none⟩)] w (Takes qs0 m0 bv g w) := by
  obtain ⟨i0, hi, hz0, hz1, hz2⟩ := info_parts run_info
  go_enter Try.func47, Try.ntmps47
  go_wp2_with fail
  go_loopw [0, 4] (TakeRel qs0 m0 bv g w) (fun m _ _ => (intOf m).toNat)
  case atStart => exact ⟨m0, [], qs0, rfl, World.ownsRow_nil _ _ _ _, hr, Good.nil, hg, by simp [expand], by simp [expand], Moved.refl _ _⟩
  case round =>
    obtain ⟨k, ts, qs, rfl, hown, ⟨A, n, c, hV, hn, hnc, hcell⟩, hgt, hgq, hex, hlen, hmv⟩ := hrel
    have hws := hmv.size
    have c0 : wr.cell? ⟨bv, 0, none⟩ = some (.slice A n c) := hV.at_ 0
    have hkz : (expand ts).length + (expand qs).length = (expand qs0).length := by rw [← List.length_append, hex]
    obtain ⟨A4, d4, rfl, _, _, _⟩ := own_form hown
    by_cases hk : 0 < k
    · cases qs with
      | nil => exfalso; have h0 : (expand ([] : List (Int × Int))).length = 0 := rfl; omega
      | cons r qs1 =>
        obtain ⟨l, o⟩ := r
        have hn' : qs1.length + 1 = n := by simpa using hn
        obtain ⟨off, cs, rfl, hW, hcs⟩ := hcell (by omega)
        obtain ⟨hl1, ho1, ho2⟩ := hgq (l, o) (by simp)
        simp only at hl1 ho1 ho2
        have hne : bv ≠ g := by
          intro e
          subst e
          have h1 := hV
          have h2 := hW
          unfold Whole at h1 h2
          rw [h1] at h2
          injection h2 with h2
          injection h2 with _ h2
          exact absurd h2 (by decide)
        have x0 := hcs 0 (.int .i64 l) rfl
        have x1 := hcs 1 (.int .i64 o) rfl
        have d0 : wr.cell? ⟨g, off, none⟩ = some (.int .i64 l) := (hW.at_ off).trans x0
        have d1 : wr.cell? ⟨g, off + 1, none⟩ = some (.int .i64 o) := (hW.at_ (off + 1)).trans x1
        have e1 := expand_cons (l, o) qs1
        have hl2 : l ≤ 4294967296 := by
          have := congrArg List.length e1
          rw [List.length_append, List.length_replicate] at this
          simp only at this
          omega
        have hk2 : k ≤ 4294967296 := by omega
        have hn0 : (0 : Int) < n := by omega
        have HN := Lib.hid hn'
        have HCS := Lib.hid hcs
        have HEX := Lib.hid hex
        have HLEN := Lib.hid hlen
        have HE1 := Lib.hid e1
        have htl := good_length hgt
        have X0 := Lib.hid x0
        clear hn hn' hcs hex hlen e1 x0 x1 hcell
        generalize hz : ts.length = z at *
        have HZ := Lib.hid hz
        clear hz
        by_cases hkl : (k : Int) < l
        · have hmin : min (k : Int) l = (k : Int) := by omega
          go_wp2_with (at_builtin; refine wpList_append_own_at _ rfl _ _ 22 rfl w.heap.size 30 i0 _ 2 16 Try.underlying22 hi hz0 hz1 hz2 rfl (by decide) (.slice A4 z d4) z _ rfl (hown.alloc _) ⟨wr.heap.size, 0, none⟩ 1 1 [.int .i64 (k : Int), .int .i64 o] rfl rfl (cells_new wr _ _) (by simp [Value.oneCell']) (by simp only [maxLen]; omega) (by omega) (by simp; omega) ?_)
          intro v' w1 hown1 hgrow _ _
          obtain ⟨A5, d5, rfl, _, _, _⟩ := own_form hown1
          have hfar : ∀ x, x < w.heap.size → some x ≠ (Value.slice A4 z d4).ownBlock := fun x hx e => by have := hown.lt x e.symm; omega
          have hV1 : Whole w1 bv 22 _ := (hV.alloc _).grown hgrow (hfar _ hbv)
          have hW1 : Whole w1 g 30 cs := (hW.alloc _).grown hgrow (hfar _ hgl)
          have y0 : w1.cell? ⟨bv, 0, none⟩ = some (.slice (some ⟨g, off, none⟩) n c) := hV1.at_ 0
          have y1 : w1.cell? ⟨g, off, none⟩ = some (.int .i64 l) := (hW1.at_ off).trans X0.out
          have y2 := hW1.free off
          have y3 := hV1.free 0
          have hmv1 : Moved (Two bv g) w w1 := (hmv.alloc _).grown hgrow (fun x hx => (hown.lt x hx).1)
          have hlt5 := hown1.lt
          have HMV := Lib.hid hmv1
          have HO1 := Lib.hid hown1
          have HL5 : Hid (∀ x, x < w.heap.size → (Value.slice A5 (z + 1) d5).ownBlock ≠ some x) := fun x hx e => by have := hlt5 x e; omega
          clear hgrow hfar hmv1 hown1 hlt5 c0 d0 d1 hmv hown hV hW
          go_wp2_with fail
          go_roundw
          case rel =>
            refine ⟨0, ts ++ [((k : Int), o)], (l - k, o) :: qs1, by go_num, ?_, take_cut hne hV1 hW1 HN.out hnc HCS.out, hgt.append (Good.one ⟨by omega, ho1, ho2⟩), ?_, ?_, ?_, ?_⟩
            · exact own_far (take_own HZ.out HO1.out) _ (HL5.out _ hgl) _
            · exact (Good.one ⟨by omega, ho1, ho2⟩).append hgq.tail
            · rw [← HEX.out, expand_append, expand_one, expand_cons, HE1.out]
              simp only [List.append_assoc]
              rw [← List.append_assoc (List.replicate _ _) (List.replicate _ _), List.replicate_append_replicate]
              congr 3
              omega
            · rw [expand_append, expand_one, List.length_append, List.length_replicate]; have := HLEN.out; omega
            · exact HMV.out.setCell (.inr rfl) _
          case measure => simp [intOf]; omega
        · have hmin : min (k : Int) l = l := by omega
          by_cases hc1 : c = 1
          · subst hc1
            go_wp2_with (at_builtin; refine wpList_append_own_at _ rfl _ _ 22 rfl w.heap.size 30 i0 _ 2 16 Try.underlying22 hi hz0 hz1 hz2 rfl (by decide) (.slice A4 z d4) z _ rfl (hown.alloc _) ⟨wr.heap.size, 0, none⟩ 1 1 [.int .i64 l, .int .i64 o] rfl rfl (cells_new wr _ _) (by simp [Value.oneCell']) (by simp only [maxLen]; omega) (by omega) (by simp; omega) ?_)
            intro v' w1 hown1 hgrow _ _
            obtain ⟨A5, d5, rfl, _, _, _⟩ := own_form hown1
            have hfar : ∀ x, x < w.heap.size → some x ≠ (Value.slice A4 z d4).ownBlock := fun x hx e => by have := hown.lt x e.symm; omega
            have hV1 : Whole w1 bv 22 _ := (hV.alloc _).grown hgrow (hfar _ hbv)
            have hW1 : Whole w1 g 30 cs := (hW.alloc _).grown hgrow (hfar _ hgl)
            have y0 : w1.cell? ⟨bv, 0, none⟩ = some (.slice (some ⟨g, off, none⟩) n 1) := hV1.at_ 0
            have y1 : w1.cell? ⟨g, off, none⟩ = some (.int .i64 l) := (hW1.at_ off).trans X0.out
            have y2 := hW1.free off
            have y3 := hV1.free 0
            have hmv1 : Moved (Two bv g) w w1 := (hmv.alloc _).grown hgrow (fun x hx => (hown.lt x hx).1)
            have hlt5 := hown1.lt
            have HMV := Lib.hid hmv1
            have HO1 := Lib.hid hown1
            have HL5 : Hid (∀ x, x < w.heap.size → (Value.slice A5 (z + 1) d5).ownBlock ≠ some x) := fun x hx e => by have := hlt5 x e; omega
            clear hgrow hfar hmv1 hown1 hlt5 c0 d0 d1 hmv hown hV hW
            go_wp2_with fail
            go_roundw
            case rel =>
              refine ⟨k - l.toNat, ts ++ [(l, o)], qs1, ?_, ?_, ?_, hgt.append (Good.one ⟨by omega, ho1, ho2⟩), hgq.tail, ?_, ?_, ?_⟩
              · exact congrArg (Value.int .i64) (by omega)
              · exact own_far (own_far (take_own HZ.out HO1.out) _ (HL5.out _ hgl) _) _ (HL5.out _ hbv) _
              · (have h := take_drop (c := 1) (A' := some ⟨g, off, none⟩) hne hV1 hW1 HN.out hnc HCS.out (fun h => absurd h (by omega)) (.int .i64 0); rw [show n - 1 = 0 by omega] at h; exact h)
              · rw [← HEX.out, expand_append, expand_one, HE1.out]
                simp only [List.append_assoc]
              · rw [expand_append, expand_one, List.length_append, List.length_replicate]; have := HLEN.out; omega
              · exact (HMV.out.setCell (.inr rfl) _).setCell (.inl rfl) _
            case measure => simp [intOf]; omega
          · have hc2 : 1 < c := by omega
            go_wp2_with (at_builtin; refine wpList_append_own_at _ rfl _ _ 22 rfl w.heap.size 30 i0 _ 2 16 Try.underlying22 hi hz0 hz1 hz2 rfl (by decide) (.slice A4 z d4) z _ rfl (hown.alloc _) ⟨wr.heap.size, 0, none⟩ 1 1 [.int .i64 l, .int .i64 o] rfl rfl (cells_new wr _ _) (by simp [Value.oneCell']) (by simp only [maxLen]; omega) (by omega) (by simp; omega) ?_)
            intro v' w1 hown1 hgrow _ _
            obtain ⟨A5, d5, rfl, _, _, _⟩ := own_form hown1
            have hfar : ∀ x, x < w.heap.size → some x ≠ (Value.slice A4 z d4).ownBlock := fun x hx e => by have := hown.lt x e.symm; omega
            have hV1 : Whole w1 bv 22 _ := (hV.alloc _).grown hgrow (hfar _ hbv)
            have hW1 : Whole w1 g 30 cs := (hW.alloc _).grown hgrow (hfar _ hgl)
            have y0 : w1.cell? ⟨bv, 0, none⟩ = some (.slice (some ⟨g, off, none⟩) n c) := hV1.at_ 0
            have y1 : w1.cell? ⟨g, off, none⟩ = some (.int .i64 l) := (hW1.at_ off).trans X0.out
            have y2 := hW1.free off
            have y3 := hV1.free 0
            have hmv1 : Moved (Two bv g) w w1 := (hmv.alloc _).grown hgrow (fun x hx => (hown.lt x hx).1)
            have hlt5 := hown1.lt
            have HMV := Lib.hid hmv1
            have HO1 := Lib.hid hown1
            have HL5 : Hid (∀ x, x < w.heap.size → (Value.slice A5 (z + 1) d5).ownBlock ≠ some x) := fun x hx e => by have := hlt5 x e; omega
            clear hgrow hfar hmv1 hown1 hlt5 c0 d0 d1 hmv hown hV hW
            go_wp2_with fail
            go_roundw
            case rel =>
              refine ⟨k - l.toNat, ts ++ [(l, o)], qs1, ?_, ?_, ?_, hgt.append (Good.one ⟨by omega, ho1, ho2⟩), hgq.tail, ?_, ?_, ?_⟩
              · exact congrArg (Value.int .i64) (by omega)
              · exact own_far (own_far (take_own HZ.out HO1.out) _ (HL5.out _ hgl) _) _ (HL5.out _ hbv) _
              · exact take_drop (c := c) hne hV1 hW1 HN.out hnc HCS.out (fun _ => rfl) _
              · rw [← HEX.out, expand_append, expand_one, HE1.out]
                simp only [List.append_assoc]
              · rw [expand_append, expand_one, List.length_append, List.length_replicate]; have := HLEN.out; omega
              · exact (HMV.out.setCell (.inr rfl) _).setCell (.inl rfl) _
            case measure => simp [intOf]; omega
    · obtain rfl : k = 0 := by omega
      go_wp2_with fail
      go_ret
      exact ⟨_, ts, qs, rfl, hown, ⟨A, n, c, hV, hn, hnc, hcell⟩, hgt, hgq, hex, by omega, hmv⟩

end Go.Proofs.Ytkapkoehmofpcaa.mk
