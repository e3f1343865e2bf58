/-
  The contract of percent's Encode.
-/
import Derived.Test.YtpjbhjebjebbjaaPctBuf
import Derived.Test.YtpjbhjebjebbjaaFoldRewrite
import Derived.Deep.RegionHeld3
import Derived.Deep.DeepCutAuto
namespace Go.Proofs.Ytpjbhjebjebbjaa.mk
open Go.RowKit

def noneB : Nat → Prop := fun _ => False
theorem builderLen_bytes (B b : Nat) (xs : List UInt8) (n : Nat) (w : World) (h : Lib.IsBuilderF 50 5 B b (Lib.byteCells xs) w) (hn : xs.length = n) :
    Calls Try.prog 25 #[.pointer (some ⟨b, 0, none⟩)] w fun e w' => e = .returned (.int .i64 (n : Int)) ∧ w' = w := by
  have h1 := builderLen_any B b (Lib.byteCells xs) w h
  rw [Lib.byteCells_length, hn] at h1
  exact h1
/-- what is written stays in the state -/
theorem RwSt.wrote {N : Nat} {S : Nat → Prop} {qs : List (Int × Int)} {ta : Value} {w0 : World} {bs bs' : List UInt8} {os : List Int} {v : Value} {w w' : World} (h : RwSt N S qs ta w0 bs os v w) (hw : WrotePost (N + 2) (N + 2) bs' w w') : RwSt N S qs ta w0 bs' os v w' := by
  obtain ⟨h1, h2, h3, h4, h5, h6⟩ := h
  obtain ⟨k1, k2, k3⟩ := hw
  have hz := k2.size
  exact ⟨own_others h1 k3 (by omega), own_others h2 k3 (by omega), h3, k1, h5.below k2, by omega⟩
theorem WrotePost.whole {B b : Nat} {xs : List UInt8} {w w' : World} {g : Nat} {t : TypeId} {cs : Array Value} (h : WrotePost B b xs w w') (hw : Whole w g t cs) (hg : g ≠ b) (ht : t ≠ 5) : Whole w' g t cs :=
  h.2.2 _ _ hw (by intro e; injection e with e; exact hg e) (by intro c fz e; injection e with _ e _; exact ht e)
theorem RwSt.text {N : Nat} {qs : List (Int × Int)} {ta : Value} {w0 : World} {bs : List UInt8} {os : List Int} {v : Value} {w : World} (h : RwSt N noneB qs ta w0 bs os v w) {t : TypeId} {cs : Array Value} {g : Nat} (hg : g < N + 2) (hw : Whole w0 g t cs) : Whole w g t cs :=
  hw.same (h.2.2.2.2.1.block g hg (fun h => h))

def EnK (N : Nat) (L : List (UInt8 × Int)) (sz : Nat) (qs : List (Int × Int)) (ta : Value) (w0 : World) (d k : Nat) (v at_ : Value) (wr : World) : Prop :=
  at_ = .int .i64 (k : Int) ∧ k ≤ sz ∧ RwSt N noneB qs ta w0 ((encL (L.take k)).map (·.1)) ((encL (L.take d)).map (·.2)) v wr
def EnOut (N : Nat) (L : List (UInt8 × Int)) (sz : Nat) (qs : List (Int × Int)) (ta : Value) (w0 : World) (v at_ i : Value) (wr : World) : Prop :=
  ∃ j : Nat, j ≤ qs.length ∧ i = .int .i64 (j : Int) ∧ EnK N L sz qs ta w0 (expand (qs.take j)).length (expand (qs.take j)).length v at_ wr
def EnIn (N : Nat) (L : List (UInt8 × Int)) (sz : Nat) (qs : List (Int × Int)) (ta : Value) (w0 : World) (r d : Nat) (l o : Int) (v at_ i : Value) (wr : World) : Prop :=
  ∃ m k : Nat, k = d + m ∧ (m : Int) ≤ l ∧ i = .int .i64 (m : Int) ∧ EnK N L sz qs ta w0 d k v at_ wr ∧ Whole wr r 43 #[.int .i64 l, .int .i64 o]

set_option maxHeartbeats 2000000 in
set_option maxRecDepth 100000 in
theorem encode_any (s : ByteArray) (A : Option Addr) (n c : Nat) (rs : List (Int × Int)) (w : World) (hl : Lies w w.heap.size A (runCells rs)) (hn : rs.length = n) (hs : s.size ≤ 1073741824) (hn2 : n ≤ 4294967296) :
    Calls Try.prog 13 #[.agg #[.string s, .slice A n c]] w (Tells ⟨((encL (chars s.data.toList rs)).map (·.1)).toArray⟩ (comp ((encL (chars s.data.toList rs)).map (·.2))) w) := by
  have HN := Lib.hid hn
  clear hn
  have hsl : s.data.toList.length = s.size := by rw [Array.length_toList]; rfl
  have HSL := Lib.hid hsl
  clear hsl
  go_enter Try.func13, Try.ntmps13
  go_wp2_with fail
  refine (fix_any s A n c rs _ ?_ HN.out (by omega) hn2).mono ?_
  · exact (((hl.alloc (Nat.le_refl _) _).alloc (by simp) _).alloc (by simp; omega) _).mono (by simp; omega)
  rintro e w3 ⟨v, rfl, hown, hb3⟩
  obtain ⟨A3, c3, rfl, _, _, _⟩ := own_form hown
  have fr1 := fun w' => field_runs s A3 (taken s.size rs).length c3 w'
  go_wp2_with fail
  clear fr1
  simp only [World.size_alloc] at hown hb3
  have hz3 := hb3.size
  simp only [World.size_alloc] at hz3
  have hex : expand (taken s.size rs) = origins s.size rs := expand_comp _
  have hpos : ∀ r ∈ taken s.size rs, 1 ≤ r.1 := comp_pos _
  have hql : (taken s.size rs).length ≤ s.size := by have := comp_length_le (origins s.size rs); rw [origins_length] at this; exact this
  have hLs : (chars s.data.toList rs).map (·.2) = origins s.size rs := by rw [chars_snd, HSL.out]
  have hLn : (chars s.data.toList rs).length = s.size := by rw [chars_length, HSL.out]
  have hLat : ∀ (k : Nat) (hk : k < s.size) (o : Int), (origins s.size rs)[k]? = some o → (chars s.data.toList rs)[k]? = some (s[k]'hk, o) := fun k hk o ho => chars_at hk ho
  have hcq : comp ((chars s.data.toList rs).map (·.2)) = taken s.size rs := by rw [hLs]; rfl
  generalize hL : chars s.data.toList rs = L at *
  generalize hqs : taken s.size rs = qs at *
  have hexl : (expand qs).length = s.size := by rw [hex, origins_length]
  have y0 : Whole w3 w.heap.size 24 #[.string s, .slice A n c] := (((Whole.made w _ _).alloc _).alloc _).below hb3 (by omega)
  have y1 : Whole w3 (w.heap.size + 1) 24 #[.string ⟨#[]⟩, .slice none 0 0] := by
    have h := (Whole.made (w.alloc (.cells #[.string s, .slice A n c] 24)) 24 #[.string ⟨#[]⟩, .slice none 0 0]).alloc (.cells #[.pointer none, .slice none 0 0] 50)
    simp only [World.size_alloc] at h
    exact h.below hb3 (by omega)
  have hi0 : Lib.IsBuilderF 50 5 (w.heap.size + 2) (w.heap.size + 2) (Lib.byteCells []) w3 := by
    have h := Lib.IsBuilderF.of (Lib.fresh_isBuilder 50 5 ((w.alloc (.cells #[.string s, .slice A n c] 24)).alloc (.cells #[.string ⟨#[]⟩, .slice none 0 0] 24)))
    simp only [World.size_alloc] at h
    exact builder_below h (hb3.mono (by simp)) (by decide)
  have hbw : Below w.heap.size w w3 := ((((Below.refl _ _).alloc (Nat.le_refl _) _).alloc (by simp) _).alloc (by simp; omega) _).trans (hb3.mono (by omega))
  have hst0 : RwSt w.heap.size noneB qs (.slice A3 qs.length c3) w3 [] [] (.slice none 0 0) w3 :=
    ⟨World.ownsRow_nil _ _ _ _, hown, by intro g hg; simp [Value.ownBlock] at hg, hi0, Kept.refl _ _ _, by omega⟩
  have HST := Lib.hid hst0
  have HEX := Lib.hid hex
  have HEL := Lib.hid hexl
  have HPOS := Lib.hid hpos
  have HLS := Lib.hid hLs
  have HLN := Lib.hid hLn
  have HLAT := Lib.hid hLat
  have HCQ := Lib.hid hcq
  have HLL := Lib.hid hL
  have HE : Hid (∀ k, (encL (L.take k)).length ≤ 3 * s.size) := fun k => by
    have h1 := (encL_len (L.take k)).2
    have h2 : (L.take k).length ≤ s.size := by rw [List.length_take, hLn]; omega
    omega
  clear hst0 hown hi0 hb3 hqs hex hexl hpos hLs hLn hLat hcq hL
  generalize hqn : qs.length = z at *
  have HZ := Lib.hid hqn
  clear hqn
  go_loopw [4, 5, 13] (EnOut w.heap.size L s.size qs (.slice A3 z c3) w3) (fun _ _ i _ => z - (intOf i).toNat)
  case atStart => exact ⟨0, Nat.zero_le _, rfl, by simp [expand], Nat.zero_le _, by simpa [expand, encL] using HST.out⟩
  case round =>
    obtain ⟨j, hj, rfl, rfl, hks, hst⟩ := hrel
    rw [HZ.out] at hj
    have HK2 := Lib.hid hst
    clear hst
    have hwz : w.heap.size + 3 ≤ wr.heap.size := HK2.out.2.2.2.2.2
    by_cases hjl : j < z
    · have hta2 := HK2.out.2.1
      rw [HZ.out] at hta2
      obtain ⟨ad', l, o, rfl, hbA, hd1, hd2, HR⟩ := (Lies.own hta2).run (k := j) (by rw [HZ.out]; exact hjl)
      have hl1 : 1 ≤ l := HPOS.out (l, o) (List.mem_of_getElem? HR.out)
      have HNX := Lib.hid (expand_take_next HR.out)
      have hx2 := expand_take_len qs (j + 1)
      rw [HNX.out, HEL.out] at hx2
      have HAT : Hid (∀ m : Nat, (m : Int) < l → (origins s.size rs)[(expand (qs.take j)).length + m]? = some o) := fun m hm => by rw [← HEX.out]; exact expand_at HR.out (by omega)
      have HRUN : Hid (comp ((encL (L.take ((expand (qs.take j)).length + l.toNat))).map (·.2)) = comp ((encL (L.take (expand (qs.take j)).length)).map (·.2)) ++ [(((encL (L.take ((expand (qs.take j)).length + l.toNat))).length : Int) - ((encL (L.take (expand (qs.take j)).length)).length : Int), o)]) :=
        enc_run (by rw [HCQ.out]; exact HR.out) (by rw [HCQ.out])
      clear hta2
      generalize hd : (expand (qs.take j)).length = d at *
      have HD := Lib.hid hd
      clear hd
      have hj0 : (0 : Int) ≤ (j : Int) := Int.natCast_nonneg _
      have hj1 : (j : Int) < (z : Int) := by omega
      have hbu := HK2.out.2.2.2.1
      have hed := HE.out d
      generalize hedq : (encL (L.take d)).length = ed at *
      have HED := Lib.hid hedq
      clear hedq
      have hb4a : Below wr.heap.size wr (wr.alloc (.cells #[.int .i64 l, .int .i64 o] 43)) := (Below.refl _ _).alloc (Nat.le_refl _) _
      have hst4a := HK2.out.below hb4a
      go_wp2_with fail
      refine (builderLen_bytes (w.heap.size + 2) (w.heap.size + 2) ((encL (L.take d)).map (·.1)) ed _ hst4a.2.2.2.1 (by rw [List.length_map]; exact HED.out)).mono ?_
      rintro e w' ⟨rfl, rfl⟩
      have hrb : Whole (wr.alloc (.cells #[.int .i64 l, .int .i64 o] 43)) wr.heap.size 43 #[.int .i64 l, .int .i64 o] := Whole.made _ _ _
      generalize hw4 : wr.alloc (.cells #[.int .i64 l, .int .i64 o] 43) = w4 at *
      have hv4 : u4.ownBlock ≠ some wr.heap.size := fun e => by have := (HK2.out.1.lt _ e).2; omega
      obtain ⟨g, hg⟩ : ∃ g, g = wr.heap.size := ⟨_, rfl⟩
      have hgz : w.heap.size + 3 ≤ g := by omega
      have HVG : Hid (u4.ownBlock ≠ some g) := by rw [hg]; exact hv4
      have HSI2 : Hid (EnIn w.heap.size L s.size qs (.slice (some ad') z c3) w3 g d l o u4 (.int .i64 (d : Int)) (.int .i64 0) w4) := by
        rw [hg]
        exact ⟨0, d, rfl, by omega, rfl, ⟨rfl, hks, hst4a⟩, hrb⟩
      rw [← hg]
      have hc0g : w4.cell? ⟨g, 0, none⟩ = some (.int .i64 l) := by rw [hg]; exact hrb.at_ 0
      clear hg hw4 hrb hb4a hst4a hv4 hd1 hd2 HK2
      go_wp2_with fail
      go_loopw [5, 20] (EnIn w.heap.size L s.size qs (.slice (some ad') z c3) w3 g d l o u4) (fun _ i _ => l.toNat - (intOf i).toNat)
      case atStart => exact HSI2.out
      case round =>
        obtain ⟨m, k, hkd, hml, rfl, ⟨rfl, hks2, hst⟩, hrb⟩ := hrel
        have HK2 := Lib.hid hst
        have HRB := Lib.hid hrb
        have HKD := Lib.hid hkd
        clear hst HSI2
        have hbz : w.heap.size + 3 ≤ wr.heap.size := HK2.out.2.2.2.2.2
        by_cases hm : (m : Int) < l
        · have hk : k < s.size := by omega
          have HLK : Hid (L[k]? = some (s[k]'hk, o)) := HLAT.out k hk o (by rw [hkd]; exact HAT.out m hm)
          clear hkd hrb
          have HM := Lib.hid hm
          have ct := (HK2.out.text (g := w.heap.size) (by omega) y0).at_ 0
          simp only [List.getElem?_toArray, List.getElem?_cons_zero] at ct
          have hek := HE.out k
          generalize hsk : s[k]'hk = x at *
          have hk0 : (0 : Int) ≤ (k : Int) := Int.natCast_nonneg _
          have hk1 : (k : Int) < (s.size : Int) := by omega
          have hbl := HK2.out.2.2.2.1
          go_wp2_with fail
          refine (writeEncoded_any (w.heap.size + 2) (w.heap.size + 2) ((encL (L.take k)).map (·.1)) x _ hbl (by rw [List.length_map]; omega) (by omega)).mono ?_
          rintro e w5 ⟨rfl, hw5⟩
          have hst5 := HK2.out.wrote hw5
          have hrb5 := hw5.whole HRB.out (by omega) (by decide)
          have he : (encL (L.take (k + 1))).map (·.1) = (encL (L.take k)).map (·.1) ++ encB x := by rw [encL_next HLK.out, List.map_append, encC_fst]
          rw [← he] at hst5
          have HREL : Hid (EnIn w.heap.size L s.size qs (.slice (some ad') z c3) w3 g d l o u4 (.int .i64 ((k + 1 : Nat) : Int)) (.int .i64 ((m + 1 : Nat) : Int)) w5) :=
            ⟨m + 1, k + 1, by have := HKD.out; omega, by have := HM.out; omega, rfl, ⟨rfl, by omega, hst5⟩, hrb5⟩
          clear hst5 hrb5 hw5 he hbl
          go_wp2_with fail
          go_roundw
          case rel =>
            have h := HREL.out
            first | exact h | (simpa using h)
          case measure => simp [intOf]; omega
        · obtain rfl : l = (m : Int) := by omega
          have hc1g : wr.cell? ⟨g, 1, none⟩ = some (.int .i64 o) := hrb.at_ 1
          have hrun := HRUN.out
          rw [Int.toNat_natCast, ← hkd] at hrun
          have hek := HE.out k
          generalize hekq : (encL (L.take k)).length = ek at *
          have HEK := Lib.hid hekq
          have hre : ed ≤ ek := by
            rw [← HED.out, ← HEK.out, hkd, List.take_add, encL_append, List.length_append]
            omega
          obtain ⟨hrl1, hrl2⟩ : (comp ((encL (L.take d)).map (·.2))).length ≤ ed ∧ True := ⟨by have := comp_length_le ((encL (L.take d)).map (·.2)); rw [List.length_map, HED.out] at this; exact this, trivial⟩
          have hown := HK2.out.1
          have HNX2 : Hid ((expand (qs.take (j + 1))).length = k) := by
            have h := HNX.out
            rw [Int.toNat_natCast] at h
            show _ = _
            omega
          have hkd' := hkd
          clear hekq hkd hrb hl1
          generalize hosd : comp ((encL (L.take d)).map (·.2)) = R at *
          have HOSD := Lib.hid hosd
          have HRUN2 := Lib.hid hrun
          have HOWN := Lib.hid hown
          clear hosd hrun hown
          obtain ⟨Au, cu, rfl, _, _, _⟩ := own_form HOWN.out
          generalize hrn : R.length = rn at *
          have HRN := Lib.hid hrn
          clear hrn
          obtain ⟨i0, hi, hz0, hz1, hz2⟩ := info_parts run_info
          have hbl := HK2.out.2.2.2.1
          have HBL := Lib.hid hbl
          have hsub : IntKind.i64.wrap ((ek : Int) - (ed : Int)) = (ek : Int) - (ed : Int) := IntWalk.i64_in _ (by omega)
          clear hbl
          go_wp2_with fail
          go_region_held3 (fun w' => w'.cell? ⟨g, 1, none⟩ = some (.int .i64 o))
            (first | exact hc1g | exact hrb1.at_ 1 | go_keep)
            (first
              | (go_at_call 25; refine (builderLen_bytes (w.heap.size + 2) (w.heap.size + 2) ((encL (L.take k)).map (·.1)) ek _ (by first | exact HBL.out | exact builder_alloc HBL.out _ (by decide)) (by rw [List.length_map]; exact HEK.out)).mono ?_; rintro e w' ⟨rfl, rfl⟩)
              | (refine step_append_lies _ (by rfl) _ _ _ (by rfl) (w.heap.size + 3) 43 i0 _ 2 16 Try.underlying22 hi hz0 hz1 hz2 rfl (by omega) (.slice Au rn cu) rn _ (by rfl) ((HOWN.out.alloc _).drew)
                  ⟨wr.heap.size, 0, none⟩ 1 1 [.int .i64 ((ek : Int) - (ed : Int)), .int .i64 o] (by rfl) (by rfl) (World.news_of_block (cs := #[.int .i64 ((ek : Int) - (ed : Int)), .int .i64 o]) (t := 43) (fr := (0, 0)) (heap_alloc_new wr _)) (by simp [Value.oneCell'])
                  (by omega) (by simp only [maxLen]; omega) (by omega) (by simp; omega) (wr.heap.size + 1) (by simp) ?_; intro gg cap w1 hown1 hgrow hat hlt'; have hrb1 : Whole w1 g 43 #[.int .i64 (m : Int), .int .i64 o] := ((HRB.out.alloc _).drew).grown hgrow (fun e => HVG.out e.symm)))
          all_goals
            have hst1 : RwSt w.heap.size noneB qs (.slice (some ad') z c3) w3 ((encL (L.take k)).map (·.1)) ((encL (L.take k)).map (·.2)) (.slice (some ⟨gg, 0, none⟩) (rn + 1) cap) w1 := by
              refine RwSt.join (w := (wr.alloc (.cells #[.int .i64 ((ek : Int) - (ed : Int)), .int .i64 o] 43)).drew) (os := (encL (L.take d)).map (·.2)) (v := .slice Au rn cu) (HK2.out.below ((Below.refl _ _).alloc (Nat.le_refl _) _).drew) ?_ hgrow ?_
              · rw [HRUN2.out, runCells_append, runCells_one, List.length_append, HRN.out]
                exact hown1
              · rcases hat with h | h
                · exact .inl h.symm
                · exact .inr ⟨gg, by rw [h]; simp [World.drew], rfl⟩
            have HREL : Hid (EnOut w.heap.size L s.size qs (.slice (some ad') z c3) w3 (.slice (some ⟨gg, 0, none⟩) (rn + 1) cap) (.int .i64 (k : Int)) (.int .i64 ((j + 1 : Nat) : Int)) w1) := by
              refine ⟨j + 1, by rw [HZ.out]; omega, rfl, ?_⟩
              rw [HNX2.out]
              exact ⟨rfl, hks2, hst1⟩
            clear hst1 hgrow hat hown1
            go_wp2_with fail
            go_roundw
            case rel =>
              have h := HREL.out
              first | exact h | (simpa using h) | (rw [hkd'] at h; simpa using h)
            case measure => simp [intOf]; omega
    · obtain rfl : j = z := by omega
      have hfull : (expand (qs.take j)).length = s.size := by rw [List.take_of_length_le (by rw [HZ.out]; exact Nat.le_refl _), HEL.out]
      have htk : L.take s.size = L := List.take_of_length_le (by rw [HLN.out]; exact Nat.le_refl _)
      rw [hfull, htk] at HK2
      have HFULL := Lib.hid hfull
      have hEn := HE.out s.size
      rw [htk] at hEn
      clear hfull htk
      have hqq := comp_length_le ((encL L).map (·.2))
      rw [List.length_map] at hqq
      go_wp2_with fail
      refine (Try.Builder_String_any_k (w.heap.size + 2) (w.heap.size + 2) ((encL L).map (·.1)) wr HK2.out.2.2.2.1 (by omega)).mono ?_
      rintro e w5 ⟨rfl, _, hbl5, hoth5⟩
      have ho5 := own_others HK2.out.1 hoth5 (by omega)
      have hkp := HK2.out.2.2.2.2.1.below hbl5
      have hW := (y1.same (hkp.block _ (by omega) (fun hs => hs)))
      have f0 := hW.free 0
      have f1 := hW.free 1
      have d0 : w5.cell? ⟨w.heap.size + 1, 0, none⟩ = some (.string ⟨#[]⟩) := hW.at_ 0
      have d1 : w5.cell? ⟨w.heap.size + 1, 1, none⟩ = some (.slice none 0 0) := hW.at_ 1
      obtain ⟨A5, c5, rfl, _, _, _⟩ := own_form ho5
      have HO5 := Lib.hid ho5
      have HKP := Lib.hid hkp
      clear ho5 hkp
      generalize hq1 : (encL L).map (·.1) = st at *
      generalize hq2 : comp ((encL L).map (·.2)) = q at *
      have HQ1 := Lib.hid hq1
      have HQ2 := Lib.hid hq2
      clear hq1 hq2
      go_wp2
      refine bodyPost_ret (v := .agg #[.string ⟨st.toArray⟩, .slice A5 q.length c5]) ?_ rfl ?_
      · simp [results, Try.results13, go_sem, d0, d1]
      · have hk := HKP.out
        have hbf : Below w.heap.size w w5 := ⟨hk.os.trans hbw.os, hk.tape.trans hbw.tape, hk.output.trans hbw.output, Nat.le_trans hbw.size hk.size, fun g hg => (hk.block g (by omega) (fun hs => hs)).trans (hbw.block g hg)⟩
        first | rw [HLL.out, HQ1.out, HQ2.out] | skip
        exact tells_end (Nat.le_succ _) (own_mono (base := w.heap.size + 3) HO5.out (by omega)) hbf

end Go.Proofs.Ytpjbhjebjebbjaa.mk
