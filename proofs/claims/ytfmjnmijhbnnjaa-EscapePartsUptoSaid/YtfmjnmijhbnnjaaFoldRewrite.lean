/-
  The contract of fold's rewrite, whatever function tells what stands for a byte.
-/
import Derived.Test.YtfmjnmijhbnnjaaFoldBehind
import Derived.Test.YtfmjnmijhbnnjaaFoldPred
import Derived.Test.YtfmjnmijhbnnjaaMarkCat
import Derived.Test.YtfmjnmijhbnnjaaApp
import Derived.Test.YtfmjnmijhbnnjaaRwSt
namespace Go.Proofs.Ytfmjnmijhbnnjaa.mk
open Go.RowKit

def RwK (N : Nat) (S : Nat → Prop) (Inv : Nat → World → Prop) (out : Nat → List (UInt8 × Int)) (sz : Nat) (qs : List (Int × Int)) (ta : Value) (w0 : World) (k : Nat) (v at_ : Value) (wr : World) : Prop :=
  at_ = .int .i64 (k : Int) ∧ k ≤ sz ∧ (comp ((out k).map (·.2))).length ≤ k ∧ RwSt N S qs ta w0 ((out k).map (·.1)) ((out k).map (·.2)) v wr ∧ Inv k wr
def RwOut (N : Nat) (S : Nat → Prop) (Inv : Nat → World → Prop) (out : Nat → List (UInt8 × Int)) (sz : Nat) (qs : List (Int × Int)) (ta : Value) (w0 : World) (v at_ i : Value) (wr : World) : Prop :=
  ∃ j : Nat, j ≤ qs.length ∧ i = .int .i64 (j : Int) ∧ RwK N S Inv out sz qs ta w0 (expand (qs.take j)).length v at_ wr
def RwIn (N : Nat) (S : Nat → Prop) (Inv : Nat → World → Prop) (out : Nat → List (UInt8 × Int)) (sz : Nat) (qs : List (Int × Int)) (ta : Value) (w0 : World) (r k : Nat) (l o : Int) (v at_ i : Value) (wr : World) : Prop :=
  ∃ m : Nat, (m : Int) ≤ l ∧ i = .int .i64 (m : Int) ∧ RwK N S Inv out sz qs ta w0 (k + m) v at_ wr ∧ Whole wr r 45 #[.int .i64 l, .int .i64 o] ∧ v.ownBlock ≠ some r

/-- what rewrite leaves -/
def RwPost (S : Nat → Prop) (I : World → Prop) (q : List (UInt8 × Int)) (w : World) (e : Ending) (w' : World) : Prop :=
  ∃ v, e = .returned (.agg #[.string ⟨(q.map (·.1)).toArray⟩, v]) ∧ w'.ownsRow w.heap.size 45 2 v (comp (q.map (·.2))).length (runCells (comp (q.map (·.2)))) ∧ Moved S w w' ∧ I w'

/-- what a function that tells what stands for a byte must do -/
def Puts (F : Nat) (caps : Array Value) (S : Nat → Prop) (Inv : Nat → World → Prop) (out : Nat → List (UInt8 × Int)) (L : List (UInt8 × Int)) (N : Nat) : Prop :=
  ∀ k b o w', L[k]? = some (b, o) → Inv k w' → N ≤ w'.heap.size → Calls Try.prog F (#[.int .i64 (k : Int), .int .i64 o] ++ caps) w' fun e w'' =>
    ∃ (part : ByteArray) (o' : Int), e = .returned (.tuple #[.string part, .int .i64 o']) ∧ out (k + 1) = out k ++ part.data.toList.map (fun x => (x, o')) ∧ Inv (k + 1) w'' ∧ Moved S w' w''

set_option maxHeartbeats 2000000 in
set_option maxRecDepth 100000 in
theorem rewrite_any (F : Nat) (caps : Array Value) (S : Nat → Prop) (Inv : Nat → World → Prop) (out : Nat → List (UInt8 × Int)) (s : ByteArray) (A : Option Addr) (n c : Nat) (rs : List (Int × Int)) (w : World) (hl : Lies w w.heap.size A (runCells rs)) (hn : rs.length = n) (hs : s.size ≤ 4294967296) (hn2 : n ≤ 4294967296)
    (hE : ∀ args w', Sem.run Try.prog (callFunc F args) w' = .ok (.enter F args) w') (hS : ∀ g, S g → g < w.heap.size) (hI : ∀ k w' w'', Inv k w' → Below w.heap.size w' w'' → Inv k w'')
    (hP : Puts F caps S Inv out (chars s.data.toList rs) w.heap.size) (h0 : out 0 = []) (hI0 : Inv 0 w) (hout : ∀ k, k ≤ s.size → (out k).length ≤ 70368744177664) :
    Calls Try.prog 71 #[.agg #[.string s, .slice A n c], .func (.func F) #[] caps] w (RwPost S (Inv s.size) (out s.size) w) := by
  have HN := Lib.hid hn
  have HE := Lib.hid hE
  have HS := Lib.hid hS
  have HI := Lib.hid hI
  have HP := Lib.hid hP
  have HB := Lib.hid hout
  have H0 := Lib.hid h0
  have HI0 := Lib.hid hI0
  clear hn hE hS hI hP hout h0 hI0
  go_enter Try.func71, Try.ntmps71
  go_wp2_with fail
  refine (fix_any s A n c rs _ ?_ HN.out (by omega) hn2).mono ?_
  · exact (((hl.alloc (Nat.le_refl _) _).alloc (by simp) _).alloc (by simp; omega) _).mono (by simp; omega)
  rintro e w3 ⟨v, rfl, hown, hb3⟩
  obtain ⟨A3, c3, rfl, _, _, _⟩ := own_form hown
  have fr1 := fun w' => field_runs s A3 (taken s.size rs).length c3 w'
  go_wp2_with fail
  clear fr1
  simp only [World.size_alloc] at hown hb3
  have hz3 := hb3.size
  simp only [World.size_alloc] at hz3
  have hex : expand (taken s.size rs) = origins s.size rs := expand_comp _
  have hpos : ∀ r ∈ taken s.size rs, 1 ≤ r.1 := comp_pos _
  have hql : (taken s.size rs).length ≤ s.size := by have := comp_length_le (origins s.size rs); rw [origins_length] at this; exact this
  generalize hqs : taken s.size rs = qs at *
  have hexl : (expand qs).length = s.size := by rw [hex, origins_length]
  have y1 : Whole w3 (w.heap.size + 1) 24 #[.string ⟨#[]⟩, .slice none 0 0] := by
    have h := (Whole.made (w.alloc (.cells #[.string s, .slice A n c] 24)) 24 #[.string ⟨#[]⟩, .slice none 0 0]).alloc (.cells #[.pointer none, .slice none 0 0] 59)
    simp only [World.size_alloc] at h
    exact h.below hb3 (by omega)
  have hi0 : Lib.IsBuilderF 59 5 (w.heap.size + 2) (w.heap.size + 2) (Lib.byteCells []) w3 := by
    have h := Lib.IsBuilderF.of (Lib.fresh_isBuilder 59 5 ((w.alloc (.cells #[.string s, .slice A n c] 24)).alloc (.cells #[.string ⟨#[]⟩, .slice none 0 0] 24)))
    simp only [World.size_alloc] at h
    exact builder_below h (hb3.mono (by simp)) (by decide)
  have hbw : Below w.heap.size w w3 := ((((Below.refl _ _).alloc (Nat.le_refl _) _).alloc (by simp) _).alloc (by simp; omega) _).trans (hb3.mono (by omega))
  have hst0 : RwSt w.heap.size S qs (.slice A3 qs.length c3) w3 [] [] (.slice none 0 0) w3 :=
    ⟨World.ownsRow_nil _ _ _ _, hown, by intro g hg; simp [Value.ownBlock] at hg, hi0, Kept.refl _ _ _, by omega⟩
  have HST := Lib.hid hst0
  have HEX := Lib.hid hex
  have HEL := Lib.hid hexl
  have HPOS := Lib.hid hpos
  clear hst0 hown hi0 hb3 hqs hex hexl hpos
  generalize hqn : qs.length = z at *
  have HZ := Lib.hid hqn
  clear hqn
  go_loopw [6, 7, 16] (RwOut w.heap.size S Inv out s.size qs (.slice A3 z c3) w3) (fun _ _ i _ => z - (intOf i).toNat)
  case atStart => exact ⟨0, Nat.zero_le _, rfl, by simp [expand], Nat.zero_le _, by simp [expand, H0.out, comp], by simpa [expand, H0.out] using HST.out, HI.out _ _ _ HI0.out hbw⟩
  case round =>
    obtain ⟨j, hj, rfl, rfl, hks, hcl, hst, hinv⟩ := hrel
    rw [HZ.out] at hj
    have HK1 := Lib.hid hcl
    have HK2 := Lib.hid hst
    have HK3 := Lib.hid hinv
    clear hcl hst hinv
    have hwz : w.heap.size + 3 ≤ wr.heap.size := HK2.out.2.2.2.2.2
    by_cases hjl : j < z
    · have hta2 := HK2.out.2.1
      rw [HZ.out] at hta2
      obtain ⟨ad', l, o, rfl, hbA, hd1, hd2, HR⟩ := (Lies.own hta2).run (k := j) (by rw [HZ.out]; exact hjl)
      have hl1 : 1 ≤ l := HPOS.out (l, o) (List.mem_of_getElem? HR.out)
      have HNX := Lib.hid (expand_take_next HR.out)
      have hx2 := expand_take_len qs (j + 1)
      rw [HNX.out, HEL.out] at hx2
      have HAT : Hid (∀ m : Nat, (m : Int) < l → (origins s.size rs)[(expand (qs.take j)).length + m]? = some o) := fun m hm => by rw [← HEX.out]; exact expand_at HR.out (by omega)
      clear hta2
      generalize hd : (expand (qs.take j)).length = d at *
      have HD := Lib.hid hd
      clear hd
      have hj0 : (0 : Int) ≤ (j : Int) := Int.natCast_nonneg _
      have hj1 : (j : Int) < (z : Int) := by omega
      go_wp2_with fail
      have hrb : Whole (wr.alloc (.cells #[.int .i64 l, .int .i64 o] 45)) wr.heap.size 45 #[.int .i64 l, .int .i64 o] := Whole.made _ _ _
      generalize hw4 : wr.alloc (.cells #[.int .i64 l, .int .i64 o] 45) = w4 at *
      have hb4 : Below wr.heap.size wr w4 := by rw [← hw4]; exact (Below.refl _ _).alloc (Nat.le_refl _) _
      have hst4 := HK2.out.below hb4
      have hinv4 := HI.out _ _ _ HK3.out (hb4.mono (by omega))
      have hv4 : u6.ownBlock ≠ some wr.heap.size := fun e => by have := (HK2.out.1.lt _ e).2; omega
      have HSI : Hid (RwIn w.heap.size S Inv out s.size qs (.slice (some ad') z c3) w3 wr.heap.size d l o u6 (.int .i64 (d : Int)) (.int .i64 0) w4) :=
        ⟨0, by omega, rfl, ⟨rfl, hks, HK1.out, hst4, hinv4⟩, hrb, hv4⟩
      obtain ⟨g, hg⟩ : ∃ g, g = wr.heap.size := ⟨_, rfl⟩
      have hgz : w.heap.size + 3 ≤ g := by omega
      have HSI2 : Hid (RwIn w.heap.size S Inv out s.size qs (.slice (some ad') z c3) w3 g d l o u6 (.int .i64 (d : Int)) (.int .i64 0) w4) := by rw [hg]; exact HSI
      rw [← hg]
      clear HSI hg hw4 hrb hb4 hst4 hinv4 hv4 hd1 hd2 HK1 HK2 HK3
      go_loopw [6, 7, 22] (RwIn w.heap.size S Inv out s.size qs (.slice (some ad') z c3) w3 g d l o) (fun _ _ i _ => l.toNat - (intOf i).toNat)
      case atStart => exact HSI2.out
      case round =>
        obtain ⟨m, hml, rfl, ⟨rfl, hks2, hcl, hst, hinv⟩, hrb, hvg⟩ := hrel
        have HK1 := Lib.hid hcl
        have HK2 := Lib.hid hst
        have HK3 := Lib.hid hinv
        have HRB := Lib.hid hrb
        have HVG := Lib.hid hvg
        clear hcl hst hinv hvg HSI2
        have hbz : w.heap.size + 3 ≤ wr.heap.size := HK2.out.2.2.2.2.2
        have hc1 : wr.cell? ⟨g, 1, none⟩ = some (.int .i64 o) := hrb.at_ 1
        clear hrb
        by_cases hm : (m : Int) < l
        · have hk : d + m < s.size := by omega
          have HLK : Hid ((chars s.data.toList rs)[d + m]? = some (s[d + m]'hk, o)) := chars_at hk (HAT.out m hm)
          have hB0 := HB.out (d + m) (by omega)
          have hB1 := HB.out (d + m + 1) (by omega)
          have HM := Lib.hid hm
          go_wp2_with fail
          rw [HE.out]
          refine (HP.out (d + m) _ o _ HLK.out HK3.out (by omega)).mono ?_
          rintro e w5 ⟨part, o', rfl, hout1, hinv5, hmv⟩
          have hps : (out (d + m + 1)).length = (out (d + m)).length + part.size := by
            rw [hout1, List.length_append, List.length_map, Array.length_toList]; rfl
          have hst5 := HK2.out.moved hmv HS.out
          have hrb5 := hmv.whole HRB.out (fun hs => by have := HS.out _ hs; omega)
          have hz5 := hmv.size
          have H5 := Lib.hid hst5
          have R5 := Lib.hid hrb5
          have I5 := Lib.hid hinv5
          have O5 := Lib.hid hout1
          have P5 := Lib.hid hps
          have hpb : (out (d + m)).length + part.size ≤ 70368744177664 := by omega
          clear hst5 hrb5 hinv5 hout1 hmv hps hc1
          go_wp2_with fail
          refine (writeString_any (w.heap.size + 2) (w.heap.size + 2) (Lib.byteCells ((out (d + m)).map (·.1))) part _ H5.out.2.2.2.1 (by rw [Lib.byteCells_length, List.length_map]; omega) (by omega)).mono ?_
          rintro e w6 ⟨rfl, hbu, hbl, hoth⟩
          have hst6 := H5.out.write hbu hbl hoth
          have hrb6 : Whole w6 g 45 #[.int .i64 l, .int .i64 o] := hoth _ _ R5.out (by intro e; injection e with e; omega) (by intro c fz e; injection e with _ e _; exact absurd e (by decide))
          have hinv6 := HI.out _ _ _ I5.out (hbl.mono (by omega))
          have hz6 := hbl.size
          have H6 := Lib.hid hst6
          have R6 := Lib.hid hrb6
          have I6 := Lib.hid hinv6
          have hc6 := HK1.out
          clear hst6 hrb6 hinv6 hbu hbl hoth
          go_wp2_with fail
          refine (behind_comp (w.heap.size + 3) u6 ((out (d + m)).map (·.2)) (part.size : Int) o' _ H6.out.1 (by omega) (by omega) (by rw [List.length_map]; omega) (by omega) (by omega)).mono ?_
          rintro e w7 ⟨v7, rfl, hown7, hg7, hat7⟩
          have hz7 := hg7.size
          rw [Int.toNat_natCast] at hown7
          have hst7 := H6.out.join hown7 hg7 hat7
          have hjl : (comp ((out (d + m)).map (·.2) ++ List.replicate part.size o')).length ≤ (comp ((out (d + m)).map (·.2))).length + 1 := by rw [comp_replicate]; exact joinR_len _ _ _
          have e1 : (out (d + m + 1)).map (·.1) = (out (d + m)).map (·.1) ++ part.data.toList := by rw [O5.out, List.map_append, List.map_map]; congr 1; exact List.map_id' _
          have e2 : (out (d + m + 1)).map (·.2) = (out (d + m)).map (·.2) ++ List.replicate part.size o' := by
            rw [O5.out, List.map_append, List.map_map]
            congr 1
            have : part.data.toList.length = part.size := by rw [Array.length_toList]; rfl
            rw [← this]
            exact List.map_const'
          rw [← e1, ← e2] at hst7
          rw [← e2] at hjl
          have hrb7 : Whole w7 g 45 #[.int .i64 l, .int .i64 o] := R6.out.grown hg7 (fun e => HVG.out e.symm)
          have hinv7 := HI.out _ _ _ I6.out ((Below.refl _ _).grown hg7 (by omega) (fun k hk => by have := (H6.out.1.lt k hk).1; omega))
          have hvg7 : v7.ownBlock ≠ some g := by
            rcases hat7 with e | ⟨k, hk, e⟩
            · rw [e]; exact HVG.out
            · rw [e]; intro e2; injection e2 with e2; have := R6.out.lt; omega
          have HREL : Hid (RwIn w.heap.size S Inv out s.size qs (.slice (some ad') z c3) w3 g d l o v7 (.int .i64 ((d + m + 1 : Nat) : Int)) (.int .i64 ((m + 1 : Nat) : Int)) w7) :=
            ⟨m + 1, by have := HM.out; omega, rfl, ⟨rfl, by omega, by have : d + (m + 1) = d + m + 1 := rfl; rw [this]; omega, hst7, hinv7⟩, hrb7, hvg7⟩
          clear hst7 hrb7 hinv7 hvg7 hown7 hg7 hat7 hjl e1 e2
          go_wp2_with fail
          go_roundw
          case rel =>
            have h := HREL.out
            first | exact h | (simpa using h)
          case measure => simp [intOf]; omega
        · obtain rfl : l = (m : Int) := by omega
          have HREL : Hid (RwOut w.heap.size S Inv out s.size qs (.slice (some ad') z c3) w3 u6 (.int .i64 ((d + m : Nat) : Int)) (.int .i64 ((j + 1 : Nat) : Int)) wr) := by
            refine ⟨j + 1, by rw [HZ.out]; omega, rfl, ?_⟩
            rw [HNX.out, Int.toNat_natCast]
            exact ⟨rfl, hks2, HK1.out, HK2.out, HK3.out⟩
          go_wp2_with fail
          go_roundw
          case rel => exact HREL.out
          case measure => simp [intOf]; omega
    · obtain rfl : j = z := by omega
      have hfull : (expand (qs.take j)).length = s.size := by rw [List.take_of_length_le (by rw [HZ.out]; exact Nat.le_refl _), HEL.out]
      rw [hfull] at HK1 HK2 HK3
      have HFULL := Lib.hid hfull
      have hB0 := HB.out s.size (Nat.le_refl _)
      clear hfull
      go_wp2_with fail
      refine (Try.Builder_String_any_k (w.heap.size + 2) (w.heap.size + 2) ((out s.size).map (·.1)) wr HK2.out.2.2.2.1 (by omega)).mono ?_
      rintro e w5 ⟨rfl, _, hbl5, hoth5⟩
      have ho5 := own_others HK2.out.1 hoth5 (by omega)
      have hinv5 := HI.out _ _ _ HK3.out (hbl5.mono (by omega))
      have hkp := HK2.out.2.2.2.2.1.below hbl5
      have hW := (y1.same (hkp.block _ (by omega) (fun hs => by have := HS.out _ hs; omega)))
      have f0 := hW.free 0
      have f1 := hW.free 1
      have d0 : w5.cell? ⟨w.heap.size + 1, 0, none⟩ = some (.string ⟨#[]⟩) := hW.at_ 0
      have d1 : w5.cell? ⟨w.heap.size + 1, 1, none⟩ = some (.slice none 0 0) := hW.at_ 1
      obtain ⟨A5, c5, rfl, _, _, _⟩ := own_form ho5
      have HO5 := Lib.hid ho5
      have HI5 := Lib.hid hinv5
      have HKP := Lib.hid hkp
      clear ho5 hinv5 hkp
      generalize hq1 : (out s.size).map (·.1) = st at *
      generalize hq2 : comp ((out s.size).map (·.2)) = q at *
      have HQ1 := Lib.hid hq1
      have HQ2 := Lib.hid hq2
      clear hq1 hq2
      go_wp2
      refine bodyPost_ret (v := .agg #[.string ⟨st.toArray⟩, .slice A5 q.length c5]) ?_ rfl ?_
      · simp [results, Try.results71, go_sem, d0, d1]
      · refine ⟨.slice A5 q.length c5, by rw [HQ1.out], ?_, ?_, ?_⟩
        · rw [HQ2.out]
          refine own_mono (base := w.heap.size + 3) (own_far (own_far HO5.out _ (fun h => ?_) _) _ (fun h => ?_) _) (by omega)
          · exact absurd (HO5.out.lt _ h).1 (by simp)
          · exact absurd (HO5.out.lt _ h).1 (by simp)
        · have hk := HKP.out
          have hkb : Below (w.heap.size + 1) w5 ((w5.setCell ⟨w.heap.size + 1, 0, none⟩ (.string ⟨st.toArray⟩)).setCell ⟨w.heap.size + 1, 1, none⟩ (.slice A5 q.length c5)) := ((Below.refl _ _).setCell (p := ⟨w.heap.size + 1, 0, none⟩) (Nat.le_refl _) _).setCell (p := ⟨w.heap.size + 1, 1, none⟩) (Nat.le_refl _) _
          exact ⟨hkb.os.trans (hk.os.trans hbw.os), hkb.tape.trans (hk.tape.trans hbw.tape), hkb.output.trans (hk.output.trans hbw.output), Nat.le_trans (Nat.le_trans hbw.size hk.size) hkb.size, fun g hg hs => (hkb.block g (by omega)).trans ((hk.block g (by omega) hs).trans (hbw.block g hg))⟩
        · exact HI.out _ _ _ HI5.out (((Below.refl _ _).setCell (p := ⟨w.heap.size + 1, 0, none⟩) (Nat.le_succ _) _).setCell (p := ⟨w.heap.size + 1, 1, none⟩) (Nat.le_succ _) _)

end Go.Proofs.Ytfmjnmijhbnnjaa.mk
