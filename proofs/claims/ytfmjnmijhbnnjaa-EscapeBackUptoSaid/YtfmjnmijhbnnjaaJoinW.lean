/-
  Labelled texts put together, in the words of bytes with their origins.
-/
import Derived.Test.YtfmjnmijhbnnjaaJoinQ
import Derived.Test.YtfmjnmijhbnnjaaJoinT
import Derived.Test.YtfmjnmijhbnnjaaJoinK
import Derived.Test.YtfmjnmijhbnnjaaJoinH
import Derived.Test.YtfmjnmijhbnnjaaJoinU
import Derived.Test.YtfmjnmijhbnnjaaJoinO
namespace Go.Proofs.Ytfmjnmijhbnnjaa.mk
open Go.RowKit

def upperB (b : UInt8) : Bool := decide (65 ≤ b.toNat) && decide (b.toNat ≤ 90)
def lowB (b : UInt8) : UInt8 := if upperB b then b + 32 else b

set_option maxHeartbeats 400000 in
theorem swapF_any (b x : UInt8) (g : Nat) (w : World) (h : w.cell? ⟨g, 0, none⟩ = some (.int .u8 x.toNat)) :
    Calls Try.prog 54 #[.int .u8 b.toNat, .pointer (some ⟨g, 0, none⟩)] w fun e w' => e = .returned (.bool (b == x)) ∧ w = w' := by
  go_enter Try.func54, Try.ntmps54
  go_wp2
  go_ret
  refine ⟨ret_bool ?_, rfl⟩
  rw [Bool.eq_iff_iff]
  simp [← UInt8.toNat_inj]
  try omega

theorem zero_given (w : World) : Sem.run Try.prog (zeroValue 85) w = Result.ok (.agg (Array.replicate 256 (.bool false))) w := by kernel_rfl

def AmongRel (l : List UInt8) (g : Nat) (w0 : World) (i : Value) (wr : World) : Prop :=
  ∃ k : Nat, k ≤ l.length ∧ i = .int .i64 (k : Int) ∧ (∃ cs, cs.size = 256 ∧ Whole wr g 85 cs ∧ ∀ b : UInt8, cs[b.toNat]? = some (.bool ((l.take k).contains b))) ∧ Below g w0 wr

end Go.Proofs.Ytfmjnmijhbnnjaa.mk

namespace Go.Proofs.Ytfmjnmijhbnnjaa.mk
open Go.RowKit

def RwK (N : Nat) (S : Nat → Prop) (Inv : Nat → World → Prop) (out : Nat → List (UInt8 × Int)) (sz : Nat) (qs : List (Int × Int)) (ta : Value) (w0 : World) (k : Nat) (v at_ : Value) (wr : World) : Prop :=
  at_ = .int .i64 (k : Int) ∧ k ≤ sz ∧ (comp ((out k).map (·.2))).length ≤ k ∧ RwSt N S qs ta w0 ((out k).map (·.1)) ((out k).map (·.2)) v wr ∧ Inv k wr
def RwOut (N : Nat) (S : Nat → Prop) (Inv : Nat → World → Prop) (out : Nat → List (UInt8 × Int)) (sz : Nat) (qs : List (Int × Int)) (ta : Value) (w0 : World) (v at_ i : Value) (wr : World) : Prop :=
  ∃ j : Nat, j ≤ qs.length ∧ i = .int .i64 (j : Int) ∧ RwK N S Inv out sz qs ta w0 (expand (qs.take j)).length v at_ wr
def RwIn (N : Nat) (S : Nat → Prop) (Inv : Nat → World → Prop) (out : Nat → List (UInt8 × Int)) (sz : Nat) (qs : List (Int × Int)) (ta : Value) (w0 : World) (r k : Nat) (l o : Int) (v at_ i : Value) (wr : World) : Prop :=
  ∃ m : Nat, (m : Int) ≤ l ∧ i = .int .i64 (m : Int) ∧ RwK N S Inv out sz qs ta w0 (k + m) v at_ wr ∧ Whole wr r 45 #[.int .i64 l, .int .i64 o] ∧ v.ownBlock ≠ some r

/-- what rewrite leaves -/
def RwPost (S : Nat → Prop) (I : World → Prop) (q : List (UInt8 × Int)) (w : World) (e : Ending) (w' : World) : Prop :=
  ∃ v, e = .returned (.agg #[.string ⟨(q.map (·.1)).toArray⟩, v]) ∧ w'.ownsRow w.heap.size 45 2 v (comp (q.map (·.2))).length (runCells (comp (q.map (·.2)))) ∧ Moved S w w' ∧ I w'

/-- what a function that tells what stands for a byte must do -/
def Puts (F : Nat) (caps : Array Value) (S : Nat → Prop) (Inv : Nat → World → Prop) (out : Nat → List (UInt8 × Int)) (L : List (UInt8 × Int)) (N : Nat) : Prop :=
  ∀ k b o w', L[k]? = some (b, o) → Inv k w' → N ≤ w'.heap.size → Calls Try.prog F (#[.int .i64 (k : Int), .int .i64 o] ++ caps) w' fun e w'' =>
    ∃ (part : ByteArray) (o' : Int), e = .returned (.tuple #[.string part, .int .i64 o']) ∧ out (k + 1) = out k ++ part.data.toList.map (fun x => (x, o')) ∧ Inv (k + 1) w'' ∧ Moved S w' w''

set_option maxHeartbeats 2000000 in
set_option maxRecDepth 100000 in
theorem rewrite_any (F : Nat) (caps : Array Value) (S : Nat → Prop) (Inv : Nat → World → Prop) (out : Nat → List (UInt8 × Int)) (s : ByteArray) (A : Option Addr) (n c : Nat) (rs : List (Int × Int)) (w : World) (hl : Lies w w.heap.size A (runCells rs)) (hn : rs.length = n) (hs : s.size ≤ 4294967296) (hn2 : n ≤ 4294967296)
    (hE : ∀ args w', Sem.run Try.prog (callFunc F args) w' = .ok (.enter F args) w') (hS : ∀ g, S g → g < w.heap.size) (hI : ∀ k w' w'', Inv k w' → Below w.heap.size w' w'' → Inv k w'')
    (hP : Puts F caps S Inv out (chars s.data.toList rs) w.heap.size) (h0 : out 0 = []) (hI0 : Inv 0 w) (hout : ∀ k, k ≤ s.size → (out k).length ≤ 70368744177664) :
    Calls Try.prog 71 #[.agg #[.string s, .slice A n c], .func (.func F) #[] caps] w (RwPost S (Inv s.size) (out s.size) w) := by
  have HN := Lib.hid hn
  have HE := Lib.hid hE
  have HS := Lib.hid hS
  have HI := Lib.hid hI
  have HP := Lib.hid hP
  have HB := Lib.hid hout
  have H0 := Lib.hid h0
  have HI0 := Lib.hid hI0
  clear hn hE hS hI hP hout h0 hI0
  go_enter Try.func71, Try.ntmps71
  go_wp2_with fail
  refine (fix_any s A n c rs _ ?_ HN.out (by omega) hn2).mono ?_
  · exact (((hl.alloc (Nat.le_refl _) _).alloc (by simp) _).alloc (by simp; omega) _).mono (by simp; omega)
  rintro e w3 ⟨v, rfl, hown, hb3⟩
  obtain ⟨A3, c3, rfl, _, _, _⟩ := own_form hown
  have fr1 := fun w' => field_runs s A3 (taken s.size rs).length c3 w'
  go_wp2_with fail
  clear fr1
  simp only [World.size_alloc] at hown hb3
  have hz3 := hb3.size
  simp only [World.size_alloc] at hz3
  have hex : expand (taken s.size rs) = origins s.size rs := expand_comp _
  have hpos : ∀ r ∈ taken s.size rs, 1 ≤ r.1 := comp_pos _
  have hql : (taken s.size rs).length ≤ s.size := by have := comp_length_le (origins s.size rs); rw [origins_length] at this; exact this
  generalize hqs : taken s.size rs = qs at *
  have hexl : (expand qs).length = s.size := by rw [hex, origins_length]
  have y1 : Whole w3 (w.heap.size + 1) 24 #[.string ⟨#[]⟩, .slice none 0 0] := by
    have h := (Whole.made (w.alloc (.cells #[.string s, .slice A n c] 24)) 24 #[.string ⟨#[]⟩, .slice none 0 0]).alloc (.cells #[.pointer none, .slice none 0 0] 59)
    simp only [World.size_alloc] at h
    exact h.below hb3 (by omega)
  have hi0 : Lib.IsBuilderF 59 5 (w.heap.size + 2) (w.heap.size + 2) (Lib.byteCells []) w3 := by
    have h := Lib.IsBuilderF.of (Lib.fresh_isBuilder 59 5 ((w.alloc (.cells #[.string s, .slice A n c] 24)).alloc (.cells #[.string ⟨#[]⟩, .slice none 0 0] 24)))
    simp only [World.size_alloc] at h
    exact builder_below h (hb3.mono (by simp)) (by decide)
  have hbw : Below w.heap.size w w3 := ((((Below.refl _ _).alloc (Nat.le_refl _) _).alloc (by simp) _).alloc (by simp; omega) _).trans (hb3.mono (by omega))
  have hst0 : RwSt w.heap.size S qs (.slice A3 qs.length c3) w3 [] [] (.slice none 0 0) w3 :=
    ⟨World.ownsRow_nil _ _ _ _, hown, by intro g hg; simp [Value.ownBlock] at hg, hi0, Kept.refl _ _ _, by omega⟩
  have HST := Lib.hid hst0
  have HEX := Lib.hid hex
  have HEL := Lib.hid hexl
  have HPOS := Lib.hid hpos
  clear hst0 hown hi0 hb3 hqs hex hexl hpos
  generalize hqn : qs.length = z at *
  have HZ := Lib.hid hqn
  clear hqn
  go_loopw [6, 7, 16] (RwOut w.heap.size S Inv out s.size qs (.slice A3 z c3) w3) (fun _ _ i _ => z - (intOf i).toNat)
  case atStart => exact ⟨0, Nat.zero_le _, rfl, by simp [expand], Nat.zero_le _, by simp [expand, H0.out, comp], by simpa [expand, H0.out] using HST.out, HI.out _ _ _ HI0.out hbw⟩
  case round =>
    obtain ⟨j, hj, rfl, rfl, hks, hcl, hst, hinv⟩ := hrel
    rw [HZ.out] at hj
    have HK1 := Lib.hid hcl
    have HK2 := Lib.hid hst
    have HK3 := Lib.hid hinv
    clear hcl hst hinv
    have hwz : w.heap.size + 3 ≤ wr.heap.size := HK2.out.2.2.2.2.2
    by_cases hjl : j < z
    · have hta2 := HK2.out.2.1
      rw [HZ.out] at hta2
      obtain ⟨ad', l, o, rfl, hbA, hd1, hd2, HR⟩ := (Lies.own hta2).run (k := j) (by rw [HZ.out]; exact hjl)
      have hl1 : 1 ≤ l := HPOS.out (l, o) (List.mem_of_getElem? HR.out)
      have HNX := Lib.hid (expand_take_next HR.out)
      have hx2 := expand_take_len qs (j + 1)
      rw [HNX.out, HEL.out] at hx2
      have HAT : Hid (∀ m : Nat, (m : Int) < l → (origins s.size rs)[(expand (qs.take j)).length + m]? = some o) := fun m hm => by rw [← HEX.out]; exact expand_at HR.out (by omega)
      clear hta2
      generalize hd : (expand (qs.take j)).length = d at *
      have HD := Lib.hid hd
      clear hd
      have hj0 : (0 : Int) ≤ (j : Int) := Int.natCast_nonneg _
      have hj1 : (j : Int) < (z : Int) := by omega
      go_wp2_with fail
      have hrb : Whole (wr.alloc (.cells #[.int .i64 l, .int .i64 o] 45)) wr.heap.size 45 #[.int .i64 l, .int .i64 o] := Whole.made _ _ _
      generalize hw4 : wr.alloc (.cells #[.int .i64 l, .int .i64 o] 45) = w4 at *
      have hb4 : Below wr.heap.size wr w4 := by rw [← hw4]; exact (Below.refl _ _).alloc (Nat.le_refl _) _
      have hst4 := HK2.out.below hb4
      have hinv4 := HI.out _ _ _ HK3.out (hb4.mono (by omega))
      have hv4 : u6.ownBlock ≠ some wr.heap.size := fun e => by have := (HK2.out.1.lt _ e).2; omega
      have HSI : Hid (RwIn w.heap.size S Inv out s.size qs (.slice (some ad') z c3) w3 wr.heap.size d l o u6 (.int .i64 (d : Int)) (.int .i64 0) w4) :=
        ⟨0, by omega, rfl, ⟨rfl, hks, HK1.out, hst4, hinv4⟩, hrb, hv4⟩
      obtain ⟨g, hg⟩ : ∃ g, g = wr.heap.size := ⟨_, rfl⟩
      have hgz : w.heap.size + 3 ≤ g := by omega
      have HSI2 : Hid (RwIn w.heap.size S Inv out s.size qs (.slice (some ad') z c3) w3 g d l o u6 (.int .i64 (d : Int)) (.int .i64 0) w4) := by rw [hg]; exact HSI
      rw [← hg]
      clear HSI hg hw4 hrb hb4 hst4 hinv4 hv4 hd1 hd2 HK1 HK2 HK3
      go_loopw [6, 7, 22] (RwIn w.heap.size S Inv out s.size qs (.slice (some ad') z c3) w3 g d l o) (fun _ _ i _ => l.toNat - (intOf i).toNat)
      case atStart => exact HSI2.out
      case round =>
        obtain ⟨m, hml, rfl, ⟨rfl, hks2, hcl, hst, hinv⟩, hrb, hvg⟩ := hrel
        have HK1 := Lib.hid hcl
        have HK2 := Lib.hid hst
        have HK3 := Lib.hid hinv
        have HRB := Lib.hid hrb
        have HVG := Lib.hid hvg
        clear hcl hst hinv hvg HSI2
        have hbz : w.heap.size + 3 ≤ wr.heap.size := HK2.out.2.2.2.2.2
        have hc1 : wr.cell? ⟨g, 1, none⟩ = some (.int .i64 o) := hrb.at_ 1
        clear hrb
        by_cases hm : (m : Int) < l
        · have hk : d + m < s.size := by omega
          have HLK : Hid ((chars s.data.toList rs)[d + m]? = some (s[d + m]'hk, o)) := chars_at hk (HAT.out m hm)
          have hB0 := HB.out (d + m) (by omega)
          have hB1 := HB.out (d + m + 1) (by omega)
          have HM := Lib.hid hm
          go_wp2_with fail
          rw [HE.out]
          refine (HP.out (d + m) _ o _ HLK.out HK3.out (by omega)).mono ?_
          rintro e w5 ⟨part, o', rfl, hout1, hinv5, hmv⟩
          have hps : (out (d + m + 1)).length = (out (d + m)).length + part.size := by
            rw [hout1, List.length_append, List.length_map, Array.length_toList]; rfl
          have hst5 := HK2.out.moved hmv HS.out
          have hrb5 := hmv.whole HRB.out (fun hs => by have := HS.out _ hs; omega)
          have hz5 := hmv.size
          have H5 := Lib.hid hst5
          have R5 := Lib.hid hrb5
          have I5 := Lib.hid hinv5
          have O5 := Lib.hid hout1
          have P5 := Lib.hid hps
          have hpb : (out (d + m)).length + part.size ≤ 70368744177664 := by omega
          clear hst5 hrb5 hinv5 hout1 hmv hps hc1
          go_wp2_with fail
          refine (writeString_any (w.heap.size + 2) (w.heap.size + 2) (Lib.byteCells ((out (d + m)).map (·.1))) part _ H5.out.2.2.2.1 (by rw [Lib.byteCells_length, List.length_map]; omega) (by omega)).mono ?_
          rintro e w6 ⟨rfl, hbu, hbl, hoth⟩
          have hst6 := H5.out.write hbu hbl hoth
          have hrb6 : Whole w6 g 45 #[.int .i64 l, .int .i64 o] := hoth _ _ R5.out (by intro e; injection e with e; omega) (by intro c fz e; injection e with _ e _; exact absurd e (by decide))
          have hinv6 := HI.out _ _ _ I5.out (hbl.mono (by omega))
          have hz6 := hbl.size
          have H6 := Lib.hid hst6
          have R6 := Lib.hid hrb6
          have I6 := Lib.hid hinv6
          have hc6 := HK1.out
          clear hst6 hrb6 hinv6 hbu hbl hoth
          go_wp2_with fail
          refine (behind_comp (w.heap.size + 3) u6 ((out (d + m)).map (·.2)) (part.size : Int) o' _ H6.out.1 (by omega) (by omega) (by rw [List.length_map]; omega) (by omega) (by omega)).mono ?_
          rintro e w7 ⟨v7, rfl, hown7, hg7, hat7⟩
          have hz7 := hg7.size
          rw [Int.toNat_natCast] at hown7
          have hst7 := H6.out.join hown7 hg7 hat7
          have hjl : (comp ((out (d + m)).map (·.2) ++ List.replicate part.size o')).length ≤ (comp ((out (d + m)).map (·.2))).length + 1 := by rw [comp_replicate]; exact joinR_len _ _ _
          have e1 : (out (d + m + 1)).map (·.1) = (out (d + m)).map (·.1) ++ part.data.toList := by rw [O5.out, List.map_append, List.map_map]; congr 1; exact List.map_id' _
          have e2 : (out (d + m + 1)).map (·.2) = (out (d + m)).map (·.2) ++ List.replicate part.size o' := by
            rw [O5.out, List.map_append, List.map_map]
            congr 1
            have : part.data.toList.length = part.size := by rw [Array.length_toList]; rfl
            rw [← this]
            exact List.map_const'
          rw [← e1, ← e2] at hst7
          rw [← e2] at hjl
          have hrb7 : Whole w7 g 45 #[.int .i64 l, .int .i64 o] := R6.out.grown hg7 (fun e => HVG.out e.symm)
          have hinv7 := HI.out _ _ _ I6.out ((Below.refl _ _).grown hg7 (by omega) (fun k hk => by have := (H6.out.1.lt k hk).1; omega))
          have hvg7 : v7.ownBlock ≠ some g := by
            rcases hat7 with e | ⟨k, hk, e⟩
            · rw [e]; exact HVG.out
            · rw [e]; intro e2; injection e2 with e2; have := R6.out.lt; omega
          have HREL : Hid (RwIn w.heap.size S Inv out s.size qs (.slice (some ad') z c3) w3 g d l o v7 (.int .i64 ((d + m + 1 : Nat) : Int)) (.int .i64 ((m + 1 : Nat) : Int)) w7) :=
            ⟨m + 1, by have := HM.out; omega, rfl, ⟨rfl, by omega, by have : d + (m + 1) = d + m + 1 := rfl; rw [this]; omega, hst7, hinv7⟩, hrb7, hvg7⟩
          clear hst7 hrb7 hinv7 hvg7 hown7 hg7 hat7 hjl e1 e2
          go_wp2_with fail
          go_roundw
          case rel =>
            have h := HREL.out
            first | exact h | (simpa using h)
          case measure => simp [intOf]; omega
        · obtain rfl : l = (m : Int) := by omega
          have HREL : Hid (RwOut w.heap.size S Inv out s.size qs (.slice (some ad') z c3) w3 u6 (.int .i64 ((d + m : Nat) : Int)) (.int .i64 ((j + 1 : Nat) : Int)) wr) := by
            refine ⟨j + 1, by rw [HZ.out]; omega, rfl, ?_⟩
            rw [HNX.out, Int.toNat_natCast]
            exact ⟨rfl, hks2, HK1.out, HK2.out, HK3.out⟩
          go_wp2_with fail
          go_roundw
          case rel => exact HREL.out
          case measure => simp [intOf]; omega
    · obtain rfl : j = z := by omega
      have hfull : (expand (qs.take j)).length = s.size := by rw [List.take_of_length_le (by rw [HZ.out]; exact Nat.le_refl _), HEL.out]
      rw [hfull] at HK1 HK2 HK3
      have HFULL := Lib.hid hfull
      have hB0 := HB.out s.size (Nat.le_refl _)
      clear hfull
      go_wp2_with fail
      refine (Try.Builder_String_any_k (w.heap.size + 2) (w.heap.size + 2) ((out s.size).map (·.1)) wr HK2.out.2.2.2.1 (by omega)).mono ?_
      rintro e w5 ⟨rfl, _, hbl5, hoth5⟩
      have ho5 := own_others HK2.out.1 hoth5 (by omega)
      have hinv5 := HI.out _ _ _ HK3.out (hbl5.mono (by omega))
      have hkp := HK2.out.2.2.2.2.1.below hbl5
      have hW := (y1.same (hkp.block _ (by omega) (fun hs => by have := HS.out _ hs; omega)))
      have f0 := hW.free 0
      have f1 := hW.free 1
      have d0 : w5.cell? ⟨w.heap.size + 1, 0, none⟩ = some (.string ⟨#[]⟩) := hW.at_ 0
      have d1 : w5.cell? ⟨w.heap.size + 1, 1, none⟩ = some (.slice none 0 0) := hW.at_ 1
      obtain ⟨A5, c5, rfl, _, _, _⟩ := own_form ho5
      have HO5 := Lib.hid ho5
      have HI5 := Lib.hid hinv5
      have HKP := Lib.hid hkp
      clear ho5 hinv5 hkp
      generalize hq1 : (out s.size).map (·.1) = st at *
      generalize hq2 : comp ((out s.size).map (·.2)) = q at *
      have HQ1 := Lib.hid hq1
      have HQ2 := Lib.hid hq2
      clear hq1 hq2
      go_wp2
      refine bodyPost_ret (v := .agg #[.string ⟨st.toArray⟩, .slice A5 q.length c5]) ?_ rfl ?_
      · simp [results, Try.results71, go_sem, d0, d1]
      · refine ⟨.slice A5 q.length c5, by rw [HQ1.out], ?_, ?_, ?_⟩
        · rw [HQ2.out]
          refine own_mono (base := w.heap.size + 3) (own_far (own_far HO5.out _ (fun h => ?_) _) _ (fun h => ?_) _) (by omega)
          · exact absurd (HO5.out.lt _ h).1 (by simp)
          · exact absurd (HO5.out.lt _ h).1 (by simp)
        · have hk := HKP.out
          have hkb : Below (w.heap.size + 1) w5 ((w5.setCell ⟨w.heap.size + 1, 0, none⟩ (.string ⟨st.toArray⟩)).setCell ⟨w.heap.size + 1, 1, none⟩ (.slice A5 q.length c5)) := ((Below.refl _ _).setCell (p := ⟨w.heap.size + 1, 0, none⟩) (Nat.le_refl _) _).setCell (p := ⟨w.heap.size + 1, 1, none⟩) (Nat.le_refl _) _
          exact ⟨hkb.os.trans (hk.os.trans hbw.os), hkb.tape.trans (hk.tape.trans hbw.tape), hkb.output.trans (hk.output.trans hbw.output), Nat.le_trans (Nat.le_trans hbw.size hk.size) hkb.size, fun g hg hs => (hkb.block g (by omega)).trans ((hk.block g (by omega) hs).trans (hbw.block g hg))⟩
        · exact HI.out _ _ _ HI5.out (((Below.refl _ _).setCell (p := ⟨w.heap.size + 1, 0, none⟩) (Nat.le_succ _) _).setCell (p := ⟨w.heap.size + 1, 1, none⟩) (Nat.le_succ _) _)

end Go.Proofs.Ytfmjnmijhbnnjaa.mk

namespace Go.Proofs.Ytfmjnmijhbnnjaa.mk
open Go.RowKit

def trimL {α : Type} (p : α → Bool) (l : List α) : List α := ((l.dropWhile p).reverse.dropWhile p).reverse
theorem dropWhile_front {α : Type} {p : α → Bool} {a m : List α} (h : ∀ x ∈ a, p x = true) : (a ++ m).dropWhile p = m.dropWhile p := by
  induction a with
  | nil => rfl
  | cons x a ih => rw [List.cons_append, List.dropWhile_cons, if_pos (h x (by simp)), ih (fun y hy => h y (by simp [hy]))]
theorem dropWhile_stay {α : Type} {p : α → Bool} {x : α} {m : List α} (h : p x = false) : (x :: m).dropWhile p = x :: m := by
  rw [List.dropWhile_cons, if_neg (by simp [h])]
theorem dropWhile_all {α : Type} {p : α → Bool} {a : List α} (h : ∀ x ∈ a, p x = true) : a.dropWhile p = [] := by
  have := dropWhile_front (m := []) h
  simpa using this
theorem trimL_all {α : Type} {p : α → Bool} {a : List α} (h : ∀ x ∈ a, p x = true) : trimL p a = [] := by
  unfold trimL; rw [dropWhile_all h]; rfl
theorem trimL_mid {α : Type} {p : α → Bool} {a m b : List α} {x y : α} (ha : ∀ x ∈ a, p x = true) (hb : ∀ x ∈ b, p x = true) (hx : m.head? = some x) (hpx : p x = false) (hy : m.getLast? = some y) (hpy : p y = false) : trimL p (a ++ m ++ b) = m := by
  unfold trimL
  have h1 : (a ++ m ++ b).dropWhile p = m ++ b := by
    rw [List.append_assoc, dropWhile_front ha]
    cases m with
    | nil => simp at hx
    | cons z m => simp at hx; subst hx; rw [List.cons_append, dropWhile_stay hpx]
  rw [h1, List.reverse_append, dropWhile_front (fun z hz => hb z (by simpa using hz))]
  rcases snoc_cases m with rfl | ⟨r, z, rfl⟩
  · simp at hy
  · simp at hy; subst hy
    rw [List.reverse_append, List.reverse_singleton, List.singleton_append, dropWhile_stay hpy]
    simp

/-- what is known of the first k: where the first and the last are that stay -/
def Mid {α : Type} (p : α → Bool) (l : List α) (k a b : Nat) : Prop :=
  (a = l.length ∧ b = 0 ∧ ∀ (i : Nat) (x : α), i < k → l[i]? = some x → p x = true) ∨
  (a < b ∧ b ≤ k ∧ (∀ (i : Nat) (x : α), i < a → l[i]? = some x → p x = true) ∧ (∃ x, l[a]? = some x ∧ p x = false) ∧ (∃ x, l[b - 1]? = some x ∧ p x = false) ∧ ∀ (i : Nat) (x : α), b ≤ i → i < k → l[i]? = some x → p x = true)
theorem Mid.zero {α : Type} (p : α → Bool) (l : List α) : Mid p l 0 l.length 0 := .inl ⟨rfl, rfl, fun i x h => by omega⟩
theorem Mid.skip {α : Type} {p : α → Bool} {l : List α} {k a b : Nat} {x : α} (h : Mid p l k a b) (hx : l[k]? = some x) (hp : p x = true) : Mid p l (k + 1) a b := by
  rcases h with ⟨h1, h2, h3⟩ | ⟨h1, h2, h3, h4, h5, h6⟩
  · refine .inl ⟨h1, h2, fun i y hi hy => ?_⟩
    rcases Nat.lt_or_ge i k with h | h
    · exact h3 i y h hy
    · obtain rfl : i = k := by omega
      rw [hx] at hy; injection hy with hy; subst hy; exact hp
  · refine .inr ⟨h1, by omega, h3, h4, h5, fun i y hb hi hy => ?_⟩
    rcases Nat.lt_or_ge i k with h | h
    · exact h6 i y hb h hy
    · obtain rfl : i = k := by omega
      rw [hx] at hy; injection hy with hy; subst hy; exact hp
theorem Mid.here {α : Type} {p : α → Bool} {l : List α} {k a b : Nat} {x : α} (h : Mid p l k a b) (hx : l[k]? = some x) (hp : p x = false) : Mid p l (k + 1) (min a k) (k + 1) := by
  have hk : k < l.length := (List.getElem?_eq_some_iff.1 hx).1
  rcases h with ⟨h1, h2, h3⟩ | ⟨h1, h2, h3, h4, h5, h6⟩
  · rw [show min a k = k by omega]
    exact .inr ⟨by omega, by omega, h3, ⟨x, hx, hp⟩, ⟨x, by simpa using hx, hp⟩, fun i y hb hi => by omega⟩
  · rw [show min a k = a by omega]
    exact .inr ⟨by omega, by omega, h3, h4, ⟨x, by simpa using hx, hp⟩, fun i y hb hi => by omega⟩
theorem Mid.bd {α : Type} {p : α → Bool} {l : List α} {k a b : Nat} (h : Mid p l k a b) (hk : k ≤ l.length) : a ≤ l.length ∧ b ≤ l.length := by
  rcases h with ⟨h1, h2, _⟩ | ⟨h1, h2, _⟩ <;> omega
theorem Mid.end_ {α : Type} {p : α → Bool} {l : List α} {a b : Nat} (h : Mid p l l.length a b) : (l.take b).drop a = trimL p l := by
  rcases h with ⟨h1, h2, h3⟩ | ⟨h1, h2, h3, ⟨x, h4, h4'⟩, ⟨y, h5, h5'⟩, h6⟩
  · subst h2
    rw [trimL_all (fun x hx => ?_)]
    · simp
    · obtain ⟨i, hi⟩ := List.mem_iff_getElem?.1 hx
      exact h3 i x (List.getElem?_eq_some_iff.1 hi).1 hi
  · have hlen : ((l.take b).drop a).length = b - a := by rw [List.length_drop, List.length_take]; omega
    have e : l = l.take a ++ (l.take b).drop a ++ l.drop b := by
      have e1 : l.take a = (l.take b).take a := by rw [List.take_take]; congr 1; omega
      rw [e1, List.take_append_drop, List.take_append_drop]
    conv => rhs; rw [e]
    refine (trimL_mid (x := x) (y := y) (fun z hz => ?_) (fun z hz => ?_) ?_ h4' ?_ h5').symm
    · obtain ⟨i, hi⟩ := List.mem_iff_getElem?.1 hz
      rw [List.getElem?_take] at hi
      split at hi
      · rename_i hlt; exact h3 i z hlt hi
      · cases hi
    · obtain ⟨i, hi⟩ := List.mem_iff_getElem?.1 hz
      rw [List.getElem?_drop] at hi
      exact h6 (b + i) z (by omega) (List.getElem?_eq_some_iff.1 hi).1 hi
    · rw [List.head?_drop, List.getElem?_take, if_pos h1]; exact h4
    · rw [List.getLast?_eq_getElem?, hlen, List.getElem?_drop, List.getElem?_take, if_pos (by omega), show a + (b - a - 1) = b - 1 by omega]; exact h5

/-- whether a byte with its origin is sought -/
def onB (f : UInt8 → Bool) (x : UInt8 × Int) : Bool := f x.1
theorem Mid.map {f : UInt8 → Bool} {L : List (UInt8 × Int)} {l : List UInt8} {k a b : Nat} (h : Mid f l k a b) (hl : L.map (·.1) = l) : Mid (onB f) L k a b := by
  subst hl
  have hg : ∀ (i : Nat) (x : UInt8 × Int), L[i]? = some x → (L.map (·.1))[i]? = some x.1 := fun i x hx => by rw [List.getElem?_map, hx]; rfl
  have hg' : ∀ (i : Nat) (x : UInt8), (L.map (·.1))[i]? = some x → ∃ y, L[i]? = some y ∧ y.1 = x := fun i x hx => by
    rw [List.getElem?_map] at hx
    cases hL : L[i]? with
    | none => rw [hL] at hx; cases hx
    | some y => rw [hL] at hx; exact ⟨y, rfl, by injection hx⟩
  rcases h with ⟨h1, h2, h3⟩ | ⟨h1, h2, h3, ⟨x, h4, h4'⟩, ⟨y, h5, h5'⟩, h6⟩
  · exact .inl ⟨by simpa using h1, h2, fun i x hi hx => h3 i x.1 hi (hg i x hx)⟩
  · obtain ⟨x', hx, rfl⟩ := hg' _ _ h4
    obtain ⟨y', hy, rfl⟩ := hg' _ _ h5
    exact .inr ⟨h1, h2, fun i x hi hx => h3 i x.1 hi (hg i x hx), ⟨x', hx, h4'⟩, ⟨y', hy, h5'⟩, fun i x hb hi hx => h6 i x.1 hb hi (hg i x hx)⟩

def StripRel (f : UInt8 → Bool) (l : List UInt8) (a b i : Value) : Prop :=
  ∃ k x y : Nat, k ≤ l.length ∧ i = .int .i64 (k : Int) ∧ a = .int .i64 (x : Int) ∧ b = .int .i64 (y : Int) ∧ Mid f l k x y

end Go.Proofs.Ytfmjnmijhbnnjaa.mk

namespace Go.Proofs.Ytfmjnmijhbnnjaa.mk
open Go.RowKit

/-- by for each sought byte, of that byte's origin -/
def replL (f : UInt8 → Bool) (by_ : List UInt8) (l : List (UInt8 × Int)) : List (UInt8 × Int) := l.flatMap fun x => if f x.1 then by_.map (fun y => (y, x.2)) else [x]
theorem replL_next {f : UInt8 → Bool} {by_ : List UInt8} {l : List (UInt8 × Int)} {k : Nat} {b : UInt8} {o : Int} (h : l[k]? = some (b, o)) : replL f by_ (l.take (k + 1)) = replL f by_ (l.take k) ++ (if f b then by_ else [b]).map (fun y => (y, o)) := by
  rw [take_next h]
  unfold replL
  rw [List.flatMap_append]
  congr 1
  rw [List.flatMap_singleton]
  split <;> rfl
theorem replL_length (f : UInt8 → Bool) (by_ : List UInt8) (l : List (UInt8 × Int)) : (replL f by_ l).length ≤ l.length * (by_.length + 1) := by
  induction l with
  | nil => simp [replL]
  | cons x l ih =>
    have e : replL f by_ (x :: l) = (if f x.1 then by_.map (fun y => (y, x.2)) else [x]) ++ replL f by_ l := by simp [replL]
    rw [e, List.length_append, List.length_cons, Nat.add_mul]
    have : (if f x.1 then by_.map (fun y => (y, x.2)) else [x]).length ≤ by_.length + 1 := by split <;> simp
    omega

theorem one_byte (s : ByteArray) (k : Nat) (hk : k < s.size) : (s.extract k (k + 1)).data.toList = [s[k]'hk] := by
  have hsl : s.data.toList.length = s.size := by rw [Array.length_toList]; rfl
  rw [ByteArray.data_extract, Array.toList_extract]
  have hk' : k < s.data.toList.length := by rw [hsl]; exact hk
  rw [List.extract_eq_take_drop, List.drop_eq_getElem_cons hk', show k + 1 - k = 1 by omega]
  rfl

set_option maxHeartbeats 1000000 in
set_option maxRecDepth 100000 in
theorem replF_any (F : Nat) (caps : Array Value) (f : UInt8 → Bool) (bS bQ bB : Nat) (s y : ByteArray) (v : Value) (k : Nat) (o : Int) (hk : k < s.size) (hs : s.size ≤ 4294967296) (w : World)
    (hE : ∀ args w', Sem.run Try.prog (callFunc F args) w' = .ok (.enter F args) w')
    (hF : ∀ (b : UInt8) w', Below w.heap.size w w' → Calls Try.prog F (#[.int .u8 b.toNat] ++ caps) w' fun e w'' => e = .returned (.bool (f b)) ∧ w' = w'')
    (b0 : bS < w.heap.size) (b1 : bQ < w.heap.size) (b2 : bB < w.heap.size)
    (c0 : w.cell? ⟨bS, 0, none⟩ = some (.string s)) (c1 : w.cell? ⟨bS, 1, none⟩ = some v) (c2 : w.cell? ⟨bQ, 0, none⟩ = some (.func (.func F) #[] caps)) (c3 : w.cell? ⟨bB, 0, none⟩ = some (.string y)) :
    Calls Try.prog 72 #[.int .i64 (k : Int), .int .i64 o, .pointer (some ⟨bQ, 0, none⟩), .pointer (some ⟨bS, 0, none⟩), .pointer (some ⟨bB, 0, none⟩)] w fun e w' => (∃ part : ByteArray, e = .returned (.tuple #[.string part, .int .i64 o]) ∧ part.data.toList = (if f (s[k]'hk) then y.data.toList else [s[k]'hk])) ∧ Below w.heap.size w w' := by
  have HE := Lib.hid hE
  have HF := Lib.hid hF
  clear hE hF
  have hk0 : (0 : Int) ≤ (k : Int) := Int.natCast_nonneg _
  have hk1 : (k : Int) < (s.size : Int) := by omega
  have hk2 : (k : Int) + 1 ≤ (s.size : Int) := by omega
  go_enter Try.func72, Try.ntmps72
  go_wp2_with fail
  have KS : ∀ w', Below w.heap.size w w' → w'.cell? ⟨bS, 0, none⟩ = some (.string s) ∧ w'.cell? ⟨bS, 1, none⟩ = some v ∧ w'.cell? ⟨bQ, 0, none⟩ = some (.func (.func F) #[] caps) ∧ w'.cell? ⟨bB, 0, none⟩ = some (.string y) ∧ Below w.heap.size w w' := fun w' h =>
    ⟨(h.cell b0).trans c0, (h.cell b0).trans c1, (h.cell b1).trans c2, (h.cell b2).trans c3, h⟩
  have HKS := Lib.hid KS
  clear KS
  go_region_held3 (fun w' => w'.cell? ⟨bS, 0, none⟩ = some (.string s) ∧ w'.cell? ⟨bS, 1, none⟩ = some v ∧ w'.cell? ⟨bQ, 0, none⟩ = some (.func (.func F) #[] caps) ∧ w'.cell? ⟨bB, 0, none⟩ = some (.string y) ∧ Below w.heap.size w w')
    (first
      | exact HKS.out _ (Below.drew (Below.refl _ _))
      | (go_split_ands; exact HKS.out _ (by assumption)))
    (first
      | (rw [HE.out]; refine (HF.out (s[k]'hk) _ ?_).mono ?_; (go_split_ands; assumption); rintro e w' ⟨rfl, rfl⟩))
  have hbd : Below w.heap.size w w.drew := (Below.refl _ _).drew
  cases hf : f (s[k]'hk) with
  | true =>
    go_wp2_with fail
    go_ret2
    exact ⟨⟨y, rfl, rfl⟩, hbd⟩
  | false =>
    have HO := Lib.hid (one_byte s k hk)
    go_wp2_with fail
    all_goals
      go_ret2
      exact ⟨⟨_, rfl, by simpa using HO.out⟩, hbd⟩

set_option maxHeartbeats 1000000 in
set_option maxRecDepth 100000 in
theorem replace_any (F : Nat) (caps : Array Value) (f : UInt8 → Bool) (s y : ByteArray) (A : Option Addr) (n c : Nat) (rs : List (Int × Int)) (w : World) (hl : Lies w w.heap.size A (runCells rs)) (hn : rs.length = n) (hs : s.size ≤ 4294967296) (hn2 : n ≤ 4294967296) (hby : s.size * (y.size + 1) ≤ 70368744177664)
    (hE : ∀ args w', Sem.run Try.prog (callFunc F args) w' = .ok (.enter F args) w')
    (hF : ∀ (b : UInt8) w', Below w.heap.size w w' → Calls Try.prog F (#[.int .u8 b.toNat] ++ caps) w' fun e w'' => e = .returned (.bool (f b)) ∧ w' = w'') :
    Calls Try.prog 53 #[.agg #[.string s, .slice A n c], .func (.func F) #[] caps, .string y] w (Tells ⟨((replL f y.data.toList (chars s.data.toList rs)).map (·.1)).toArray⟩ (comp ((replL f y.data.toList (chars s.data.toList rs)).map (·.2))) w) := by
  have HN := Lib.hid hn
  have HE := Lib.hid hE
  have HF := Lib.hid hF
  clear hn hE hF
  have hsl : s.data.toList.length = s.size := by rw [Array.length_toList]; rfl
  have HSL := Lib.hid hsl
  clear hsl
  go_enter Try.func53, Try.ntmps53
  go_wp2_with fail
  generalize hwE : (((w.alloc (.cells #[.string s, .slice A n c] 24)).alloc (.cells #[.func (.func F) #[] caps] 82)).alloc (.cells #[.string y] 9)).alloc (.cells #[.string ⟨#[]⟩, .slice none 0 0] 24) = wE
  have y0 : Whole wE w.heap.size 24 #[.string s, .slice A n c] := by rw [← hwE]; exact (((Whole.made w _ _).alloc _).alloc _).alloc _
  have y1 : Whole wE (w.heap.size + 1) 82 #[.func (.func F) #[] caps] := by
    rw [← hwE]
    have h := ((Whole.made (w.alloc (.cells #[.string s, .slice A n c] 24)) 82 #[.func (.func F) #[] caps]).alloc (.cells #[.string y] 9)).alloc (.cells #[.string ⟨#[]⟩, .slice none 0 0] 24)
    simp only [World.size_alloc] at h
    exact h
  have y2 : Whole wE (w.heap.size + 1 + 1) 9 #[.string y] := by
    rw [← hwE]
    have h := (Whole.made ((w.alloc (.cells #[.string s, .slice A n c] 24)).alloc (.cells #[.func (.func F) #[] caps] 82)) 9 #[.string y]).alloc (.cells #[.string ⟨#[]⟩, .slice none 0 0] 24)
    simp only [World.size_alloc] at h
    exact h
  have y3 : Whole wE (w.heap.size + 1 + 1 + 1) 24 #[.string ⟨#[]⟩, .slice none 0 0] := by
    rw [← hwE]
    have h := Whole.made (((w.alloc (.cells #[.string s, .slice A n c] 24)).alloc (.cells #[.func (.func F) #[] caps] 82)).alloc (.cells #[.string y] 9)) 24 #[.string ⟨#[]⟩, .slice none 0 0]
    simp only [World.size_alloc] at h
    exact h
  have hzE : wE.heap.size = w.heap.size + 4 := by rw [← hwE]; simp
  have hbE : Below w.heap.size w wE := by rw [← hwE]; exact ((((Below.refl _ _).alloc (Nat.le_refl _) _).alloc (by simp) _).alloc (by simp; omega) _).alloc (by simp; omega) _
  have hlE : Lies wE wE.heap.size A (runCells rs) := hl.next hbE (Nat.le_refl _)
  clear hwE
  have HLN : Hid ((chars s.data.toList rs).length = s.size) := by show _ = _; rw [chars_length, HSL.out]
  have HYL : Hid (y.data.toList.length = y.size) := by show _ = _; rw [Array.length_toList]; rfl
  refine (rewrite_any 72 #[.pointer (some ⟨w.heap.size + 1, 0, none⟩), .pointer (some ⟨w.heap.size, 0, none⟩), .pointer (some ⟨w.heap.size + 1 + 1, 0, none⟩)] (fun _ => False) (fun _ w' => Below wE.heap.size wE w') (fun k => replL f y.data.toList ((chars s.data.toList rs).take k)) s A n c rs wE hlE HN.out hs hn2 (fun _ _ => rfl) (fun _ h => h.elim) (fun k w' w'' h1 h2 => h1.trans h2) ?_ rfl (Below.refl _ _) ?_).mono ?_
  · intro k b o w' hL hI hN'
    have hk : k < s.size := by rw [← HLN.out]; exact (List.getElem?_eq_some_iff.1 hL).1
    have hb : s[k]'hk = b := by
      have h1 : (chars s.data.toList rs).map (·.1) = s.data.toList := chars_fst _ _
      have h2 : ((chars s.data.toList rs).map (·.1))[k]? = some b := by rw [List.getElem?_map, hL]; rfl
      rw [h1, List.getElem?_eq_getElem (by rw [HSL.out]; exact hk)] at h2
      injection h2
    have z0 := y0.below hI y0.lt
    have z1 := y1.below hI y1.lt
    have z2 := y2.below hI y2.lt
    refine (replF_any F caps f w.heap.size (w.heap.size + 1) (w.heap.size + 1 + 1) s y (.slice A n c) k o hk hs w' HE.out (fun b w'' hb'' => HF.out b w'' (below_next hbE (Nat.le_refl _) (below_next hI (Nat.le_refl _) hb''))) z0.lt z1.lt z2.lt (z0.at_ 0) (z0.at_ 1) (z1.at_ 0) (z2.at_ 0)).mono ?_
    rintro e w'' ⟨⟨part, rfl, hp⟩, hb''⟩
    refine ⟨part, o, rfl, ?_, below_next hI (Nat.le_refl _) hb'', Moved.of_below hb''⟩
    rw [hp, hb]
    exact replL_next hL
  · intro k _
    refine Nat.le_trans (replL_length _ _ _) (Nat.le_trans (Nat.mul_le_mul_right _ ?_) (by rw [HYL.out]; exact hby))
    rw [List.length_take, HLN.out]
    omega
  rintro e w2 ⟨v, rfl, hown, hmv, _⟩
  have hb2 : Below wE.heap.size wE w2 := hmv.below (Nat.le_refl _) (fun _ _ h => h)
  have hful : (chars s.data.toList rs).take s.size = chars s.data.toList rs := List.take_of_length_le (by rw [HLN.out]; exact Nat.le_refl _)
  rw [hful] at hown
  obtain ⟨A2, c2, rfl, _, _, _⟩ := own_form hown
  have hW := y3.below hb2 y3.lt
  have f0 := hW.free 0
  have f1 := hW.free 1
  have d0 : w2.cell? ⟨w.heap.size + 1 + 1 + 1, 0, none⟩ = some (.string ⟨#[]⟩) := hW.at_ 0
  have d1 : w2.cell? ⟨w.heap.size + 1 + 1 + 1, 1, none⟩ = some (.slice none 0 0) := hW.at_ 1
  have HO := Lib.hid hown
  have HFUL := Lib.hid hful
  clear hown hmv hful
  simp only [HFUL.out] at *
  generalize hT : replL f y.data.toList (chars s.data.toList rs) = T at *
  generalize hq : comp (T.map (·.2)) = q at *
  generalize hst : T.map (·.1) = st at *
  have HT := Lib.hid hT
  have HQ := Lib.hid hq
  have HS := Lib.hid hst
  clear hT hq hst
  go_wp2
  refine bodyPost_ret (v := .agg #[.string ⟨st.toArray⟩, .slice A2 q.length c2]) ?_ rfl ?_
  · simp [results, Try.results53, go_sem, d0, d1]
  · rw [HT.out, HQ.out, HS.out]
    exact tells_end (g := w.heap.size + 1 + 1 + 1) (by omega) (own_mono HO.out (by omega)) (below_next hbE (Nat.le_refl _) hb2)

set_option maxHeartbeats 1000000 in
set_option maxRecDepth 100000 in
theorem swap_any (s y : ByteArray) (x : UInt8) (A : Option Addr) (n c : Nat) (rs : List (Int × Int)) (w : World) (hl : Lies w w.heap.size A (runCells rs)) (hn : rs.length = n) (hs : s.size ≤ 4294967296) (hn2 : n ≤ 4294967296) (hby : s.size * (y.size + 1) ≤ 70368744177664) :
    Calls Try.prog 45 #[.agg #[.string s, .slice A n c], .int .u8 x.toNat, .string y] w (Tells ⟨((replL (fun b => b == x) y.data.toList (chars s.data.toList rs)).map (·.1)).toArray⟩ (comp ((replL (fun b => b == x) y.data.toList (chars s.data.toList rs)).map (·.2))) w) := by
  have HN := Lib.hid hn
  clear hn
  go_enter Try.func45, Try.ntmps45
  go_wp2_with fail
  generalize hwE : ((w.alloc (.cells #[.string s, .slice A n c] 24)).alloc (.cells #[.int .u8 x.toNat] 5)).alloc (.cells #[.string ⟨#[]⟩, .slice none 0 0] 24) = wE
  have y1 : Whole wE (w.heap.size + 1) 5 #[.int .u8 x.toNat] := by
    rw [← hwE]
    have h := (Whole.made (w.alloc (.cells #[.string s, .slice A n c] 24)) 5 #[.int .u8 x.toNat]).alloc (.cells #[.string ⟨#[]⟩, .slice none 0 0] 24)
    simp only [World.size_alloc] at h
    exact h
  have y3 : Whole wE (w.heap.size + 1 + 1) 24 #[.string ⟨#[]⟩, .slice none 0 0] := by
    rw [← hwE]
    have h := Whole.made ((w.alloc (.cells #[.string s, .slice A n c] 24)).alloc (.cells #[.int .u8 x.toNat] 5)) 24 #[.string ⟨#[]⟩, .slice none 0 0]
    simp only [World.size_alloc] at h
    exact h
  have hzE : wE.heap.size = w.heap.size + 3 := by rw [← hwE]; simp
  have hbE : Below w.heap.size w wE := by rw [← hwE]; exact (((Below.refl _ _).alloc (Nat.le_refl _) _).alloc (by simp) _).alloc (by simp; omega) _
  have hlE : Lies wE wE.heap.size A (runCells rs) := hl.next hbE (Nat.le_refl _)
  clear hwE
  refine (replace_any 54 #[.pointer (some ⟨w.heap.size + 1, 0, none⟩)] (fun b => b == x) s y A n c rs wE hlE HN.out hs hn2 hby (fun _ _ => rfl) (fun b w' hb => swapF_any b x (w.heap.size + 1) w' ((hb.cell y1.lt).trans (y1.at_ 0)))).mono ?_
  generalize hT : replL (fun b => b == x) y.data.toList (chars s.data.toList rs) = T at *
  generalize hq : comp (T.map (·.2)) = q at *
  generalize hst : T.map (·.1) = st at *
  have HT := Lib.hid hT
  have HQ := Lib.hid hq
  have HS := Lib.hid hst
  clear hT hq hst
  rintro e w2 ⟨v, rfl, hown, hb2⟩
  obtain ⟨A2, c2, rfl, _, _, _⟩ := own_form hown
  have hW := y3.below hb2 y3.lt
  have f0 := hW.free 0
  have f1 := hW.free 1
  have d0 : w2.cell? ⟨w.heap.size + 1 + 1, 0, none⟩ = some (.string ⟨#[]⟩) := hW.at_ 0
  have d1 : w2.cell? ⟨w.heap.size + 1 + 1, 1, none⟩ = some (.slice none 0 0) := hW.at_ 1
  have HO := Lib.hid hown
  clear hown
  go_wp2
  refine bodyPost_ret (v := .agg #[.string ⟨st.toArray⟩, .slice A2 q.length c2]) ?_ rfl ?_
  · simp [results, Try.results45, go_sem, d0, d1]
  · rw [HT.out, HQ.out, HS.out]
    exact tells_end (g := w.heap.size + 1 + 1) (by omega) (own_mono HO.out (by omega)) (below_next hbE (Nat.le_refl _) hb2)

/-- tab, line feed, form feed, return, blank -/
def blanksB (b : UInt8) : Bool := [9, 10, 12, 13, 32].contains b
end Go.Proofs.Ytfmjnmijhbnnjaa.mk

namespace Go.Proofs.Ytfmjnmijhbnnjaa.mk
open Go.RowKit

def txtOf (l : List (UInt8 × Int)) : ByteArray := ⟨(l.map (·.1)).toArray⟩
def runN (l : List (UInt8 × Int)) : Nat := (comp (l.map (·.2))).length
def TellsL (l : List (UInt8 × Int)) (W : World) (e : Ending) (w' : World) : Prop :=
  ∃ D k, e = .returned (.agg #[.string (txtOf l), .slice D (runN l) k]) ∧ Lies w' w'.heap.size D (runCells (comp (l.map (·.2)))) ∧ Below W.heap.size W w'
def RowL (l : List (UInt8 × Int)) (n : Nat) (W : World) (e : Ending) (w' : World) : Prop :=
  ∃ D k, e = .returned (.slice D n k) ∧ Lies w' w'.heap.size D (chCells l) ∧ Below W.heap.size W w'
def SaysB (V : Value) (W : World) (e : Ending) (w' : World) : Prop := e = .returned V ∧ Below W.heap.size W w'
theorem tellsL_of {l : List (UInt8 × Int)} {W : World} {e : Ending} {w' : World} (h : Tells ⟨(l.map (·.1)).toArray⟩ (comp (l.map (·.2))) W e w') : TellsL l W e w' := by
  obtain ⟨v, rfl, ho, hb⟩ := h
  obtain ⟨D, k, rfl, _, _, _⟩ := own_form ho
  exact ⟨D, k, rfl, Lies.own ho, hb⟩
theorem rowL_of {l : List (UInt8 × Int)} {W : World} {e : Ending} {w' : World} (h : ∃ v, e = .returned v ∧ w'.ownsRow W.heap.size 33 2 v l.length (chCells l) ∧ Below W.heap.size W w') : RowL l l.length W e w' := by
  obtain ⟨v, rfl, ho, hb⟩ := h
  obtain ⟨D, k, rfl, _, _, _⟩ := own_form ho
  exact ⟨D, k, rfl, Lies.own ho, hb⟩

theorem isL_true (l : List (UInt8 × Int)) (hr : runN l ≤ 4294967296) (hn : l.length ≤ 1099511627776) (W : World) (D : Option Addr) (k : Nat) (E : Option Addr) (d : Nat) (h1 : Lies W W.heap.size D (runCells (comp (l.map (·.2))))) (h2 : Lies W W.heap.size E (chCells l)) :
    Calls Try.prog 12 #[.agg #[.string (txtOf l), .slice D (runN l) k], .slice E l.length d] W (SaysB (.bool true) W) := by
  refine (refIs_any (txtOf l) D (runN l) k (comp (l.map (·.2))) E l.length d l W h1 rfl hr h2 rfl hn).mono ?_
  rintro e w' ⟨rfl, hb⟩
  refine ⟨ret_bool ?_, hb⟩
  unfold isB
  rw [decide_eq_true_iff]
  exact ⟨rfl, rfl⟩
theorem runN_le (l : List (UInt8 × Int)) : runN l ≤ l.length := by
  have := comp_length_le (l.map (·.2))
  rw [List.length_map] at this
  exact this
end Go.Proofs.Ytfmjnmijhbnnjaa.mk

namespace Go.Proofs.Ytfmjnmijhbnnjaa.mk
open Go.RowKit

def LT.ch (t : LT) : List (UInt8 × Int) := chars t.bs t.rs
theorem LT.ch_length (t : LT) : t.ch.length = t.s.size := by unfold LT.ch; rw [chars_length, LT.bs_length]
theorem LT.ch_fst (t : LT) : t.ch.map (·.1) = t.bs := chars_fst _ _
theorem LT.ch_snd (t : LT) : t.ch.map (·.2) = t.os := by unfold LT.ch; rw [chars_snd, LT.bs_length]; rfl
theorem txtOf_size (l : List (UInt8 × Int)) : (txtOf l).size = l.length := by show (l.map (·.1)).toArray.size = _; simp
theorem txtOf_chars {l : List (UInt8 × Int)} (h : InR l) : chars (txtOf l).data.toList (comp (l.map (·.2))) = l := chars_told h

/-- a labelled text that was told -/
def toldT (l : List (UInt8 × Int)) (D : Option Addr) (k : Nat) : LT := ⟨txtOf l, D, runN l, k, comp (l.map (·.2))⟩
theorem toldT_ch {l : List (UInt8 × Int)} (h : InR l) (D : Option Addr) (k : Nat) : (toldT l D k).ch = l := txtOf_chars h
theorem toldT_ok {l : List (UInt8 × Int)} {D : Option Addr} {W : World} (k : Nat) (h : Lies W W.heap.size D (runCells (comp (l.map (·.2))))) (hn : l.length ≤ 4294967296) : (toldT l D k).ok W W.heap.size :=
  ⟨h, rfl, Nat.le_trans (runN_le l) hn, by show (txtOf l).size ≤ _; rw [txtOf_size]; exact hn⟩
theorem LT.ch_in (t : LT) : InR t.ch := InR.chars _ _
end Go.Proofs.Ytfmjnmijhbnnjaa.mk

namespace Go.Proofs.Ytfmjnmijhbnnjaa.mk
open Go.RowKit

theorem same_as (R : List (UInt8 × Int)) (a : LT) (e : R = a.ch) (hn : R.length ≤ 4294967296) (W : World) (D : Option Addr) (c : Nat) (ha : a.ok W W.heap.size) (h : Lies W W.heap.size D (runCells (comp (R.map (·.2))))) :
    Calls Try.prog 19 #[.agg #[.string (txtOf R), .slice D (runN R) c], .agg #[.string a.s, .slice a.A a.n a.c]] W (SaysB (.bool true) W) := by
  have hin : InR R := by rw [e]; exact a.ch_in
  refine (same_any (toldT R D c) a W (toldT_ok c h hn) ha).mono ?_
  rintro e' w' ⟨rfl, hb'⟩
  refine ⟨ret_bool ?_, hb'⟩
  have h1 : (toldT R D c).bs = a.bs := by rw [← LT.ch_fst, ← LT.ch_fst, toldT_ch hin, e]
  have h2 : (toldT R D c).os = a.os := by rw [← LT.ch_snd, ← LT.ch_snd, toldT_ch hin, e]
  unfold sameB
  rw [decide_eq_true_iff]
  exact ⟨h1, h2⟩

end Go.Proofs.Ytfmjnmijhbnnjaa.mk

namespace Go.Proofs.Ytfmjnmijhbnnjaa.mk
open Go.RowKit

/-- A to Z as a to z, origins as they are -/
def lowCh (l : List (UInt8 × Int)) : List (UInt8 × Int) := l.map fun x => (lowB x.1, x.2)
def RefRowRel (f : Nat → List (UInt8 × Int)) (n : Nat) (w0 : World) (v i : Value) (wr : World) : Prop :=
  ∃ k : Nat, k ≤ n ∧ i = .int .i64 (k : Int) ∧ wr.ownsRow w0.heap.size 33 2 v (f k).length (chCells (f k)) ∧ Below w0.heap.size w0 wr

theorem lies_tail2 {w : World} {B : Nat} {ad : Addr} {x : UInt8 × Int} {l : List (UInt8 × Int)} (h : Lies w B (some ad) (chCells (x :: l))) : Lies w B (some (ad.add 2)) (chCells l) := by
  intro j u hu
  obtain ⟨ad', e, hb, hc⟩ := h (2 + j) u (by rw [show 2 + j = j + 1 + 1 by omega]; exact hu)
  injection e with e
  subst e
  exact ⟨_, rfl, by rw [addr_block]; exact hb, by rw [addr_add]; exact hc⟩
theorem lies_front2 {w : World} {B : Nat} {A : Option Addr} {x : UInt8 × Int} {l : List (UInt8 × Int)} (h : Lies w B A (chCells (l ++ [x]))) : Lies w B A (chCells l) := by
  intro j u hu
  refine h j u ?_
  rw [chCells_append, List.getElem?_append_left (List.getElem?_eq_some_iff.1 hu).1]
  exact hu
def sliceN : Value → Nat
  | .slice _ n _ => n
  | _ => 0
def TrimPost (M : List (UInt8 × Int)) (w : World) (e : Ending) (w' : World) : Prop :=
  ∃ A' n' c', e = .returned (.slice A' n' c') ∧ Lies w w.heap.size A' (chCells M) ∧ M.length = n' ∧ w = w'
def Trim1 (p : UInt8 × Int → Bool) (L : List (UInt8 × Int)) (w : World) (v : Value) : Prop :=
  ∃ (M : List (UInt8 × Int)) (A : Option Addr) (n c : Nat), v = .slice A n c ∧ Lies w w.heap.size A (chCells M) ∧ M.length = n ∧ n ≤ c ∧ n ≤ 4294967296 ∧ L.dropWhile p = M.dropWhile p
def Trim2 (p : UInt8 × Int → Bool) (D : List (UInt8 × Int)) (w : World) (v : Value) : Prop :=
  ∃ (M : List (UInt8 × Int)) (A : Option Addr) (n c : Nat), v = .slice A n c ∧ Lies w w.heap.size A (chCells M) ∧ M.length = n ∧ n ≤ c ∧ n ≤ 4294967296 ∧ D.reverse.dropWhile p = M.reverse.dropWhile p

end Go.Proofs.Ytfmjnmijhbnnjaa.mk

namespace Go.Proofs.Ytfmjnmijhbnnjaa.mk
open Go.RowKit

def catCh (ts : List LT) : List (UInt8 × Int) := ts.flatMap LT.ch
theorem catCh_fst (ts : List LT) : (catCh ts).map (·.1) = catBs ts := by
  induction ts with
  | nil => rfl
  | cons t ts ih => simp only [catCh, catBs, List.flatMap_cons, List.map_append, LT.ch_fst] at ih ⊢; rw [ih]
theorem catCh_snd (ts : List LT) : (catCh ts).map (·.2) = catOs ts := by
  induction ts with
  | nil => rfl
  | cons t ts ih => simp only [catCh, catOs, List.flatMap_cons, List.map_append, LT.ch_snd] at ih ⊢; rw [ih]
theorem catCh_length (ts : List LT) : (catCh ts).length = (catOs ts).length := by rw [← catCh_snd, List.length_map]
theorem catCh_next {ts : List LT} {k : Nat} {t : LT} (h : ts[k]? = some t) : catCh (ts.take (k + 1)) = catCh (ts.take k) ++ t.ch := by rw [take_next h]; simp [catCh]
/-- labelled texts, put together -/
theorem catl_any (ts : List LT) (L : Option Addr) (m c : Nat) (W : World) (hl : Lies W W.heap.size L (ltCells ts)) (hm : ts.length = m) (hm2 : m ≤ 4294967296) (hok : ∀ t ∈ ts, t.ok W W.heap.size) (hz : (catCh ts).length ≤ 4294967296) :
    Calls Try.prog 22 #[.slice L m c] W (Tells (txtOf (catCh ts)) (comp ((catCh ts).map (·.2))) W) := by
  have h := cat_any L m c ts W hl hm hm2 hok (by rw [← catCh_length]; exact hz)
  unfold txtOf
  rw [catCh_fst, catCh_snd]
  exact h

end Go.Proofs.Ytfmjnmijhbnnjaa.mk
