/-
  The contract of the reference's Rune.
-/
import Derived.Test.YtdiifkmcbnhliaaGreatJoinU
import Derived.Test.YtdiifkmcbnhliaaGreatJoinH
import Derived.Test.YtdiifkmcbnhliaaGreatJoinS
import Derived.Test.YtdiifkmcbnhliaaGreatJoinQ
import Derived.Outline
namespace Go.Proofs.YtdiifkmcbnhliaaGreat.mk
open Go.RowKit

def u8c (l : List Nat) : List Value := l.map fun b : Nat => Value.int .u8 ((b : Nat) : Int)
def tlN (n : Nat) : Nat → List Nat
  | 0 => []
  | k + 1 => (128 + n / 64 ^ k % 64) :: tlN n k
def fsN : Nat → Int
  | 0 => 32
  | 1 => 32
  | 2 => 16
  | _ => 8

theorem u8c_one (l : List Nat) : ∀ u ∈ u8c l, u.oneCell' = true := by
  intro u hu
  unfold u8c at hu
  obtain ⟨b, _, rfl⟩ := List.mem_map.1 hu
  rfl
theorem conv_lies {w : World} {B k c : Nat} {a : Addr} {l : List Nat} (h : Lies w B (some a) (u8c l)) (hl : ∀ b ∈ l, b < 256) (hk : l.length = k) : (convert 95 9 (.slice (some a) k c)).run Tryz.prog w = .ok (.string ⟨(l.map UInt8.ofNat).toArray⟩) w := by
  have hr := run_convert_bytes_back (P := Tryz.prog) w 95 9 5 a c (l.map UInt8.ofNat) Tryz.underlying95 Tryz.underlying5 Tryz.underlying9 (fun j hj => by
    rw [List.length_map] at hj
    have hu : (u8c l)[j]? = some (.int .u8 ((l[j] : Nat) : Int)) := by unfold u8c; rw [List.getElem?_map, List.getElem?_eq_getElem hj]; rfl
    obtain ⟨ad, e, _, hc⟩ := h _ _ hu
    injection e with e
    subst e
    rw [hc, List.getElem_map, u8_lt _ (hl _ (List.getElem_mem hj))])
  rw [List.length_map, hk] at hr
  exact hr

def thN : Nat → Nat
  | 0 => 0
  | 1 => 128
  | 2 => 2048
  | _ => 65536
def RuneRel (n B : Nat) (w0 : World) (v0 v3 v4 : Value) (wr : World) : Prop :=
  ∃ k : Nat, k ≤ 3 ∧ thN k ≤ n ∧ v0 = .int .i64 ((n / 64 ^ k : Nat) : Int) ∧ v4 = .int .i64 (fsN k) ∧ wr.ownsRow B 5 1 v3 k (u8c (tlN n k)) ∧ Below B w0 wr

theorem tl_step {n k q : Nat} (h : n / 64 ^ k = q) : [Value.int .u8 (128 + (q : Int) % 64)] ++ u8c (tlN n k) = u8c (tlN n (k + 1)) := by
  subst h
  unfold u8c
  rw [tlN, List.map_cons]
  simp
theorem tl_end {n k q : Nat} (x : Nat) : [Value.int .u8 ((x : Int) + (q : Int))] ++ u8c (tlN n k) = u8c ((x + q) :: tlN n k) := by
  unfold u8c
  rw [List.map_cons]
  simp
theorem tlN_length (n k : Nat) : (tlN n k).length = k := by
  induction k with
  | zero => rfl
  | succ k ih => rw [tlN, List.length_cons, ih]
theorem tlN_lt (n k : Nat) : ∀ b ∈ tlN n k, b < 256 := by
  induction k with
  | zero => intro b hb; simp [tlN] at hb
  | succ k ih =>
    intro b hb
    rw [tlN] at hb
    rcases List.mem_cons.1 hb with rfl | hb
    · omega
    · exact ih b hb
theorem tlN_u8 (n k : Nat) : (u8c (tlN n k)).length = k * 1 := by unfold u8c; rw [List.length_map, tlN_length, Nat.mul_one]
theorem row_some {w : World} {B e size n c : Nat} {A : Option Addr} {xs : List Value} (h : w.ownsRow B e size (.slice A n c) n xs) (hn : 0 < n) : ∃ ad, A = some ad := by
  obtain ⟨A', c', e, h1, _, h2⟩ := own_form h
  injection e with e1 e2 e3
  subst e1
  subst e3
  cases A with
  | some ad => exact ⟨ad, rfl⟩
  | none => have := h1 rfl; omega
theorem runeB_ext {n : Int} {l : List UInt8} (h : (runeB n).data.toList = l) : runeB n = ⟨l.toArray⟩ := by
  rw [← h]

set_option maxHeartbeats 2000000 in
set_option maxRecDepth 100000 in
theorem refRune_any (n : Int) (w : World) :
    Calls Tryz.prog 104 #[.int .i64 n] w fun e w' => e = .returned (.string (runeB n)) ∧ Below w.heap.size w w' := by
  by_cases h0 : 1 ≤ n ∧ n ≤ 1114111 ∧ ¬ (55296 ≤ n ∧ n ≤ 57343)
  · obtain ⟨h1, h2, h3⟩ := h0
    have hen : (runeB n).data.toList = (runL n.toNat).map UInt8.ofNat := by unfold runeB runeN; rw [if_pos ⟨h1, h2, h3⟩]; exact encode_list h1 h2 h3
    obtain ⟨N, rfl⟩ : ∃ N : Nat, n = (N : Int) := ⟨n.toNat, by omega⟩
    have HEN := Lib.hid hen
    clear hen
    have hsur : N ≤ 55295 ∨ 57344 ≤ N := by omega
    by_cases h128 : N < 128
    · rcases hsur with hsur | hsur
      · go_enter Tryz.func104, Tryz.ntmps104
        have hcv : (convert 95 9 (.slice (some ⟨w.heap.size, 0, none⟩) 1 1)).run Tryz.prog (w.alloc (.cells #[.int .u8 (N : Int)] 5)) = .ok (.string ⟨([N].map UInt8.ofNat).toArray⟩) (w.alloc (.cells #[.int .u8 (N : Int)] 5)) :=
          conv_lies (l := [N]) (Lies.own (World.ownsRow_lit (base := 0) (e := 5) (size := 1) w #[.int .u8 (N : Int)] 1 (Nat.zero_le _) (by decide) rfl)) (by intro b hb; simp at hb; omega) rfl
        have HX : Hid (runeB (N : Int) = ⟨([N].map UInt8.ofNat).toArray⟩) := runeB_ext (by rw [HEN.out, Int.toNat_natCast]; unfold runL; rw [if_pos h128])
        go_wp2_with fail
        go_ret
        exact ⟨by rw [HX.out]; rfl, (Below.refl _ _).alloc (Nat.le_refl _) _⟩
      · omega
    · have h128' : 128 ≤ N := by omega
      have hN : N ≤ 1114111 := by omega
      obtain ⟨i0, hi, hz0, hz1, hz2⟩ := info_parts byte_info'
      go_enter Tryz.func104, Tryz.ntmps104
      rcases hsur with hsur | hsur
      all_goals go_wp2_with fail
      rename_i hbad
      clear hbad
      all_goals
        clear hsur h3 h2 h1 h128
        go_loopw [0, 3, 4] (RuneRel N w.heap.size w) (fun v _ _ _ => (intOf v).toNat)
        case atStart => exact ⟨0, by omega, Nat.zero_le _, by simp, rfl, World.ownsRow_nil _ _ _ _, Below.refl _ _⟩
        case round =>
          obtain ⟨k, hk, hkn, rfl, rfl, hown, hbl⟩ := hrel
          obtain ⟨A3, d3, rfl, hA3, _, _⟩ := own_form hown
          have hws := hbl.size
          generalize hq : N / 64 ^ k = q
          have HQ := Lib.hid hq
          have HLIT : Hid ((wr.alloc (.cells #[.int .u8 (128 + (q : Int) % 64)] 5)).ownsRow w.heap.size 5 1 (.slice (some ⟨wr.heap.size, 0, none⟩) 1 1) 1 [.int .u8 (128 + (q : Int) % 64)]) := World.ownsRow_lit _ #[_] 1 hws (by decide) rfl
          have HLI : Hid (Lies (wr.alloc (.cells #[.int .u8 (128 + (q : Int) % 64)] 5)) (wr.heap.size + 1) A3 (u8c (tlN N k))) := by show Lies _ _ _ _; have h := Lies.own (hown.alloc (.cells #[.int .u8 (128 + (q : Int) % 64)] 5)); simp only [World.size_alloc] at h; exact h
          have s5 : Hid (w.heap.size ≤ (wr.alloc (.cells #[.int .u8 (128 + (q : Int) % 64)] 5)).heap.size) := by show _ ≤ _; simp; omega
          have hqN : q ≤ 1114111 := by have := Nat.div_le_self N (64 ^ k); omega
          have s3 : Hid (1 + k ≤ maxLen) := by show _ ≤ _; simp only [maxLen]; omega
          have s4 : Hid ((1 + k) * 1 ≤ 140737488355328) := by show _ ≤ _; omega
          have hk4 : k = 0 ∨ k = 1 ∨ k = 2 ∨ k = 3 := by omega
          rcases hk4 with rfl | rfl | rfl | rfl
          · simp only [Nat.reducePow, Nat.div_one] at hq
            subst hq
            clear hkn
            simp only [fsN]
            go_wp2_with (at_builtin; refine wpList_append_src _ rfl _ _ 95 rfl w.heap.size 5 i0 _ 1 1 Tryz.underlying95 hi hz0 hz1 hz2 rfl (by decide) (.slice (some ⟨wr.heap.size, 0, none⟩) 1 1) 1 [.int .u8 (128 + (N : Int) % 64)] rfl HLIT.out (wr.heap.size + 1) A3 0 d3 (u8c (tlN N 0)) rfl hA3 (tlN_u8 N 0) HLI.out (u8c_one _) s3.out s4.out s5.out ?_)
            intro v1 w1 hown1 hgrow _
            have hown2 : w1.ownsRow w.heap.size 5 1 v1 1 (u8c (tlN N 1)) := by rw [← tl_step HQ.out]; exact hown1
            have hbl1 : Below w.heap.size w w1 := (hbl.alloc hws _).grown hgrow s5.out (fun x hx => (HLIT.out.lt x hx).1)
            obtain ⟨A5, d5, rfl, _, _, _⟩ := own_form hown2
            clear hgrow hown1
            go_wp2_with fail
            go_roundw
            case rel => exact ⟨1, by omega, (by have := HQ.out; simp only [thN, Nat.reducePow] at this ⊢; omega), congrArg (Value.int .i64) (by have := HQ.out; simp only [Nat.reducePow] at this ⊢; omega), rfl, hown2, hbl1⟩
            case measure => simp [intOf]; omega
          · simp only [Nat.reducePow] at hq
            have hq1 : 2 ≤ q := by omega
            clear hkn
            simp only [fsN]
            by_cases hge : 32 ≤ q
            · clear hq
              go_wp2_with (at_builtin; refine wpList_append_src _ rfl _ _ 95 rfl w.heap.size 5 i0 _ 1 1 Tryz.underlying95 hi hz0 hz1 hz2 rfl (by decide) (.slice (some ⟨wr.heap.size, 0, none⟩) 1 1) 1 [.int .u8 (128 + (q : Int) % 64)] rfl HLIT.out (wr.heap.size + 1) A3 1 d3 (u8c (tlN N 1)) rfl hA3 (tlN_u8 N 1) HLI.out (u8c_one _) s3.out s4.out s5.out ?_)
              intro v1 w1 hown1 hgrow _
              have hown2 : w1.ownsRow w.heap.size 5 1 v1 2 (u8c (tlN N 2)) := by rw [← tl_step HQ.out]; exact hown1
              have hbl1 : Below w.heap.size w w1 := (hbl.alloc hws _).grown hgrow s5.out (fun x hx => (HLIT.out.lt x hx).1)
              obtain ⟨A5, d5, rfl, _, _, _⟩ := own_form hown2
              clear hgrow hown1
              go_wp2_with fail
              go_roundw
              case rel => exact ⟨2, by omega, (by have := HQ.out; simp only [thN, Nat.reducePow] at this ⊢; omega), congrArg (Value.int .i64) (by have := HQ.out; simp only [Nat.reducePow] at this ⊢; omega), rfl, hown2, hbl1⟩
              case measure => simp [intOf]; omega
            · clear hq
              have HLIT2 : Hid ((wr.alloc (.cells #[.int .u8 (192 + (q : Int))] 5)).ownsRow w.heap.size 5 1 (.slice (some ⟨wr.heap.size, 0, none⟩) 1 1) 1 [.int .u8 (192 + (q : Int))]) := World.ownsRow_lit _ #[_] 1 hws (by decide) rfl
              have HLI2 : Hid (Lies (wr.alloc (.cells #[.int .u8 (192 + (q : Int))] 5)) (wr.heap.size + 1) A3 (u8c (tlN N 1))) := by show Lies _ _ _ _; have h := Lies.own (hown.alloc (.cells #[.int .u8 (192 + (q : Int))] 5)); simp only [World.size_alloc] at h; exact h
              have HX : Hid (runeB (N : Int) = ⟨(((192 + q) :: tlN N 1).map UInt8.ofNat).toArray⟩) := runeB_ext (by
                rw [HEN.out, Int.toNat_natCast]
                have hq' := HQ.out
                simp only [Nat.reducePow] at hq'
                subst hq'
                unfold runL
                rw [if_neg (by omega), if_pos (by omega)]
                simp [tlN])
              have s6 : Hid (w.heap.size ≤ (wr.alloc (.cells #[.int .u8 (192 + (q : Int))] 5)).heap.size) := by show _ ≤ _; simp; omega
              go_wp2_with (at_builtin; refine wpList_append_src _ rfl _ _ 95 rfl w.heap.size 5 i0 _ 1 1 Tryz.underlying95 hi hz0 hz1 hz2 rfl (by decide) (.slice (some ⟨wr.heap.size, 0, none⟩) 1 1) 1 [.int .u8 (192 + (q : Int))] rfl HLIT2.out (wr.heap.size + 1) A3 1 d3 (u8c (tlN N 1)) rfl hA3 (tlN_u8 N 1) HLI2.out (u8c_one _) s3.out s4.out s6.out ?_)
              intro v1 w1 hown1 hgrow _
              have hown2 : w1.ownsRow w.heap.size 5 1 v1 2 (u8c ((192 + q) :: tlN N 1)) := by rw [← tl_end]; exact hown1
              have hbl1 : Below w.heap.size w w1 := (hbl.alloc hws _).grown hgrow s6.out (fun x hx => (HLIT2.out.lt x hx).1)
              obtain ⟨A5, d5, rfl, _, _, _⟩ := own_form hown2
              obtain ⟨ad5, rfl⟩ := row_some hown2 (by decide)
              have hcv : (convert 95 9 (.slice (some ad5) 2 d5)).run Tryz.prog w1 = .ok (.string (runeB (N : Int))) w1 := by
                rw [HX.out]
                exact conv_lies (k := 2) (c := d5) (Lies.own hown2) (fun b hb => (List.mem_cons.1 hb).elim (fun h => by omega) (fun h => tlN_lt _ _ b h)) (by rw [List.length_cons, tlN_length])
              clear hgrow hown1
              go_wp2_with fail
              go_ret
              exact ⟨rfl, hbl1⟩
          · simp only [Nat.reducePow, thN] at hq hkn
            simp only [fsN]
            by_cases hge : 16 ≤ q
            · clear hq
              go_wp2_with (at_builtin; refine wpList_append_src _ rfl _ _ 95 rfl w.heap.size 5 i0 _ 1 1 Tryz.underlying95 hi hz0 hz1 hz2 rfl (by decide) (.slice (some ⟨wr.heap.size, 0, none⟩) 1 1) 1 [.int .u8 (128 + (q : Int) % 64)] rfl HLIT.out (wr.heap.size + 1) A3 2 d3 (u8c (tlN N 2)) rfl hA3 (tlN_u8 N 2) HLI.out (u8c_one _) s3.out s4.out s5.out ?_)
              intro v1 w1 hown1 hgrow _
              have hown2 : w1.ownsRow w.heap.size 5 1 v1 3 (u8c (tlN N 3)) := by rw [← tl_step HQ.out]; exact hown1
              have hbl1 : Below w.heap.size w w1 := (hbl.alloc hws _).grown hgrow s5.out (fun x hx => (HLIT.out.lt x hx).1)
              obtain ⟨A5, d5, rfl, _, _, _⟩ := own_form hown2
              clear hgrow hown1
              go_wp2_with fail
              go_roundw
              case rel => exact ⟨3, by omega, (by have := HQ.out; simp only [thN, Nat.reducePow] at this ⊢; omega), congrArg (Value.int .i64) (by have := HQ.out; simp only [Nat.reducePow] at this ⊢; omega), rfl, hown2, hbl1⟩
              case measure => simp [intOf]; omega
            · clear hq
              have HLIT2 : Hid ((wr.alloc (.cells #[.int .u8 (224 + (q : Int))] 5)).ownsRow w.heap.size 5 1 (.slice (some ⟨wr.heap.size, 0, none⟩) 1 1) 1 [.int .u8 (224 + (q : Int))]) := World.ownsRow_lit _ #[_] 1 hws (by decide) rfl
              have HLI2 : Hid (Lies (wr.alloc (.cells #[.int .u8 (224 + (q : Int))] 5)) (wr.heap.size + 1) A3 (u8c (tlN N 2))) := by show Lies _ _ _ _; have h := Lies.own (hown.alloc (.cells #[.int .u8 (224 + (q : Int))] 5)); simp only [World.size_alloc] at h; exact h
              have HX : Hid (runeB (N : Int) = ⟨(((224 + q) :: tlN N 2).map UInt8.ofNat).toArray⟩) := runeB_ext (by
                rw [HEN.out, Int.toNat_natCast]
                have hq' := HQ.out
                simp only [Nat.reducePow] at hq'
                subst hq'
                unfold runL
                rw [if_neg (by omega), if_neg (by omega), if_pos (by omega)]
                simp [tlN])
              have s6 : Hid (w.heap.size ≤ (wr.alloc (.cells #[.int .u8 (224 + (q : Int))] 5)).heap.size) := by show _ ≤ _; simp; omega
              go_wp2_with (at_builtin; refine wpList_append_src _ rfl _ _ 95 rfl w.heap.size 5 i0 _ 1 1 Tryz.underlying95 hi hz0 hz1 hz2 rfl (by decide) (.slice (some ⟨wr.heap.size, 0, none⟩) 1 1) 1 [.int .u8 (224 + (q : Int))] rfl HLIT2.out (wr.heap.size + 1) A3 2 d3 (u8c (tlN N 2)) rfl hA3 (tlN_u8 N 2) HLI2.out (u8c_one _) s3.out s4.out s6.out ?_)
              intro v1 w1 hown1 hgrow _
              have hown2 : w1.ownsRow w.heap.size 5 1 v1 3 (u8c ((224 + q) :: tlN N 2)) := by rw [← tl_end]; exact hown1
              have hbl1 : Below w.heap.size w w1 := (hbl.alloc hws _).grown hgrow s6.out (fun x hx => (HLIT2.out.lt x hx).1)
              obtain ⟨A5, d5, rfl, _, _, _⟩ := own_form hown2
              obtain ⟨ad5, rfl⟩ := row_some hown2 (by decide)
              have hcv : (convert 95 9 (.slice (some ad5) 3 d5)).run Tryz.prog w1 = .ok (.string (runeB (N : Int))) w1 := by
                rw [HX.out]
                exact conv_lies (k := 3) (c := d5) (Lies.own hown2) (fun b hb => (List.mem_cons.1 hb).elim (fun h => by omega) (fun h => tlN_lt _ _ b h)) (by rw [List.length_cons, tlN_length])
              clear hgrow hown1
              go_wp2_with fail
              go_ret
              exact ⟨rfl, hbl1⟩
          · simp only [Nat.reducePow, thN] at hq hkn
            have hlt : q ≤ 4 := by omega
            clear hq
            simp only [fsN]
            have HLIT2 : Hid ((wr.alloc (.cells #[.int .u8 (240 + (q : Int))] 5)).ownsRow w.heap.size 5 1 (.slice (some ⟨wr.heap.size, 0, none⟩) 1 1) 1 [.int .u8 (240 + (q : Int))]) := World.ownsRow_lit _ #[_] 1 hws (by decide) rfl
            have HLI2 : Hid (Lies (wr.alloc (.cells #[.int .u8 (240 + (q : Int))] 5)) (wr.heap.size + 1) A3 (u8c (tlN N 3))) := by show Lies _ _ _ _; have h := Lies.own (hown.alloc (.cells #[.int .u8 (240 + (q : Int))] 5)); simp only [World.size_alloc] at h; exact h
            have HX : Hid (runeB (N : Int) = ⟨(((240 + q) :: tlN N 3).map UInt8.ofNat).toArray⟩) := runeB_ext (by
              rw [HEN.out, Int.toNat_natCast]
              have hq' := HQ.out
              simp only [Nat.reducePow] at hq'
              subst hq'
              unfold runL
              rw [if_neg (by omega), if_neg (by omega), if_neg (by omega)]
              simp [tlN])
            have s6 : Hid (w.heap.size ≤ (wr.alloc (.cells #[.int .u8 (240 + (q : Int))] 5)).heap.size) := by show _ ≤ _; simp; omega
            go_wp2_with (at_builtin; refine wpList_append_src _ rfl _ _ 95 rfl w.heap.size 5 i0 _ 1 1 Tryz.underlying95 hi hz0 hz1 hz2 rfl (by decide) (.slice (some ⟨wr.heap.size, 0, none⟩) 1 1) 1 [.int .u8 (240 + (q : Int))] rfl HLIT2.out (wr.heap.size + 1) A3 3 d3 (u8c (tlN N 3)) rfl hA3 (tlN_u8 N 3) HLI2.out (u8c_one _) s3.out s4.out s6.out ?_)
            intro v1 w1 hown1 hgrow _
            have hown2 : w1.ownsRow w.heap.size 5 1 v1 4 (u8c ((240 + q) :: tlN N 3)) := by rw [← tl_end]; exact hown1
            have hbl1 : Below w.heap.size w w1 := (hbl.alloc hws _).grown hgrow s6.out (fun x hx => (HLIT2.out.lt x hx).1)
            obtain ⟨A5, d5, rfl, _, _, _⟩ := own_form hown2
            obtain ⟨ad5, rfl⟩ := row_some hown2 (by decide)
            have hcv : (convert 95 9 (.slice (some ad5) 4 d5)).run Tryz.prog w1 = .ok (.string (runeB (N : Int))) w1 := by
              rw [HX.out]
              exact conv_lies (k := 4) (c := d5) (Lies.own hown2) (fun b hb => (List.mem_cons.1 hb).elim (fun h => by omega) (fun h => tlN_lt _ _ b h)) (by rw [List.length_cons, tlN_length])
            clear hgrow hown1
            go_wp2_with fail
            go_ret
            exact ⟨rfl, hbl1⟩
  · have HX : Hid (runeB n = ⟨#[239, 191, 189]⟩) := by
      show _ = _
      rw [← show Utf8.encode 65533 = ⟨#[239, 191, 189]⟩ from rfl]
      unfold runeB runeN
      rw [if_neg h0]
    by_cases h1 : 1 ≤ n
    · by_cases h2 : n ≤ 1114111
      · have h3 : 55296 ≤ n := by omega
        have h4 : n ≤ 57343 := by omega
        go_enter Tryz.func104, Tryz.ntmps104
        go_wp2_with fail
        go_ret
        exact ⟨by rw [HX.out]; rfl, Below.refl _ _⟩
      · clear h0
        go_enter Tryz.func104, Tryz.ntmps104
        go_wp2_with fail
        go_ret
        exact ⟨by rw [HX.out]; rfl, Below.refl _ _⟩
    · clear h0
      go_enter Tryz.func104, Tryz.ntmps104
      go_wp2_with fail
      go_ret
      exact ⟨by rw [HX.out]; rfl, Below.refl _ _⟩

end Go.Proofs.YtdiifkmcbnhliaaGreat.mk
