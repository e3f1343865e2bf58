/-
  Numbers as right sequences: the mathematics, and the contract of utf's Rune.
-/
import Derived.Test.YtddgabjhligeeaaGreatJvQ
import Derived.Laws.Runes
namespace Go.Proofs.YtddgabjhligeeaaGreat.mk
open Go.RowKit

/-- the number whose sequence is told -/
def runeN (n : Int) : Int := if 1 ≤ n ∧ n ≤ 1114111 ∧ ¬ (55296 ≤ n ∧ n ≤ 57343) then n else 65533
theorem runeN_ok (n : Int) : 1 ≤ runeN n ∧ runeN n ≤ 1114111 ∧ ¬ (55296 ≤ runeN n ∧ runeN n ≤ 57343) := by unfold runeN; split <;> omega
theorem u8_lt (n : Nat) (h : n < 256) : (UInt8.ofNat n).toNat = n := by simp; omega

/-- the bytes of a number -/
def runL (c : Nat) : List Nat :=
  if c < 128 then [c] else if c < 2048 then [192 + c / 64, 128 + c % 64] else if c < 65536 then [224 + c / 4096, 128 + c / 64 % 64, 128 + c % 64]
  else [240 + c / 262144, 128 + c / 4096 % 64, 128 + c / 64 % 64, 128 + c % 64]
theorem encode_list {n : Int} (h1 : 1 ≤ n) (h2 : n ≤ 1114111) (h3 : ¬ (55296 ≤ n ∧ n ≤ 57343)) : (Utf8.encode n).data.toList = (runL n.toNat).map UInt8.ofNat := by
  have hv : Utf8.valid n = true := by unfold Utf8.valid; simp; omega
  unfold Utf8.encode runL
  simp only [hv, if_true]
  by_cases c1 : n.toNat < 128
  · simp only [c1, if_true]; rfl
  by_cases c2 : n.toNat < 2048
  · simp only [c1, c2, if_true, if_false]; rfl
  by_cases c3 : n.toNat < 65536
  · simp only [c1, c2, c3, if_true, if_false]; rfl
  · simp only [c1, c2, c3, if_false]; rfl
theorem fit_cons_in {m lo hi x : Nat} (hx : x < 256) (t : List UInt8) (h : lo ≤ x ∧ x ≤ hi) : fit (m + 1) lo hi (UInt8.ofNat x :: t) = fit m 128 191 t + 1 := by
  rw [fit, if_pos (by rw [u8_lt x hx]; exact h)]
theorem nx_enc {c : Nat} (h1 : 1 ≤ c) (h2 : c ≤ 1114111) (h3 : ¬ (55296 ≤ c ∧ c ≤ 57343)) : nx ((runL c).map UInt8.ofNat) = ((runL c).length, true) := by
  unfold runL
  by_cases c1 : c < 128
  · have hs : shp c = (1, 0, 0) := by unfold shp; rw [if_pos c1]
    simp only [c1, if_true, List.map_cons, List.map_nil, nx, u8_lt c (by omega), hs, List.length_cons, List.length_nil]
    rfl
  by_cases c2 : c < 2048
  · have hs : shp (192 + c / 64) = (2, 128, 191) := by unfold shp; rw [if_neg (by omega), if_neg (by omega), if_pos (by omega)]
    simp only [c1, c2, if_true, if_false, List.map_cons, List.map_nil, nx, u8_lt (192 + c / 64) (by omega), hs, List.length_cons, List.length_nil]
    rw [fit_cons_in (m := 0) (by omega) _ (by omega)]
    rfl
  by_cases c3 : c < 65536
  · simp only [c1, c2, c3, if_true, if_false, List.map_cons, List.map_nil, nx, u8_lt (224 + c / 4096) (by omega), List.length_cons, List.length_nil]
    have hs : (shp (224 + c / 4096)).1 = 3 ∧ (shp (224 + c / 4096)).2.1 ≤ 128 + c / 64 % 64 ∧ 128 + c / 64 % 64 ≤ (shp (224 + c / 4096)).2.2 := by
      unfold shp
      rw [if_neg (by omega), if_neg (by omega), if_neg (by omega)]
      by_cases d1 : 224 + c / 4096 = 224
      · rw [if_pos d1]; refine ⟨rfl, ?_, ?_⟩ <;> simp only <;> omega
      rw [if_neg d1]
      by_cases d2 : 224 + c / 4096 = 237
      · rw [if_pos d2]; refine ⟨rfl, ?_, ?_⟩ <;> simp only <;> omega
      rw [if_neg d2, if_pos (by omega)]
      refine ⟨rfl, ?_, ?_⟩ <;> simp only <;> omega
    obtain ⟨e1, e2, e3⟩ := hs
    rw [e1, fit_cons_in (m := 1) (by omega) _ ⟨e2, e3⟩, fit_cons_in (m := 0) (by omega) _ (by omega)]
    rfl
  · simp only [c1, c2, c3, if_false, List.map_cons, List.map_nil, nx, u8_lt (240 + c / 262144) (by omega), List.length_cons, List.length_nil]
    have hs : (shp (240 + c / 262144)).1 = 4 ∧ (shp (240 + c / 262144)).2.1 ≤ 128 + c / 4096 % 64 ∧ 128 + c / 4096 % 64 ≤ (shp (240 + c / 262144)).2.2 := by
      unfold shp
      rw [if_neg (by omega), if_neg (by omega), if_neg (by omega), if_neg (by omega), if_neg (by omega), if_neg (by omega)]
      by_cases d1 : 240 + c / 262144 = 240
      · rw [if_pos d1]; refine ⟨rfl, ?_, ?_⟩ <;> simp only <;> omega
      rw [if_neg d1]
      by_cases d2 : 240 + c / 262144 < 244
      · rw [if_pos d2]; refine ⟨rfl, ?_, ?_⟩ <;> simp only <;> omega
      rw [if_neg d2, if_pos (by omega)]
      refine ⟨rfl, ?_, ?_⟩ <;> simp only <;> omega
    obtain ⟨e1, e2, e3⟩ := hs
    rw [e1, fit_cons_in (m := 2) (by omega) _ ⟨e2, e3⟩, fit_cons_in (m := 1) (by omega) _ (by omega), fit_cons_in (m := 0) (by omega) _ (by omega)]
    rfl
theorem runL_ne (c : Nat) : runL c ≠ [] := by 
  unfold runL
  split
  · simp
  split
  · simp
  split
  · simp
  · simp
theorem runL_head {c : Nat} (h1 : 1 ≤ c) (h2 : c ≤ 1114111) : ((runL c).map UInt8.ofNat).head? ≠ some 0 := by
  have : ∃ x t, runL c = x :: t ∧ 1 ≤ x ∧ x < 256 := by
    unfold runL
    by_cases c1 : c < 128
    · rw [if_pos c1]; exact ⟨_, _, rfl, by omega, by omega⟩
    rw [if_neg c1]
    by_cases c2 : c < 2048
    · rw [if_pos c2]; exact ⟨_, _, rfl, by omega, by omega⟩
    rw [if_neg c2]
    by_cases c3 : c < 65536
    · rw [if_pos c3]; exact ⟨_, _, rfl, by omega, by omega⟩
    rw [if_neg c3]
    exact ⟨_, _, rfl, by omega, by omega⟩
  obtain ⟨x, t, e, hx, hx2⟩ := this
  rw [e]
  simp only [List.map_cons, List.head?_cons, ne_eq, Option.some.injEq]
  intro h
  have := congrArg UInt8.toNat h
  rw [u8_lt x hx2] at this
  simp at this
  omega
/-- the bytes of a number that may be told -/
def runeB (n : Int) : ByteArray := Utf8.encode (runeN n)
theorem runeB_list (n : Int) : (runeB n).data.toList = (runL (runeN n).toNat).map UInt8.ofNat := by
  have h := runeN_ok n
  exact encode_list h.1 h.2.1 h.2.2
theorem runeB_nx (n : Int) : nx (runeB n).data.toList = ((runeB n).size, true) := by
  have h := runeN_ok n
  have e : (runeB n).size = (runL (runeN n).toNat).length := by
    have := congrArg List.length (runeB_list n)
    rw [List.length_map, Array.length_toList] at this
    exact this
  rw [e, runeB_list, nx_enc (by omega) (by omega) (by omega)]
theorem runeB_sought (n : Int) : soughtB (runeB n).data.toList = false := by
  have h := runeN_ok n
  unfold soughtB
  rw [runeB_nx, runeB_list]
  have := runL_head (c := (runeN n).toNat) (by omega) (by omega)
  simp only [Bool.not_true, Bool.false_or, beq_eq_false_iff_ne]
  exact this
theorem runeB_ne (n : Int) : (runeB n).data.toList ≠ [] := by rw [runeB_list]; simp [runL_ne]
theorem runeB_drop (n : Int) : (runeB n).data.toList.drop (runeB n).size = [] := by
  refine List.drop_of_length_le ?_
  rw [Array.length_toList]; exact Nat.le_refl _
theorem runeB_valid (n : Int) : validB (runeB n).data.toList = true := by rw [validB_next (runeB_ne n), runeB_sought, runeB_nx, runeB_drop, validB_nil]; rfl
theorem runeB_le4 (n : Int) : (runeB n).size ≤ 4 := by
  have h := nx_le4 (runeB n).data.toList
  rw [runeB_nx] at h
  exact h

set_option maxHeartbeats 400000 in
theorem rune_any (n : Int) (w : World) :
    Calls Tryz.prog 201 #[.int .i64 n] w fun e w' => e = .returned (.string (runeB n)) ∧ w = w' := by
  by_cases h1 : 1 ≤ n
  · by_cases h2 : n ≤ 1114111
    · by_cases h3 : 55296 ≤ n
      · by_cases h4 : n ≤ 57343
        · have HR : Hid (runeB n = Utf8.encode 65533) := by show _ = _; unfold runeB runeN; rw [if_neg (by omega)]
          go_enter Tryz.func201, Tryz.ntmps201
          go_wp2_with fail
          go_ret
          exact ⟨by rw [HR.out]; rfl, rfl⟩
        · have HR : Hid (runeB n = Utf8.encode n) := by show _ = _; unfold runeB runeN; rw [if_pos (by omega)]
          go_enter Tryz.func201, Tryz.ntmps201
          go_wp2_with fail
          go_ret
          exact ⟨by rw [HR.out]; rfl, rfl⟩
      · have HR : Hid (runeB n = Utf8.encode n) := by show _ = _; unfold runeB runeN; rw [if_pos (by omega)]
        go_enter Tryz.func201, Tryz.ntmps201
        go_wp2_with fail
        go_ret
        exact ⟨by rw [HR.out]; rfl, rfl⟩
    · have HR : Hid (runeB n = Utf8.encode 65533) := by show _ = _; unfold runeB runeN; rw [if_neg (by omega)]
      go_enter Tryz.func201, Tryz.ntmps201
      go_wp2_with fail
      go_ret
      exact ⟨by rw [HR.out]; rfl, rfl⟩
  · have HR : Hid (runeB n = Utf8.encode 65533) := by show _ = _; unfold runeB runeN; rw [if_neg (by omega)]
    go_enter Tryz.func201, Tryz.ntmps201
    go_wp2_with fail
    go_ret
    exact ⟨by rw [HR.out]; rfl, rfl⟩

end Go.Proofs.YtddgabjhligeeaaGreat.mk
