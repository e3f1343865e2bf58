/-
  strings.IndexRune at a number of more than one byte, in a text of two bytes below 128: it is not there. strings.IndexAny and ContainsAny with two such bytes, at any text.
-/
import Derived.Shelf.Strings.IndexAnyAll
import Derived.Shelf.Small.Utf8
import Derived.Lib.OthersKept
import Derived.Laws.RangeAny
import Derived.Laws.Runes
import Derived.WalkMore
import Derived.Shelf.RegionOpenPlain
namespace Go.Proofs.YtnbdldapmllegaaGreat
open Go.Shelf Go.RowKit Go.Lib
variable {P : Program} {ρ : Ren}

/-- what a text's next number takes: at least a byte, no more than there are -/
theorem decode_takes (s : ByteArray) (i : Nat) (h : i < s.size) : 1 ≤ (Utf8.decode s i).2 ∧ i + (Utf8.decode s i).2 ≤ s.size := by
  simp only [Utf8.decode]
  repeat' split
  all_goals simp_all
  all_goals omega
/-- the number may be -/
theorem decode_valid (s : ByteArray) (i : Nat) : Utf8.valid (Utf8.decode s i).1 = true := by
  simp only [Utf8.decode]
  repeat' split
  all_goals simp_all [Utf8.runeError, Utf8.valid]
  all_goals omega
/-- of a high byte: high bytes alone -/
theorem decode_cont (s : ByteArray) (i : Nat) (h : i < s.size) (ha : 128 ≤ (s[i]'h).toNat) : ∀ j, j < (Utf8.decode s i).2 → 128 ≤ (s.get! (i + j)).toNat := by
  have hn : ¬ (s[i]'h).toNat < 128 := by omega
  intro j hj
  revert hj
  simp only [Utf8.decode, get_at s i h, hn, if_false]
  have h0 : 128 ≤ (s.get! (i + 0)).toNat := by rw [get_at s i h]; exact ha
  repeat' split
  all_goals intro hj
  all_goals simp_all
  all_goals
    have : j = 0 ∨ j = 1 ∨ j = 2 ∨ j = 3 := by omega
    rcases this with rfl | rfl | rfl | rfl <;> first | omega | (simpa using h0)
theorem enc_high (r : Int) (h : 128 ≤ r) (hv : Utf8.valid r = true) : ∃ m, (Utf8.encode r).size = m + 1 ∧ 1 ≤ m ∧ m ≤ 3 ∧ ∀ hm : m < (Utf8.encode r).size, 128 ≤ ((Utf8.encode r)[m]'hm).toNat := by
  have hu : ∀ n, n < 128 → (UInt8.ofNat (128 + n)).toNat = 128 + n := fun n hn => by simp; omega
  have h0 : ¬ r.toNat < 128 := by omega
  simp only [Utf8.encode, hv, if_true, h0, if_false]
  split
  · exact ⟨1, rfl, by omega, by omega, fun _ => by show 128 ≤ (UInt8.ofNat (128 + r.toNat % 64)).toNat; rw [hu _ (by omega)]; omega⟩
  split
  · exact ⟨2, rfl, by omega, by omega, fun _ => by show 128 ≤ (UInt8.ofNat (128 + r.toNat % 64)).toNat; rw [hu _ (by omega)]; omega⟩
  · exact ⟨3, rfl, by omega, by omega, fun _ => by show 128 ≤ (UInt8.ofNat (128 + r.toNat % 64)).toNat; rw [hu _ (by omega)]; omega⟩

set_option maxHeartbeats 4000000 in
set_option maxRecDepth 1000000 in
theorem indexRune_high (L : Lays.n152 P ρ) (s : ByteArray) (r : Int) (w : World) (h2 : s.size = 2) (hl : ∀ (i : Nat) (h : i < s.size), (s[i]'h).toNat < 128) (h1 : 128 ≤ r) (hv : Utf8.valid r = true) :
    Calls P (ρ.f 152) #[.string s, .int .i32 r] w fun e w' => e = .returned (.int .i64 (-1)) ∧ Below w.heap.size w w' := by
  have HL : Aside (∀ (i : Nat) (h : i < s.size), (s[i]'h).toNat < 128) := hl
  clear hl
  have mixed := L.mixed
  have t3 := L.t3; have a3 := L.a3; have z3 := L.z3; have v3 := L.v3
  have t4 := L.t4; have a4 := L.a4; have z4 := L.z4; have v4 := L.v4
  have t5 := L.t5; have a5 := L.a5; have z5 := L.z5; have v5 := L.v5
  have t9 := L.t9; have a9 := L.a9; have z9 := L.z9; have v9 := L.v9
  have t21 := L.t21; have a21 := L.a21; have z21 := L.z21; have v21 := L.v21
  have e119 : ∀ args w, (callFunc (ρ.f 119) args).run P w = .ok (.enter (ρ.f 119) args) w := enters_of L.f119 (by kernel_rfl) rfl
  have e137 : ∀ args w, (callFunc (ρ.f 137) args).run P w = .ok (.enter (ρ.f 137) args) w := enters_of L.f137 (by kernel_rfl) rfl
  have g1 : ¬ r < 128 := by omega
  have g0 : 0 ≤ r := by omega
  by_cases hr : r = 65533
  · subst hr
    clear hv
    go_enter L.f152, Body.n152_ntmps ρ
    go_wp2
    go_loopg [5, 6] 2 (fun g _ _ wx => ∃ i : Nat, i + g = 2 ∧ wx = w.iter s i)
    case atStart => exact ⟨0, rfl, rfl⟩
    case round =>
      obtain ⟨i, hig, rfl⟩ := hrel
      cases gk with
      | zero =>
        have hnx := fun ty => run_next_end (P := P) w s i ty (by omega)
        go_wp2
        go_ret
        exact ⟨rfl, (Below.refl _ _).alloc (Nat.le_refl _) _⟩
      | succ g =>
        have hi : i < s.size := by omega
        have hx := HL.out i hi
        have hnx := fun ty => run_next_ascii (P := P) w s i ty hi hx
        obtain ⟨x, hxx⟩ : ∃ x : UInt8, s[i]'hi = x := ⟨_, rfl⟩
        rw [hxx] at hnx hx
        have hne : ¬ ((x.toNat : Int) = 65533) := by omega
        go_wp2
        go_roundg g
        case measure => omega
        case rel => exact ⟨i + 1, by omega, rfl⟩
  · have hvr : Lib.validRune r = true := by
      unfold Utf8.valid at hv
      unfold Lib.validRune
      simp at hv ⊢
      omega
    obtain ⟨m, hm, hm1, hm3, hml⟩ := enc_high r h1 hv
    generalize hrs : Utf8.encode r = rs at *
    have HRS : Aside (Utf8.encode r = rs) := hrs
    have hlast := hml (by omega)
    obtain ⟨y, hy⟩ : ∃ y : UInt8, rs[m]'(by omega) = y := ⟨_, rfl⟩
    rw [hy] at hlast
    clear hml hv
    go_enter L.f152, Body.n152_ntmps ρ
    go_wp2_with (go_at_fn (ρ.f 119); refine (Any.utf8_ValidRune { L with } _ _).mono ?_; rintro e w' ⟨rfl, hw⟩; rw [hw, hvr])
    go_step3
    go_wp2
    go_loopg [9, 10] 1 (fun g s9 s10 wx => s9 = .int .i64 m ∧ s10 = .int .i64 0 ∧ wx = w)
    case atStart => exact ⟨rfl, rfl, rfl⟩
    case round =>
      obtain ⟨rfl, rfl, rfl⟩ := hrel
      by_cases hc : m = 1
      · subst hc
        have hs1 : 1 < s.size := by omega
        have hs2 : 1 < rs.size := by omega
        obtain ⟨x, hx⟩ : ∃ x : UInt8, s[1]'hs1 = x := ⟨_, rfl⟩
        have hx1 : x.toNat < 128 := by rw [← hx]; exact HL.out 1 hs1
        have hxy : ¬ (x.toNat : Int) = (y.toNat : Int) := by omega
        have hw2 : IntKind.i64.wrap 2 = 2 := by decide
        have hib : ∀ c, Lib.indexByte (s.extract 2 2).data.toList c = -1 := fun c => by
          have h : (s.extract 2 2).data.toList = [] := List.length_eq_zero_iff.1 (by rw [← Lib.size_eq, ByteArray.size_extract]; omega)
          rw [h]; rfl
        go_wp2
        go_step3
        go_wp2
        go_quiet_o (fail)
        obtain ⟨wz, hwz⟩ : ∃ wz, wz = wr.drewN nq := ⟨_, rfl⟩
        have hbz : Below wr.heap.size wr wz := by rw [hwz]; exact ⟨rfl, rfl, rfl, Nat.le_refl _, fun _ _ => rfl⟩
        rw [← hwz]
        clear hwz
        go_wp2
        go_quiet_o ((go_at_fn (ρ.f 137); exact Calls.quiet_of_same (Any.strings_IndexByte { L with } _ _ _)))
        go_wp2
        try simp only [Exit.noGoto_ret, Exit.inBlock, Exit.then]
        go_ret
        exact ⟨rfl, hbz.os, hbz.tape, hbz.output, hbz.size, hbz.block⟩
      · have hmm : ¬ ((m : Int) < 2) := by omega
        go_wp2
        go_ret
        exact ⟨rfl, Below.refl _ _⟩

/-- what a round of IndexAny's loop leaves -/
theorem noAny_skip {s : ByteArray} {c : List UInt8} {i d : Nat} (h : Lib.NoAny s.data.toList c i) (hd : i + d ≤ s.size) (hg : ∀ j, j < d → c.contains (s.get! (i + j)) = false) : Lib.NoAny s.data.toList c (i + d) := by
  intro j b hj hb
  by_cases hji : j < i
  · exact h j b hji hb
  · have := hg (j - i) (by omega)
    rw [show i + (j - i) = j by omega] at this
    have hjs : j < s.size := by omega
    have e := get_at s j hjs
    rw [Nat.add_zero] at e
    rw [e] at this
    have hb2 : s.data.toList[j]? = some (s[j]'hjs) := Lib.data_getElem? s j hjs
    rw [hb2] at hb
    injection hb with hb
    rw [← hb]
    exact this
theorem contains_low {c : List UInt8} (hc : ∀ b ∈ c, b.toNat < 128) {x : UInt8} (hx : 128 ≤ x.toNat) : c.contains x = false := by
  cases h : c.contains x with
  | false => rfl
  | true =>
    have := hc x (by simpa using h)
    omega

set_option maxHeartbeats 8000000 in
set_option maxRecDepth 1000000 in
/-- s of at most 8 bytes, whatever they are; two bytes below 128 to look for -/
theorem indexAny_short (L : Lays.n153 P ρ) (s chars : ByteArray) (w : World) (h2 : chars.size = 2) (hl : ∀ (i : Nat) (h : i < chars.size), (chars[i]'h).toNat < 128) (h8 : s.size ≤ 8) :
    Calls P (ρ.f 153) #[.string s, .string chars] w fun e w' => e = .returned (.int .i64 (Lib.indexAny s.data.toList chars.data.toList)) ∧ Below w.heap.size w w' := by
  have HL : Aside (∀ (i : Nat) (h : i < chars.size), (chars[i]'h).toNat < 128) := hl
  have HC : Aside (∀ b ∈ chars.data.toList, b.toNat < 128) := by
    intro b hb
    obtain ⟨i, hi, rfl⟩ := List.mem_iff_getElem.1 hb
    have hi' : i < chars.size := by rw [Lib.size_eq]; exact hi
    have e : chars.data.toList[i]? = some (chars[i]'hi') := Lib.data_getElem? chars i hi'
    rw [List.getElem?_eq_getElem hi] at e
    injection e with e
    rw [e]
    exact hl i hi'
  clear hl
  have hemp : chars.toList.isEmpty = false := by
    rw [Lib.toList_data]
    cases h : chars.data.toList with
    | nil => have := Lib.size_eq chars; rw [h, List.length_nil] at this; omega
    | cons _ _ => rfl
  have h8z : decide ((8 : Int) < (s.size : Int)) = false := decide_eq_false (by omega)
  have t3 := L.t3; have a3 := L.a3; have z3 := L.z3; have v3 := L.v3
  have t4 := L.t4; have a4 := L.a4; have z4 := L.z4; have v4 := L.v4
  have t5 := L.t5; have a5 := L.a5; have z5 := L.z5; have v5 := L.v5
  have t9 := L.t9; have a9 := L.a9; have z9 := L.z9; have v9 := L.v9
  have t21 := L.t21; have a21 := L.a21; have z21 := L.z21; have v21 := L.v21
  have e152 : ∀ args w, (callFunc (ρ.f 152) args).run P w = .ok (.enter (ρ.f 152) args) w := enters_of L.f152 (by kernel_rfl) rfl
  have e226 : ∀ args w, (callFunc (ρ.f 226) args).run P w = .ok (.enter (ρ.f 226) args) w := enters_of L.f226 (by kernel_rfl) rfl
  go_enter L.f153, Body.n153_ntmps ρ
  go_wp2_with (go_at_fn (ρ.f 226); refine (Any.strings_shouldUseASCIISet { L with } _ _).mono ?_; rintro e w' ⟨rfl, hw⟩; rw [hw, h8z])
  have hk0 : (w.iter s 0).heap[w.heap.size]? = some (.stringIter s 0) := World.iter_heap w s 0
  have hb0 : Below w.heap.size w (w.iter s 0) := (Below.refl _ _).alloc (Nat.le_refl _) _
  generalize w.iter s 0 = w1 at *
  obtain ⟨K, hK⟩ : ∃ K, K = w.heap.size := ⟨_, rfl⟩
  rw [← hK] at hk0 hb0 ⊢
  have HKK : Aside (K = w.heap.size) := hK
  clear hK
  go_loopg [9, 10] s.size (fun g _ _ wx => ∃ i : Nat, i + g = s.size ∧ wx.heap[K]? = some (.stringIter s i) ∧ Below K w wx ∧ Lib.NoAny s.data.toList chars.data.toList i)
  case atStart => exact ⟨0, by omega, hk0, hb0, Lib.NoAny.zero _ _⟩
  case round =>
    obtain ⟨i, hig, hk, hbw, hno⟩ := hrel
    have HN : Aside (Lib.NoAny s.data.toList chars.data.toList i) := hno
    clear hno
    cases gk with
    | zero =>
      obtain rfl : i = s.size := by omega
      have hnx := fun ty => run_next_end_at (P := P) wr K s s.size ty hk (by omega)
      go_wp2
      go_ret
      exact ⟨by rw [Lib.indexAny_none (by rw [← Lib.size_eq]; exact HN.out)]; rfl, by rw [← HKK.out]; exact hbw⟩
    | succ g =>
      have hi : i < s.size := by omega
      obtain ⟨x, hx⟩ : ∃ x : UInt8, s[i]'hi = x := ⟨_, rfl⟩
      have hxl : s.data.toList[i]? = some x := by rw [← hx]; exact Lib.data_getElem? s i hi
      have Hx : Aside (s.data.toList[i]? = some x) := hxl
      by_cases hx128 : x.toNat < 128
      · have hnx := fun ty => run_next_ascii_at (P := P) wr K s i ty hk hi (by rw [hx]; exact hx128)
        rw [hx] at hnx
        have hk' := iterAt_heap wr K s i (i + 1) hk
        have hb' := below_iterAt hbw (Nat.le_refl K) s (i + 1)
        generalize wr.iterAt K s (i + 1) = w2 at *
        clear hxl hx
        have hcon := Lib.contains_iff_indexByte chars.data.toList x
        have hback : ((x.toNat : Int)).toNat.toUInt8 = x := by simp
        cases hin : chars.data.toList.contains x
        · rw [hin] at hcon
          have hlt : ¬ ((0 : Int) ≤ Lib.indexByte chars.data.toList x) := of_decide_eq_false hcon.symm
          clear hcon
          go_wp2_with (go_at_fn (ρ.f 152); refine (Any.strings_IndexRune_ascii { L with } _ _ _ (by omega) (by omega)).mono ?_; rintro e w' ⟨rfl, hw⟩; rw [hw, hback])
          go_roundg g
          case measure => omega
          case rel => exact ⟨i + 1, by omega, hk', hb', HN.out.succ Hx.out hin⟩
        · rw [hin] at hcon
          have hge : (0 : Int) ≤ Lib.indexByte chars.data.toList x := of_decide_eq_true hcon.symm
          clear hcon
          go_wp2_with (go_at_fn (ρ.f 152); refine (Any.strings_IndexRune_ascii { L with } _ _ _ (by omega) (by omega)).mono ?_; rintro e w' ⟨rfl, hw⟩; rw [hw, hback])
          go_ret
          exact ⟨by rw [Lib.indexAny_hit HN.out Hx.out hin]; rfl, by rw [← HKK.out]; exact hb'⟩
      · have hxg : 128 ≤ (s[i]'hi).toNat := by rw [hx]; omega
        have hnx := fun ty => run_next_any_at (P := P) wr K s i ty hk hi
        have hg := decode_high s i hi hxg
        have htk := decode_takes s i hi
        have hvl := decode_valid s i
        have hct := decode_cont s i hi hxg
        obtain ⟨d, hd⟩ : ∃ d, (Utf8.decode s i).2 = d := ⟨_, rfl⟩
        obtain ⟨r, hr⟩ : ∃ r, (Utf8.decode s i).1 = r := ⟨_, rfl⟩
        rw [hd, hr] at hnx
        rw [hd] at htk hct
        rw [hr] at hg hvl
        have hk' := iterAt_heap wr K s i (i + d) hk
        have hb' := below_iterAt hbw (Nat.le_refl K) s (i + d)
        have HNX : Aside (Lib.NoAny s.data.toList chars.data.toList (i + d)) := noAny_skip HN.out htk.2 (fun j hj => contains_low HC.out (hct j hj))
        generalize wr.iterAt K s (i + d) = w2 at *
        clear hxl hx hct hd hr hxg
        have hKz : K < w2.heap.size := (Array.getElem?_eq_some_iff.1 hk').1
        go_wp2_with (go_at_fn (ρ.f 152); refine (indexRune_high { L with } _ _ _ h2 HL.out (by omega) hvl).mono ?_; rintro e w3 ⟨rfl, hw3⟩)
        have hk3 : w3.heap[K]? = some (.stringIter s (i + d)) := by rw [hw3.block K hKz]; exact hk'
        have hb3 : Below K w w3 := hb'.trans (hw3.mono (by omega))
        clear hnx hk hk' hw3 hb'
        go_wp2
        go_roundg (s.size - (i + d))
        case measure => omega
        case rel => exact ⟨i + d, by omega, hk3, hb3, HNX.out⟩

theorem indexAny_two (L : Lays.n153 P ρ) (h116 : (P.info? (ρ.t 116)).map (fun i => (i.zero, i.size)) = some (some (.agg (Array.replicate 256 (.bool false))), 256)) (s chars : ByteArray) (w : World) (hs : s.size < 4294967281) (h2 : chars.size = 2) (hl : ∀ (i : Nat) (h : i < chars.size), (chars[i]'h).toNat < 128) :
    Calls P (ρ.f 153) #[.string s, .string chars] w fun e w' => e = .returned (.int .i64 (Lib.indexAny s.data.toList chars.data.toList)) ∧ Below w.heap.size w w' := by
  by_cases h8 : s.size ≤ 8
  · exact indexAny_short L s chars w h2 hl h8
  · refine (Any.strings_IndexAny_long L (zero_of_info h116).1 (zero_of_info h116).2 s chars w (by omega) (by omega) hs (by omega) ?_).mono fun e w' ⟨h1, h2⟩ => ⟨h1, ?_⟩
    · intro j b hb
      have hj : j < chars.data.toList.length := (List.getElem?_eq_some_iff.1 hb).1
      have hj' : j < chars.size := by rw [Lib.size_eq]; exact hj
      have e : chars.data.toList[j]? = some (chars[j]'hj') := Lib.data_getElem? chars j hj'
      rw [e] at hb
      injection hb with hb
      rw [← hb]
      exact hl j hj'
    · rw [h2]
      exact ((Below.refl _ _).alloc (Nat.le_refl _) _).alloc (by simp) _

set_option maxHeartbeats 1000000 in
/-- strings.ContainsAny with two bytes below 128, at any text -/
theorem containsAny_two (L : Lays.n150 P ρ) (h116 : (P.info? (ρ.t 116)).map (fun i => (i.zero, i.size)) = some (some (.agg (Array.replicate 256 (.bool false))), 256)) (s chars : ByteArray) (w : World) (hs : s.size < 4294967281) (h2 : chars.size = 2) (hl : ∀ (i : Nat) (h : i < chars.size), (chars[i]'h).toNat < 128) :
    Calls P (ρ.f 150) #[.string s, .string chars] w fun e w' => e = .returned (.bool (Lib.containsAny s.data.toList chars.data.toList)) ∧ Below w.heap.size w w' := by
  have c := indexAny_two { L with } h116 s chars w hs h2 hl
  have t3 := L.t3; have a3 := L.a3; have z3 := L.z3; have v3 := L.v3
  have t4 := L.t4; have a4 := L.a4; have z4 := L.z4; have v4 := L.v4
  have t9 := L.t9; have a9 := L.a9; have z9 := L.z9; have v9 := L.v9
  have e153 : ∀ args w, (callFunc (ρ.f 153) args).run P w = .ok (.enter (ρ.f 153) args) w := enters_of L.f153 (by kernel_rfl) rfl
  go_enter L.f150, Body.n150_ntmps ρ
  go_wp2_with (go_at_fn (ρ.f 153); refine c.mono ?_; rintro e w' ⟨rfl, hw⟩)
  go_ret
  exact ⟨rfl, hw⟩
/-- is one of them there -/
theorem containsAny_any (s c : List UInt8) : Lib.containsAny s c = s.any (fun b => c.contains b) := by
  induction s with
  | nil => rfl
  | cons b l ih =>
    unfold Lib.containsAny at ih ⊢
    rw [List.any_cons, ← ih, Lib.indexAny]
    have hg := Lib.indexAny_ge c l
    cases hc : c.contains b with
    | true => simp
    | false =>
      simp only [Bool.false_eq_true, if_false, Bool.false_or]
      split
      · rename_i h; simp at h; rw [h]
      · rename_i h; simp at h; exact decide_eq_decide.2 (by omega)

end Go.Proofs.YtnbdldapmllegaaGreat
