/-
  Contracts of fold's replace, Swap, Without, Ends and Trim.
-/
import Derived.Test.YtfmjnmijhbnnjaaFoldRewrite
import Derived.Test.YtfmjnmijhbnnjaaFoldStrip
namespace Go.Proofs.Ytfmjnmijhbnnjaa.mk
open Go.RowKit

/-- by for each sought byte, of that byte's origin -/
def replL (f : UInt8 → Bool) (by_ : List UInt8) (l : List (UInt8 × Int)) : List (UInt8 × Int) := l.flatMap fun x => if f x.1 then by_.map (fun y => (y, x.2)) else [x]
theorem replL_next {f : UInt8 → Bool} {by_ : List UInt8} {l : List (UInt8 × Int)} {k : Nat} {b : UInt8} {o : Int} (h : l[k]? = some (b, o)) : replL f by_ (l.take (k + 1)) = replL f by_ (l.take k) ++ (if f b then by_ else [b]).map (fun y => (y, o)) := by
  rw [take_next h]
  unfold replL
  rw [List.flatMap_append]
  congr 1
  rw [List.flatMap_singleton]
  split <;> rfl
theorem replL_length (f : UInt8 → Bool) (by_ : List UInt8) (l : List (UInt8 × Int)) : (replL f by_ l).length ≤ l.length * (by_.length + 1) := by
  induction l with
  | nil => simp [replL]
  | cons x l ih =>
    have e : replL f by_ (x :: l) = (if f x.1 then by_.map (fun y => (y, x.2)) else [x]) ++ replL f by_ l := by simp [replL]
    rw [e, List.length_append, List.length_cons, Nat.add_mul]
    have : (if f x.1 then by_.map (fun y => (y, x.2)) else [x]).length ≤ by_.length + 1 := by split <;> simp
    omega

theorem one_byte (s : ByteArray) (k : Nat) (hk : k < s.size) : (s.extract k (k + 1)).data.toList = [s[k]'hk] := by
  have hsl : s.data.toList.length = s.size := by rw [Array.length_toList]; rfl
  rw [ByteArray.data_extract, Array.toList_extract]
  have hk' : k < s.data.toList.length := by rw [hsl]; exact hk
  rw [List.extract_eq_take_drop, List.drop_eq_getElem_cons hk', show k + 1 - k = 1 by omega]
  rfl

set_option maxHeartbeats 1000000 in
set_option maxRecDepth 100000 in
theorem replF_any (F : Nat) (caps : Array Value) (f : UInt8 → Bool) (bS bQ bB : Nat) (s y : ByteArray) (v : Value) (k : Nat) (o : Int) (hk : k < s.size) (hs : s.size ≤ 4294967296) (w : World)
    (hE : ∀ args w', Sem.run Try.prog (callFunc F args) w' = .ok (.enter F args) w')
    (hF : ∀ (b : UInt8) w', Below w.heap.size w w' → Calls Try.prog F (#[.int .u8 b.toNat] ++ caps) w' fun e w'' => e = .returned (.bool (f b)) ∧ w' = w'')
    (b0 : bS < w.heap.size) (b1 : bQ < w.heap.size) (b2 : bB < w.heap.size)
    (c0 : w.cell? ⟨bS, 0, none⟩ = some (.string s)) (c1 : w.cell? ⟨bS, 1, none⟩ = some v) (c2 : w.cell? ⟨bQ, 0, none⟩ = some (.func (.func F) #[] caps)) (c3 : w.cell? ⟨bB, 0, none⟩ = some (.string y)) :
    Calls Try.prog 72 #[.int .i64 (k : Int), .int .i64 o, .pointer (some ⟨bQ, 0, none⟩), .pointer (some ⟨bS, 0, none⟩), .pointer (some ⟨bB, 0, none⟩)] w fun e w' => (∃ part : ByteArray, e = .returned (.tuple #[.string part, .int .i64 o]) ∧ part.data.toList = (if f (s[k]'hk) then y.data.toList else [s[k]'hk])) ∧ Below w.heap.size w w' := by
  have HE := Lib.hid hE
  have HF := Lib.hid hF
  clear hE hF
  have hk0 : (0 : Int) ≤ (k : Int) := Int.natCast_nonneg _
  have hk1 : (k : Int) < (s.size : Int) := by omega
  have hk2 : (k : Int) + 1 ≤ (s.size : Int) := by omega
  go_enter Try.func72, Try.ntmps72
  go_wp2_with fail
  have KS : ∀ w', Below w.heap.size w w' → w'.cell? ⟨bS, 0, none⟩ = some (.string s) ∧ w'.cell? ⟨bS, 1, none⟩ = some v ∧ w'.cell? ⟨bQ, 0, none⟩ = some (.func (.func F) #[] caps) ∧ w'.cell? ⟨bB, 0, none⟩ = some (.string y) ∧ Below w.heap.size w w' := fun w' h =>
    ⟨(h.cell b0).trans c0, (h.cell b0).trans c1, (h.cell b1).trans c2, (h.cell b2).trans c3, h⟩
  have HKS := Lib.hid KS
  clear KS
  go_region_held3 (fun w' => w'.cell? ⟨bS, 0, none⟩ = some (.string s) ∧ w'.cell? ⟨bS, 1, none⟩ = some v ∧ w'.cell? ⟨bQ, 0, none⟩ = some (.func (.func F) #[] caps) ∧ w'.cell? ⟨bB, 0, none⟩ = some (.string y) ∧ Below w.heap.size w w')
    (first
      | exact HKS.out _ (Below.drew (Below.refl _ _))
      | (go_split_ands; exact HKS.out _ (by assumption)))
    (first
      | (rw [HE.out]; refine (HF.out (s[k]'hk) _ ?_).mono ?_; (go_split_ands; assumption); rintro e w' ⟨rfl, rfl⟩))
  have hbd : Below w.heap.size w w.drew := (Below.refl _ _).drew
  cases hf : f (s[k]'hk) with
  | true =>
    go_wp2_with fail
    go_ret2
    exact ⟨⟨y, rfl, rfl⟩, hbd⟩
  | false =>
    have HO := Lib.hid (one_byte s k hk)
    go_wp2_with fail
    all_goals
      go_ret2
      exact ⟨⟨_, rfl, by simpa using HO.out⟩, hbd⟩

set_option maxHeartbeats 1000000 in
set_option maxRecDepth 100000 in
theorem replace_any (F : Nat) (caps : Array Value) (f : UInt8 → Bool) (s y : ByteArray) (A : Option Addr) (n c : Nat) (rs : List (Int × Int)) (w : World) (hl : Lies w w.heap.size A (runCells rs)) (hn : rs.length = n) (hs : s.size ≤ 4294967296) (hn2 : n ≤ 4294967296) (hby : s.size * (y.size + 1) ≤ 70368744177664)
    (hE : ∀ args w', Sem.run Try.prog (callFunc F args) w' = .ok (.enter F args) w')
    (hF : ∀ (b : UInt8) w', Below w.heap.size w w' → Calls Try.prog F (#[.int .u8 b.toNat] ++ caps) w' fun e w'' => e = .returned (.bool (f b)) ∧ w' = w'') :
    Calls Try.prog 53 #[.agg #[.string s, .slice A n c], .func (.func F) #[] caps, .string y] w (Tells ⟨((replL f y.data.toList (chars s.data.toList rs)).map (·.1)).toArray⟩ (comp ((replL f y.data.toList (chars s.data.toList rs)).map (·.2))) w) := by
  have HN := Lib.hid hn
  have HE := Lib.hid hE
  have HF := Lib.hid hF
  clear hn hE hF
  have hsl : s.data.toList.length = s.size := by rw [Array.length_toList]; rfl
  have HSL := Lib.hid hsl
  clear hsl
  go_enter Try.func53, Try.ntmps53
  go_wp2_with fail
  generalize hwE : (((w.alloc (.cells #[.string s, .slice A n c] 24)).alloc (.cells #[.func (.func F) #[] caps] 82)).alloc (.cells #[.string y] 9)).alloc (.cells #[.string ⟨#[]⟩, .slice none 0 0] 24) = wE
  have y0 : Whole wE w.heap.size 24 #[.string s, .slice A n c] := by rw [← hwE]; exact (((Whole.made w _ _).alloc _).alloc _).alloc _
  have y1 : Whole wE (w.heap.size + 1) 82 #[.func (.func F) #[] caps] := by
    rw [← hwE]
    have h := ((Whole.made (w.alloc (.cells #[.string s, .slice A n c] 24)) 82 #[.func (.func F) #[] caps]).alloc (.cells #[.string y] 9)).alloc (.cells #[.string ⟨#[]⟩, .slice none 0 0] 24)
    simp only [World.size_alloc] at h
    exact h
  have y2 : Whole wE (w.heap.size + 1 + 1) 9 #[.string y] := by
    rw [← hwE]
    have h := (Whole.made ((w.alloc (.cells #[.string s, .slice A n c] 24)).alloc (.cells #[.func (.func F) #[] caps] 82)) 9 #[.string y]).alloc (.cells #[.string ⟨#[]⟩, .slice none 0 0] 24)
    simp only [World.size_alloc] at h
    exact h
  have y3 : Whole wE (w.heap.size + 1 + 1 + 1) 24 #[.string ⟨#[]⟩, .slice none 0 0] := by
    rw [← hwE]
    have h := Whole.made (((w.alloc (.cells #[.string s, .slice A n c] 24)).alloc (.cells #[.func (.func F) #[] caps] 82)).alloc (.cells #[.string y] 9)) 24 #[.string ⟨#[]⟩, .slice none 0 0]
    simp only [World.size_alloc] at h
    exact h
  have hzE : wE.heap.size = w.heap.size + 4 := by rw [← hwE]; simp
  have hbE : Below w.heap.size w wE := by rw [← hwE]; exact ((((Below.refl _ _).alloc (Nat.le_refl _) _).alloc (by simp) _).alloc (by simp; omega) _).alloc (by simp; omega) _
  have hlE : Lies wE wE.heap.size A (runCells rs) := hl.next hbE (Nat.le_refl _)
  clear hwE
  have HLN : Hid ((chars s.data.toList rs).length = s.size) := by show _ = _; rw [chars_length, HSL.out]
  have HYL : Hid (y.data.toList.length = y.size) := by show _ = _; rw [Array.length_toList]; rfl
  refine (rewrite_any 72 #[.pointer (some ⟨w.heap.size + 1, 0, none⟩), .pointer (some ⟨w.heap.size, 0, none⟩), .pointer (some ⟨w.heap.size + 1 + 1, 0, none⟩)] (fun _ => False) (fun _ w' => Below wE.heap.size wE w') (fun k => replL f y.data.toList ((chars s.data.toList rs).take k)) s A n c rs wE hlE HN.out hs hn2 (fun _ _ => rfl) (fun _ h => h.elim) (fun k w' w'' h1 h2 => h1.trans h2) ?_ rfl (Below.refl _ _) ?_).mono ?_
  · intro k b o w' hL hI hN'
    have hk : k < s.size := by rw [← HLN.out]; exact (List.getElem?_eq_some_iff.1 hL).1
    have hb : s[k]'hk = b := by
      have h1 : (chars s.data.toList rs).map (·.1) = s.data.toList := chars_fst _ _
      have h2 : ((chars s.data.toList rs).map (·.1))[k]? = some b := by rw [List.getElem?_map, hL]; rfl
      rw [h1, List.getElem?_eq_getElem (by rw [HSL.out]; exact hk)] at h2
      injection h2
    have z0 := y0.below hI y0.lt
    have z1 := y1.below hI y1.lt
    have z2 := y2.below hI y2.lt
    refine (replF_any F caps f w.heap.size (w.heap.size + 1) (w.heap.size + 1 + 1) s y (.slice A n c) k o hk hs w' HE.out (fun b w'' hb'' => HF.out b w'' (below_next hbE (Nat.le_refl _) (below_next hI (Nat.le_refl _) hb''))) z0.lt z1.lt z2.lt (z0.at_ 0) (z0.at_ 1) (z1.at_ 0) (z2.at_ 0)).mono ?_
    rintro e w'' ⟨⟨part, rfl, hp⟩, hb''⟩
    refine ⟨part, o, rfl, ?_, below_next hI (Nat.le_refl _) hb'', Moved.of_below hb''⟩
    rw [hp, hb]
    exact replL_next hL
  · intro k _
    refine Nat.le_trans (replL_length _ _ _) (Nat.le_trans (Nat.mul_le_mul_right _ ?_) (by rw [HYL.out]; exact hby))
    rw [List.length_take, HLN.out]
    omega
  rintro e w2 ⟨v, rfl, hown, hmv, _⟩
  have hb2 : Below wE.heap.size wE w2 := hmv.below (Nat.le_refl _) (fun _ _ h => h)
  have hful : (chars s.data.toList rs).take s.size = chars s.data.toList rs := List.take_of_length_le (by rw [HLN.out]; exact Nat.le_refl _)
  rw [hful] at hown
  obtain ⟨A2, c2, rfl, _, _, _⟩ := own_form hown
  have hW := y3.below hb2 y3.lt
  have f0 := hW.free 0
  have f1 := hW.free 1
  have d0 : w2.cell? ⟨w.heap.size + 1 + 1 + 1, 0, none⟩ = some (.string ⟨#[]⟩) := hW.at_ 0
  have d1 : w2.cell? ⟨w.heap.size + 1 + 1 + 1, 1, none⟩ = some (.slice none 0 0) := hW.at_ 1
  have HO := Lib.hid hown
  have HFUL := Lib.hid hful
  clear hown hmv hful
  simp only [HFUL.out] at *
  generalize hT : replL f y.data.toList (chars s.data.toList rs) = T at *
  generalize hq : comp (T.map (·.2)) = q at *
  generalize hst : T.map (·.1) = st at *
  have HT := Lib.hid hT
  have HQ := Lib.hid hq
  have HS := Lib.hid hst
  clear hT hq hst
  go_wp2
  refine bodyPost_ret (v := .agg #[.string ⟨st.toArray⟩, .slice A2 q.length c2]) ?_ rfl ?_
  · simp [results, Try.results53, go_sem, d0, d1]
  · rw [HT.out, HQ.out, HS.out]
    exact tells_end (g := w.heap.size + 1 + 1 + 1) (by omega) (own_mono HO.out (by omega)) (below_next hbE (Nat.le_refl _) hb2)

set_option maxHeartbeats 1000000 in
set_option maxRecDepth 100000 in
theorem swap_any (s y : ByteArray) (x : UInt8) (A : Option Addr) (n c : Nat) (rs : List (Int × Int)) (w : World) (hl : Lies w w.heap.size A (runCells rs)) (hn : rs.length = n) (hs : s.size ≤ 4294967296) (hn2 : n ≤ 4294967296) (hby : s.size * (y.size + 1) ≤ 70368744177664) :
    Calls Try.prog 45 #[.agg #[.string s, .slice A n c], .int .u8 x.toNat, .string y] w (Tells ⟨((replL (fun b => b == x) y.data.toList (chars s.data.toList rs)).map (·.1)).toArray⟩ (comp ((replL (fun b => b == x) y.data.toList (chars s.data.toList rs)).map (·.2))) w) := by
  have HN := Lib.hid hn
  clear hn
  go_enter Try.func45, Try.ntmps45
  go_wp2_with fail
  generalize hwE : ((w.alloc (.cells #[.string s, .slice A n c] 24)).alloc (.cells #[.int .u8 x.toNat] 5)).alloc (.cells #[.string ⟨#[]⟩, .slice none 0 0] 24) = wE
  have y1 : Whole wE (w.heap.size + 1) 5 #[.int .u8 x.toNat] := by
    rw [← hwE]
    have h := (Whole.made (w.alloc (.cells #[.string s, .slice A n c] 24)) 5 #[.int .u8 x.toNat]).alloc (.cells #[.string ⟨#[]⟩, .slice none 0 0] 24)
    simp only [World.size_alloc] at h
    exact h
  have y3 : Whole wE (w.heap.size + 1 + 1) 24 #[.string ⟨#[]⟩, .slice none 0 0] := by
    rw [← hwE]
    have h := Whole.made ((w.alloc (.cells #[.string s, .slice A n c] 24)).alloc (.cells #[.int .u8 x.toNat] 5)) 24 #[.string ⟨#[]⟩, .slice none 0 0]
    simp only [World.size_alloc] at h
    exact h
  have hzE : wE.heap.size = w.heap.size + 3 := by rw [← hwE]; simp
  have hbE : Below w.heap.size w wE := by rw [← hwE]; exact (((Below.refl _ _).alloc (Nat.le_refl _) _).alloc (by simp) _).alloc (by simp; omega) _
  have hlE : Lies wE wE.heap.size A (runCells rs) := hl.next hbE (Nat.le_refl _)
  clear hwE
  refine (replace_any 54 #[.pointer (some ⟨w.heap.size + 1, 0, none⟩)] (fun b => b == x) s y A n c rs wE hlE HN.out hs hn2 hby (fun _ _ => rfl) (fun b w' hb => swapF_any b x (w.heap.size + 1) w' ((hb.cell y1.lt).trans (y1.at_ 0)))).mono ?_
  generalize hT : replL (fun b => b == x) y.data.toList (chars s.data.toList rs) = T at *
  generalize hq : comp (T.map (·.2)) = q at *
  generalize hst : T.map (·.1) = st at *
  have HT := Lib.hid hT
  have HQ := Lib.hid hq
  have HS := Lib.hid hst
  clear hT hq hst
  rintro e w2 ⟨v, rfl, hown, hb2⟩
  obtain ⟨A2, c2, rfl, _, _, _⟩ := own_form hown
  have hW := y3.below hb2 y3.lt
  have f0 := hW.free 0
  have f1 := hW.free 1
  have d0 : w2.cell? ⟨w.heap.size + 1 + 1, 0, none⟩ = some (.string ⟨#[]⟩) := hW.at_ 0
  have d1 : w2.cell? ⟨w.heap.size + 1 + 1, 1, none⟩ = some (.slice none 0 0) := hW.at_ 1
  have HO := Lib.hid hown
  clear hown
  go_wp2
  refine bodyPost_ret (v := .agg #[.string ⟨st.toArray⟩, .slice A2 q.length c2]) ?_ rfl ?_
  · simp [results, Try.results45, go_sem, d0, d1]
  · rw [HT.out, HQ.out, HS.out]
    exact tells_end (g := w.heap.size + 1 + 1) (by omega) (own_mono HO.out (by omega)) (below_next hbE (Nat.le_refl _) hb2)

/-- tab, line feed, form feed, return, blank -/
def blanksB (b : UInt8) : Bool := [9, 10, 12, 13, 32].contains b
end Go.Proofs.Ytfmjnmijhbnnjaa.mk
