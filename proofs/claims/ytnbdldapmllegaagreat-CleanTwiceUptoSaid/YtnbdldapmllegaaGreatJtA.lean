/-
  Plain mathematics of labelled texts: runs, the origins that they stand for, and the joining of runs. No program is named here.
-/
import Derived.Test.YtnbdldapmllegaaGreatRows
namespace Go.Proofs.YtnbdldapmllegaaGreat.mk

/-- the nearest origin -/
def nearO (o : Int) : Int := min (max o 0) 65536
theorem nearO_lo (o : Int) : 0 ≤ nearO o := by unfold nearO; omega
theorem nearO_hi (o : Int) : nearO o ≤ 65536 := by unfold nearO; omega
theorem nearO_in {o : Int} (h0 : 0 ≤ o) (h1 : o ≤ 65536) : nearO o = o := by unfold nearO; omega

/-- n bytes of origin o behind runs -/
def joinR (rs : List (Int × Int)) (n o : Int) : List (Int × Int) :=
  if n < 1 then rs else
    match rs.getLast? with
    | some (l, p) => if p = o then rs.dropLast ++ [(l + n, o)] else rs ++ [(n, o)]
    | none => [(n, o)]

theorem joinR_less {rs : List (Int × Int)} {n o : Int} (h : n < 1) : joinR rs n o = rs := by unfold joinR; rw [if_pos h]
theorem joinR_nil {n o : Int} (h : ¬ n < 1) : joinR [] n o = [(n, o)] := by unfold joinR; rw [if_neg h]; rfl
theorem joinR_same {rs : List (Int × Int)} {l n o : Int} (h : ¬ n < 1) : joinR (rs ++ [(l, o)]) n o = rs ++ [(l + n, o)] := by
  unfold joinR; rw [if_neg h]; simp
theorem joinR_other {rs : List (Int × Int)} {l p n o : Int} (h : ¬ n < 1) (hp : p ≠ o) : joinR (rs ++ [(l, p)]) n o = rs ++ [(l, p)] ++ [(n, o)] := by
  unfold joinR; rw [if_neg h]; simp [hp]

theorem snoc_cases {α : Type} (l : List α) : l = [] ∨ ∃ r x, l = r ++ [x] := by
  rcases List.eq_nil_or_concat l with h | ⟨r, x, h⟩
  · exact .inl h
  · exact .inr ⟨r, x, by simpa using h⟩

theorem snocInd {α : Type} {p : List α → Prop} (nil : p []) (append_singleton : ∀ l x, p l → p (l ++ [x])) (l : List α) : p l := by
  have h : ∀ m : List α, p m.reverse := by
    intro m
    induction m with
    | nil => simpa using nil
    | cons x m ih => rw [List.reverse_cons]; exact append_singleton _ _ ih
  simpa using h l.reverse

theorem joinR_joinR (rs : List (Int × Int)) (m n o : Int) (hm : 0 ≤ m) (hn : 0 ≤ n) : joinR (joinR rs m o) n o = joinR rs (m + n) o := by
  by_cases h1 : m < 1
  · rw [joinR_less h1]; congr 1; omega
  by_cases h2 : n < 1
  · rw [joinR_less h2]; congr 1; omega
  have h3 : ¬ m + n < 1 := by omega
  rcases snoc_cases rs with rfl | ⟨r, ⟨l, p⟩, rfl⟩
  · rw [joinR_nil h1, joinR_nil h3]; exact joinR_same (rs := []) h2
  · by_cases hp : p = o
    · subst hp; rw [joinR_same h1, joinR_same h2, joinR_same h3, Int.add_assoc]
    · rw [joinR_other h1 hp, joinR_same h2, joinR_other h3 hp]

/-- the runs of origins, one a byte -/
def comp (l : List Int) : List (Int × Int) := l.foldl (fun rs o => joinR rs 1 o) []
theorem comp_snoc (l : List Int) (o : Int) : comp (l ++ [o]) = joinR (comp l) 1 o := by simp [comp, List.foldl_append]
theorem comp_replicate (l : List Int) (n : Nat) (o : Int) : comp (l ++ List.replicate n o) = joinR (comp l) n o := by
  induction n with
  | zero => simp [joinR]
  | succ n ih =>
    rw [List.replicate_succ', ← List.append_assoc, comp_snoc, ih, joinR_joinR _ _ _ _ (by omega) (by omega)]
    congr 1
theorem joinR_comp (l : List Int) (n o : Int) : joinR (comp l) n o = comp (l ++ List.replicate n.toNat o) := by
  rw [comp_replicate]
  by_cases h : n < 1
  · rw [joinR_less h, joinR_less (by omega)]
  · congr 1; omega

theorem comp_length_le (l : List Int) : (comp l).length ≤ l.length := by
  induction l using snocInd with
  | nil => simp [comp]
  | append_singleton l o ih =>
    rw [comp_snoc]
    rcases snoc_cases (comp l) with h | ⟨r, ⟨m, p⟩, h⟩
    · rw [h, joinR_nil (by omega)]; simp
    · by_cases hp : p = o
      · subst hp; rw [h, joinR_same (by omega)]; rw [h] at ih; simp at ih ⊢; omega
      · rw [h, joinR_other (by omega) hp]; rw [h] at ih; simp at ih ⊢; omega

/-- the runs of comp are at least 1 long -/
theorem comp_pos (l : List Int) : ∀ r ∈ comp l, 1 ≤ r.1 := by
  induction l using snocInd with
  | nil => simp [comp]
  | append_singleton l o ih =>
    rw [comp_snoc]
    rcases snoc_cases (comp l) with h | ⟨r, ⟨m, p⟩, h⟩
    · rw [h, joinR_nil (by omega)]; simp
    · have hm : 1 ≤ m := ih (m, p) (by rw [h]; simp)
      by_cases hp : p = o
      · subst hp; rw [h, joinR_same (by omega)]
        intro q hq
        simp only [List.mem_append, List.mem_singleton] at hq
        rcases hq with hq | hq
        · exact ih q (by rw [h]; simp [hq])
        · subst hq; show 1 ≤ m + 1; omega
      · rw [h, joinR_other (by omega) hp]
        intro q hq
        simp only [List.mem_append, List.mem_singleton] at hq
        rcases hq with hq | hq
        · exact ih q (by rw [h]; simpa using hq)
        · subst hq; show (1 : Int) ≤ 1; omega

/-- what runs stand for -/
def expand (rs : List (Int × Int)) : List Int := rs.flatMap fun r => List.replicate r.1.toNat r.2
theorem expand_append (a b : List (Int × Int)) : expand (a ++ b) = expand a ++ expand b := by simp [expand]
theorem expand_joinR (rs : List (Int × Int)) (n o : Int) (hpos : ∀ r ∈ rs, 1 ≤ r.1) : expand (joinR rs n o) = expand rs ++ List.replicate n.toNat o := by
  by_cases h : n < 1
  · rw [joinR_less h, show n.toNat = 0 by omega]; simp
  rcases snoc_cases rs with rfl | ⟨r, ⟨m, p⟩, rfl⟩
  · rw [joinR_nil h]; simp [expand]
  · have hm : 1 ≤ m := hpos (m, p) (by simp)
    by_cases hp : p = o
    · subst hp; rw [joinR_same h, expand_append, expand_append]
      simp only [expand, List.flatMap_cons, List.flatMap_nil, List.append_nil, List.append_assoc, List.replicate_append_replicate]
      congr 2; omega
    · rw [joinR_other h hp, expand_append]; simp [expand]
theorem expand_comp (l : List Int) : expand (comp l) = l := by
  induction l using snocInd with
  | nil => rfl
  | append_singleton l o ih => rw [comp_snoc, expand_joinR _ _ _ (comp_pos l), ih]; rfl
theorem comp_le (l : List Int) : ∀ r ∈ comp l, r.1 ≤ l.length := by
  intro r hr
  have h : (expand (comp l)).length = l.length := by rw [expand_comp]
  obtain ⟨a, b, e⟩ := List.append_of_mem hr
  rw [e, expand_append] at h
  simp [expand] at h
  omega

/-- the origins of the first bytes, as runs say them, of n bytes -/
def pre (n : Nat) (rs : List (Int × Int)) : List Int := rs.foldl (fun acc r => acc ++ List.replicate (min r.1.toNat (n - acc.length)) (nearO r.2)) []
theorem pre_snoc (n : Nat) (rs : List (Int × Int)) (r : Int × Int) : pre n (rs ++ [r]) = pre n rs ++ List.replicate (min r.1.toNat (n - (pre n rs).length)) (nearO r.2) := by
  simp [pre, List.foldl_append]
theorem pre_length_le (n : Nat) (rs : List (Int × Int)) : (pre n rs).length ≤ n := by
  induction rs using snocInd with
  | nil => simp [pre]
  | append_singleton rs r ih => rw [pre_snoc]; simp; omega
/-- the origins of n bytes -/
def origins (n : Nat) (rs : List (Int × Int)) : List Int := pre n rs ++ List.replicate (n - (pre n rs).length) 65536
theorem origins_length (n : Nat) (rs : List (Int × Int)) : (origins n rs).length = n := by
  have := pre_length_le n rs
  simp [origins]; omega
theorem pre_in (n : Nat) (rs : List (Int × Int)) : ∀ o ∈ pre n rs, 0 ≤ o ∧ o ≤ 65536 := by
  induction rs using snocInd with
  | nil => simp [pre]
  | append_singleton rs r ih =>
    rw [pre_snoc]
    intro o ho
    rcases List.mem_append.1 ho with ho | ho
    · exact ih o ho
    · rw [(List.mem_replicate.1 ho).2]; exact ⟨nearO_lo _, nearO_hi _⟩
theorem origins_in (n : Nat) (rs : List (Int × Int)) : ∀ o ∈ origins n rs, 0 ≤ o ∧ o ≤ 65536 := by
  intro o ho
  rcases List.mem_append.1 ho with ho | ho
  · exact pre_in n rs o ho
  · rw [(List.mem_replicate.1 ho).2]; omega

/-- runs as taken -/
def taken (n : Nat) (rs : List (Int × Int)) : List (Int × Int) := comp (origins n rs)
/-- the cells of runs -/
def runCells (rs : List (Int × Int)) : List Value := rs.flatMap fun r => [.int .i64 r.1, .int .i64 r.2]
theorem runCells_length (rs : List (Int × Int)) : (runCells rs).length = rs.length * 2 := by
  induction rs with
  | nil => rfl
  | cons r rs ih => simp only [runCells, List.flatMap_cons, List.length_append, List.length_cons, List.length_nil] at ih ⊢; omega
theorem runCells_append (a b : List (Int × Int)) : runCells (a ++ b) = runCells a ++ runCells b := by simp [runCells]
theorem runCells_one (n o : Int) : runCells [(n, o)] = [.int .i64 n, .int .i64 o] := rfl
theorem runCells_fst (rs : List (Int × Int)) (k : Nat) (h : k < rs.length) : (runCells rs)[k * 2]? = some (.int .i64 (rs.getD k (0, 0)).1) := by
  have e : rs = rs.take k ++ (rs.getD k (0, 0) :: rs.drop (k + 1)) := by
    conv => lhs; rw [← List.take_append_drop k rs]
    rw [List.drop_eq_getElem_cons h]; simp [List.getD, List.getElem?_eq_getElem h]
  have hl : (runCells (rs.take k)).length = k * 2 := by rw [runCells_length, List.length_take]; omega
  have e2 := congrArg runCells e
  rw [runCells_append] at e2
  rw [e2, List.getElem?_append_right (by omega), hl]
  simp [runCells]
theorem runCells_snd (rs : List (Int × Int)) (k : Nat) (h : k < rs.length) : (runCells rs)[k * 2 + 1]? = some (.int .i64 (rs.getD k (0, 0)).2) := by
  have e : rs = rs.take k ++ (rs.getD k (0, 0) :: rs.drop (k + 1)) := by
    conv => lhs; rw [← List.take_append_drop k rs]
    rw [List.drop_eq_getElem_cons h]; simp [List.getD, List.getElem?_eq_getElem h]
  have hl : (runCells (rs.take k)).length = k * 2 := by rw [runCells_length, List.length_take]; omega
  have e2 := congrArg runCells e
  rw [runCells_append] at e2
  rw [e2, List.getElem?_append_right (by omega), hl, show k * 2 + 1 - k * 2 = 1 by omega]
  simp [runCells]
theorem runCells_one' (rs : List (Int × Int)) : ∀ u ∈ runCells rs, u.oneCell' = true := by
  intro u hu
  simp only [runCells, List.mem_flatMap, List.mem_cons, List.not_mem_nil, or_false] at hu
  obtain ⟨r, _, h | h⟩ := hu <;> subst h <;> rfl

/-- the cells of bytes with origins -/
def chCells (l : List (UInt8 × Int)) : List Value := l.flatMap fun c => [.int .u8 c.1.toNat, .int .i64 c.2]
theorem chCells_length (l : List (UInt8 × Int)) : (chCells l).length = l.length * 2 := by
  induction l with
  | nil => rfl
  | cons r l ih => simp only [chCells, List.flatMap_cons, List.length_append, List.length_cons, List.length_nil] at ih ⊢; omega
theorem chCells_append (a b : List (UInt8 × Int)) : chCells (a ++ b) = chCells a ++ chCells b := by simp [chCells]
theorem chCells_fst (l : List (UInt8 × Int)) (k : Nat) (h : k < l.length) : (chCells l)[k * 2]? = some (.int .u8 (l.getD k (0, 0)).1.toNat) := by
  have e : l = l.take k ++ (l.getD k (0, 0) :: l.drop (k + 1)) := by
    conv => lhs; rw [← List.take_append_drop k l]
    rw [List.drop_eq_getElem_cons h]; simp [List.getD, List.getElem?_eq_getElem h]
  have hl : (chCells (l.take k)).length = k * 2 := by rw [chCells_length, List.length_take]; omega
  have e2 := congrArg chCells e
  rw [chCells_append] at e2
  rw [e2, List.getElem?_append_right (by omega), hl]
  simp [chCells]
theorem chCells_snd (l : List (UInt8 × Int)) (k : Nat) (h : k < l.length) : (chCells l)[k * 2 + 1]? = some (.int .i64 (l.getD k (0, 0)).2) := by
  have e : l = l.take k ++ (l.getD k (0, 0) :: l.drop (k + 1)) := by
    conv => lhs; rw [← List.take_append_drop k l]
    rw [List.drop_eq_getElem_cons h]; simp [List.getD, List.getElem?_eq_getElem h]
  have hl : (chCells (l.take k)).length = k * 2 := by rw [chCells_length, List.length_take]; omega
  have e2 := congrArg chCells e
  rw [chCells_append] at e2
  rw [e2, List.getElem?_append_right (by omega), hl, show k * 2 + 1 - k * 2 = 1 by omega]
  simp [chCells]
theorem zip_snoc (bs : List UInt8) (os : List Int) (b : UInt8) (o : Int) (h : bs[os.length]? = some b) : bs.zip (os ++ [o]) = bs.zip os ++ [(b, o)] := by
  induction os generalizing bs with
  | nil => cases bs with
    | nil => simp at h
    | cons x bs => simp at h; subst h; simp
  | cons y os ih => cases bs with
    | nil => simp at h
    | cons x bs => simp only [List.cons_append, List.zip_cons_cons]; rw [ih bs (by simpa using h)]
theorem chCells_snoc (l : List (UInt8 × Int)) (b : UInt8) (o : Int) : chCells (l ++ [(b, o)]) = chCells l ++ [.int .u8 b.toNat, .int .i64 o] := by rw [chCells_append]; rfl

/-- the bytes with their origins -/
def chars (s : List UInt8) (rs : List (Int × Int)) : List (UInt8 × Int) := s.zip (origins s.length rs)
theorem chars_fst (s : List UInt8) (rs : List (Int × Int)) : (chars s rs).map (·.1) = s := by
  unfold chars; rw [List.map_fst_zip]; rw [origins_length]; exact Nat.le_refl _
theorem chars_snd (s : List UInt8) (rs : List (Int × Int)) : (chars s rs).map (·.2) = origins s.length rs := by
  unfold chars; rw [List.map_snd_zip]; rw [origins_length]; exact Nat.le_refl _
theorem chars_length (s : List UInt8) (rs : List (Int × Int)) : (chars s rs).length = s.length := by
  unfold chars; rw [List.length_zip, origins_length]; omega
theorem chars_ext {a b : List (UInt8 × Int)} (h1 : a.map (·.1) = b.map (·.1)) (h2 : a.map (·.2) = b.map (·.2)) : a = b := by
  induction a generalizing b with
  | nil => cases b with
    | nil => rfl
    | cons y b => simp at h1
  | cons x a ih => cases b with
    | nil => simp at h1
    | cons y b =>
      simp only [List.map_cons, List.cons.injEq] at h1 h2
      rw [ih h1.2 h2.2, Prod.ext h1.1 h2.1]

end Go.Proofs.YtnbdldapmllegaaGreat.mk
