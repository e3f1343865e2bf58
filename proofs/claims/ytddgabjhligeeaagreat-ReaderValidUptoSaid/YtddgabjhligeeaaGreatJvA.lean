/-
  A condition's wrap that hands on the world's shape: what the package variables hold is of their types.
-/
import Derived.Test.YtddgabjhligeeaaGreatRows
import GoSem.Core.Utf8
import Derived.Lib.Index
import Derived.JoinedCond
namespace Go.Proofs.YtddgabjhligeeaaGreat.mk

/-- the nearest origin -/
def nearO (o : Int) : Int := min (max o 0) 65536
theorem nearO_lo (o : Int) : 0 ≤ nearO o := by unfold nearO; omega
theorem nearO_hi (o : Int) : nearO o ≤ 65536 := by unfold nearO; omega
theorem nearO_in {o : Int} (h0 : 0 ≤ o) (h1 : o ≤ 65536) : nearO o = o := by unfold nearO; omega

/-- n bytes of origin o behind runs -/
def joinR (rs : List (Int × Int)) (n o : Int) : List (Int × Int) :=
  if n < 1 then rs else
    match rs.getLast? with
    | some (l, p) => if p = o then rs.dropLast ++ [(l + n, o)] else rs ++ [(n, o)]
    | none => [(n, o)]

theorem joinR_less {rs : List (Int × Int)} {n o : Int} (h : n < 1) : joinR rs n o = rs := by unfold joinR; rw [if_pos h]
theorem joinR_nil {n o : Int} (h : ¬ n < 1) : joinR [] n o = [(n, o)] := by unfold joinR; rw [if_neg h]; rfl
theorem joinR_same {rs : List (Int × Int)} {l n o : Int} (h : ¬ n < 1) : joinR (rs ++ [(l, o)]) n o = rs ++ [(l + n, o)] := by
  unfold joinR; rw [if_neg h]; simp
theorem joinR_other {rs : List (Int × Int)} {l p n o : Int} (h : ¬ n < 1) (hp : p ≠ o) : joinR (rs ++ [(l, p)]) n o = rs ++ [(l, p)] ++ [(n, o)] := by
  unfold joinR; rw [if_neg h]; simp [hp]

theorem snoc_cases {α : Type} (l : List α) : l = [] ∨ ∃ r x, l = r ++ [x] := by
  rcases List.eq_nil_or_concat l with h | ⟨r, x, h⟩
  · exact .inl h
  · exact .inr ⟨r, x, by simpa using h⟩

theorem snocInd {α : Type} {p : List α → Prop} (nil : p []) (append_singleton : ∀ l x, p l → p (l ++ [x])) (l : List α) : p l := by
  have h : ∀ m : List α, p m.reverse := by
    intro m
    induction m with
    | nil => simpa using nil
    | cons x m ih => rw [List.reverse_cons]; exact append_singleton _ _ ih
  simpa using h l.reverse

theorem joinR_joinR (rs : List (Int × Int)) (m n o : Int) (hm : 0 ≤ m) (hn : 0 ≤ n) : joinR (joinR rs m o) n o = joinR rs (m + n) o := by
  by_cases h1 : m < 1
  · rw [joinR_less h1]; congr 1; omega
  by_cases h2 : n < 1
  · rw [joinR_less h2]; congr 1; omega
  have h3 : ¬ m + n < 1 := by omega
  rcases snoc_cases rs with rfl | ⟨r, ⟨l, p⟩, rfl⟩
  · rw [joinR_nil h1, joinR_nil h3]; exact joinR_same (rs := []) h2
  · by_cases hp : p = o
    · subst hp; rw [joinR_same h1, joinR_same h2, joinR_same h3, Int.add_assoc]
    · rw [joinR_other h1 hp, joinR_same h2, joinR_other h3 hp]

/-- the runs of origins, one a byte -/
def comp (l : List Int) : List (Int × Int) := l.foldl (fun rs o => joinR rs 1 o) []
theorem comp_snoc (l : List Int) (o : Int) : comp (l ++ [o]) = joinR (comp l) 1 o := by simp [comp, List.foldl_append]
theorem comp_replicate (l : List Int) (n : Nat) (o : Int) : comp (l ++ List.replicate n o) = joinR (comp l) n o := by
  induction n with
  | zero => simp [joinR]
  | succ n ih =>
    rw [List.replicate_succ', ← List.append_assoc, comp_snoc, ih, joinR_joinR _ _ _ _ (by omega) (by omega)]
    congr 1
theorem joinR_comp (l : List Int) (n o : Int) : joinR (comp l) n o = comp (l ++ List.replicate n.toNat o) := by
  rw [comp_replicate]
  by_cases h : n < 1
  · rw [joinR_less h, joinR_less (by omega)]
  · congr 1; omega

theorem comp_length_le (l : List Int) : (comp l).length ≤ l.length := by
  induction l using snocInd with
  | nil => simp [comp]
  | append_singleton l o ih =>
    rw [comp_snoc]
    rcases snoc_cases (comp l) with h | ⟨r, ⟨m, p⟩, h⟩
    · rw [h, joinR_nil (by omega)]; simp
    · by_cases hp : p = o
      · subst hp; rw [h, joinR_same (by omega)]; rw [h] at ih; simp at ih ⊢; omega
      · rw [h, joinR_other (by omega) hp]; rw [h] at ih; simp at ih ⊢; omega

/-- the runs of comp are at least 1 long -/
theorem comp_pos (l : List Int) : ∀ r ∈ comp l, 1 ≤ r.1 := by
  induction l using snocInd with
  | nil => simp [comp]
  | append_singleton l o ih =>
    rw [comp_snoc]
    rcases snoc_cases (comp l) with h | ⟨r, ⟨m, p⟩, h⟩
    · rw [h, joinR_nil (by omega)]; simp
    · have hm : 1 ≤ m := ih (m, p) (by rw [h]; simp)
      by_cases hp : p = o
      · subst hp; rw [h, joinR_same (by omega)]
        intro q hq
        simp only [List.mem_append, List.mem_singleton] at hq
        rcases hq with hq | hq
        · exact ih q (by rw [h]; simp [hq])
        · subst hq; show 1 ≤ m + 1; omega
      · rw [h, joinR_other (by omega) hp]
        intro q hq
        simp only [List.mem_append, List.mem_singleton] at hq
        rcases hq with hq | hq
        · exact ih q (by rw [h]; simpa using hq)
        · subst hq; show (1 : Int) ≤ 1; omega

/-- what runs stand for -/
def expand (rs : List (Int × Int)) : List Int := rs.flatMap fun r => List.replicate r.1.toNat r.2
theorem expand_append (a b : List (Int × Int)) : expand (a ++ b) = expand a ++ expand b := by simp [expand]
theorem expand_joinR (rs : List (Int × Int)) (n o : Int) (hpos : ∀ r ∈ rs, 1 ≤ r.1) : expand (joinR rs n o) = expand rs ++ List.replicate n.toNat o := by
  by_cases h : n < 1
  · rw [joinR_less h, show n.toNat = 0 by omega]; simp
  rcases snoc_cases rs with rfl | ⟨r, ⟨m, p⟩, rfl⟩
  · rw [joinR_nil h]; simp [expand]
  · have hm : 1 ≤ m := hpos (m, p) (by simp)
    by_cases hp : p = o
    · subst hp; rw [joinR_same h, expand_append, expand_append]
      simp only [expand, List.flatMap_cons, List.flatMap_nil, List.append_nil, List.append_assoc, List.replicate_append_replicate]
      congr 2; omega
    · rw [joinR_other h hp, expand_append]; simp [expand]
theorem expand_comp (l : List Int) : expand (comp l) = l := by
  induction l using snocInd with
  | nil => rfl
  | append_singleton l o ih => rw [comp_snoc, expand_joinR _ _ _ (comp_pos l), ih]; rfl
theorem comp_le (l : List Int) : ∀ r ∈ comp l, r.1 ≤ l.length := by
  intro r hr
  have h : (expand (comp l)).length = l.length := by rw [expand_comp]
  obtain ⟨a, b, e⟩ := List.append_of_mem hr
  rw [e, expand_append] at h
  simp [expand] at h
  omega

/-- the origins of the first bytes, as runs say them, of n bytes -/
def pre (n : Nat) (rs : List (Int × Int)) : List Int := rs.foldl (fun acc r => acc ++ List.replicate (min r.1.toNat (n - acc.length)) (nearO r.2)) []
theorem pre_snoc (n : Nat) (rs : List (Int × Int)) (r : Int × Int) : pre n (rs ++ [r]) = pre n rs ++ List.replicate (min r.1.toNat (n - (pre n rs).length)) (nearO r.2) := by
  simp [pre, List.foldl_append]
theorem pre_length_le (n : Nat) (rs : List (Int × Int)) : (pre n rs).length ≤ n := by
  induction rs using snocInd with
  | nil => simp [pre]
  | append_singleton rs r ih => rw [pre_snoc]; simp; omega
/-- the origins of n bytes -/
def origins (n : Nat) (rs : List (Int × Int)) : List Int := pre n rs ++ List.replicate (n - (pre n rs).length) 65536
theorem origins_length (n : Nat) (rs : List (Int × Int)) : (origins n rs).length = n := by
  have := pre_length_le n rs
  simp [origins]; omega
theorem pre_in (n : Nat) (rs : List (Int × Int)) : ∀ o ∈ pre n rs, 0 ≤ o ∧ o ≤ 65536 := by
  induction rs using snocInd with
  | nil => simp [pre]
  | append_singleton rs r ih =>
    rw [pre_snoc]
    intro o ho
    rcases List.mem_append.1 ho with ho | ho
    · exact ih o ho
    · rw [(List.mem_replicate.1 ho).2]; exact ⟨nearO_lo _, nearO_hi _⟩
theorem origins_in (n : Nat) (rs : List (Int × Int)) : ∀ o ∈ origins n rs, 0 ≤ o ∧ o ≤ 65536 := by
  intro o ho
  rcases List.mem_append.1 ho with ho | ho
  · exact pre_in n rs o ho
  · rw [(List.mem_replicate.1 ho).2]; omega

/-- runs as taken -/
def taken (n : Nat) (rs : List (Int × Int)) : List (Int × Int) := comp (origins n rs)
/-- the cells of runs -/
def runCells (rs : List (Int × Int)) : List Value := rs.flatMap fun r => [.int .i64 r.1, .int .i64 r.2]
theorem runCells_length (rs : List (Int × Int)) : (runCells rs).length = rs.length * 2 := by
  induction rs with
  | nil => rfl
  | cons r rs ih => simp only [runCells, List.flatMap_cons, List.length_append, List.length_cons, List.length_nil] at ih ⊢; omega
theorem runCells_append (a b : List (Int × Int)) : runCells (a ++ b) = runCells a ++ runCells b := by simp [runCells]
theorem runCells_one (n o : Int) : runCells [(n, o)] = [.int .i64 n, .int .i64 o] := rfl
theorem runCells_fst (rs : List (Int × Int)) (k : Nat) (h : k < rs.length) : (runCells rs)[k * 2]? = some (.int .i64 (rs.getD k (0, 0)).1) := by
  have e : rs = rs.take k ++ (rs.getD k (0, 0) :: rs.drop (k + 1)) := by
    conv => lhs; rw [← List.take_append_drop k rs]
    rw [List.drop_eq_getElem_cons h]; simp [List.getD, List.getElem?_eq_getElem h]
  have hl : (runCells (rs.take k)).length = k * 2 := by rw [runCells_length, List.length_take]; omega
  have e2 := congrArg runCells e
  rw [runCells_append] at e2
  rw [e2, List.getElem?_append_right (by omega), hl]
  simp [runCells]
theorem runCells_snd (rs : List (Int × Int)) (k : Nat) (h : k < rs.length) : (runCells rs)[k * 2 + 1]? = some (.int .i64 (rs.getD k (0, 0)).2) := by
  have e : rs = rs.take k ++ (rs.getD k (0, 0) :: rs.drop (k + 1)) := by
    conv => lhs; rw [← List.take_append_drop k rs]
    rw [List.drop_eq_getElem_cons h]; simp [List.getD, List.getElem?_eq_getElem h]
  have hl : (runCells (rs.take k)).length = k * 2 := by rw [runCells_length, List.length_take]; omega
  have e2 := congrArg runCells e
  rw [runCells_append] at e2
  rw [e2, List.getElem?_append_right (by omega), hl, show k * 2 + 1 - k * 2 = 1 by omega]
  simp [runCells]
theorem runCells_one' (rs : List (Int × Int)) : ∀ u ∈ runCells rs, u.oneCell' = true := by
  intro u hu
  simp only [runCells, List.mem_flatMap, List.mem_cons, List.not_mem_nil, or_false] at hu
  obtain ⟨r, _, h | h⟩ := hu <;> subst h <;> rfl

/-- the cells of bytes with origins -/
def chCells (l : List (UInt8 × Int)) : List Value := l.flatMap fun c => [.int .u8 c.1.toNat, .int .i64 c.2]
theorem chCells_length (l : List (UInt8 × Int)) : (chCells l).length = l.length * 2 := by
  induction l with
  | nil => rfl
  | cons r l ih => simp only [chCells, List.flatMap_cons, List.length_append, List.length_cons, List.length_nil] at ih ⊢; omega
theorem chCells_append (a b : List (UInt8 × Int)) : chCells (a ++ b) = chCells a ++ chCells b := by simp [chCells]
theorem chCells_fst (l : List (UInt8 × Int)) (k : Nat) (h : k < l.length) : (chCells l)[k * 2]? = some (.int .u8 (l.getD k (0, 0)).1.toNat) := by
  have e : l = l.take k ++ (l.getD k (0, 0) :: l.drop (k + 1)) := by
    conv => lhs; rw [← List.take_append_drop k l]
    rw [List.drop_eq_getElem_cons h]; simp [List.getD, List.getElem?_eq_getElem h]
  have hl : (chCells (l.take k)).length = k * 2 := by rw [chCells_length, List.length_take]; omega
  have e2 := congrArg chCells e
  rw [chCells_append] at e2
  rw [e2, List.getElem?_append_right (by omega), hl]
  simp [chCells]
theorem chCells_snd (l : List (UInt8 × Int)) (k : Nat) (h : k < l.length) : (chCells l)[k * 2 + 1]? = some (.int .i64 (l.getD k (0, 0)).2) := by
  have e : l = l.take k ++ (l.getD k (0, 0) :: l.drop (k + 1)) := by
    conv => lhs; rw [← List.take_append_drop k l]
    rw [List.drop_eq_getElem_cons h]; simp [List.getD, List.getElem?_eq_getElem h]
  have hl : (chCells (l.take k)).length = k * 2 := by rw [chCells_length, List.length_take]; omega
  have e2 := congrArg chCells e
  rw [chCells_append] at e2
  rw [e2, List.getElem?_append_right (by omega), hl, show k * 2 + 1 - k * 2 = 1 by omega]
  simp [chCells]
theorem chCells_snoc (l : List (UInt8 × Int)) (b : UInt8) (o : Int) : chCells (l ++ [(b, o)]) = chCells l ++ [.int .u8 b.toNat, .int .i64 o] := by rw [chCells_append]; rfl

/-- the bytes with their origins -/
def chars (s : List UInt8) (rs : List (Int × Int)) : List (UInt8 × Int) := s.zip (origins s.length rs)
theorem chars_fst (s : List UInt8) (rs : List (Int × Int)) : (chars s rs).map (·.1) = s := by
  unfold chars; rw [List.map_fst_zip]; rw [origins_length]; exact Nat.le_refl _
theorem chars_snd (s : List UInt8) (rs : List (Int × Int)) : (chars s rs).map (·.2) = origins s.length rs := by
  unfold chars; rw [List.map_snd_zip]; rw [origins_length]; exact Nat.le_refl _
theorem chars_length (s : List UInt8) (rs : List (Int × Int)) : (chars s rs).length = s.length := by
  unfold chars; rw [List.length_zip, origins_length]; omega
theorem chars_ext {a b : List (UInt8 × Int)} (h1 : a.map (·.1) = b.map (·.1)) (h2 : a.map (·.2) = b.map (·.2)) : a = b := by
  induction a generalizing b with
  | nil => cases b with
    | nil => rfl
    | cons y b => simp at h1
  | cons x a ih => cases b with
    | nil => simp at h1
    | cons y b =>
      simp only [List.map_cons, List.cons.injEq] at h1 h2
      rw [ih h1.2 h2.2, Prod.ext h1.1 h2.1]

end Go.Proofs.YtddgabjhligeeaaGreat.mk

namespace Go.Proofs.YtddgabjhligeeaaGreat.mk

/-- how many bytes a right sequence that begins with a byte has (0: none), and between which the second one lies -/
def shp (n : Nat) : Nat × Nat × Nat :=
  if n < 128 then (1, 0, 0) else if n < 194 then (0, 0, 0) else if n < 224 then (2, 128, 191) else if n = 224 then (3, 160, 191) else if n = 237 then (3, 128, 159) else
  if n < 240 then (3, 128, 191) else if n = 240 then (4, 144, 191) else if n < 244 then (4, 128, 191) else if n = 244 then (4, 128, 143) else (0, 0, 0)
theorem shp_bd (n : Nat) : (shp n).1 ≤ 4 ∧ (shp n).2.1 ≤ 160 ∧ (shp n).2.2 ≤ 191 := by
  generalize hq : shp n = q
  unfold shp at hq
  iterate 9 (split at hq; · subst hq; decide)
  subst hq
  decide

/-- how many bytes fit, the first of them between lo and hi, the others from 128 to 191, m at most -/
def fit : Nat → Nat → Nat → List UInt8 → Nat
  | 0, _, _, _ => 0
  | _ + 1, _, _, [] => 0
  | m + 1, lo, hi, c :: t => if lo ≤ c.toNat ∧ c.toNat ≤ hi then fit m 128 191 t + 1 else 0
theorem fit_le (m lo hi : Nat) (t : List UInt8) : fit m lo hi t ≤ m ∧ fit m lo hi t ≤ t.length := by
  induction t generalizing m lo hi with
  | nil => cases m <;> simp [fit]
  | cons c t ih =>
    cases m with
    | zero => simp [fit]
    | succ m =>
      unfold fit
      split
      · have := ih m 128 191; simp; omega
      · simp
theorem fit_full (m lo hi : Nat) (t u : List UInt8) (h : fit m lo hi t = m) : fit m lo hi (t.take m ++ u) = m := by
  induction t generalizing m lo hi with
  | nil => cases m with
    | zero => simp [fit]
    | succ m => simp [fit] at h
  | cons c t ih =>
    cases m with
    | zero => simp [fit]
    | succ m =>
      unfold fit at h
      split at h
      · rename_i hc
        simp only [List.take_succ_cons, List.cons_append]
        unfold fit
        rw [if_pos hc, ih m 128 191 (by omega)]
      · omega
theorem fit_step {m lo hi : Nat} {t : List UInt8} {c : UInt8} (h : t.head? = some c) (hc : lo ≤ c.toNat ∧ c.toNat ≤ hi) : fit (m + 1) lo hi t = fit m 128 191 (t.drop 1) + 1 := by
  cases t with
  | nil => simp at h
  | cons x t => simp at h; subst h; simp only [List.drop_succ_cons, List.drop_zero]; rw [fit, if_pos hc]
theorem fit_stop {m lo hi : Nat} {t : List UInt8} {c : UInt8} (h : t.head? = some c) (hc : ¬ (lo ≤ c.toNat ∧ c.toNat ≤ hi)) : fit m lo hi t = 0 := by
  cases t with
  | nil => simp at h
  | cons x t => simp at h; subst h; cases m with
    | zero => rfl
    | succ m => rw [fit, if_neg hc]
theorem fit_nil (m lo hi : Nat) : fit m lo hi [] = 0 := by cases m <;> rfl

/-- how many bytes come first, and whether they are right -/
def nx : List UInt8 → Nat × Bool
  | [] => (0, false)
  | b :: t => (fit ((shp b.toNat).1 - 1) (shp b.toNat).2.1 (shp b.toNat).2.2 t + 1, decide (fit ((shp b.toNat).1 - 1) (shp b.toNat).2.1 (shp b.toNat).2.2 t + 1 = (shp b.toNat).1))
theorem nx_bd {l : List UInt8} (h : l ≠ []) : 1 ≤ (nx l).1 ∧ (nx l).1 ≤ l.length := by
  cases l with
  | nil => exact absurd rfl h
  | cons b t =>
    have := fit_le ((shp b.toNat).1 - 1) (shp b.toNat).2.1 (shp b.toNat).2.2 t
    simp only [nx, List.length_cons]
    omega
theorem nx_le4 (l : List UInt8) : (nx l).1 ≤ 4 := by
  cases l with
  | nil => simp [nx]
  | cons b t =>
    have := fit_le ((shp b.toNat).1 - 1) (shp b.toNat).2.1 (shp b.toNat).2.2 t
    have := shp_bd b.toNat
    simp only [nx]
    omega
theorem nx_right {l : List UInt8} (h : (nx l).2 = true) (u : List UInt8) : nx (l.take (nx l).1 ++ u) = nx l := by
  cases l with
  | nil => simp [nx] at h
  | cons b t =>
    simp only [nx, decide_eq_true_eq] at h
    have e : fit ((shp b.toNat).1 - 1) (shp b.toNat).2.1 (shp b.toNat).2.2 t = (shp b.toNat).1 - 1 := by omega
    have hf := fit_full _ _ _ t u e
    have hn : (nx (b :: t)).1 = (shp b.toNat).1 - 1 + 1 := by simp only [nx, e]
    rw [hn, List.take_succ_cons, List.cons_append]
    simp only [nx, hf, e]

theorem partInd {p : List UInt8 → Prop} (nil : p []) (next : ∀ l, l ≠ [] → p (l.drop (nx l).1) → p l) (l : List UInt8) : p l := by
  have h : ∀ n, ∀ l : List UInt8, l.length ≤ n → p l := by
    intro n
    induction n with
    | zero => intro l hl; have e : l = [] := List.eq_nil_of_length_eq_zero (by omega); subst e; exact nil
    | succ n ih =>
      intro l hl
      by_cases e : l = []
      · subst e; exact nil
      · exact next l e (ih _ (by have := nx_bd e; rw [List.length_drop]; omega))
  exact h l.length l (Nat.le_refl _)

/-- is what comes first replaced? -/
def soughtB (l : List UInt8) : Bool := !(nx l).2 || (l.head? == some 0)
/-- the first that is replaced: its place and its size -/
def fr (l : List UInt8) : Nat × Nat := if _h : l = [] then (0, 0) else if soughtB l then (0, (nx l).1) else ((nx l).1 + (fr (l.drop (nx l).1)).1, (fr (l.drop (nx l).1)).2)
termination_by l.length
decreasing_by all_goals (have := nx_bd _h; have : 0 < l.length := List.length_pos_iff.2 _h; rw [List.length_drop]; omega)
theorem fr_nil : fr [] = (0, 0) := by rw [fr]; rfl
theorem fr_here {l : List UInt8} (h : l ≠ []) (hs : soughtB l = true) : fr l = (0, (nx l).1) := by rw [fr, dif_neg h, if_pos hs]
theorem fr_next {l : List UInt8} (h : l ≠ []) (hs : soughtB l = false) : fr l = ((nx l).1 + (fr (l.drop (nx l).1)).1, (fr (l.drop (nx l).1)).2) := by
  conv => lhs; rw [fr, dif_neg h, if_neg (by rw [hs]; decide)]
theorem fr_bd (l : List UInt8) : (fr l).1 + (fr l).2 ≤ l.length ∧ ((fr l).2 = 0 → (fr l).1 = l.length) ∧ (fr l).2 ≤ 4 := by
  induction l using partInd with
  | nil => rw [fr_nil]; simp
  | next l h ih =>
    have hb := nx_bd h
    have h4 := nx_le4 l
    cases hs : soughtB l with
    | true => rw [fr_here h hs]; simp only; omega
    | false => rw [fr_next h hs]; rw [List.length_drop] at ih; simp only; omega
/-- is all right, and no byte 0? -/
def validB (l : List UInt8) : Bool := (fr l).2 == 0
theorem validB_nil : validB [] = true := by unfold validB; rw [fr_nil]; rfl
theorem validB_next {l : List UInt8} (h : l ≠ []) : validB l = (!soughtB l && validB (l.drop (nx l).1)) := by
  unfold validB
  have hb := nx_bd h
  cases hs : soughtB l with
  | true => rw [fr_here h hs]; simp; omega
  | false => rw [fr_next h hs]; simp

/-- the bytes that are put for what is wrong -/
def badB : List UInt8 := [239, 191, 189]
theorem nx_bad (u : List UInt8) : nx (badB ++ u) = (3, true) := rfl
theorem sought_bad (u : List UInt8) : soughtB (badB ++ u) = false := rfl

theorem take_of_right {l : List UInt8} (h : (nx l).2 = true) : l.take (nx l).1 = [0] ↔ l.head? = some 0 := by
  cases l with
  | nil => simp [nx] at h
  | cons b t =>
    have hb := nx_bd (l := b :: t) (by simp)
    constructor
    · intro e
      have := congrArg List.head? e
      rw [List.head?_take, if_neg (by omega)] at this
      simpa using this
    · intro e
      simp at e
      subst e
      rfl

end Go.Proofs.YtddgabjhligeeaaGreat.mk

namespace Go.Proofs.YtddgabjhligeeaaGreat.mk

/-- the place put to the nearest one -/
def atN (m : Nat) (f : Int) : Nat := (min (max f 0) (m : Int)).toNat
/-- the first place from a place on -/
def findI (l p : List UInt8) (f : Int) : Int :=
  if Lib.index (l.drop (atN l.length f)) p < 0 then -1 else (atN l.length f : Int) + Lib.index (l.drop (atN l.length f)) p

theorem occ_drop (l p : List UInt8) (a j : Nat) : Lib.occAt (l.drop a) p j = Lib.occAt l p (a + j) := by
  unfold Lib.occAt; rw [List.drop_drop]
theorem index_le (l p : List UInt8) : Lib.index l p ≤ l.length := by
  induction l with
  | nil => unfold Lib.index; split <;> simp
  | cons b l ih =>
    unfold Lib.index
    split
    · simp; omega
    · split
      · simp; omega
      · simp; omega
/-- whether a text begins with a part, as f takes the bytes -/
def beginsB (f : UInt8 → UInt8) (l p : List UInt8) : Bool := decide (p.length ≤ l.length) && ((l.map f).take p.length == p.map f)

/-- how many bytes stand at the beginning that are of some -/
def spanN (l : List UInt8) (p : UInt8 → Bool) : Nat := (l.takeWhile p).length
theorem spanN_stop {l : List UInt8} {p : UInt8 → Bool} {k : Nat} {x : UInt8} (h : ∀ y ∈ l.take k, p y = true) (hx : l[k]? = some x) (hp : p x = false) : spanN l p = k := by
  unfold spanN
  have hk : k < l.length := (List.getElem?_eq_some_iff.1 hx).1
  have e : l = l.take k ++ x :: l.drop (k + 1) := by
    conv => lhs; rw [← List.take_append_drop k l]
    rw [List.drop_eq_getElem_cons hk]
    rw [List.getElem?_eq_getElem hk] at hx
    injection hx with hx
    rw [hx]
  rw [e, List.takeWhile_append_of_pos h, List.takeWhile_cons_of_neg (by simp [hp]), List.append_nil, List.length_take]
  omega
theorem spanN_all {l : List UInt8} {p : UInt8 → Bool} (h : ∀ y ∈ l, p y = true) : spanN l p = l.length := by
  unfold spanN
  have := List.takeWhile_append_of_pos (l₂ := []) h
  simp at this
  rw [this]

/-- what stands between the sought, the last part beside the others -/
def cutAll {α : Type} (p : α → Bool) (l : List α) : List (List α) × List α :=
  l.foldl (fun acc x => if p x then (acc.1 ++ [acc.2], []) else (acc.1, acc.2 ++ [x])) ([], [])
/-- all parts -/
def parts {α : Type} (p : α → Bool) (l : List α) : List (List α) := (cutAll p l).1 ++ [(cutAll p l).2]
end Go.Proofs.YtddgabjhligeeaaGreat.mk

namespace Go.Proofs.YtddgabjhligeeaaGreat.mk

end Go.Proofs.YtddgabjhligeeaaGreat.mk

namespace Go.Proofs.YtddgabjhligeeaaGreat.mk
open Go.ChangeShapes

section
variable {H : Type} {enc : TypeId × Value → H}

theorem handed_shaped {a : Assume} {C : Checked} {os : Os} {f : FuncId} {fn : Func} {s : OpenSpec} {k : (H : Type) → List (DataW H) → Bool} (hk : s.cond = some k) {F : Stop.Interp} {conds : List PathCond} {apart fresh handsOn again : Bool}
    (own : ownKnob C.prog.godebug = none) (started : os.Started) (noInit : C.prog.inits.idxOf? f = none) (hfn : C.prog.funcs[f]? = some fn)
    (witness : ∃ (w : World) (tape : Tape) (i : Input), w.os = os ∧ (w.forCall tape i).Shaped C.prog ∧ i.vars = [] ∧ Input.okWide C.prog (w.forCall tape i) .any w.heap.size f i ∧
      s.pre6 enc C.prog fn conds apart (w.forCall tape i).memory i.args ∧ a.holds C.prog (lone (Frame.enter C.prog f i.args .normal) [] (w.forCall tape i)))
    (contract : ∀ (W : World) (base : Nat) (args : Array Value) (ds gs : List (DataW H)) (before : List MemPlace), W.ShapedOpen C.prog →
      (∀ (j : Nat) t v, fn.params[j]? = some t → args[j]? = some v → Value.okWide C.prog W .any base t v) →
      DataW.Whole enc C.prog fn.params.toList s.vars apart W args.toList ds gs before → k H (ds ++ gs) = true →
      Calls C.prog f args W fun e W' => ∃ v, e = .returned v ∧ (s.at F).post enc C.prog fn apart fresh handsOn again W args v W') :
    ReturnsInHanded a C os f .any (s.pre6 enc C.prog fn conds apart) ((s.at F).post enc C.prog fn apart fresh handsOn again) := by
  refine returnsInHanded_of_calls own started noInit witness ?_
  intro w tape i _ hsh _ hok hpre _
  obtain ⟨_, _, _, fn2, hfn2, _, _, _, _, hval⟩ := hok
  obtain rfl : fn2 = fn := Option.some.inj (hfn2.symm.trans hfn)
  obtain ⟨ds, gs, before, hw, _, hkk⟩ := (OpenSpec.pre_some hk conds apart _ _).1 hpre.1
  refine (contract (w.forCall tape i) w.heap.size i.args ds gs before hsh hval (DataW.Whole.of_heap (w' := w.forCall tape i) (by rfl) hw) hkk).mono fun e W' ⟨v, he, hp⟩ => ?_
  subst he
  exact ChangeSpec.post_blind hp
end

end Go.Proofs.YtddgabjhligeeaaGreat.mk
