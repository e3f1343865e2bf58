/-
  The contract of mark's Cat.
-/
import Derived.Test.YtfmjnmijhbnnjaaMarkFix
namespace Go.Proofs.Ytfmjnmijhbnnjaa.mk
open Go.RowKit

/-- a labelled text as it lies in memory -/
structure LT where
  s : ByteArray
  A : Option Addr
  n : Nat
  c : Nat
  rs : List (Int × Int)
def LT.v (t : LT) : Value := .agg #[.string t.s, .slice t.A t.n t.c]
def LT.ok (w : World) (B : Nat) (t : LT) : Prop := Lies w B t.A (runCells t.rs) ∧ t.rs.length = t.n ∧ t.n ≤ 4294967296 ∧ t.s.size ≤ 4294967296
def LT.os (t : LT) : List Int := origins t.s.size t.rs
def LT.bs (t : LT) : List UInt8 := t.s.data.toList
theorem LT.os_length (t : LT) : t.os.length = t.s.size := origins_length _ _
theorem LT.bs_length (t : LT) : t.bs.length = t.s.size := by unfold LT.bs; rw [Array.length_toList]; rfl
theorem LT.ok.next {w0 w : World} {B : Nat} {t : LT} (h : t.ok w0 B) (hb : Below B w0 w) (hz : B ≤ w0.heap.size) : t.ok w w.heap.size := ⟨h.1.next hb hz, h.2⟩

def ltCells (ts : List LT) : List Value := ts.flatMap fun t => [.string t.s, .slice t.A t.n t.c]
theorem ltCells_length (ts : List LT) : (ltCells ts).length = ts.length * 2 := by
  induction ts with
  | nil => rfl
  | cons r l ih => simp only [ltCells, List.flatMap_cons, List.length_append, List.length_cons, List.length_nil] at ih ⊢; omega
theorem ltCells_at (ts : List LT) (k : Nat) (t : LT) (h : ts[k]? = some t) : (ltCells ts)[k * 2]? = some (.string t.s) ∧ (ltCells ts)[k * 2 + 1]? = some (.slice t.A t.n t.c) := by
  induction ts generalizing k with
  | nil => simp at h
  | cons x ts ih =>
    have e : ltCells (x :: ts) = .string x.s :: .slice x.A x.n x.c :: ltCells ts := rfl
    rw [e]
    cases k with
    | zero => simp at h; subst h; simp
    | succ k =>
      have := ih k (by simpa using h)
      rw [show (k + 1) * 2 = k * 2 + 1 + 1 by omega]
      simpa using this
theorem Lies.lt {w : World} {B : Nat} {A : Option Addr} {ts : List LT} (h : Lies w B A (ltCells ts)) {k : Nat} (hk : k < ts.length) :
    ∃ ad t, A = some ad ∧ ad.block < B ∧ w.cell? (ad.add (k * 2)) = some (.string t.s) ∧ w.cell? ⟨(ad.add (k * 2)).block, (ad.add (k * 2)).off + 1, none⟩ = some (.slice t.A t.n t.c) ∧ Hid (ts[k]? = some t) := by
  obtain ⟨h1, h2⟩ := ltCells_at ts k ts[k] (List.getElem?_eq_getElem hk)
  obtain ⟨ad, e, hb, hc⟩ := h _ _ h1
  obtain ⟨ad', e', _, hc'⟩ := h _ _ h2
  rw [e] at e'
  injection e' with e'
  subst e'
  rw [addr_next] at hc'
  exact ⟨ad, ts[k], e, hb, hc, hc', List.getElem?_eq_getElem hk⟩

/-- a builder stays while its block and its row of bytes stay -/
theorem builder_same {T B b : Nat} {bs : List Value} {w w' : World} (h : Lib.IsBuilderF T 5 B b bs w) (hk : ∀ (k : Nat) (o : Obj), w.heap[k]? = some o → (∀ c fz, o ≠ .cells c 45 fz) → w'.heap[k]? = some o) (hT : T ≠ 45) : Lib.IsBuilderF T 5 B b bs w' := by
  have key : ∀ p, Lib.BuilderAtF T 5 B b p bs w → Lib.BuilderAtF T 5 B b p bs w' := by
    rintro p ⟨hB, v, hbk, hown, hne⟩
    refine ⟨hB, v, hk _ _ hbk (by intro c fz e; injection e with _ e _; exact hT e), ⟨hown.1, ?_⟩, hne⟩
    rcases hown.2 with h0 | ⟨g, cap, cur, fz, hv, hg, hgg, r⟩
    · exact .inl h0
    · exact .inr ⟨g, cap, cur, fz, hv, hg, hk _ _ hgg (by intro c fz' e; injection e with _ e _; exact absurd e (by decide)), r⟩
  rcases h with h | h
  · exact .inl (key _ h)
  · exact .inr (key _ h)
theorem builder_below {T B b : Nat} {bs : List Value} {w w' : World} (h : Lib.IsBuilderF T 5 B b bs w) (hb : Below w.heap.size w w') (hT : T ≠ 45) : Lib.IsBuilderF T 5 B b bs w' :=
  builder_same h (fun k _ hk _ => (hb.block k (Array.getElem?_eq_some_iff.1 hk).1).trans hk) hT
/-- a row of runs lies in a block of runs -/
theorem own_kind {w : World} {base n : Nat} {e : TypeId} {size : Nat} {v : Value} {xs : List Value} (h : w.ownsRow base e size v n xs) {g : Nat} (hg : v.ownBlock = some g) : ∃ cur, w.heap[g]? = some (.cells cur e (0, 0)) := by
  rcases h.2 with ⟨rfl, _⟩ | ⟨g', cap, cur, rfl, _, hh, _⟩
  · simp [Value.ownBlock] at hg
  · have : g' = g := by simpa [Value.ownBlock] using hg
    subst this; exact ⟨cur, hh⟩
theorem builder_grown {T B b : Nat} {bs : List Value} {w w' : World} {base n : Nat} {v : Value} {xs : List Value} (h : Lib.IsBuilderF T 5 B b bs w) (hown : w.ownsRow base 45 2 v n xs) (hg : w.grownBy w' v.ownBlock) (hT : T ≠ 45) : Lib.IsBuilderF T 5 B b bs w' := by
  refine builder_same h (fun k o hk hno => ?_) hT
  rw [hg.block k (Array.getElem?_eq_some_iff.1 hk).1 (fun e => ?_)]
  · exact hk
  · obtain ⟨cur, hc⟩ := own_kind hown e.symm
    rw [hk] at hc
    injection hc with hc
    exact hno _ _ hc
theorem builder_alloc {T B b : Nat} {bs : List Value} {w : World} (h : Lib.IsBuilderF T 5 B b bs w) (o : Obj) (hT : T ≠ 45) : Lib.IsBuilderF T 5 B b bs (w.alloc o) :=
  builder_below h ((Below.refl _ _).alloc (Nat.le_refl _) o) hT
/-- a row of runs stays while a builder writes -/
theorem own_others {w w' : World} {base n : Nat} {v : Value} {xs : List Value} {b : Nat} (h : w.ownsRow base 45 2 v n xs) (hk : Lib.OthersKept 5 (some b) w w') (hb : b < base) : w'.ownsRow base 45 2 v n xs := by
  refine own_same h fun g hg => ?_
  obtain ⟨cur, hc⟩ := own_kind h hg
  rw [hk g _ hc (by have := (h.lt g hg).1; intro e; injection e with e; omega) (by intro c fz e; injection e with _ e _; exact absurd e (by decide)), hc]
theorem strCells_byteCells (s : ByteArray) : Lib.strCells s = Lib.byteCells s.data.toList := rfl
theorem byteCells_append (a b : List UInt8) : Lib.byteCells (a ++ b) = Lib.byteCells a ++ Lib.byteCells b := by simp [Lib.byteCells]

/-- bytes and origins of texts, one behind the other -/
def catBs (ts : List LT) : List UInt8 := ts.flatMap LT.bs
def catOs (ts : List LT) : List Int := ts.flatMap LT.os
theorem catBs_length (ts : List LT) : (catBs ts).length = (catOs ts).length := by
  induction ts with
  | nil => rfl
  | cons t ts ih => simp only [catBs, catOs, List.flatMap_cons, List.length_append, LT.os_length, LT.bs_length] at ih ⊢; omega
theorem cat_take_le (ts : List LT) (k : Nat) : (catOs (ts.take k)).length ≤ (catOs ts).length := by
  have h : (catOs (ts.take k ++ ts.drop k)).length = (catOs ts).length := by rw [List.take_append_drop]
  rw [← h]
  unfold catOs
  rw [List.flatMap_append, List.length_append]
  omega
theorem expand_take_le (l : List Int) (j : Nat) : (expand ((comp l).take j)).length ≤ l.length := by
  have : l.length = (expand (comp l)).length := by rw [expand_comp]
  rw [this]
  have h : (expand ((comp l).take j ++ (comp l).drop j)).length = (expand (comp l)).length := by rw [List.take_append_drop]
  rw [← h, expand_append, List.length_append]
  omega
theorem catOs_next {ts : List LT} {k : Nat} {t : LT} (h : ts[k]? = some t) : catOs (ts.take (k + 1)) = catOs (ts.take k) ++ t.os := by rw [take_next h]; simp [catOs]
theorem catBs_next {ts : List LT} {k : Nat} {t : LT} (h : ts[k]? = some t) : catBs (ts.take (k + 1)) = catBs (ts.take k) ++ t.bs := by rw [take_next h]; simp [catBs]

def CatOut (ts : List LT) (m B : Nat) (w0 : World) (r i : Value) (wr : World) : Prop :=
  ∃ k : Nat, k ≤ m ∧ i = .int .i64 k ∧ wr.ownsRow (B + 2) 45 2 r (comp (catOs (ts.take k))).length (runCells (comp (catOs (ts.take k)))) ∧
    Lib.IsBuilderF 59 5 (B + 1) (B + 1) (Lib.byteCells (catBs (ts.take k))) wr ∧ Below (B + 1) w0 wr
def CatIn (os qs : List Int) (bs : List UInt8) (ta : Value) (Bt B : Nat) (w0 : World) (r i : Value) (wr : World) : Prop :=
  ∃ j : Nat, j ≤ (comp qs).length ∧ i = .int .i64 j ∧ wr.ownsRow (B + 2) 45 2 r (comp (os ++ expand ((comp qs).take j))).length (runCells (comp (os ++ expand ((comp qs).take j)))) ∧
    wr.ownsRow Bt 45 2 ta (comp qs).length (runCells (comp qs)) ∧ (∀ g, r.ownBlock = some g → ta.ownBlock ≠ some g) ∧
    Lib.IsBuilderF 59 5 (B + 1) (B + 1) (Lib.byteCells bs) wr ∧ Below (B + 1) w0 wr

/-- a round of the inner loop: what join leaves -/
theorem cat_in {os qs : List Int} {bs : List UInt8} {ta r v' : Value} {Bt B j : Nat} {w0 wr w' : World} {l o : Int} {ob : Obj} (hB : B + 2 ≤ wr.heap.size)
    (hr : (comp qs)[j]? = some (l, o)) (hown : wr.ownsRow (B + 2) 45 2 r (comp (os ++ expand ((comp qs).take j))).length (runCells (comp (os ++ expand ((comp qs).take j)))))
    (hta : wr.ownsRow Bt 45 2 ta (comp qs).length (runCells (comp qs))) (hne : ∀ g, r.ownBlock = some g → ta.ownBlock ≠ some g)
    (hbu : Lib.IsBuilderF 59 5 (B + 1) (B + 1) (Lib.byteCells bs) wr) (hbw : Below (B + 1) w0 wr)
    (h1 : w'.ownsRow (B + 2) 45 2 v' (comp (os ++ expand ((comp qs).take j) ++ List.replicate l.toNat o)).length (runCells (comp (os ++ expand ((comp qs).take j) ++ List.replicate l.toNat o))))
    (hg : (wr.alloc ob).grownBy w' r.ownBlock) (hat : v'.ownBlock = r.ownBlock ∨ ∃ k, (wr.alloc ob).heap.size ≤ k ∧ v'.ownBlock = some k) :
    CatIn os qs bs ta Bt B w0 v' (.int .i64 ((j : Int) + 1)) w' := by
  have hj : j < (comp qs).length := (List.getElem?_eq_some_iff.1 hr).1
  have e : expand ((comp qs).take (j + 1)) = expand ((comp qs).take j) ++ List.replicate l.toNat o := by rw [take_next hr, expand_append]; simp [expand]
  refine ⟨j + 1, by omega, by simp, ?_, ?_, ?_, ?_, ?_⟩
  · rw [e, ← List.append_assoc]; exact h1
  · refine (hta.alloc ob).kept hg ?_
    cases hr : r.ownBlock with
    | none => cases ht : ta.ownBlock <;> simp
    | some g => exact .inr (hne g hr)
  · intro g hgv
    rcases hat with h | ⟨k, hk, h⟩
    · exact hne g (h.symm.trans hgv)
    · rw [h] at hgv
      injection hgv with hgv
      subst hgv
      intro e2
      have := (hta.lt _ e2).2
      simp at hk
      omega
  · exact builder_grown (builder_alloc hbu ob (by decide)) (hown.alloc ob) hg (by decide)
  · exact (hbw.alloc (by omega) ob).grown hg (by simp; omega) (fun k hk => by have := (hown.lt k hk).1; omega)

set_option maxHeartbeats 2000000 in
set_option maxRecDepth 100000 in
theorem cat_any (L : Option Addr) (m c : Nat) (ts : List LT) (w : World) (hl : Lies w w.heap.size L (ltCells ts)) (hm : ts.length = m) (hm2 : m ≤ 4294967296) (hok : ∀ t ∈ ts, t.ok w w.heap.size) (hsz : (catOs ts).length ≤ 4294967296) :
    Calls Try.prog 22 #[.slice L m c] w (Tells ⟨(catBs ts).toArray⟩ (comp (catOs ts)) w) := by
  have HM := Lib.hid hm
  have HOK := Lib.hid hok
  clear hm hok
  go_enter Try.func22, Try.ntmps22
  go_wp2_with fail
  generalize hw0 : (w.alloc (.cells #[.string ⟨#[]⟩, .slice none 0 0] 24)).alloc (.cells #[.pointer none, .slice none 0 0] 59) = w0
  have y0 : Whole w0 w.heap.size 24 #[.string ⟨#[]⟩, .slice none 0 0] := by rw [← hw0]; exact (Whole.made w _ _).alloc _
  have hz1 : w.heap.size + 2 ≤ w0.heap.size := by rw [← hw0]; simp
  have hz0 : w.heap.size + 1 ≤ w0.heap.size := by omega
  have hl0 : Lies w0 (w.heap.size + 1) L (ltCells ts) := by rw [← hw0]; exact ((hl.alloc (Nat.le_refl _) _).alloc (by simp) _).mono (by omega)
  have hb0 : Below w.heap.size w w0 := by rw [← hw0]; exact ((Below.refl _ _).alloc (Nat.le_refl _) _).alloc (by simp) _
  have hi0 : Lib.IsBuilderF 59 5 (w.heap.size + 1) (w.heap.size + 1) (Lib.byteCells []) w0 := by
    rw [← hw0]
    have h := Lib.fresh_isBuilder 59 5 (w.alloc (.cells #[.string ⟨#[]⟩, .slice none 0 0] 24))
    simp only [World.size_alloc] at h
    exact Lib.IsBuilderF.of h
  have HW := Lib.hid hw0
  clear hw0
  go_loopw [4, 11] (CatOut ts m w.heap.size w0) (fun _ i _ => m - (intOf i).toNat)
  case atStart => exact ⟨0, Nat.zero_le _, rfl, World.ownsRow_nil _ _ _ _, hi0, Below.refl _ _⟩
  case round =>
    obtain ⟨k, hk, rfl, hown, hbu, hbl⟩ := hrel
    have hws := hbl.size
    by_cases hlt : k < m
    · obtain ⟨ad, t, rfl, hb, hc1, hc2, HR⟩ := (hl0.below hbl).lt (k := k) (by rw [HM.out]; exact hlt)
      have htk := HOK.out t (List.mem_of_getElem? HR.out)
      have hlen1 := cat_take_le ts (k + 1)
      rw [catOs_next HR.out, List.length_append, LT.os_length] at hlen1
      have HOS := Lib.hid (catOs_next HR.out)
      have HBS := Lib.hid (catBs_next HR.out)
      have hbsl := catBs_length (ts.take k)
      generalize hos : catOs (ts.take k) = os at *
      generalize hbs : catBs (ts.take k) = bs at *
      have hbsl' : bs.length ≤ os.length := by omega
      have HX := Lib.hid htk
      have H1 := Lib.hid hos
      have H2 := Lib.hid hbs
      clear hos hbs htk hbsl
      go_wp2_with fail
      refine (writeString_any (w.heap.size + 1) (w.heap.size + 1) (Lib.byteCells bs) t.s _ (builder_alloc hbu _ (by decide)) (by rw [Lib.byteCells_length]; omega) (by simp; omega)).mono ?_
      rintro e w1 ⟨rfl, hbu1, hbl1, hoth1⟩
      have hcp : Whole w1 wr.heap.size 24 #[.string t.s, .slice t.A t.n t.c] := hoth1 _ _ (Whole.made wr _ _) (by intro e; injection e with e; omega) (by intro c fz e; injection e with _ e _; exact absurd e (by decide))
      have hown1 := own_others (hown.alloc _) hoth1 (by omega)
      have hbw1 : Below (w.heap.size + 1) w0 w1 := (hbl.alloc (by omega) _).trans hbl1
      have hws1 := hbl1.size
      simp only [World.size_alloc] at hws1
      have d0 : w1.cell? ⟨wr.heap.size, 0, none⟩ = some (.string t.s) := hcp.at_ 0
      have d1 : w1.cell? ⟨wr.heap.size, 1, none⟩ = some (.slice t.A t.n t.c) := hcp.at_ 1
      have hbu1' : Lib.IsBuilderF 59 5 (w.heap.size + 1) (w.heap.size + 1) (Lib.byteCells (bs ++ t.bs)) w1 := by
        rw [byteCells_append]; exact .inr hbu1
      have HLT : Lies w1 w1.heap.size t.A (runCells t.rs) := (HX.out.1.next hb0 (Nat.le_refl _)).mono (Nat.le_refl _) |> fun h => ((HX.out.1.below hb0).mono (Nat.le_succ _)).next hbw1 hz0
      clear hbu1 hoth1 hbl1 hown hbu hbl hc1 hc2
      go_wp2_with fail
      refine (taken_any t.s t.A t.n t.c t.rs _ HLT HX.out.2.1 HX.out.2.2.2 HX.out.2.2.1).mono ?_
      rintro e w2 ⟨ta, rfl, hta, hbT⟩
      have hown2 := own_keep hown1 hbT
      have hbu2 := builder_below hbu1' hbT (by decide)
      have hbw2 := below_next hbw1 hz0 hbT
      have hne0 : ∀ g, u4.ownBlock = some g → ta.ownBlock ≠ some g := fun g hg e => by have h1 := (hown1.lt g hg).2; have h2 := (hta.lt g e).1; omega
      obtain ⟨At, ct, rfl, _, _, _⟩ := own_form hta
      have hcl : (comp (origins t.s.size t.rs)).length ≤ t.s.size := by have h := comp_length_le (origins t.s.size t.rs); rw [origins_length] at h; exact h
      have hws2 := hbT.size
      clear hown1 hbu1' hbw1 d0 d1 hcp HLT hbT
      unfold taken at *
      generalize hqs : origins t.s.size t.rs = qs at *
      have hql : qs.length = t.s.size := by rw [← hqs]; exact origins_length _ _
      have HQS := Lib.hid hqs
      have HQL := Lib.hid hql
      have hql' : qs.length ≤ t.s.size := by omega
      clear hqs hql
      have HCAT := Lib.hid (show os ++ expand (comp qs) = os ++ t.os by rw [expand_comp, ← HQS.out]; rfl)
      go_wp2_with fail
      obtain ⟨wo, rfl⟩ : ∃ wo : World, wo = w2 := ⟨_, rfl⟩
      go_loopw [4, 21] (CatIn os qs (bs ++ t.bs) (.slice At (comp qs).length ct) w1.heap.size w.heap.size w0) (fun _ i _ => (comp qs).length - (intOf i).toNat)
      case atStart => exact ⟨0, Nat.zero_le _, rfl, by simpa [expand] using hown2, hta, hne0, hbu2, hbw2⟩
      case round =>
        obtain ⟨j, hj, rfl, hown3, hta3, hne3, hbu3, hbw3⟩ := hrel
        have hws3 := hbw3.size
        have hexl := expand_take_le qs j
        by_cases hjl : j < (comp qs).length
        · obtain ⟨ad', l, o, rfl, hbA, hd1, hd2, HR2⟩ := (Lies.own hta3).run (k := j) hjl
          have hlo : l ≤ qs.length := comp_le qs (l, o) (List.mem_of_getElem? HR2.out)
          have H3 := Lib.hid hown3
          have H4 := Lib.hid hta3
          have H5 := Lib.hid hne3
          clear hown3 hta3 hne3 hne0 hta hown2
          have hjb : j ≤ 4294967296 := by omega
          generalize hz : (comp qs).length = z at *
          have HZ := Lib.hid hz
          clear hz
          go_wp2_with fail
          refine (join_comp (w.heap.size + 2) u4 (os ++ expand ((comp qs).take j)) l o _ (H3.out.alloc _) (by simp; omega) (by rw [List.length_append]; omega) (by omega)).mono ?_
          rintro e w5 ⟨v', rfl, hown5, hg5, hat5⟩
          have HIN := Lib.hid (cat_in (by omega) HR2.out H3.out (by rw [HZ.out]; exact H4.out) H5.out hbu3 hbw3 hown5 hg5 hat5)
          clear hg5 hat5 hown5
          go_wp2
          go_roundw
          case rel => exact HIN.out
          case measure => simp [intOf]; omega
        · have H3 := hown3
          rw [List.take_of_length_le (by omega), HCAT.out, ← HOS.out] at H3
          have HB3 := hbu3
          rw [← HBS.out] at HB3
          generalize hz : (comp qs).length = z at *
          go_wp2
          go_roundw
          case rel => exact ⟨k + 1, by omega, by go_num, H3, HB3, hbw3⟩
          case measure => simp [intOf]; omega
    · have HT := Lib.hid (show ts.take k = ts from List.take_of_length_le (by have := HM.out; omega))
      rw [HT.out] at hown hbu
      go_wp2_with fail
      refine (Try.Builder_String_any_k (w.heap.size + 1) (w.heap.size + 1) (catBs ts) wr hbu (by omega)).mono ?_
      rintro e w1 ⟨rfl, _, hbl1, hoth⟩
      have hown1 := own_others hown hoth (by omega)
      have hW := (y0.below hbl (Nat.lt_succ_self _)).below hbl1 (Nat.lt_succ_self _)
      obtain ⟨A', c', rfl, _, _, _⟩ := own_form hown1
      have f0 := hW.free 0
      have f1 := hW.free 1
      have c0 : w1.cell? ⟨w.heap.size, 0, none⟩ = some (.string ⟨#[]⟩) := hW.at_ 0
      have c1 : w1.cell? ⟨w.heap.size, 1, none⟩ = some (.slice none 0 0) := hW.at_ 1
      have HO := Lib.hid hown1
      clear hown1 hown
      go_wp2
      refine bodyPost_ret (v := .agg #[.string ⟨(catBs ts).toArray⟩, .slice A' (comp (catOs ts)).length c']) ?_ rfl ?_
      · simp [results, Try.results22, go_sem, c0, c1]
      · exact tells_end (Nat.le_refl _) (own_mono HO.out (by omega)) (hb0.trans ((hbl.trans hbl1).mono (Nat.le_succ _)))

end Go.Proofs.Ytfmjnmijhbnnjaa.mk
