/-
  CleanTells, where what comes in is of bulk at most 1048576: what Views leaves of any views, and Attrs of any attributes, is as the page says, byte by byte, with its origins; a script that is not trusted is nothing.
  Conditions: none beside the bound that the statement itself names.
-/
import Derived.Test.YtnbdldapmllegaaGreatJsAT
import Derived.Test.YtnbdldapmllegaaGreatJsAQ
import Derived.Test.YtnbdldapmllegaaGreatJsM
import Derived.Test.YtnbdldapmllegaaGreatJsD
namespace Go.Proofs.YtnbdldapmllegaaGreat.cleanTells
open Go.ChangeShapes Go.WideShapes Go.ChangeAt Go.RowKit Go.Proofs.YtnbdldapmllegaaGreat.mk

set_option maxRecDepth 100000 in
theorem contract (hVS : ∀ mx, ViewsSays mx) (hTS : ∀ mx, AttrsSays mx) (hAS : ∀ mx, AliveSays mx) (H : Type) (enc : TypeId × Value → H) (W : World) (args : Array Value) (ds gs : List (DataW H)) (before : List MemPlace) (base : Nat) (hsh : W.ShapedOpen Tryz.prog)
    (hval : ∀ (j : Nat) t v, Tryz.f3.params[j]? = some t → args[j]? = some v → Value.okWide Tryz.prog W .any base t v)
    (hW : DataW.Whole enc Tryz.prog Tryz.f3.params.toList Rows.cleanTellsSpec.vars false W args.toList ds gs before) (hk : Rows.uptoSmall H (ds ++ gs) = true) :
    Calls Tryz.prog 3 args W fun e W' => ∃ v, e = .returned v ∧ Rows.cleanTellsSpec.post enc Tryz.prog Tryz.f3 false true false false W args v W' := by
  obtain ⟨p, q, hA0, hV, rfl, hfz, hnd⟩ := id hW
  have hA : DataW.TrodAll enc Tryz.prog W 0 (fun _ => true) true Tryz.f3.params.toList args.toList ds p := hA0
  rw [Tryz.params3] at hA hval
  obtain ⟨v0, vs0, d0, ds0, p0, q0, hargs, rfl, rfl, h0, r0⟩ := trodAll_cons hA
  obtain ⟨v1, vs1, d1, ds1, p1, q1, rfl, rfl, rfl, h1, r1⟩ := trodAll_cons r0
  obtain ⟨rfl, rfl, rfl⟩ := trodAll_nil r1
  obtain rfl : args = #[v0, v1] := by cases args; simp_all
  obtain ⟨rfl, rfl⟩ := trodVars_none hV
  have hbk := bulk_bound hk
  simp only [List.append_nil, Rows.uptoBulkAll] at hbk
  have hbk2 : Rows.uptoBulk d0 + Rows.uptoBulk d1 ≤ 1048576 := by omega
  obtain ⟨fuel0, hf0⟩ := h0
  obtain ⟨L0, m0, c0, rfl⟩ := okWide_slice Tryz.underlying22 (hval 0 22 v0 rfl rfl)
  obtain ⟨L0', m0', c0', ts0, hv0, hl0, hm0, hLc0, hmc0, hok0, hsz0⟩ := open_views hf0 (by show Rows.uptoBulk d0 ≤ 1048576; omega)
  cases hv0
  have hsz : bkV (chV ts0) ≤ 1048576 := by have h9 : bkV (chV ts0) + 1 ≤ Rows.uptoBulk d0 := hsz0; omega
  have hnn := bkV_len (chV ts0)
  rw [chV_length] at hnn
  obtain ⟨fuel1, hf1⟩ := h1
  obtain ⟨L1, m1, c1, rfl⟩ := okWide_slice Tryz.underlying23 (hval 1 23 v1 rfl rfl)
  obtain ⟨L1', m1', c1', ats, hv1, hl1, hm1, hLc1, hmc1, hok1, hsz1⟩ := open_attsZ hf1 (by show Rows.uptoBulk d1 ≤ 1048576; omega)
  cases hv1
  have hsz2 : atWs (ats.map AT.ch) ≤ 1048576 := by have h9 : atWs (ats.map AT.ch) + 1 ≤ Rows.uptoBulk d1 := hsz1; omega
  have hnn2 := atWs_len (ats.map AT.ch)
  rw [List.length_map] at hnn2
  have hvl : ∀ a ∈ ats, a.vl.s.size ≤ 16777216 := fun a ha => by
    obtain ⟨l1, l2, rfl⟩ := List.append_of_mem ha
    rw [List.map_append, List.map_cons, atWs_append, atWs_cons] at hsz2
    have h9 : (AT.ch a).2.length = a.vl.s.size := LT.ch_length a.vl
    omega
  obtain ⟨mx, hmx⟩ := Tryz.maxLen_cell hsh
  refine (cleanTells_of (hVS mx) (hTS mx) (hAS mx) L0 m0 c0 ts0 L1 m1 c1 ats W hmx ⟨hl0, hok0, hm0, (by omega)⟩ hsz hl1 hok1 hm1 (by omega) hvl).mono fun e W' ⟨he, hb⟩ => ?_
  subst he
  exact ⟨_, rfl, law_post (tb := 4) laidOut hW rfl ⟨rfl, rfl, rfl⟩ (by rw [Tryz.params3]; exact readable_all (by kernel_rfl)) rfl Tryz.underlying4 hb⟩

set_option maxRecDepth 100000 in
theorem lifted (hVS : ∀ mx, ViewsSays mx) (hTS : ∀ mx, AttrsSays mx) (hAS : ∀ mx, AliveSays mx) (os : Os) (started : os.Started) (H : Type) (enc : TypeId × Value → H) (F : Stop.Interp) :
    ReturnsInHanded {} Tryz.checked os 3 .any ((Rows.OpenSpec.upto Rows.cleanTellsSpec).pre6 enc Tryz.prog Tryz.f3 Rows.cleanTellsUptoRow.domain false) (((Rows.OpenSpec.upto Rows.cleanTellsSpec).at F).post enc Tryz.prog Tryz.f3 false true false false) := by
  refine handed_shaped (C := Tryz.checked) (s := Rows.OpenSpec.upto Rows.cleanTellsSpec) (k := Rows.uptoSmall) rfl own started (by kernel_rfl) Tryz.func3
    (OpenSpec.witness (enc := enc) (C := Tryz.checked) (s := Rows.OpenSpec.upto Rows.cleanTellsSpec) (k := Rows.uptoSmall) rfl false ⟨#[], #[.slice none 0 0, .slice none 0 0], []⟩ 8 (by kernel_rfl) (by kernel_rfl) (by kernel_rfl)
      (x := ([.nil, .nil], [], [])) (by kernel_rfl) rfl (by kernel_rfl)) ?_
  intro W base args ds gs before hsh hval hW hk
  exact contract hVS hTS hAS H enc W args ds gs before base hsh hval hW hk

theorem proved_of (hVS : ∀ mx, ViewsSays mx) (hTS : ∀ mx, AttrsSays mx) (hAS : ∀ mx, AliveSays mx) : Rows.CleanTellsUptoSaid :=
  OpenClaim.holds_of_cond 3 Tryz.f3 rfl rfl rfl rfl rfl rfl rfl ⟨rfl, rfl, rfl, rfl, rfl⟩ rfl rfl rfl rfl rfl (by kernel_rfl) Tryz.func3 (by kernel_rfl)
    (of_decide_eq_true (by kernel_rfl)) (by unfold Func.isWrapper; first | (rw [if_pos (by decide +kernel)]; kernel_rfl) | (rw [if_neg (by decide +kernel)]; exact ⟨rfl, rfl⟩))
    (fun os started H enc _ F => lifted hVS hTS hAS os started H enc F)

end Go.Proofs.YtnbdldapmllegaaGreat.cleanTells

namespace Go.Proofs.YtnbdldapmllegaaGreat.cleanTells
open Go.Proofs.YtnbdldapmllegaaGreat.mk

theorem proved : Rows.CleanTellsUptoSaid := proved_of views_says attrs_says alive_says

end Go.Proofs.YtnbdldapmllegaaGreat.cleanTells
