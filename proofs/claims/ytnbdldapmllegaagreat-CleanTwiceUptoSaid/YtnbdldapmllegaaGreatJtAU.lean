/-
  CleanTwice, lifted to its statement, over what Views tells and what alive says.
-/
import Derived.Test.YtnbdldapmllegaaGreatJtAP
import Derived.Test.YtnbdldapmllegaaGreatJtAQ
import Derived.Test.YtnbdldapmllegaaGreatJtM
import Derived.Test.YtnbdldapmllegaaGreatJtD
namespace Go.Proofs.YtnbdldapmllegaaGreat.cleanTwice
open Go.ChangeShapes Go.WideShapes Go.ChangeAt Go.RowKit Go.Proofs.YtnbdldapmllegaaGreat.mk

set_option maxRecDepth 100000 in
theorem contract (hVS : ∀ mx, ViewsSays mx) (hAS : ∀ mx, AliveSays mx) (H : Type) (enc : TypeId × Value → H) (W : World) (args : Array Value) (ds gs : List (DataW H)) (before : List MemPlace) (base : Nat) (hsh : W.ShapedOpen Tryz.prog)
    (hval : ∀ (j : Nat) t v, Tryz.f4.params[j]? = some t → args[j]? = some v → Value.okWide Tryz.prog W .any base t v)
    (hW : DataW.Whole enc Tryz.prog Tryz.f4.params.toList Rows.cleanTwiceSpec.vars false W args.toList ds gs before) (hk : Rows.uptoSmall H (ds ++ gs) = true) :
    Calls Tryz.prog 4 args W fun e W' => ∃ v, e = .returned v ∧ Rows.cleanTwiceSpec.post enc Tryz.prog Tryz.f4 false true false false W args v W' := by
  obtain ⟨p, q, hA0, hV, rfl, hfz, hnd⟩ := id hW
  have hA : DataW.TrodAll enc Tryz.prog W 0 (fun _ => true) true Tryz.f4.params.toList args.toList ds p := hA0
  rw [Tryz.params4] at hA hval
  obtain ⟨v0, vs0, d0, ds0, p0, q0, hargs, rfl, rfl, h0, r0⟩ := trodAll_cons hA
  obtain ⟨rfl, rfl, rfl⟩ := trodAll_nil r0
  obtain rfl : args = #[v0] := by cases args; simp_all
  obtain ⟨rfl, rfl⟩ := trodVars_none hV
  have hbk := bulk_bound hk
  simp only [List.append_nil, Rows.uptoBulkAll] at hbk
  have hbk2 : Rows.uptoBulk d0 ≤ 1048576 := by omega
  obtain ⟨fuel0, hf0⟩ := h0
  obtain ⟨L0, m0, c0, rfl⟩ := okWide_slice Tryz.underlying22 (hval 0 22 v0 rfl rfl)
  obtain ⟨L0', m0', c0', ts0, hv0, hl0, hm0, hLc0, hmc0, hok0, hsz0⟩ := open_views hf0 (by show Rows.uptoBulk d0 ≤ 1048576; omega)
  cases hv0
  have hsz : bkV (chV ts0) ≤ 1048576 := by have h9 : bkV (chV ts0) + 1 ≤ Rows.uptoBulk d0 := hsz0; omega
  have hnn := bkV_len (chV ts0)
  rw [chV_length] at hnn
  obtain ⟨mx, hmx⟩ := Tryz.maxLen_cell hsh
  refine (cleanTwice_of (hVS mx) (hAS mx) L0 m0 c0 ts0 W hmx ⟨hl0, hok0, hm0, (by omega)⟩ hsz).mono fun e W' ⟨he, hb⟩ => ?_
  subst he
  exact ⟨_, rfl, law_post (tb := 4) laidOut hW rfl ⟨rfl, rfl, rfl⟩ (by rw [Tryz.params4]; exact readable_all (by kernel_rfl)) rfl Tryz.underlying4 hb⟩

set_option maxRecDepth 100000 in
theorem lifted (hVS : ∀ mx, ViewsSays mx) (hAS : ∀ mx, AliveSays mx) (os : Os) (started : os.Started) (H : Type) (enc : TypeId × Value → H) (F : Stop.Interp) :
    ReturnsInHanded {} Tryz.checked os 4 .any ((Rows.OpenSpec.upto Rows.cleanTwiceSpec).pre6 enc Tryz.prog Tryz.f4 Rows.cleanTwiceUptoRow.domain false) (((Rows.OpenSpec.upto Rows.cleanTwiceSpec).at F).post enc Tryz.prog Tryz.f4 false true false false) := by
  refine handed_shaped (C := Tryz.checked) (s := Rows.OpenSpec.upto Rows.cleanTwiceSpec) (k := Rows.uptoSmall) rfl own started (by kernel_rfl) Tryz.func4
    (OpenSpec.witness (enc := enc) (C := Tryz.checked) (s := Rows.OpenSpec.upto Rows.cleanTwiceSpec) (k := Rows.uptoSmall) rfl false ⟨#[], #[.slice none 0 0], []⟩ 8 (by kernel_rfl) (by kernel_rfl) (by kernel_rfl)
      (x := ([.nil], [], [])) (by kernel_rfl) rfl (by kernel_rfl)) ?_
  intro W base args ds gs before hsh hval hW hk
  exact contract hVS hAS H enc W args ds gs before base hsh hval hW hk

theorem proved_of (hVS : ∀ mx, ViewsSays mx) (hAS : ∀ mx, AliveSays mx) : Rows.CleanTwiceUptoSaid :=
  OpenClaim.holds_of_cond 4 Tryz.f4 rfl rfl rfl rfl rfl rfl rfl ⟨rfl, rfl, rfl, rfl, rfl⟩ rfl rfl rfl rfl rfl (by kernel_rfl) Tryz.func4 (by kernel_rfl)
    (of_decide_eq_true (by kernel_rfl)) (by unfold Func.isWrapper; first | (rw [if_pos (by decide +kernel)]; kernel_rfl) | (rw [if_neg (by decide +kernel)]; exact ⟨rfl, rfl⟩))
    (fun os started H enc _ F => lifted hVS hAS os started H enc F)

end Go.Proofs.YtnbdldapmllegaaGreat.cleanTwice
