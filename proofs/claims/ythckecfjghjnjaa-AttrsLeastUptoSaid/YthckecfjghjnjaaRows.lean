/-
  No cell of these rows narrows 'for every input' (looked for: loops, veiled, ifaces, maps, wideKeys, modest, calm, conditions, laid).
  DERIVED. THE GIVEN ROWS OF THIS SEAT. 3 by the template 'for every input the law returns true; each argument reads behind the call as it read before'; 0 by the template 'total and deterministic' (their statements: YthckecfjghjnjaaTotals.lean).
  GIVEN WITH THE SEED: the statements are not yours to turn. If you find one false, say at which input.
  Laid BY PROGRAM, IN A SANDBOX (cutbox-rows.mjs): the forced cells as the released guide's own fill.sh prints them over the translation 30b1f85da2c36689… (all of the seat's roots in one cut). By AI agents, Wed Nov 11 2026. No macro, syntax, notation, axiom, sorry.
-/
import Derived.Test.YthckecfjghjnjaaChecked
import GoSem.Claim
import GoSem.ClaimJoined
import GoSem.ClaimMapViews
import Derived.JoinedTies
import Derived.KernelRfl
namespace Go.Proofs.Ythckecfjghjnjaa
/- THE CELL 'sum', in the pinned program and in every row, IS THE sha256 OF THE DUMP (.gsa) THAT YthckecfjghjnjaaProg.lean LOADS. Nothing in Lean hashes anything: it is a label: what it is worth is what the hold of that sum in a sandbox is worth. -/
noncomputable def Try.pinned : Pinned := { name := "ythckecfjghjnjaa", sum := "30b1f85da2c366897b88dc4cc2ce4d5b4163c122034df2bc339e171cc17ce5c4", checked := Try.checked }
namespace Rows
def none {H : Type} : Left H := { results := [], args := [] }

/-- 'glazierlaw10.AttrsTells': WHATEVER THE INPUT: true; the input reads as it did. -/
def attrsTellsSpec : ChangeSpec := { name := "attrsTells", fn := fun _ => fun
  | [d1, d2, d3] => { results := [.lit (.bool true)], args := [d1, d2, d3] }
  | _ => none }
def attrsTellsRow : OpenClaim := { program := "ythckecfjghjnjaa", sum := "30b1f85da2c366897b88dc4cc2ce4d5b4163c122034df2bc339e171cc17ce5c4", func := "glazier/glazierlaw10.AttrsTells", spec := "attrsTells", unfollowed := true, recurses := true, apart := false }
def AttrsTellsSaid : Prop := attrsTellsRow.holds Try.pinned (OpenSpec.ofChange attrsTellsSpec)

/-- ITS FALSE NEIGHBOUR: 'it returns false'. Refute it at one input. -/
def attrsTellsWrong : ChangeSpec := { name := "attrsTells", fn := fun _ => fun
  | [d1, d2, d3] => { results := [.lit (.bool false)], args := [d1, d2, d3] }
  | _ => none }
def AttrsTellsWrongFalsely : Prop := attrsTellsRow.holds Try.pinned (OpenSpec.ofChange attrsTellsWrong)

/-- 'glazierlaw10.AttrsChanges': WHATEVER THE INPUT: true; the input reads as it did. -/
def attrsChangesSpec : ChangeSpec := { name := "attrsChanges", fn := fun _ => fun
  | [d1, d2] => { results := [.lit (.bool true)], args := [d1, d2] }
  | _ => none }
def attrsChangesRow : OpenClaim := { program := "ythckecfjghjnjaa", sum := "30b1f85da2c366897b88dc4cc2ce4d5b4163c122034df2bc339e171cc17ce5c4", func := "glazier/glazierlaw10.AttrsChanges", spec := "attrsChanges", unfollowed := true, recurses := true, apart := false }
def AttrsChangesSaid : Prop := attrsChangesRow.holds Try.pinned (OpenSpec.ofChange attrsChangesSpec)

/-- ITS FALSE NEIGHBOUR: 'it returns false'. Refute it at one input. -/
def attrsChangesWrong : ChangeSpec := { name := "attrsChanges", fn := fun _ => fun
  | [d1, d2] => { results := [.lit (.bool false)], args := [d1, d2] }
  | _ => none }
def AttrsChangesWrongFalsely : Prop := attrsChangesRow.holds Try.pinned (OpenSpec.ofChange attrsChangesWrong)

/-- 'glazierlaw10.AttrsLeast': WHATEVER THE INPUT: true; the input reads as it did. -/
def attrsLeastSpec : ChangeSpec := { name := "attrsLeast", fn := fun _ => fun
  | [d1, d2] => { results := [.lit (.bool true)], args := [d1, d2] }
  | _ => none }
def attrsLeastRow : OpenClaim := { program := "ythckecfjghjnjaa", sum := "30b1f85da2c366897b88dc4cc2ce4d5b4163c122034df2bc339e171cc17ce5c4", func := "glazier/glazierlaw10.AttrsLeast", spec := "attrsLeast", unfollowed := true, recurses := true, apart := false }
def AttrsLeastSaid : Prop := attrsLeastRow.holds Try.pinned (OpenSpec.ofChange attrsLeastSpec)

/-- ITS FALSE NEIGHBOUR: 'it returns false'. Refute it at one input. -/
def attrsLeastWrong : ChangeSpec := { name := "attrsLeast", fn := fun _ => fun
  | [d1, d2] => { results := [.lit (.bool false)], args := [d1, d2] }
  | _ => none }
def AttrsLeastWrongFalsely : Prop := attrsLeastRow.holds Try.pinned (OpenSpec.ofChange attrsLeastWrong)

/- THE SECOND FORM. 'bulk': how many values and letters a reading holds, each counted each time it is reached (what is shared counts as often as it is met; a slice's spare places count too). A statement '..UptoSaid' is the law's where the arguments, and the package variables that the reading takes, are together of bulk at most 1048576: NARROWER than '..Said'. Prove '..Said' where nothing that the law and all that it calls make is longer than what came in: it says more and counts as full. Else prove '..UptoSaid'. A law counts once. -/
mutual
def uptoBulk {H : Type} : DataW H → Nat
  | .lit (.string bytes) => bytes.length + 1
  | .lit _ => 1
  | .nil => 1
  | .ptr d => uptoBulk d + 1
  | .slice elems spare => uptoBulkAll elems + uptoBulkAll spare + 1
  | .agg parts => uptoBulkAll parts + 1
  | .iface _ d => uptoBulk d + 1
  | .map entries => uptoBulkEntries entries + 1
  | .held _ => 1
def uptoBulkAll {H : Type} : List (DataW H) → Nat
  | [] => 0
  | d :: r => uptoBulk d + uptoBulkAll r
def uptoBulkEntries {H : Type} : List (Lit × DataW H) → Nat
  | [] => 0
  | x :: r => uptoBulkEntry x + uptoBulkEntries r
def uptoBulkEntry {H : Type} : Lit × DataW H → Nat
  | (.string bytes, d) => bytes.length + uptoBulk d + 1
  | (_, d) => uptoBulk d + 1
 end
def uptoSmall : (H : Type) → List (DataW H) → Bool := fun _ ds => decide (uptoBulkAll ds ≤ 1048576)
def OpenSpec.upto (s : _root_.Go.ChangeSpec) : _root_.Go.OpenSpec := { _root_.Go.OpenSpec.ofChange s with cond := some uptoSmall }

/-- 'glazierlaw10.AttrsTells', WHERE WHAT IT READS IS OF BULK AT MOST 1048576: true; the input reads as it did. -/
def attrsTellsUptoRow : OpenClaim := { program := "ythckecfjghjnjaa", sum := "30b1f85da2c366897b88dc4cc2ce4d5b4163c122034df2bc339e171cc17ce5c4", func := "glazier/glazierlaw10.AttrsTells", spec := "attrsTells", unfollowed := true, recurses := true, apart := false, narrowed := true }
def AttrsTellsUptoSaid : Prop := attrsTellsUptoRow.holds Try.pinned (OpenSpec.upto attrsTellsSpec)

/-- 'glazierlaw10.AttrsChanges', WHERE WHAT IT READS IS OF BULK AT MOST 1048576: true; the input reads as it did. -/
def attrsChangesUptoRow : OpenClaim := { program := "ythckecfjghjnjaa", sum := "30b1f85da2c366897b88dc4cc2ce4d5b4163c122034df2bc339e171cc17ce5c4", func := "glazier/glazierlaw10.AttrsChanges", spec := "attrsChanges", unfollowed := true, recurses := true, apart := false, narrowed := true }
def AttrsChangesUptoSaid : Prop := attrsChangesUptoRow.holds Try.pinned (OpenSpec.upto attrsChangesSpec)

/-- 'glazierlaw10.AttrsLeast', WHERE WHAT IT READS IS OF BULK AT MOST 1048576: true; the input reads as it did. -/
def attrsLeastUptoRow : OpenClaim := { program := "ythckecfjghjnjaa", sum := "30b1f85da2c366897b88dc4cc2ce4d5b4163c122034df2bc339e171cc17ce5c4", func := "glazier/glazierlaw10.AttrsLeast", spec := "attrsLeast", unfollowed := true, recurses := true, apart := false, narrowed := true }
def AttrsLeastUptoSaid : Prop := attrsLeastUptoRow.holds Try.pinned (OpenSpec.upto attrsLeastSpec)

end Rows
end Go.Proofs.Ythckecfjghjnjaa
