/-
  No cell of these rows narrows 'for every input' (looked for: loops, veiled, ifaces, maps, wideKeys, modest, calm, conditions, laid).
  DERIVED. THE GIVEN ROWS OF THIS SEAT. 4 by the template 'for every input the law returns true; each argument reads behind the call as it read before'; 0 by the template 'total and deterministic' (their statements: YtamnoenjpphkcaaTotals.lean).
  GIVEN WITH THE SEED: the statements are not yours to turn. If you find one false, say at which input.
  Laid BY PROGRAM, IN A SANDBOX (cutbox-rows.mjs): the forced cells as the released guide's own fill.sh prints them over the translation fb31e67ee8fafc6d… (all of the seat's roots in one cut). By AI agents, Wed Nov 11 2026. No macro, syntax, notation, axiom, sorry.
-/
import Derived.Test.YtamnoenjpphkcaaChecked
import GoSem.Claim
import GoSem.ClaimJoined
import GoSem.ClaimMapViews
import Derived.JoinedTies
import Derived.KernelRfl
namespace Go.Proofs.Ytamnoenjpphkcaa
/- THE CELL 'sum', in the pinned program and in every row, IS THE sha256 OF THE DUMP (.gsa) THAT YtamnoenjpphkcaaProg.lean LOADS. Nothing in Lean hashes anything: it is a label: what it is worth is what the hold of that sum in a sandbox is worth. -/
noncomputable def Try.pinned : Pinned := { name := "ytamnoenjpphkcaa", sum := "fb31e67ee8fafc6dc7ec0e595505b02ed8cc7699c61fabed9b860ea7c9a047e9", checked := Try.checked }
namespace Rows
def none {H : Type} : Left H := { results := [], args := [] }

/-- 'glazierlaw01.MarkTells': WHATEVER THE INPUT: true; the input reads as it did. -/
def markTellsSpec : ChangeSpec := { name := "markTells", fn := fun _ => fun
  | [d1, d2, d3, d4] => { results := [.lit (.bool true)], args := [d1, d2, d3, d4] }
  | _ => none }
def markTellsRow : OpenClaim := { program := "ytamnoenjpphkcaa", sum := "fb31e67ee8fafc6dc7ec0e595505b02ed8cc7699c61fabed9b860ea7c9a047e9", func := "glazier/glazierlaw01.MarkTells", spec := "markTells", inPlace := ["internal/abi.NoEscape"], recurses := true, apart := false }
def MarkTellsSaid : Prop := markTellsRow.holds Try.pinned (OpenSpec.ofChange markTellsSpec)

/-- ITS FALSE NEIGHBOUR: 'it returns false'. Refute it at one input. -/
def markTellsWrong : ChangeSpec := { name := "markTells", fn := fun _ => fun
  | [d1, d2, d3, d4] => { results := [.lit (.bool false)], args := [d1, d2, d3, d4] }
  | _ => none }
def MarkTellsWrongFalsely : Prop := markTellsRow.holds Try.pinned (OpenSpec.ofChange markTellsWrong)

/-- 'glazierlaw01.MarkCuts': WHATEVER THE INPUT: true; the input reads as it did. -/
def markCutsSpec : ChangeSpec := { name := "markCuts", fn := fun _ => fun
  | [d1, d2, d3, d4, d5] => { results := [.lit (.bool true)], args := [d1, d2, d3, d4, d5] }
  | _ => none }
def markCutsRow : OpenClaim := { program := "ytamnoenjpphkcaa", sum := "fb31e67ee8fafc6dc7ec0e595505b02ed8cc7699c61fabed9b860ea7c9a047e9", func := "glazier/glazierlaw01.MarkCuts", spec := "markCuts", inPlace := ["internal/abi.NoEscape"], apart := false }
def MarkCutsSaid : Prop := markCutsRow.holds Try.pinned (OpenSpec.ofChange markCutsSpec)

/-- ITS FALSE NEIGHBOUR: 'it returns false'. Refute it at one input. -/
def markCutsWrong : ChangeSpec := { name := "markCuts", fn := fun _ => fun
  | [d1, d2, d3, d4, d5] => { results := [.lit (.bool false)], args := [d1, d2, d3, d4, d5] }
  | _ => none }
def MarkCutsWrongFalsely : Prop := markCutsRow.holds Try.pinned (OpenSpec.ofChange markCutsWrong)

/-- 'glazierlaw01.MarkMany': WHATEVER THE INPUT: true; the input reads as it did. -/
def markManySpec : ChangeSpec := { name := "markMany", fn := fun _ => fun
  | [d] => { results := [.lit (.bool true)], args := [d] }
  | _ => none }
def markManyRow : OpenClaim := { program := "ytamnoenjpphkcaa", sum := "fb31e67ee8fafc6dc7ec0e595505b02ed8cc7699c61fabed9b860ea7c9a047e9", func := "glazier/glazierlaw01.MarkMany", spec := "markMany", inPlace := ["internal/abi.NoEscape"], apart := false }
def MarkManySaid : Prop := markManyRow.holds Try.pinned (OpenSpec.ofChange markManySpec)

/-- ITS FALSE NEIGHBOUR: 'it returns false'. Refute it at one input. -/
def markManyWrong : ChangeSpec := { name := "markMany", fn := fun _ => fun
  | [d] => { results := [.lit (.bool false)], args := [d] }
  | _ => none }
def MarkManyWrongFalsely : Prop := markManyRow.holds Try.pinned (OpenSpec.ofChange markManyWrong)

/-- 'glazierlaw01.MarkOwn': WHATEVER THE INPUT: true; the input reads as it did. -/
def markOwnSpec : ChangeSpec := { name := "markOwn", fn := fun _ => fun
  | [d] => { results := [.lit (.bool true)], args := [d] }
  | _ => none }
def markOwnRow : OpenClaim := { program := "ytamnoenjpphkcaa", sum := "fb31e67ee8fafc6dc7ec0e595505b02ed8cc7699c61fabed9b860ea7c9a047e9", func := "glazier/glazierlaw01.MarkOwn", spec := "markOwn", inPlace := ["internal/abi.NoEscape"], apart := false }
def MarkOwnSaid : Prop := markOwnRow.holds Try.pinned (OpenSpec.ofChange markOwnSpec)

/-- ITS FALSE NEIGHBOUR: 'it returns false'. Refute it at one input. -/
def markOwnWrong : ChangeSpec := { name := "markOwn", fn := fun _ => fun
  | [d] => { results := [.lit (.bool false)], args := [d] }
  | _ => none }
def MarkOwnWrongFalsely : Prop := markOwnRow.holds Try.pinned (OpenSpec.ofChange markOwnWrong)

/- THE SECOND FORM. 'bulk': how many values and letters a reading holds, each counted each time it is reached (what is shared counts as often as it is met; a slice's spare places count too). A statement '..UptoSaid' is the law's where the arguments, and the package variables that the reading takes, are together of bulk at most 1048576: NARROWER than '..Said'. Prove '..Said' where nothing that the law and all that it calls make is longer than what came in: it says more and counts as full. Else prove '..UptoSaid'. A law counts once. -/
mutual
def uptoBulk {H : Type} : DataW H → Nat
  | .lit (.string bytes) => bytes.length + 1
  | .lit _ => 1
  | .nil => 1
  | .ptr d => uptoBulk d + 1
  | .slice elems spare => uptoBulkAll elems + uptoBulkAll spare + 1
  | .agg parts => uptoBulkAll parts + 1
  | .iface _ d => uptoBulk d + 1
  | .map entries => uptoBulkEntries entries + 1
  | .held _ => 1
def uptoBulkAll {H : Type} : List (DataW H) → Nat
  | [] => 0
  | d :: r => uptoBulk d + uptoBulkAll r
def uptoBulkEntries {H : Type} : List (Lit × DataW H) → Nat
  | [] => 0
  | x :: r => uptoBulkEntry x + uptoBulkEntries r
def uptoBulkEntry {H : Type} : Lit × DataW H → Nat
  | (.string bytes, d) => bytes.length + uptoBulk d + 1
  | (_, d) => uptoBulk d + 1
 end
def uptoSmall : (H : Type) → List (DataW H) → Bool := fun _ ds => decide (uptoBulkAll ds ≤ 1048576)
def OpenSpec.upto (s : _root_.Go.ChangeSpec) : _root_.Go.OpenSpec := { _root_.Go.OpenSpec.ofChange s with cond := some uptoSmall }

/-- 'glazierlaw01.MarkTells', WHERE WHAT IT READS IS OF BULK AT MOST 1048576: true; the input reads as it did. -/
def markTellsUptoRow : OpenClaim := { program := "ytamnoenjpphkcaa", sum := "fb31e67ee8fafc6dc7ec0e595505b02ed8cc7699c61fabed9b860ea7c9a047e9", func := "glazier/glazierlaw01.MarkTells", spec := "markTells", inPlace := ["internal/abi.NoEscape"], recurses := true, apart := false, narrowed := true }
def MarkTellsUptoSaid : Prop := markTellsUptoRow.holds Try.pinned (OpenSpec.upto markTellsSpec)

/-- 'glazierlaw01.MarkCuts', WHERE WHAT IT READS IS OF BULK AT MOST 1048576: true; the input reads as it did. -/
def markCutsUptoRow : OpenClaim := { program := "ytamnoenjpphkcaa", sum := "fb31e67ee8fafc6dc7ec0e595505b02ed8cc7699c61fabed9b860ea7c9a047e9", func := "glazier/glazierlaw01.MarkCuts", spec := "markCuts", inPlace := ["internal/abi.NoEscape"], apart := false, narrowed := true }
def MarkCutsUptoSaid : Prop := markCutsUptoRow.holds Try.pinned (OpenSpec.upto markCutsSpec)

/-- 'glazierlaw01.MarkMany', WHERE WHAT IT READS IS OF BULK AT MOST 1048576: true; the input reads as it did. -/
def markManyUptoRow : OpenClaim := { program := "ytamnoenjpphkcaa", sum := "fb31e67ee8fafc6dc7ec0e595505b02ed8cc7699c61fabed9b860ea7c9a047e9", func := "glazier/glazierlaw01.MarkMany", spec := "markMany", inPlace := ["internal/abi.NoEscape"], apart := false, narrowed := true }
def MarkManyUptoSaid : Prop := markManyUptoRow.holds Try.pinned (OpenSpec.upto markManySpec)

/-- 'glazierlaw01.MarkOwn', WHERE WHAT IT READS IS OF BULK AT MOST 1048576: true; the input reads as it did. -/
def markOwnUptoRow : OpenClaim := { program := "ytamnoenjpphkcaa", sum := "fb31e67ee8fafc6dc7ec0e595505b02ed8cc7699c61fabed9b860ea7c9a047e9", func := "glazier/glazierlaw01.MarkOwn", spec := "markOwn", inPlace := ["internal/abi.NoEscape"], apart := false, narrowed := true }
def MarkOwnUptoSaid : Prop := markOwnUptoRow.holds Try.pinned (OpenSpec.upto markOwnSpec)

end Rows
end Go.Proofs.Ytamnoenjpphkcaa
