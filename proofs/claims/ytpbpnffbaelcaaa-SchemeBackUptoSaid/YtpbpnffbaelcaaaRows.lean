/-
  No cell of these rows narrows 'for every input' (looked for: loops, veiled, ifaces, maps, wideKeys, modest, calm, conditions, laid).
  DERIVED. THE GIVEN ROWS OF THIS SEAT. 3 by the template 'for every input the law returns true; each argument reads behind the call as it read before'; 0 by the template 'total and deterministic' (their statements: YtpbpnffbaelcaaaTotals.lean).
  GIVEN WITH THE SEED: the statements are not yours to turn. If you find one false, say at which input.
  Laid BY PROGRAM, IN A SANDBOX (cutbox-rows.mjs): the forced cells as the released guide's own fill.sh prints them over the translation ed07b4a8e9ed2118… (all of the seat's roots in one cut). By AI agents, Wed Nov 11 2026. No macro, syntax, notation, axiom, sorry.
-/
import Derived.Test.YtpbpnffbaelcaaaChecked
import GoSem.Claim
import GoSem.ClaimJoined
import GoSem.ClaimMapViews
import Derived.JoinedTies
import Derived.KernelRfl
namespace Go.Proofs.Ytpbpnffbaelcaaa
/- THE CELL 'sum', in the pinned program and in every row, IS THE sha256 OF THE DUMP (.gsa) THAT YtpbpnffbaelcaaaProg.lean LOADS. Nothing in Lean hashes anything: it is a label: what it is worth is what the hold of that sum in a sandbox is worth. -/
noncomputable def Try.pinned : Pinned := { name := "ytpbpnffbaelcaaa", sum := "ed07b4a8e9ed2118890bd136228d3c7c4784ce4a465db483f691364c5d7f01f2", checked := Try.checked }
namespace Rows
def none {H : Type} : Left H := { results := [], args := [] }

/-- 'glazierlaw07.SchemeTells': WHATEVER THE INPUT: true; the input reads as it did. -/
def schemeTellsSpec : ChangeSpec := { name := "schemeTells", fn := fun _ => fun
  | [d] => { results := [.lit (.bool true)], args := [d] }
  | _ => none }
def schemeTellsRow : OpenClaim := { program := "ytpbpnffbaelcaaa", sum := "ed07b4a8e9ed2118890bd136228d3c7c4784ce4a465db483f691364c5d7f01f2", func := "glazier/glazierlaw07.SchemeTells", spec := "schemeTells", inPlace := ["internal/abi.NoEscape", "internal/bytealg.IndexByteString", "internal/bytealg.IndexString"], unfollowed := true, recurses := true, named := ["internal/bytealg.MaxLen"], apart := false }
def SchemeTellsSaid : Prop := schemeTellsRow.holds Try.pinned (OpenSpec.ofChange schemeTellsSpec)

/-- ITS FALSE NEIGHBOUR: 'it returns false'. Refute it at one input. -/
def schemeTellsWrong : ChangeSpec := { name := "schemeTells", fn := fun _ => fun
  | [d] => { results := [.lit (.bool false)], args := [d] }
  | _ => none }
def SchemeTellsWrongFalsely : Prop := schemeTellsRow.holds Try.pinned (OpenSpec.ofChange schemeTellsWrong)

/-- 'glazierlaw07.SchemeBack': WHATEVER THE INPUT: true; the input reads as it did. -/
def schemeBackSpec : ChangeSpec := { name := "schemeBack", fn := fun _ => fun
  | [d] => { results := [.lit (.bool true)], args := [d] }
  | _ => none }
def schemeBackRow : OpenClaim := { program := "ytpbpnffbaelcaaa", sum := "ed07b4a8e9ed2118890bd136228d3c7c4784ce4a465db483f691364c5d7f01f2", func := "glazier/glazierlaw07.SchemeBack", spec := "schemeBack", inPlace := ["internal/abi.NoEscape", "internal/bytealg.IndexByteString", "internal/bytealg.IndexString"], unfollowed := true, recurses := true, named := ["internal/bytealg.MaxLen"], apart := false }
def SchemeBackSaid : Prop := schemeBackRow.holds Try.pinned (OpenSpec.ofChange schemeBackSpec)

/-- ITS FALSE NEIGHBOUR: 'it returns false'. Refute it at one input. -/
def schemeBackWrong : ChangeSpec := { name := "schemeBack", fn := fun _ => fun
  | [d] => { results := [.lit (.bool false)], args := [d] }
  | _ => none }
def SchemeBackWrongFalsely : Prop := schemeBackRow.holds Try.pinned (OpenSpec.ofChange schemeBackWrong)

/-- 'glazierlaw07.SchemeDyed': WHATEVER THE INPUT: true; the input reads as it did. -/
def schemeDyedSpec : ChangeSpec := { name := "schemeDyed", fn := fun _ => fun
  | [d1, d2] => { results := [.lit (.bool true)], args := [d1, d2] }
  | _ => none }
def schemeDyedRow : OpenClaim := { program := "ytpbpnffbaelcaaa", sum := "ed07b4a8e9ed2118890bd136228d3c7c4784ce4a465db483f691364c5d7f01f2", func := "glazier/glazierlaw07.SchemeDyed", spec := "schemeDyed", inPlace := ["internal/abi.NoEscape", "internal/bytealg.IndexByteString", "internal/bytealg.IndexString"], unfollowed := true, recurses := true, named := ["internal/bytealg.MaxLen"], apart := false }
def SchemeDyedSaid : Prop := schemeDyedRow.holds Try.pinned (OpenSpec.ofChange schemeDyedSpec)

/-- ITS FALSE NEIGHBOUR: 'it returns false'. Refute it at one input. -/
def schemeDyedWrong : ChangeSpec := { name := "schemeDyed", fn := fun _ => fun
  | [d1, d2] => { results := [.lit (.bool false)], args := [d1, d2] }
  | _ => none }
def SchemeDyedWrongFalsely : Prop := schemeDyedRow.holds Try.pinned (OpenSpec.ofChange schemeDyedWrong)

/- THE SECOND FORM. 'bulk': how many values and letters a reading holds, each counted each time it is reached (what is shared counts as often as it is met; a slice's spare places count too). A statement '..UptoSaid' is the law's where the arguments, and the package variables that the reading takes, are together of bulk at most 1048576: NARROWER than '..Said'. Prove '..Said' where nothing that the law and all that it calls make is longer than what came in: it says more and counts as full. Else prove '..UptoSaid'. A law counts once. -/
mutual
def uptoBulk {H : Type} : DataW H → Nat
  | .lit (.string bytes) => bytes.length + 1
  | .lit _ => 1
  | .nil => 1
  | .ptr d => uptoBulk d + 1
  | .slice elems spare => uptoBulkAll elems + uptoBulkAll spare + 1
  | .agg parts => uptoBulkAll parts + 1
  | .iface _ d => uptoBulk d + 1
  | .map entries => uptoBulkEntries entries + 1
  | .held _ => 1
def uptoBulkAll {H : Type} : List (DataW H) → Nat
  | [] => 0
  | d :: r => uptoBulk d + uptoBulkAll r
def uptoBulkEntries {H : Type} : List (Lit × DataW H) → Nat
  | [] => 0
  | x :: r => uptoBulkEntry x + uptoBulkEntries r
def uptoBulkEntry {H : Type} : Lit × DataW H → Nat
  | (.string bytes, d) => bytes.length + uptoBulk d + 1
  | (_, d) => uptoBulk d + 1
 end
def uptoSmall : (H : Type) → List (DataW H) → Bool := fun _ ds => decide (uptoBulkAll ds ≤ 1048576)
def OpenSpec.upto (s : _root_.Go.ChangeSpec) : _root_.Go.OpenSpec := { _root_.Go.OpenSpec.ofChange s with cond := some uptoSmall }

/-- 'glazierlaw07.SchemeTells', WHERE WHAT IT READS IS OF BULK AT MOST 1048576: true; the input reads as it did. -/
def schemeTellsUptoRow : OpenClaim := { program := "ytpbpnffbaelcaaa", sum := "ed07b4a8e9ed2118890bd136228d3c7c4784ce4a465db483f691364c5d7f01f2", func := "glazier/glazierlaw07.SchemeTells", spec := "schemeTells", inPlace := ["internal/abi.NoEscape", "internal/bytealg.IndexByteString", "internal/bytealg.IndexString"], unfollowed := true, recurses := true, named := ["internal/bytealg.MaxLen"], apart := false, narrowed := true }
def SchemeTellsUptoSaid : Prop := schemeTellsUptoRow.holds Try.pinned (OpenSpec.upto schemeTellsSpec)

/-- 'glazierlaw07.SchemeBack', WHERE WHAT IT READS IS OF BULK AT MOST 1048576: true; the input reads as it did. -/
def schemeBackUptoRow : OpenClaim := { program := "ytpbpnffbaelcaaa", sum := "ed07b4a8e9ed2118890bd136228d3c7c4784ce4a465db483f691364c5d7f01f2", func := "glazier/glazierlaw07.SchemeBack", spec := "schemeBack", inPlace := ["internal/abi.NoEscape", "internal/bytealg.IndexByteString", "internal/bytealg.IndexString"], unfollowed := true, recurses := true, named := ["internal/bytealg.MaxLen"], apart := false, narrowed := true }
def SchemeBackUptoSaid : Prop := schemeBackUptoRow.holds Try.pinned (OpenSpec.upto schemeBackSpec)

/-- 'glazierlaw07.SchemeDyed', WHERE WHAT IT READS IS OF BULK AT MOST 1048576: true; the input reads as it did. -/
def schemeDyedUptoRow : OpenClaim := { program := "ytpbpnffbaelcaaa", sum := "ed07b4a8e9ed2118890bd136228d3c7c4784ce4a465db483f691364c5d7f01f2", func := "glazier/glazierlaw07.SchemeDyed", spec := "schemeDyed", inPlace := ["internal/abi.NoEscape", "internal/bytealg.IndexByteString", "internal/bytealg.IndexString"], unfollowed := true, recurses := true, named := ["internal/bytealg.MaxLen"], apart := false, narrowed := true }
def SchemeDyedUptoSaid : Prop := schemeDyedUptoRow.holds Try.pinned (OpenSpec.upto schemeDyedSpec)

end Rows
end Go.Proofs.Ytpbpnffbaelcaaa
