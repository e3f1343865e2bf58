/-
  NARROWER THAN 'FOR EVERY INPUT', by the rows' own cells (each row's printed sentence says how): CleanTells: loops · CleanTwice: loops · CleanRight: loops.
  DERIVED. THE GIVEN ROWS OF THIS SEAT. 3 by the template 'for every input the law returns true; each argument reads behind the call as it read before'; 0 by the template 'total and deterministic' (their statements: YtnbdldapmllegaaGreatTotals.lean).
  GIVEN WITH THE SEED: the statements are not yours to turn. If you find one false, say at which input.
  Laid BY PROGRAM, IN A SANDBOX (cutbox-rows.mjs): the forced cells as the released guide's own fill.sh prints them over the translation 7b77bb6c47489eb2… (all of the seat's roots in one cut). By AI agents, Wed Nov 11 2026. No macro, syntax, notation, axiom, sorry.
-/
import Derived.Test.YtnbdldapmllegaaGreatChecked
import GoSem.Claim
import GoSem.ClaimJoined
import GoSem.ClaimMapViews
import Derived.JoinedTies
import Derived.KernelRfl
namespace Go.Proofs.YtnbdldapmllegaaGreat
/- THE CELL 'sum', in the pinned program and in every row, IS THE sha256 OF THE DUMP (.gsa) THAT YtnbdldapmllegaaGreatProg.lean LOADS. Nothing in Lean hashes anything: it is a label: what it is worth is what the hold of that sum in a sandbox is worth. -/
noncomputable def Tryz.pinned : Pinned := { name := "ytnbdldapmllegaagreat", sum := "7b77bb6c47489eb251b6e2c839172505a5fbb8e0bd74af17b36f08d84ec706b2", checked := Tryz.checked }
namespace Rows
def none {H : Type} : Left H := { results := [], args := [] }

/-- 'glazierlaw17.CleanTells': WHATEVER THE INPUT: true; the input reads as it did. -/
def cleanTellsSpec : ChangeSpec := { name := "cleanTells", fn := fun _ => fun
  | [d1, d2] => { results := [.lit (.bool true)], args := [d1, d2] }
  | _ => none }
def cleanTellsRow : OpenClaim := { program := "ytnbdldapmllegaagreat", sum := "7b77bb6c47489eb251b6e2c839172505a5fbb8e0bd74af17b36f08d84ec706b2", func := "glazier/glazierlaw17.CleanTells", spec := "cleanTells", inPlace := ["internal/abi.NoEscape", "internal/bytealg.IndexByteString", "internal/bytealg.IndexString"], unfollowed := true, recurses := true, named := ["internal/bytealg.MaxLen"], loops := true, apart := false }
def CleanTellsSaid : Prop := cleanTellsRow.holds Tryz.pinned (OpenSpec.ofChange cleanTellsSpec)

/-- ITS FALSE NEIGHBOUR: 'it returns false'. Refute it at one input. -/
def cleanTellsWrong : ChangeSpec := { name := "cleanTells", fn := fun _ => fun
  | [d1, d2] => { results := [.lit (.bool false)], args := [d1, d2] }
  | _ => none }
def CleanTellsWrongFalsely : Prop := cleanTellsRow.holds Tryz.pinned (OpenSpec.ofChange cleanTellsWrong)

/-- 'glazierlaw17.CleanTwice': WHATEVER THE INPUT: true; the input reads as it did. -/
def cleanTwiceSpec : ChangeSpec := { name := "cleanTwice", fn := fun _ => fun
  | [d] => { results := [.lit (.bool true)], args := [d] }
  | _ => none }
def cleanTwiceRow : OpenClaim := { program := "ytnbdldapmllegaagreat", sum := "7b77bb6c47489eb251b6e2c839172505a5fbb8e0bd74af17b36f08d84ec706b2", func := "glazier/glazierlaw17.CleanTwice", spec := "cleanTwice", inPlace := ["internal/abi.NoEscape", "internal/bytealg.IndexByteString", "internal/bytealg.IndexString"], unfollowed := true, recurses := true, named := ["internal/bytealg.MaxLen"], loops := true, apart := false }
def CleanTwiceSaid : Prop := cleanTwiceRow.holds Tryz.pinned (OpenSpec.ofChange cleanTwiceSpec)

/-- ITS FALSE NEIGHBOUR: 'it returns false'. Refute it at one input. -/
def cleanTwiceWrong : ChangeSpec := { name := "cleanTwice", fn := fun _ => fun
  | [d] => { results := [.lit (.bool false)], args := [d] }
  | _ => none }
def CleanTwiceWrongFalsely : Prop := cleanTwiceRow.holds Tryz.pinned (OpenSpec.ofChange cleanTwiceWrong)

/-- 'glazierlaw17.CleanRight': WHATEVER THE INPUT: true; the input reads as it did. -/
def cleanRightSpec : ChangeSpec := { name := "cleanRight", fn := fun _ => fun
  | [d] => { results := [.lit (.bool true)], args := [d] }
  | _ => none }
def cleanRightRow : OpenClaim := { program := "ytnbdldapmllegaagreat", sum := "7b77bb6c47489eb251b6e2c839172505a5fbb8e0bd74af17b36f08d84ec706b2", func := "glazier/glazierlaw17.CleanRight", spec := "cleanRight", inPlace := ["internal/abi.NoEscape", "internal/bytealg.IndexByteString", "internal/bytealg.IndexString"], unfollowed := true, recurses := true, named := ["internal/bytealg.MaxLen"], loops := true, apart := false }
def CleanRightSaid : Prop := cleanRightRow.holds Tryz.pinned (OpenSpec.ofChange cleanRightSpec)

/-- ITS FALSE NEIGHBOUR: 'it returns false'. Refute it at one input. -/
def cleanRightWrong : ChangeSpec := { name := "cleanRight", fn := fun _ => fun
  | [d] => { results := [.lit (.bool false)], args := [d] }
  | _ => none }
def CleanRightWrongFalsely : Prop := cleanRightRow.holds Tryz.pinned (OpenSpec.ofChange cleanRightWrong)

/- THE SECOND FORM. 'bulk': how many values and letters a reading holds, each counted each time it is reached (what is shared counts as often as it is met; a slice's spare places count too). A statement '..UptoSaid' is the law's where the arguments, and the package variables that the reading takes, are together of bulk at most 1048576: NARROWER than '..Said'. Prove '..Said' where nothing that the law and all that it calls make is longer than what came in: it says more and counts as full. Else prove '..UptoSaid'. A law counts once. -/
mutual
def uptoBulk {H : Type} : DataW H → Nat
  | .lit (.string bytes) => bytes.length + 1
  | .lit _ => 1
  | .nil => 1
  | .ptr d => uptoBulk d + 1
  | .slice elems spare => uptoBulkAll elems + uptoBulkAll spare + 1
  | .agg parts => uptoBulkAll parts + 1
  | .iface _ d => uptoBulk d + 1
  | .map entries => uptoBulkEntries entries + 1
  | .held _ => 1
def uptoBulkAll {H : Type} : List (DataW H) → Nat
  | [] => 0
  | d :: r => uptoBulk d + uptoBulkAll r
def uptoBulkEntries {H : Type} : List (Lit × DataW H) → Nat
  | [] => 0
  | x :: r => uptoBulkEntry x + uptoBulkEntries r
def uptoBulkEntry {H : Type} : Lit × DataW H → Nat
  | (.string bytes, d) => bytes.length + uptoBulk d + 1
  | (_, d) => uptoBulk d + 1
 end
def uptoSmall : (H : Type) → List (DataW H) → Bool := fun _ ds => decide (uptoBulkAll ds ≤ 1048576)
def OpenSpec.upto (s : _root_.Go.ChangeSpec) : _root_.Go.OpenSpec := { _root_.Go.OpenSpec.ofChange s with cond := some uptoSmall }

/-- 'glazierlaw17.CleanTells', WHERE WHAT IT READS IS OF BULK AT MOST 1048576: true; the input reads as it did. -/
def cleanTellsUptoRow : OpenClaim := { program := "ytnbdldapmllegaagreat", sum := "7b77bb6c47489eb251b6e2c839172505a5fbb8e0bd74af17b36f08d84ec706b2", func := "glazier/glazierlaw17.CleanTells", spec := "cleanTells", inPlace := ["internal/abi.NoEscape", "internal/bytealg.IndexByteString", "internal/bytealg.IndexString"], unfollowed := true, recurses := true, named := ["internal/bytealg.MaxLen"], loops := true, apart := false, narrowed := true }
def CleanTellsUptoSaid : Prop := cleanTellsUptoRow.holds Tryz.pinned (OpenSpec.upto cleanTellsSpec)

/-- 'glazierlaw17.CleanTwice', WHERE WHAT IT READS IS OF BULK AT MOST 1048576: true; the input reads as it did. -/
def cleanTwiceUptoRow : OpenClaim := { program := "ytnbdldapmllegaagreat", sum := "7b77bb6c47489eb251b6e2c839172505a5fbb8e0bd74af17b36f08d84ec706b2", func := "glazier/glazierlaw17.CleanTwice", spec := "cleanTwice", inPlace := ["internal/abi.NoEscape", "internal/bytealg.IndexByteString", "internal/bytealg.IndexString"], unfollowed := true, recurses := true, named := ["internal/bytealg.MaxLen"], loops := true, apart := false, narrowed := true }
def CleanTwiceUptoSaid : Prop := cleanTwiceUptoRow.holds Tryz.pinned (OpenSpec.upto cleanTwiceSpec)

/-- 'glazierlaw17.CleanRight', WHERE WHAT IT READS IS OF BULK AT MOST 1048576: true; the input reads as it did. -/
def cleanRightUptoRow : OpenClaim := { program := "ytnbdldapmllegaagreat", sum := "7b77bb6c47489eb251b6e2c839172505a5fbb8e0bd74af17b36f08d84ec706b2", func := "glazier/glazierlaw17.CleanRight", spec := "cleanRight", inPlace := ["internal/abi.NoEscape", "internal/bytealg.IndexByteString", "internal/bytealg.IndexString"], unfollowed := true, recurses := true, named := ["internal/bytealg.MaxLen"], loops := true, apart := false, narrowed := true }
def CleanRightUptoSaid : Prop := cleanRightUptoRow.holds Tryz.pinned (OpenSpec.upto cleanRightSpec)

end Rows
end Go.Proofs.YtnbdldapmllegaaGreat
