/-
  NARROWER THAN 'FOR EVERY INPUT', by the rows' own cells (each row's printed sentence says how): ReaderBack: loops · ReaderNames: loops.
  DERIVED. THE GIVEN ROWS OF THIS SEAT. 4 by the template 'for every input the law returns true; each argument reads behind the call as it read before'; 0 by the template 'total and deterministic' (their statements: YtddgabjhligeeaaGreatTotals.lean).
  GIVEN WITH THE SEED: the statements are not yours to turn. If you find one false, say at which input.
  Laid BY PROGRAM, IN A SANDBOX (cutbox-rows.mjs): the forced cells as the released guide's own fill.sh prints them over the translation 30e6096bc73f18ff… (all of the seat's roots in one cut). By AI agents, Wed Nov 11 2026. No macro, syntax, notation, axiom, sorry.
-/
import Derived.Test.YtddgabjhligeeaaGreatChecked
import GoSem.Claim
import GoSem.ClaimJoined
import GoSem.ClaimMapViews
import Derived.JoinedTies
import Derived.KernelRfl
namespace Go.Proofs.YtddgabjhligeeaaGreat
/- THE CELL 'sum', in the pinned program and in every row, IS THE sha256 OF THE DUMP (.gsa) THAT YtddgabjhligeeaaGreatProg.lean LOADS. Nothing in Lean hashes anything: it is a label: what it is worth is what the hold of that sum in a sandbox is worth. -/
noncomputable def Tryz.pinned : Pinned := { name := "ytddgabjhligeeaagreat", sum := "30e6096bc73f18ff4f94b3e588cbd2225f403c72094d4e1e2a26020c5c967b03", checked := Tryz.checked }
namespace Rows
def none {H : Type} : Left H := { results := [], args := [] }

/-- 'glazierlaw15.ReaderTells': WHATEVER THE INPUT: true; the input reads as it did. -/
def readerTellsSpec : ChangeSpec := { name := "readerTells", fn := fun _ => fun
  | [d] => { results := [.lit (.bool true)], args := [d] }
  | _ => none }
def readerTellsRow : OpenClaim := { program := "ytddgabjhligeeaagreat", sum := "30e6096bc73f18ff4f94b3e588cbd2225f403c72094d4e1e2a26020c5c967b03", func := "glazier/glazierlaw15.ReaderTells", spec := "readerTells", inPlace := ["internal/abi.NoEscape", "internal/bytealg.IndexByteString", "internal/bytealg.IndexString"], unfollowed := true, recurses := true, named := ["internal/bytealg.MaxLen"], apart := false }
def ReaderTellsSaid : Prop := readerTellsRow.holds Tryz.pinned (OpenSpec.ofChange readerTellsSpec)

/-- ITS FALSE NEIGHBOUR: 'it returns false'. Refute it at one input. -/
def readerTellsWrong : ChangeSpec := { name := "readerTells", fn := fun _ => fun
  | [d] => { results := [.lit (.bool false)], args := [d] }
  | _ => none }
def ReaderTellsWrongFalsely : Prop := readerTellsRow.holds Tryz.pinned (OpenSpec.ofChange readerTellsWrong)

/-- 'glazierlaw15.ReaderBack': WHATEVER THE INPUT: true; the input reads as it did. -/
def readerBackSpec : ChangeSpec := { name := "readerBack", fn := fun _ => fun
  | [d] => { results := [.lit (.bool true)], args := [d] }
  | _ => none }
def readerBackRow : OpenClaim := { program := "ytddgabjhligeeaagreat", sum := "30e6096bc73f18ff4f94b3e588cbd2225f403c72094d4e1e2a26020c5c967b03", func := "glazier/glazierlaw15.ReaderBack", spec := "readerBack", inPlace := ["internal/abi.NoEscape", "internal/bytealg.IndexByteString", "internal/bytealg.IndexString"], unfollowed := true, recurses := true, named := ["internal/bytealg.MaxLen"], loops := true, apart := false }
def ReaderBackSaid : Prop := readerBackRow.holds Tryz.pinned (OpenSpec.ofChange readerBackSpec)

/-- ITS FALSE NEIGHBOUR: 'it returns false'. Refute it at one input. -/
def readerBackWrong : ChangeSpec := { name := "readerBack", fn := fun _ => fun
  | [d] => { results := [.lit (.bool false)], args := [d] }
  | _ => none }
def ReaderBackWrongFalsely : Prop := readerBackRow.holds Tryz.pinned (OpenSpec.ofChange readerBackWrong)

/-- 'glazierlaw15.ReaderNames': WHATEVER THE INPUT: true; the input reads as it did. -/
def readerNamesSpec : ChangeSpec := { name := "readerNames", fn := fun _ => fun
  | [d] => { results := [.lit (.bool true)], args := [d] }
  | _ => none }
def readerNamesRow : OpenClaim := { program := "ytddgabjhligeeaagreat", sum := "30e6096bc73f18ff4f94b3e588cbd2225f403c72094d4e1e2a26020c5c967b03", func := "glazier/glazierlaw15.ReaderNames", spec := "readerNames", inPlace := ["internal/abi.NoEscape", "internal/bytealg.IndexByteString", "internal/bytealg.IndexString"], unfollowed := true, recurses := true, named := ["internal/bytealg.MaxLen"], loops := true, apart := false }
def ReaderNamesSaid : Prop := readerNamesRow.holds Tryz.pinned (OpenSpec.ofChange readerNamesSpec)

/-- ITS FALSE NEIGHBOUR: 'it returns false'. Refute it at one input. -/
def readerNamesWrong : ChangeSpec := { name := "readerNames", fn := fun _ => fun
  | [d] => { results := [.lit (.bool false)], args := [d] }
  | _ => none }
def ReaderNamesWrongFalsely : Prop := readerNamesRow.holds Tryz.pinned (OpenSpec.ofChange readerNamesWrong)

/-- 'glazierlaw15.ReaderValid': WHATEVER THE INPUT: true; the input reads as it did. -/
def readerValidSpec : ChangeSpec := { name := "readerValid", fn := fun _ => fun
  | [d] => { results := [.lit (.bool true)], args := [d] }
  | _ => none }
def readerValidRow : OpenClaim := { program := "ytddgabjhligeeaagreat", sum := "30e6096bc73f18ff4f94b3e588cbd2225f403c72094d4e1e2a26020c5c967b03", func := "glazier/glazierlaw15.ReaderValid", spec := "readerValid", inPlace := ["internal/abi.NoEscape", "internal/bytealg.IndexByteString", "internal/bytealg.IndexString"], unfollowed := true, recurses := true, named := ["internal/bytealg.MaxLen"], apart := false }
def ReaderValidSaid : Prop := readerValidRow.holds Tryz.pinned (OpenSpec.ofChange readerValidSpec)

/-- ITS FALSE NEIGHBOUR: 'it returns false'. Refute it at one input. -/
def readerValidWrong : ChangeSpec := { name := "readerValid", fn := fun _ => fun
  | [d] => { results := [.lit (.bool false)], args := [d] }
  | _ => none }
def ReaderValidWrongFalsely : Prop := readerValidRow.holds Tryz.pinned (OpenSpec.ofChange readerValidWrong)

/- THE SECOND FORM. 'bulk': how many values and letters a reading holds, each counted each time it is reached (what is shared counts as often as it is met; a slice's spare places count too). A statement '..UptoSaid' is the law's where the arguments, and the package variables that the reading takes, are together of bulk at most 1048576: NARROWER than '..Said'. Prove '..Said' where nothing that the law and all that it calls make is longer than what came in: it says more and counts as full. Else prove '..UptoSaid'. A law counts once. -/
mutual
def uptoBulk {H : Type} : DataW H → Nat
  | .lit (.string bytes) => bytes.length + 1
  | .lit _ => 1
  | .nil => 1
  | .ptr d => uptoBulk d + 1
  | .slice elems spare => uptoBulkAll elems + uptoBulkAll spare + 1
  | .agg parts => uptoBulkAll parts + 1
  | .iface _ d => uptoBulk d + 1
  | .map entries => uptoBulkEntries entries + 1
  | .held _ => 1
def uptoBulkAll {H : Type} : List (DataW H) → Nat
  | [] => 0
  | d :: r => uptoBulk d + uptoBulkAll r
def uptoBulkEntries {H : Type} : List (Lit × DataW H) → Nat
  | [] => 0
  | x :: r => uptoBulkEntry x + uptoBulkEntries r
def uptoBulkEntry {H : Type} : Lit × DataW H → Nat
  | (.string bytes, d) => bytes.length + uptoBulk d + 1
  | (_, d) => uptoBulk d + 1
 end
def uptoSmall : (H : Type) → List (DataW H) → Bool := fun _ ds => decide (uptoBulkAll ds ≤ 1048576)
def OpenSpec.upto (s : _root_.Go.ChangeSpec) : _root_.Go.OpenSpec := { _root_.Go.OpenSpec.ofChange s with cond := some uptoSmall }

/-- 'glazierlaw15.ReaderTells', WHERE WHAT IT READS IS OF BULK AT MOST 1048576: true; the input reads as it did. -/
def readerTellsUptoRow : OpenClaim := { program := "ytddgabjhligeeaagreat", sum := "30e6096bc73f18ff4f94b3e588cbd2225f403c72094d4e1e2a26020c5c967b03", func := "glazier/glazierlaw15.ReaderTells", spec := "readerTells", inPlace := ["internal/abi.NoEscape", "internal/bytealg.IndexByteString", "internal/bytealg.IndexString"], unfollowed := true, recurses := true, named := ["internal/bytealg.MaxLen"], apart := false, narrowed := true }
def ReaderTellsUptoSaid : Prop := readerTellsUptoRow.holds Tryz.pinned (OpenSpec.upto readerTellsSpec)

/-- 'glazierlaw15.ReaderBack', WHERE WHAT IT READS IS OF BULK AT MOST 1048576: true; the input reads as it did. -/
def readerBackUptoRow : OpenClaim := { program := "ytddgabjhligeeaagreat", sum := "30e6096bc73f18ff4f94b3e588cbd2225f403c72094d4e1e2a26020c5c967b03", func := "glazier/glazierlaw15.ReaderBack", spec := "readerBack", inPlace := ["internal/abi.NoEscape", "internal/bytealg.IndexByteString", "internal/bytealg.IndexString"], unfollowed := true, recurses := true, named := ["internal/bytealg.MaxLen"], loops := true, apart := false, narrowed := true }
def ReaderBackUptoSaid : Prop := readerBackUptoRow.holds Tryz.pinned (OpenSpec.upto readerBackSpec)

/-- 'glazierlaw15.ReaderNames', WHERE WHAT IT READS IS OF BULK AT MOST 1048576: true; the input reads as it did. -/
def readerNamesUptoRow : OpenClaim := { program := "ytddgabjhligeeaagreat", sum := "30e6096bc73f18ff4f94b3e588cbd2225f403c72094d4e1e2a26020c5c967b03", func := "glazier/glazierlaw15.ReaderNames", spec := "readerNames", inPlace := ["internal/abi.NoEscape", "internal/bytealg.IndexByteString", "internal/bytealg.IndexString"], unfollowed := true, recurses := true, named := ["internal/bytealg.MaxLen"], loops := true, apart := false, narrowed := true }
def ReaderNamesUptoSaid : Prop := readerNamesUptoRow.holds Tryz.pinned (OpenSpec.upto readerNamesSpec)

/-- 'glazierlaw15.ReaderValid', WHERE WHAT IT READS IS OF BULK AT MOST 1048576: true; the input reads as it did. -/
def readerValidUptoRow : OpenClaim := { program := "ytddgabjhligeeaagreat", sum := "30e6096bc73f18ff4f94b3e588cbd2225f403c72094d4e1e2a26020c5c967b03", func := "glazier/glazierlaw15.ReaderValid", spec := "readerValid", inPlace := ["internal/abi.NoEscape", "internal/bytealg.IndexByteString", "internal/bytealg.IndexString"], unfollowed := true, recurses := true, named := ["internal/bytealg.MaxLen"], apart := false, narrowed := true }
def ReaderValidUptoSaid : Prop := readerValidUptoRow.holds Tryz.pinned (OpenSpec.upto readerValidSpec)

end Rows
end Go.Proofs.YtddgabjhligeeaaGreat
