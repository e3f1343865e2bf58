/-
  No cell of these rows narrows 'for every input' (looked for: loops, veiled, ifaces, maps, wideKeys, modest, calm, conditions, laid).
  DERIVED. THE GIVEN ROWS OF THIS SEAT. 3 by the template 'for every input the law returns true; each argument reads behind the call as it read before'; 0 by the template 'total and deterministic' (their statements: YtdfpoinnajahiaaTotals.lean).
  GIVEN WITH THE SEED: the statements are not yours to turn. If you find one false, say at which input.
  Laid BY PROGRAM, IN A SANDBOX (cutbox-rows.mjs): the forced cells as the released guide's own fill.sh prints them over the translation 0307a86ab06688b8… (all of the seat's roots in one cut). By AI agents, Wed Nov 11 2026. No macro, syntax, notation, axiom, sorry.
-/
import Derived.Test.YtdfpoinnajahiaaChecked
import GoSem.Claim
import GoSem.ClaimJoined
import GoSem.ClaimMapViews
import Derived.JoinedTies
import Derived.KernelRfl
namespace Go.Proofs.Ytdfpoinnajahiaa
/- THE CELL 'sum', in the pinned program and in every row, IS THE sha256 OF THE DUMP (.gsa) THAT YtdfpoinnajahiaaProg.lean LOADS. Nothing in Lean hashes anything: it is a label: what it is worth is what the hold of that sum in a sandbox is worth. -/
noncomputable def Try.pinned : Pinned := { name := "ytdfpoinnajahiaa", sum := "0307a86ab06688b8ef2d4ff5ff0ae1fd334957fc0994ff962dbe65469f035616", checked := Try.checked }
namespace Rows
def none {H : Type} : Left H := { results := [], args := [] }

/-- 'glazierlaw06.UrlTells': WHATEVER THE INPUT: true; the input reads as it did. -/
def urlTellsSpec : ChangeSpec := { name := "urlTells", fn := fun _ => fun
  | [d] => { results := [.lit (.bool true)], args := [d] }
  | _ => none }
def urlTellsRow : OpenClaim := { program := "ytdfpoinnajahiaa", sum := "0307a86ab06688b8ef2d4ff5ff0ae1fd334957fc0994ff962dbe65469f035616", func := "glazier/glazierlaw06.UrlTells", spec := "urlTells", inPlace := ["internal/abi.NoEscape", "internal/bytealg.IndexByteString"], unfollowed := true, recurses := true, apart := false }
def UrlTellsSaid : Prop := urlTellsRow.holds Try.pinned (OpenSpec.ofChange urlTellsSpec)

/-- ITS FALSE NEIGHBOUR: 'it returns false'. Refute it at one input. -/
def urlTellsWrong : ChangeSpec := { name := "urlTells", fn := fun _ => fun
  | [d] => { results := [.lit (.bool false)], args := [d] }
  | _ => none }
def UrlTellsWrongFalsely : Prop := urlTellsRow.holds Try.pinned (OpenSpec.ofChange urlTellsWrong)

/-- 'glazierlaw06.UrlParts': WHATEVER THE INPUT: true; the input reads as it did. -/
def urlPartsSpec : ChangeSpec := { name := "urlParts", fn := fun _ => fun
  | [d] => { results := [.lit (.bool true)], args := [d] }
  | _ => none }
def urlPartsRow : OpenClaim := { program := "ytdfpoinnajahiaa", sum := "0307a86ab06688b8ef2d4ff5ff0ae1fd334957fc0994ff962dbe65469f035616", func := "glazier/glazierlaw06.UrlParts", spec := "urlParts", inPlace := ["internal/abi.NoEscape", "internal/bytealg.IndexByteString", "internal/bytealg.IndexString"], unfollowed := true, recurses := true, named := ["internal/bytealg.MaxLen"], apart := false }
def UrlPartsSaid : Prop := urlPartsRow.holds Try.pinned (OpenSpec.ofChange urlPartsSpec)

/-- ITS FALSE NEIGHBOUR: 'it returns false'. Refute it at one input. -/
def urlPartsWrong : ChangeSpec := { name := "urlParts", fn := fun _ => fun
  | [d] => { results := [.lit (.bool false)], args := [d] }
  | _ => none }
def UrlPartsWrongFalsely : Prop := urlPartsRow.holds Try.pinned (OpenSpec.ofChange urlPartsWrong)

/-- 'glazierlaw06.UrlTwice': WHATEVER THE INPUT: true; the input reads as it did. -/
def urlTwiceSpec : ChangeSpec := { name := "urlTwice", fn := fun _ => fun
  | [d] => { results := [.lit (.bool true)], args := [d] }
  | _ => none }
def urlTwiceRow : OpenClaim := { program := "ytdfpoinnajahiaa", sum := "0307a86ab06688b8ef2d4ff5ff0ae1fd334957fc0994ff962dbe65469f035616", func := "glazier/glazierlaw06.UrlTwice", spec := "urlTwice", inPlace := ["internal/abi.NoEscape", "internal/bytealg.IndexByteString"], unfollowed := true, recurses := true, apart := false }
def UrlTwiceSaid : Prop := urlTwiceRow.holds Try.pinned (OpenSpec.ofChange urlTwiceSpec)

/-- ITS FALSE NEIGHBOUR: 'it returns false'. Refute it at one input. -/
def urlTwiceWrong : ChangeSpec := { name := "urlTwice", fn := fun _ => fun
  | [d] => { results := [.lit (.bool false)], args := [d] }
  | _ => none }
def UrlTwiceWrongFalsely : Prop := urlTwiceRow.holds Try.pinned (OpenSpec.ofChange urlTwiceWrong)

/- THE SECOND FORM. 'bulk': how many values and letters a reading holds, each counted each time it is reached (what is shared counts as often as it is met; a slice's spare places count too). A statement '..UptoSaid' is the law's where the arguments, and the package variables that the reading takes, are together of bulk at most 1048576: NARROWER than '..Said'. Prove '..Said' where nothing that the law and all that it calls make is longer than what came in: it says more and counts as full. Else prove '..UptoSaid'. A law counts once. -/
mutual
def uptoBulk {H : Type} : DataW H → Nat
  | .lit (.string bytes) => bytes.length + 1
  | .lit _ => 1
  | .nil => 1
  | .ptr d => uptoBulk d + 1
  | .slice elems spare => uptoBulkAll elems + uptoBulkAll spare + 1
  | .agg parts => uptoBulkAll parts + 1
  | .iface _ d => uptoBulk d + 1
  | .map entries => uptoBulkEntries entries + 1
  | .held _ => 1
def uptoBulkAll {H : Type} : List (DataW H) → Nat
  | [] => 0
  | d :: r => uptoBulk d + uptoBulkAll r
def uptoBulkEntries {H : Type} : List (Lit × DataW H) → Nat
  | [] => 0
  | x :: r => uptoBulkEntry x + uptoBulkEntries r
def uptoBulkEntry {H : Type} : Lit × DataW H → Nat
  | (.string bytes, d) => bytes.length + uptoBulk d + 1
  | (_, d) => uptoBulk d + 1
 end
def uptoSmall : (H : Type) → List (DataW H) → Bool := fun _ ds => decide (uptoBulkAll ds ≤ 1048576)
def OpenSpec.upto (s : _root_.Go.ChangeSpec) : _root_.Go.OpenSpec := { _root_.Go.OpenSpec.ofChange s with cond := some uptoSmall }

/-- 'glazierlaw06.UrlTells', WHERE WHAT IT READS IS OF BULK AT MOST 1048576: true; the input reads as it did. -/
def urlTellsUptoRow : OpenClaim := { program := "ytdfpoinnajahiaa", sum := "0307a86ab06688b8ef2d4ff5ff0ae1fd334957fc0994ff962dbe65469f035616", func := "glazier/glazierlaw06.UrlTells", spec := "urlTells", inPlace := ["internal/abi.NoEscape", "internal/bytealg.IndexByteString"], unfollowed := true, recurses := true, apart := false, narrowed := true }
def UrlTellsUptoSaid : Prop := urlTellsUptoRow.holds Try.pinned (OpenSpec.upto urlTellsSpec)

/-- 'glazierlaw06.UrlParts', WHERE WHAT IT READS IS OF BULK AT MOST 1048576: true; the input reads as it did. -/
def urlPartsUptoRow : OpenClaim := { program := "ytdfpoinnajahiaa", sum := "0307a86ab06688b8ef2d4ff5ff0ae1fd334957fc0994ff962dbe65469f035616", func := "glazier/glazierlaw06.UrlParts", spec := "urlParts", inPlace := ["internal/abi.NoEscape", "internal/bytealg.IndexByteString", "internal/bytealg.IndexString"], unfollowed := true, recurses := true, named := ["internal/bytealg.MaxLen"], apart := false, narrowed := true }
def UrlPartsUptoSaid : Prop := urlPartsUptoRow.holds Try.pinned (OpenSpec.upto urlPartsSpec)

/-- 'glazierlaw06.UrlTwice', WHERE WHAT IT READS IS OF BULK AT MOST 1048576: true; the input reads as it did. -/
def urlTwiceUptoRow : OpenClaim := { program := "ytdfpoinnajahiaa", sum := "0307a86ab06688b8ef2d4ff5ff0ae1fd334957fc0994ff962dbe65469f035616", func := "glazier/glazierlaw06.UrlTwice", spec := "urlTwice", inPlace := ["internal/abi.NoEscape", "internal/bytealg.IndexByteString"], unfollowed := true, recurses := true, apart := false, narrowed := true }
def UrlTwiceUptoSaid : Prop := urlTwiceUptoRow.holds Try.pinned (OpenSpec.upto urlTwiceSpec)

end Rows
end Go.Proofs.Ytdfpoinnajahiaa
