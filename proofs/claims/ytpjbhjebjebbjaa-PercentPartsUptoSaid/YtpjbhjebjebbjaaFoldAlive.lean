/-
  The contract of the statements' own test of fold: the page's example.
-/
import Derived.Test.YtpjbhjebjebbjaaFoldLines
namespace Go.Proofs.Ytpjbhjebjebbjaa.mk
open Go.RowKit

theorem alive3_lines : (linesR (chars [97, 13, 10, 13, 98] (comp (List.replicate 5 (nearO 0))))).map (·.1) = [97, 10, 10, 98] := by decide

end Go.Proofs.Ytpjbhjebjebbjaa.mk
