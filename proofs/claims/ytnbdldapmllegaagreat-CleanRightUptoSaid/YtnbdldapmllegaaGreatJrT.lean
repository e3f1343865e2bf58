/-
  The contract of the reference's Of: a labelled text's bytes with their origins.
-/
import Derived.Test.YtnbdldapmllegaaGreatJrR
import Derived.Test.YtnbdldapmllegaaGreatJrG
import Derived.Deep.RegionHeld3
import Derived.Deep.AppendLies
import Derived.StillTactics
import Derived.WalkSpells
namespace Go.Proofs.YtnbdldapmllegaaGreat.mk
open Go.RowKit

end Go.Proofs.YtnbdldapmllegaaGreat.mk
