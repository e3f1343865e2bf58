/-
  Contracts of the reference's All, and of Ints.
-/
import Derived.Test.YtnbdldapmllegaaGreatJrT
import Derived.Test.YtnbdldapmllegaaGreatJrW
namespace Go.Proofs.YtnbdldapmllegaaGreat.mk
open Go.RowKit

end Go.Proofs.YtnbdldapmllegaaGreat.mk
