/-
  Contracts of the reference's All, and of Ints.
-/
import Derived.Test.YtnbdldapmllegaaGreatJtT
import Derived.Test.YtnbdldapmllegaaGreatJtW
namespace Go.Proofs.YtnbdldapmllegaaGreat.mk
open Go.RowKit

end Go.Proofs.YtnbdldapmllegaaGreat.mk
