/-
  Contracts of the reference's All, and of Ints.
-/
import Derived.Test.YtnbdldapmllegaaGreatJsT
import Derived.Test.YtnbdldapmllegaaGreatJsW
namespace Go.Proofs.YtnbdldapmllegaaGreat.mk
open Go.RowKit

end Go.Proofs.YtnbdldapmllegaaGreat.mk
