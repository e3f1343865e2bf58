/-
  CleanRight, where what comes in is of bulk at most 1048576: of what Views leaves of any views each tag and name may be and is trusted, each address is safe, no script, style or handler has a byte that is not trusted.
  Conditions: none beside the bound that the statement itself names.
-/
import Derived.Test.YtnbdldapmllegaaGreatJrAT
import Derived.Test.YtnbdldapmllegaaGreatJrAU
namespace Go.Proofs.YtnbdldapmllegaaGreat.cleanRight
open Go.Proofs.YtnbdldapmllegaaGreat.mk

theorem proved : Rows.CleanRightUptoSaid := proved_of views_says alive_says

end Go.Proofs.YtnbdldapmllegaaGreat.cleanRight
