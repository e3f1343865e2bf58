/-
  CleanTwice, where what comes in is of bulk at most 1048576: what Views leaves of any views, cleaned once more, is as it was.
  Conditions: none beside the bound that the statement itself names.
-/
import Derived.Test.YtnbdldapmllegaaGreatJtAT
import Derived.Test.YtnbdldapmllegaaGreatJtAU
namespace Go.Proofs.YtnbdldapmllegaaGreat.cleanTwice
open Go.Proofs.YtnbdldapmllegaaGreat.mk

theorem proved : Rows.CleanTwiceUptoSaid := proved_of views_says alive_says

end Go.Proofs.YtnbdldapmllegaaGreat.cleanTwice
