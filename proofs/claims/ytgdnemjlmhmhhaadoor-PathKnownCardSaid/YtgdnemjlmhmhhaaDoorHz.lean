/-
  From the rows' memory to the walks' words.
-/
import Derived.Test.YtgdnemjlmhmhhaaDoorHe
import Derived.Test.YtgdnemjlmhmhhaaDoorTie
import Derived.Test.YtgdnemjlmhmhhaaDoorCards
import Derived.ProofKit
import Derived.LaidMore
import Derived.OpenShut
import Derived.ShutString
import Derived.ChangeOld
import Derived.Below
import Derived.Stop.Joined
import Derived.Lib.LaidTab
import Derived.SevenTiedAt
import Derived.Deep.MidRow
import Derived.Lay
namespace Go.Proofs.YtgdnemjlmhmhhaaDoor
open Go.ChangeShapes Go.WideShapes Go.ChangeAt Go.RowKit

theorem own : ownKnob Tryd.prog.godebug = none := by kernel_rfl
theorem laidOut : laidOutB Tryd.prog = true := by kernel_rfl
def laid2 : List (String × DataW Unit) := [("unicode/utf8.acceptRanges", Rows.laid_unicode_utf8_acceptRanges), ("unicode/utf8.first", Rows.laid_unicode_utf8_first)]
end Go.Proofs.YtgdnemjlmhmhhaaDoor
