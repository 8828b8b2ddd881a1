/- The law BfsNames: what its row says of the code that its call reaches: what is in place. -/
import Derived.Test.YtflkcbkcmbogjaaGreatDoorRows
import Derived.ProofKit
import Derived.WalkKit
namespace Go.Proofs.YtflkcbkcmbogjaaGreatDoor.bfsNames
set_option maxRecDepth 100000

theorem inPlaceIs : Tryz.prog.inPlace 3 = Rows.bfsNamesRow.inPlace := by kernel_rfl

end Go.Proofs.YtflkcbkcmbogjaaGreatDoor.bfsNames
