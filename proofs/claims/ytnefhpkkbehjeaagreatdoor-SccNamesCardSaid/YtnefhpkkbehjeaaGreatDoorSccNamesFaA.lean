/- The law SccNames: what its row says of the code that its call reaches: what is in place. -/
import Derived.Test.YtnefhpkkbehjeaaGreatDoorRows
import Derived.ProofKit
import Derived.WalkKit
namespace Go.Proofs.YtnefhpkkbehjeaaGreatDoor.sccNames
set_option maxRecDepth 100000

theorem inPlaceIs : Tryz.prog.inPlace 4 = Rows.sccNamesRow.inPlace := by kernel_rfl

end Go.Proofs.YtnefhpkkbehjeaaGreatDoor.sccNames
