/- The law TriNone: what its row says of the code that its call reaches: what is in place. -/
import Derived.Test.YtnefhpkkbehjeaaGreatDoorRows
import Derived.ProofKit
import Derived.WalkKit
namespace Go.Proofs.YtnefhpkkbehjeaaGreatDoor.triNone
set_option maxRecDepth 100000

theorem inPlaceIs : Tryz.prog.inPlace 3 = Rows.triNoneRow.inPlace := by kernel_rfl

end Go.Proofs.YtnefhpkkbehjeaaGreatDoor.triNone
