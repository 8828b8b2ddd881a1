/- The law BallNone: what its row says of the code that its call reaches: what is in place. -/
import Derived.Test.YtebgmndbhjecnaaGreatDoorRows
import Derived.ProofKit
import Derived.WalkKit
namespace Go.Proofs.YtebgmndbhjecnaaGreatDoor.ballNone
set_option maxRecDepth 100000

theorem inPlaceIs : Tryz.prog.inPlace 4 = Rows.ballNoneRow.inPlace := by kernel_rfl

end Go.Proofs.YtebgmndbhjecnaaGreatDoor.ballNone
