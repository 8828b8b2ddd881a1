/- The law BallNone: what its row says of the code that its call reaches: what is not followed, which variables are named. -/
import Derived.Test.YtebgmndbhjecnaaGreatDoorRows
import Derived.ProofKit
import Derived.WalkKit
namespace Go.Proofs.YtebgmndbhjecnaaGreatDoor.ballNone
set_option maxRecDepth 100000

theorem unfollowedIs : Tryz.prog.unfollowed 4 = Rows.ballNoneRow.unfollowed := by kernel_rfl

theorem recursesIs : Tryz.prog.recurses 4 = Rows.ballNoneRow.recurses := by
  unfold Program.recurses; rw [unfollowedIs]; rfl

theorem varsIs : Tryz.prog.varsNamed 4 = Rows.ballNoneRow.named := by kernel_rfl

end Go.Proofs.YtebgmndbhjecnaaGreatDoor.ballNone
