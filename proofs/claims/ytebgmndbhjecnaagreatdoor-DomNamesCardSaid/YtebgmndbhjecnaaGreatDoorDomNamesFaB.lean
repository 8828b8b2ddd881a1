/- The law DomNames: what its row says of the code that its call reaches: what is not followed, which variables are named. -/
import Derived.Test.YtebgmndbhjecnaaGreatDoorRows
import Derived.ProofKit
import Derived.WalkKit
namespace Go.Proofs.YtebgmndbhjecnaaGreatDoor.domNames
set_option maxRecDepth 100000

theorem unfollowedIs : Tryz.prog.unfollowed 3 = Rows.domNamesRow.unfollowed := by kernel_rfl

theorem recursesIs : Tryz.prog.recurses 3 = Rows.domNamesRow.recurses := by
  unfold Program.recurses; rw [unfollowedIs]; rfl

theorem varsIs : Tryz.prog.varsNamed 3 = Rows.domNamesRow.named := by kernel_rfl

end Go.Proofs.YtebgmndbhjecnaaGreatDoor.domNames
