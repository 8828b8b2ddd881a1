/- The law SccNames: what its row says of the code that its call reaches: what is not followed, which variables are named. -/
import Derived.Test.YtnefhpkkbehjeaaGreatDoorRows
import Derived.ProofKit
import Derived.WalkKit
namespace Go.Proofs.YtnefhpkkbehjeaaGreatDoor.sccNames
set_option maxRecDepth 100000

theorem unfollowedIs : Tryz.prog.unfollowed 4 = Rows.sccNamesRow.unfollowed := by kernel_rfl

theorem recursesIs : Tryz.prog.recurses 4 = Rows.sccNamesRow.recurses := by
  unfold Program.recurses; rw [unfollowedIs]; rfl

theorem varsIs : Tryz.prog.varsNamed 4 = Rows.sccNamesRow.named := by kernel_rfl

end Go.Proofs.YtnefhpkkbehjeaaGreatDoor.sccNames
