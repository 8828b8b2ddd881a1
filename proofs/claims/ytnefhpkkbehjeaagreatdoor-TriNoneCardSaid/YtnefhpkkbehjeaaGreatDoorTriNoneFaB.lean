/- The law TriNone: what its row says of the code that its call reaches: what is not followed, which variables are named. -/
import Derived.Test.YtnefhpkkbehjeaaGreatDoorRows
import Derived.ProofKit
import Derived.WalkKit
namespace Go.Proofs.YtnefhpkkbehjeaaGreatDoor.triNone
set_option maxRecDepth 100000

theorem unfollowedIs : Tryz.prog.unfollowed 3 = Rows.triNoneRow.unfollowed := by kernel_rfl

theorem recursesIs : Tryz.prog.recurses 3 = Rows.triNoneRow.recurses := by
  unfold Program.recurses; rw [unfollowedIs]; rfl

theorem varsIs : Tryz.prog.varsNamed 3 = Rows.triNoneRow.named := by kernel_rfl

end Go.Proofs.YtnefhpkkbehjeaaGreatDoor.triNone
