/- The law CoreNone: what its row says of the code that its call reaches: what is not followed, which variables are named. -/
import Derived.Test.YtflkcbkcmbogjaaGreatDoorRows
import Derived.ProofKit
import Derived.WalkKit
namespace Go.Proofs.YtflkcbkcmbogjaaGreatDoor.coreNone
set_option maxRecDepth 100000

theorem unfollowedIs : Tryz.prog.unfollowed 4 = Rows.coreNoneRow.unfollowed := by kernel_rfl

theorem recursesIs : Tryz.prog.recurses 4 = Rows.coreNoneRow.recurses := by
  unfold Program.recurses; rw [unfollowedIs]; rfl

theorem varsIs : Tryz.prog.varsNamed 4 = Rows.coreNoneRow.named := by kernel_rfl

end Go.Proofs.YtflkcbkcmbogjaaGreatDoor.coreNone
