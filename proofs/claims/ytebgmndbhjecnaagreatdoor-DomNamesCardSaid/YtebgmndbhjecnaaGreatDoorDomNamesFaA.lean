/- The law DomNames: what its row says of the code that its call reaches: what is in place. -/
import Derived.Test.YtebgmndbhjecnaaGreatDoorRows
import Derived.ProofKit
import Derived.WalkKit
namespace Go.Proofs.YtebgmndbhjecnaaGreatDoor.domNames
set_option maxRecDepth 100000

theorem inPlaceIs : Tryz.prog.inPlace 3 = Rows.domNamesRow.inPlace := by kernel_rfl

end Go.Proofs.YtebgmndbhjecnaaGreatDoor.domNames
