/- The law StreamNames: stretches of its run. -/
import Derived.Test.YtfapdmilpbbmdaaDoorStreamNamesStC
namespace Go.Proofs.YtfapdmilpbbmdaaDoor.streamNames
set_option linter.unusedVariables false
set_option maxRecDepth 100000
open Go.Wvm

theorem w11 : runK Tryd.prog tables 1000000 2000 0 s11 = .next s12 := by kernel_rfl

theorem w12 : runK Tryd.prog tables 1000000 2000 0 s12 = .next s13 := by kernel_rfl

theorem w14 : runK Tryd.prog tables 1000000 1742 0 s14 = .next s15 := by kernel_rfl

theorem w18 : runK Tryd.prog tables 1000000 2000 0 s18 = .next s19 := by kernel_rfl

theorem w35 : runK Tryd.prog tables 1000000 2000 0 s35 = .next s36 := by kernel_rfl

theorem w40 : runK Tryd.prog tables 1000000 2000 0 s40 = .next s41 := by kernel_rfl
end Go.Proofs.YtfapdmilpbbmdaaDoor.streamNames
