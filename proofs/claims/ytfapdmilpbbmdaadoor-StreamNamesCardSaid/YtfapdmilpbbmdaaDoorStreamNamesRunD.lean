/- The law StreamNames: stretches of its run. -/
import Derived.Test.YtfapdmilpbbmdaaDoorStreamNamesStC
namespace Go.Proofs.YtfapdmilpbbmdaaDoor.streamNames
set_option linter.unusedVariables false
set_option maxRecDepth 100000
open Go.Wvm

theorem w6 : runK Tryd.prog tables 1000000 2000 0 s6 = .next s7 := by kernel_rfl

theorem w13 : runK Tryd.prog tables 1000000 2000 0 s13 = .next s14 := by kernel_rfl

theorem w17 : runK Tryd.prog tables 1000000 2000 0 s17 = .next s18 := by kernel_rfl

theorem w25 : runK Tryd.prog tables 1000000 2000 0 s25 = .next s26 := by kernel_rfl

theorem w31 : runK Tryd.prog tables 1000000 2000 0 s31 = .next s32 := by kernel_rfl

theorem w34 : runK Tryd.prog tables 1000000 2000 0 s34 = .next s35 := by kernel_rfl

theorem w37 : runK Tryd.prog tables 1000000 2000 0 s37 = .next s38 := by kernel_rfl

theorem w42 : runK Tryd.prog tables 1000000 2000 0 s42 = .next s43 := by kernel_rfl
end Go.Proofs.YtfapdmilpbbmdaaDoor.streamNames
