/- The law StreamNames: stretches of its run. -/
import Derived.Test.YtfapdmilpbbmdaaDoorStreamNamesStC
namespace Go.Proofs.YtfapdmilpbbmdaaDoor.streamNames
set_option linter.unusedVariables false
set_option maxRecDepth 100000
open Go.Wvm

theorem w7 : runK Tryd.prog tables 1000000 2000 0 s7 = .next s8 := by kernel_rfl

theorem w15 : runK Tryd.prog tables 1000000 2000 0 s15 = .next s16 := by kernel_rfl

theorem w20 : runK Tryd.prog tables 1000000 2000 0 s20 = .next s21 := by kernel_rfl

theorem w26 : runK Tryd.prog tables 1000000 2000 0 s26 = .next s27 := by kernel_rfl

theorem w30 : runK Tryd.prog tables 1000000 2000 0 s30 = .next s31 := by kernel_rfl

theorem w32 : runK Tryd.prog tables 1000000 2000 0 s32 = .next s33 := by kernel_rfl

theorem w36 : runK Tryd.prog tables 1000000 2000 0 s36 = .next s37 := by kernel_rfl

theorem w44 : trueV (runK Tryd.prog tables 1000000 1732 0 s44) = true := by kernel_rfl
end Go.Proofs.YtfapdmilpbbmdaaDoor.streamNames
