/- The law StreamNames: stretches of its run. -/
import Derived.Test.YtfapdmilpbbmdaaDoorStreamNamesStC
namespace Go.Proofs.YtfapdmilpbbmdaaDoor.streamNames
set_option linter.unusedVariables false
set_option maxRecDepth 100000
open Go.Wvm

theorem w5 : runK Tryd.prog tables 1000000 2000 0 s5 = .next s6 := by kernel_rfl

theorem w8 : runK Tryd.prog tables 1000000 2000 0 s8 = .next s9 := by kernel_rfl

theorem w10 : runK Tryd.prog tables 1000000 2000 0 s10 = .next s11 := by kernel_rfl

theorem w16 : runK Tryd.prog tables 1000000 2000 0 s16 = .next s17 := by kernel_rfl

theorem w24 : runK Tryd.prog tables 1000000 2000 0 s24 = .next s25 := by kernel_rfl

theorem w27 : runK Tryd.prog tables 1000000 2000 0 s27 = .next s28 := by kernel_rfl

theorem w28 : runK Tryd.prog tables 1000000 2000 0 s28 = .next s29 := by kernel_rfl

theorem w43 : runK Tryd.prog tables 1000000 2000 0 s43 = .next s44 := by kernel_rfl
end Go.Proofs.YtfapdmilpbbmdaaDoor.streamNames
