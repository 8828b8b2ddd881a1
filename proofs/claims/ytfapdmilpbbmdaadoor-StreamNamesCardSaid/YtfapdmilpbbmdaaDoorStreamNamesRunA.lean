/- The law StreamNames: stretches of its run. -/
import Derived.Test.YtfapdmilpbbmdaaDoorStreamNamesStC
namespace Go.Proofs.YtfapdmilpbbmdaaDoor.streamNames
set_option linter.unusedVariables false
set_option maxRecDepth 100000
open Go.Wvm

theorem w0 : runK Tryd.prog tables 1000000 2000 0 s0 = .next s1 := by kernel_rfl

theorem w4 : runK Tryd.prog tables 1000000 2000 0 s4 = .next s5 := by kernel_rfl

theorem w9 : runK Tryd.prog tables 1000000 2000 0 s9 = .next s10 := by kernel_rfl

theorem w19 : runK Tryd.prog tables 1000000 2000 0 s19 = .next s20 := by kernel_rfl

theorem w21 : runK Tryd.prog tables 1000000 2000 0 s21 = .next s22 := by kernel_rfl

theorem w23 : runK Tryd.prog tables 1000000 1601 0 s23 = .next s24 := by kernel_rfl

theorem w38 : runK Tryd.prog tables 1000000 2000 0 s38 = .next s39 := by kernel_rfl
end Go.Proofs.YtfapdmilpbbmdaaDoor.streamNames
