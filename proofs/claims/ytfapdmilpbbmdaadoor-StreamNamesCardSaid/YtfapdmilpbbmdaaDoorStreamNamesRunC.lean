/- The law StreamNames: stretches of its run. -/
import Derived.Test.YtfapdmilpbbmdaaDoorStreamNamesStC
namespace Go.Proofs.YtfapdmilpbbmdaaDoor.streamNames
set_option linter.unusedVariables false
set_option maxRecDepth 100000
open Go.Wvm

theorem w1 : runK Tryd.prog tables 1000000 2000 0 s1 = .next s2 := by kernel_rfl

theorem w2 : runK Tryd.prog tables 1000000 2000 0 s2 = .next s3 := by kernel_rfl

theorem w3 : runK Tryd.prog tables 1000000 2000 0 s3 = .next s4 := by kernel_rfl

theorem w22 : runK Tryd.prog tables 1000000 2000 0 s22 = .next s23 := by kernel_rfl

theorem w29 : runK Tryd.prog tables 1000000 2000 0 s29 = .next s30 := by kernel_rfl

theorem w33 : runK Tryd.prog tables 1000000 2000 0 s33 = .next s34 := by kernel_rfl

theorem w39 : runK Tryd.prog tables 1000000 2000 0 s39 = .next s40 := by kernel_rfl

theorem w41 : runK Tryd.prog tables 1000000 2000 0 s41 = .next s42 := by kernel_rfl
end Go.Proofs.YtfapdmilpbbmdaaDoor.streamNames
