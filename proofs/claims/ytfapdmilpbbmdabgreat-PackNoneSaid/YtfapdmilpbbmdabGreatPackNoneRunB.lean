/- The law PackNone: stretches of its run. -/
import Derived.Test.YtfapdmilpbbmdabGreatPackNoneStB
namespace Go.Proofs.YtfapdmilpbbmdabGreat.packNone
set_option linter.unusedVariables false
set_option maxRecDepth 100000
open Go.Wvm

theorem w2 : runK Tryz.prog tables 1000000 1500 0 s2 = .next s3 := by kernel_rfl

theorem w3 : runK Tryz.prog tables 1000000 1500 0 s3 = .next s4 := by kernel_rfl

theorem w4 : runK Tryz.prog tables 1000000 1500 0 s4 = .next s5 := by kernel_rfl

theorem w5 : runK Tryz.prog tables 1000000 1500 0 s5 = .next s6 := by kernel_rfl

theorem w12 : runK Tryz.prog tables 1000000 774 0 s12 = .next s13 := by kernel_rfl

theorem w13 : runK Tryz.prog tables 1000000 1500 0 s13 = .next s14 := by kernel_rfl
end Go.Proofs.YtfapdmilpbbmdabGreat.packNone
