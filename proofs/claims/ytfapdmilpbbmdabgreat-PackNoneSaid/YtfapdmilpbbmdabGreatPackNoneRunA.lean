/- The law PackNone: stretches of its run. -/
import Derived.Test.YtfapdmilpbbmdabGreatPackNoneStB
namespace Go.Proofs.YtfapdmilpbbmdabGreat.packNone
set_option linter.unusedVariables false
set_option maxRecDepth 100000
open Go.Wvm

theorem w7 : runK Tryz.prog tables 1000000 1500 0 s7 = .next s8 := by kernel_rfl

theorem w9 : runK Tryz.prog tables 1000000 1500 0 s9 = .next s10 := by kernel_rfl

theorem w10 : runK Tryz.prog tables 1000000 1251 0 s10 = .next s11 := by kernel_rfl
end Go.Proofs.YtfapdmilpbbmdabGreat.packNone
