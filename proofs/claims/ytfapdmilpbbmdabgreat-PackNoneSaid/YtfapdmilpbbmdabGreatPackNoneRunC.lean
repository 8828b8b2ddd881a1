/- The law PackNone: stretches of its run. -/
import Derived.Test.YtfapdmilpbbmdabGreatPackNoneStB
namespace Go.Proofs.YtfapdmilpbbmdabGreat.packNone
set_option linter.unusedVariables false
set_option maxRecDepth 100000
open Go.Wvm

theorem w0 : runK Tryz.prog tables 1000000 1500 0 s0 = .next s1 := by kernel_rfl

theorem w1 : runK Tryz.prog tables 1000000 1500 0 s1 = .next s2 := by kernel_rfl

theorem w6 : runK Tryz.prog tables 1000000 925 0 s6 = .next s7 := by kernel_rfl

theorem w8 : runK Tryz.prog tables 1000000 1500 0 s8 = .next s9 := by kernel_rfl

theorem w11 : runK Tryz.prog tables 1000000 389 0 s11 = .next s12 := by kernel_rfl

theorem w14 : trueV (runK Tryz.prog tables 1000000 1381 0 s14) = true := by kernel_rfl
end Go.Proofs.YtfapdmilpbbmdabGreat.packNone
