/- The law WalkNone: stretches of its run. -/
import Derived.Test.YtgfmhnconbcdaabGreatWalkNoneStB
namespace Go.Proofs.YtgfmhnconbcdaabGreat.walkNone
set_option linter.unusedVariables false
set_option maxRecDepth 100000
open Go.Wvm

theorem w1 : runK Tryz.prog tables 1000000 1500 0 s1 = .next s2 := by kernel_rfl

theorem w4 : runK Tryz.prog tables 1000000 131 0 s4 = .next s5 := by kernel_rfl

theorem w5 : runK Tryz.prog tables 1000000 1500 0 s5 = .next s6 := by kernel_rfl

theorem w15 : runK Tryz.prog tables 1000000 1500 0 s15 = .next s16 := by kernel_rfl

theorem w17 : runK Tryz.prog tables 1000000 1500 0 s17 = .next s18 := by kernel_rfl

theorem w19 : trueV (runK Tryz.prog tables 1000000 358 0 s19) = true := by kernel_rfl
end Go.Proofs.YtgfmhnconbcdaabGreat.walkNone
