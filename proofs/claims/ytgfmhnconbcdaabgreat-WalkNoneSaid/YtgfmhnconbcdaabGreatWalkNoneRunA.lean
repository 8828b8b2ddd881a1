/- The law WalkNone: stretches of its run. -/
import Derived.Test.YtgfmhnconbcdaabGreatWalkNoneStB
namespace Go.Proofs.YtgfmhnconbcdaabGreat.walkNone
set_option linter.unusedVariables false
set_option maxRecDepth 100000
open Go.Wvm

theorem w0 : runK Tryz.prog tables 1000000 1500 0 s0 = .next s1 := by kernel_rfl

theorem w2 : runK Tryz.prog tables 1000000 1500 0 s2 = .next s3 := by kernel_rfl

theorem w7 : runK Tryz.prog tables 1000000 1500 0 s7 = .next s8 := by kernel_rfl

theorem w13 : runK Tryz.prog tables 1000000 1500 0 s13 = .next s14 := by kernel_rfl

theorem w16 : runK Tryz.prog tables 1000000 1500 0 s16 = .next s17 := by kernel_rfl

theorem w18 : runK Tryz.prog tables 1000000 1463 0 s18 = .next s19 := by kernel_rfl
end Go.Proofs.YtgfmhnconbcdaabGreat.walkNone
