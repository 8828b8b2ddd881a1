/- The law WalkNone: stretches of its run. -/
import Derived.Test.YtgfmhnconbcdaabGreatWalkNoneStB
namespace Go.Proofs.YtgfmhnconbcdaabGreat.walkNone
set_option linter.unusedVariables false
set_option maxRecDepth 100000
open Go.Wvm

theorem w3 : runK Tryz.prog tables 1000000 1500 0 s3 = .next s4 := by kernel_rfl

theorem w6 : runK Tryz.prog tables 1000000 1500 0 s6 = .next s7 := by kernel_rfl

theorem w8 : runK Tryz.prog tables 1000000 1500 0 s8 = .next s9 := by kernel_rfl

theorem w9 : runK Tryz.prog tables 1000000 1500 0 s9 = .next s10 := by kernel_rfl

theorem w10 : runK Tryz.prog tables 1000000 1500 0 s10 = .next s11 := by kernel_rfl

theorem w11 : runK Tryz.prog tables 1000000 1192 0 s11 = .next s12 := by kernel_rfl

theorem w12 : runK Tryz.prog tables 1000000 1500 0 s12 = .next s13 := by kernel_rfl

theorem w14 : runK Tryz.prog tables 1000000 1500 0 s14 = .next s15 := by kernel_rfl
end Go.Proofs.YtgfmhnconbcdaabGreat.walkNone
