/- The law SorterNone: stretches of its run. -/
import Derived.Test.YtgfmhnconbcdaaaGreatDoorSorterNoneStA
namespace Go.Proofs.YtgfmhnconbcdaaaGreatDoor.sorterNone
set_option linter.unusedVariables false
set_option maxRecDepth 100000
open Go.Wvm

theorem w0 : runK Tryz.prog tables 1000000 1500 0 s0 = .next s1 := by kernel_rfl

theorem w1 : runK Tryz.prog tables 1000000 1500 0 s1 = .next s2 := by kernel_rfl

theorem w2 : runK Tryz.prog tables 1000000 1500 0 s2 = .next s3 := by kernel_rfl

theorem w3 : runK Tryz.prog tables 1000000 1500 0 s3 = .next s4 := by kernel_rfl

theorem w4 : runK Tryz.prog tables 1000000 1500 0 s4 = .next s5 := by kernel_rfl

theorem w5 : runK Tryz.prog tables 1000000 1500 0 s5 = .next s6 := by kernel_rfl

theorem w6 : runK Tryz.prog tables 1000000 1500 0 s6 = .next s7 := by kernel_rfl

theorem w7 : trueV (runK Tryz.prog tables 1000000 352 0 s7) = true := by kernel_rfl
end Go.Proofs.YtgfmhnconbcdaaaGreatDoor.sorterNone
