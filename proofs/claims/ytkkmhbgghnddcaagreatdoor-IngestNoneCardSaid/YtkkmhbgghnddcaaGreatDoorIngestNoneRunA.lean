/- The law IngestNone: stretches of its run. -/
import Derived.Test.YtkkmhbgghnddcaaGreatDoorIngestNoneStA
import Derived.Test.YtkkmhbgghnddcaaGreatDoorProg
namespace Go.Proofs.YtkkmhbgghnddcaaGreatDoor.ingestNone
set_option linter.unusedVariables false
set_option maxRecDepth 100000
open Go.Wvm

theorem w4 : VS.shed [(3, 1), (117, 13), (194, 17), (225, 6), (252, 10), (311, 14), (326, 38)] [[], [2, 28, 31, 91, 92, 93, 94, 95, 96, 97, 98, 99, 100, 101, 102, 103, 104, 105, 106, 107, 108, 109, 110]] (runK Tryz.prog tables 1000000 2500 0 s4) = .next s5 := by kernel_rfl

theorem w10 : VS.shed [(571, 15), (734, 1), (829, 12), (925, 75), (1001, 3), (1005, 21), (1027, 1), (1033, 1), (1037, 18)] [[0, 1, 2, 5, 9, 15, 16, 17, 20, 21, 22, 23, 24, 25, 26, 27, 28, 29, 30, 31, 32, 33], [2, 4, 13, 42, 43, 44, 45, 46, 47, 48, 49, 53, 54, 55, 56, 57, 58, 59, 62, 63, 64, 65, 66, 67, 68, 69, 72, 73, 74, 75, 76, 77, 78, 82]] (runK Tryz.prog tables 1000000 1590 0 s10) = .next s11 := by kernel_rfl

theorem w14 : trueV (runK Tryz.prog tables 1000000 410 0 s14) = true := by kernel_rfl
end Go.Proofs.YtkkmhbgghnddcaaGreatDoor.ingestNone
