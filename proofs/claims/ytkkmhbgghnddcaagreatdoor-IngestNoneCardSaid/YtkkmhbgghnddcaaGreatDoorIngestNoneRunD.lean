/- The law IngestNone: stretches of its run. -/
import Derived.Test.YtkkmhbgghnddcaaGreatDoorIngestNoneStA
import Derived.Test.YtkkmhbgghnddcaaGreatDoorProg
namespace Go.Proofs.YtkkmhbgghnddcaaGreatDoor.ingestNone
set_option linter.unusedVariables false
set_option maxRecDepth 100000
open Go.Wvm

theorem w0 : VS.shed [(1, 2), (4, 47)] [[0, 1, 4, 7, 8, 9, 12, 13, 14, 15, 16, 17, 18, 19, 20, 21, 22], [0, 12, 13, 14, 15, 17, 18, 19, 20, 21]] (runK Tryz.prog tables 1000000 2500 0 s0) = .next s1 := by kernel_rfl

theorem w6 : VS.shed [(371, 1), (413, 75), (501, 1), (507, 4), (514, 4)] [[7, 10, 11, 12], [0, 2, 3, 4, 19, 20, 23, 24, 25, 26, 27, 28, 29, 32, 33, 37, 38, 39, 40, 41, 42, 43, 47], [1, 2, 7, 8, 9, 10, 11]] (runK Tryz.prog tables 1000000 2500 0 s6) = .next s7 := by kernel_rfl

theorem w11 : VS.shed [(1056, 5), (1067, 5), (1075, 1), (1077, 128), (1206, 8)] [[7, 10, 13, 14, 15, 16, 19, 23, 24, 25, 26, 27, 28, 29, 31, 32, 33, 34, 35, 36, 37, 52, 53, 54, 55, 56, 57, 58, 59, 60, 61, 62, 63, 64, 65, 66, 67, 68], [0], [], [2, 5, 17], [3, 34, 35, 36, 37, 38, 39, 40, 41, 45, 46]] (runK Tryz.prog tables 1000000 1423 0 s11) = .next s12 := by kernel_rfl

theorem w12 : VS.shed [(1061, 1), (1072, 5), (1205, 1), (1216, 5), (1222, 87), (1310, 1), (1312, 3), (1320, 2), (1323, 84)] [[1, 2, 3, 9, 10, 11, 12, 13, 14, 15, 16, 17, 18, 19, 20, 21, 22, 23, 24, 25, 26, 27, 28, 29, 30, 31, 32], [0, 1, 3, 6, 9, 10, 11, 12, 13, 14, 15, 16, 17, 18, 19, 20, 21, 22, 23, 24, 25, 26, 29, 30, 31, 32, 33, 34, 35], [10, 13, 14, 15, 16, 19, 23, 24, 25, 26, 27, 28, 29], [0], [], [0, 1, 8, 9, 10, 11, 12, 13, 14, 15, 16, 18, 19, 20, 21, 22, 23, 25, 28, 29, 30, 31, 32, 33, 34, 35, 36, 39, 40, 41, 42, 46, 47, 48, 49, 53, 54, 55, 56, 59, 60, 63, 64, 65, 66, 67, 68, 69, 73, 74, 75, 76, 79, 80, 81, 83, 84, 85, 86, 87, 88, 91, 92, 93, 94, 95]] (runK Tryz.prog tables 1000000 1134 0 s12) = .next s13 := by kernel_rfl
end Go.Proofs.YtkkmhbgghnddcaaGreatDoor.ingestNone
