/- The law TurnNone: stretches of its run. -/
import Derived.Test.YteojaklegpbhhaaGreatDoorTurnNoneStB
import Derived.Test.YteojaklegpbhhaaGreatDoorProg
namespace Go.Proofs.YteojaklegpbhhaaGreatDoor.turnNone
set_option linter.unusedVariables false
set_option maxRecDepth 100000
open Go.Wvm

theorem w3y0z0 : VS.shed [(297, 1), (300, 14), (315, 4), (320, 21), (342, 2), (348, 1), (351, 48)] [[0, 1, 2, 3, 5, 6, 9, 12, 13, 14, 15, 16, 17, 20, 21, 22, 23, 24, 25, 26, 27, 28, 29, 30, 31, 32, 33, 34, 35, 36, 37, 38, 39, 40, 41, 44, 45, 46, 47, 48, 49, 50, 51, 52, 53, 56, 57, 58, 59, 60, 61, 62, 63, 64, 65, 66, 67, 68], [0, 2, 3, 4, 7, 10, 13, 16, 17, 20, 24, 27, 31, 32, 36, 37, 38, 42, 43, 44, 45, 46, 47, 48, 49, 53, 54, 55, 56, 57, 58, 59, 62, 63, 64, 65, 66, 67, 68, 69, 72, 73, 74, 75, 76, 77, 78, 82]] (runK Tryz.prog tables 1000000 2270 0 s3y0z0) = .next s3y0z1 := by kernel_rfl

theorem d3y : VS.shed [(284, 1)] [[1, 5, 7, 12, 74, 75, 76, 77, 78, 79, 80, 81]] (.next n3y) = .next s4 := by kernel_rfl

theorem w5 : VS.shed [(411, 3), (419, 1), (431, 115), (547, 2)] [[1, 5, 7, 12, 74, 75, 76, 77, 78, 79, 80, 81]] (runK Tryz.prog tables 1000000 1 0 s5) = .next s6 := by kernel_rfl

theorem w10 : VS.shed [(1262, 22), (1285, 20), (1311, 5)] [[0, 2, 3, 4, 18, 19, 22, 23, 24, 28, 29, 32, 33, 34, 35, 36, 37, 38, 42, 43, 44], [0, 1, 2, 3, 6], [27, 29, 30, 31, 32]] (runK Tryz.prog tables 1000000 1381 0 s10) = .next s11 := by kernel_rfl

theorem w13 : VS.shed [(1666, 291)] [] (runK Tryz.prog tables 1000000 1 0 s13) = .next s14 := by kernel_rfl

theorem w14 : VS.shed [(1662, 3)] [] (runK Tryz.prog tables 1000000 42 0 s14) = .next s15 := by kernel_rfl

theorem w17y0z4 : VS.shed [(3023, 185), (3209, 8)] [[7, 10, 13, 14, 15, 16, 19, 23, 24, 25, 26, 27, 28, 29, 31, 32, 33, 34, 35, 36, 37, 52, 53, 54, 55, 56, 57, 58, 59, 60, 61, 62, 63, 64, 65, 66, 67, 68], [0]] (runK Tryz.prog tables 1000000 536 0 s17y0z4) = .next s17y0z5 := by kernel_rfl

theorem w17y0z6 : VS.shedO [(2257, 4), (2819, 5), (2845, 11), (2881, 5), (3008, 1), (3218, 9), (3425, 42), (3468, 1)] (runK Tryz.prog tables 1000000 239 0 s17y0z6) = .over v17y0 W17y0 := by kernel_rfl

theorem y17y : triesX Tryz.prog tables (subM Tryz.prog tables 1000000 tb17y 0) 0 q177 s17.fr s17.w = true := by kernel_rfl

theorem w18 : VS.shed [(1305, 18), (1665, 1), (1961, 1), (2256, 1), (3471, 2), (3479, 5)] [[0, 2, 3, 4, 18, 19, 22, 23, 24, 28, 29, 32, 33, 34, 35, 36, 37, 38, 42, 43, 44], [0, 1, 2, 3, 6], [2, 6, 33, 34, 35, 36, 37, 38, 39]] (runK Tryz.prog tables 1000000 739 0 s18) = .next s19 := by kernel_rfl

theorem w19yz2 : VS.shedO [(3492, 4), (3586, 1), (3660, 1), (3812, 29)] (runK Tryz.prog tables 1000000 362 0 s19yz2) = .over v19y W19y := by kernel_rfl

theorem d19y : VS.shed [(3491, 1)] [] (.next n19y) = .next s20 := by kernel_rfl

theorem w22 : VS.shed [(3842, 3)] [] (runK Tryz.prog tables 1000000 42 0 s22) = .next s23 := by kernel_rfl

theorem w25y0z4 : VS.shed [(5041, 5), (5185, 173), (5361, 1), (5363, 2), (5366, 1), (5372, 2), (5375, 58)] [[1, 2, 3, 9, 10, 11, 12, 13, 14, 15, 16, 17, 18, 19, 20, 21, 22, 23, 24, 25, 26, 27, 28, 29, 30, 31, 32], [0, 1, 3, 6, 9, 10, 11, 12, 13, 14, 15, 16, 17, 18, 19, 20, 21, 22, 23, 24, 25, 26, 29, 30, 31, 32, 33, 34, 35], [10, 13, 14, 15, 16, 19, 23, 24, 25, 26, 27, 28, 29], [0], [], [0, 1, 8, 9, 10, 11, 12, 13, 14, 15, 16, 18, 19, 20, 21, 22, 23, 25, 28, 29, 30, 31, 32, 33, 34, 35, 36, 39, 40, 41, 42, 46, 47, 48, 49, 53, 54, 55, 56, 59, 60, 63, 64, 65, 66, 67, 68, 69, 73, 74, 75, 76, 79, 80, 81, 83, 84, 85, 86, 87, 88, 91, 92, 93, 94, 95]] (runK Tryz.prog tables 1000000 1266 0 s25y0z4) = .next s25y0z5 := by kernel_rfl

theorem w25y0z6 : VS.shedO [(3467, 3), (4435, 4), (4969, 5), (4995, 10), (5578, 11), (5590, 2)] (runK Tryz.prog tables 1000000 176 0 s25y0z6) = .over v25y0 W25y0 := by kernel_rfl

theorem c25y0 : cutX Tryz.prog tables (subM Tryz.prog tables 1000000 tb25y 0) 0 q177 (isKeyX [(69, 4435)]) 31 none (Array.replicate 10 false) s25.fr s25.w [] [] = some x25y0 := by kernel_rfl

theorem z25y : endA Tryz.prog tables (subM Tryz.prog tables 1000000 tb25y 0) 0 q177 x25y0 v25y0 W25y0 = some (fe25y, we25y, de25y) := by kernel_rfl
end Go.Proofs.YteojaklegpbhhaaGreatDoor.turnNone
