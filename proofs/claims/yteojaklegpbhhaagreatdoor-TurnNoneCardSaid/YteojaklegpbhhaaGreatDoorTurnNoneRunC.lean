/- The law TurnNone: stretches of its run. -/
import Derived.Test.YteojaklegpbhhaaGreatDoorTurnNoneStB
import Derived.Test.YteojaklegpbhhaaGreatDoorProg
namespace Go.Proofs.YteojaklegpbhhaaGreatDoor.turnNone
set_option linter.unusedVariables false
set_option maxRecDepth 100000
open Go.Wvm

theorem w0 : VS.shed [(0, 3), (4, 113), (130, 1), (132, 6)] [[0, 3, 6, 7, 8, 37, 38], [1, 3, 16, 17, 18, 19, 20, 21], [1], [1, 24, 25, 26, 27, 28]] (runK Tryz.prog tables 1000000 4000 0 s0) = .next s1 := by kernel_rfl

theorem w2 : VS.shed [(252, 30), (285, 1), (288, 5), (295, 1)] [[0, 2, 3, 4, 9, 13, 17, 18, 19, 22, 23, 24, 28, 29, 32, 33, 34, 35, 36, 37, 38, 42, 43, 44, 45, 46, 68, 69, 70], [0, 1, 2, 3, 6], [14, 16, 60, 61, 62, 63, 64, 65, 66, 67, 68, 69, 70, 71, 72, 73]] (runK Tryz.prog tables 1000000 1653 0 s2) = .next s3 := by kernel_rfl

theorem w3y0z1 : VS.shedO [(296, 4), (314, 6), (341, 10), (400, 11), (412, 1)] (runK Tryz.prog tables 1000000 176 0 s3y0z1) = .over v3y0 W3y0 := by kernel_rfl

theorem z3y : endA Tryz.prog tables (subM Tryz.prog tables 1000000 tb3y 0) 0 q177 x3y0 v3y0 W3y0 = some (fe3y, we3y, de3y) := by kernel_rfl

theorem y3y : triesX Tryz.prog tables (subM Tryz.prog tables 1000000 tb3y 0) 0 q177 s3.fr s3.w = true := by kernel_rfl

theorem w4 : VS.shed [(282, 13), (415, 2), (420, 1), (423, 5), (430, 1)] [[0, 2, 3, 4, 9, 13, 17, 18, 19, 22, 23, 24, 28, 29, 32, 33, 34, 35, 36, 37, 38, 42, 43, 44, 45, 46, 68, 69, 70], [0, 1, 2, 3, 6], [74, 75, 76, 77, 78, 79, 80]] (runK Tryz.prog tables 1000000 1078 0 s4) = .next s5 := by kernel_rfl

theorem w8 : VS.shed [(851, 9), (926, 74), (1004, 204), (1209, 8)] [[7, 10, 13, 14, 15, 16, 19, 23, 24, 25, 26, 27, 28, 29, 31, 32, 33, 34, 35, 36, 37, 52, 53, 54, 55, 56, 57, 58, 59, 60, 61, 62, 63, 64, 65, 66, 67, 68], [12, 13]] (runK Tryz.prog tables 1000000 800 0 s8) = .next s9 := by kernel_rfl

theorem w11yz0 : VS.shed [(1325, 1), (1328, 90), (1419, 26)] [[1, 4, 9, 10, 17, 18, 19, 20, 21, 22, 23, 24, 27, 28, 29, 30, 31, 32, 33, 34, 35, 36, 37, 38, 39, 40, 43, 44, 45, 46, 47, 48, 49, 50, 53, 54], [0, 1, 2, 6, 7, 8, 9, 10, 11, 12, 13, 16, 17, 18, 19, 20, 21], [1, 2]] (runK Tryz.prog tables 1000000 2465 0 s11yz0) = .next s11yz1 := by kernel_rfl

theorem d11y : VS.shed [(1323, 1)] [] (.next n11y) = .next s12 := by kernel_rfl

theorem w12 : VS.shed [(1319, 3)] [] (runK Tryz.prog tables 1000000 42 0 s12) = .next s13 := by kernel_rfl

theorem w17y0z2 : VS.shed [(2265, 15), (2402, 1), (2611, 15), (2692, 127), (2820, 3), (2824, 21), (2846, 1), (2852, 1), (2856, 18)] [[0, 1, 2, 5, 9, 15, 16, 17, 20, 21, 22, 23, 24, 25, 26, 27, 28, 29, 30, 31, 32, 33], [2, 4, 13, 42, 43, 44, 45, 46, 47, 48, 49, 53, 54, 55, 56, 57, 58, 59, 62, 63, 64, 65, 66, 67, 68, 69, 72, 73, 74, 75, 76, 77, 78, 82]] (runK Tryz.prog tables 1000000 1662 0 s17y0z2) = .next s17y0z3 := by kernel_rfl

theorem z17y : endA Tryz.prog tables (subM Tryz.prog tables 1000000 tb17y 0) 0 q177 x17y0 v17y0 W17y0 = some (fe17y, we17y, de17y) := by kernel_rfl

theorem z19y : afterM 0 s19 W19y = some n19y := by kernel_rfl

theorem w24 : VS.shed [(3476, 1), (3486, 1), (4130, 3)] [[9, 13, 14, 17, 45, 46, 48, 49, 50, 51, 67, 68, 69, 70]] (runK Tryz.prog tables 1000000 772 0 s24) = .next s25 := by kernel_rfl

theorem w25y0z1 : VS.shed [(4465, 3), (4609, 170), (4781, 1), (4784, 1), (4786, 1), (4792, 2), (4795, 58)] [[1, 2, 3, 9, 10, 11, 12, 13, 14, 15, 16, 17, 18, 19, 20, 21, 22, 23, 24, 25, 26, 27, 28, 29, 30, 31, 32], [0, 1, 3, 6, 9, 10, 11, 12, 13, 14, 15, 16, 17, 18, 19, 20, 21, 22, 23, 24, 25, 26, 29, 30, 31, 32, 33, 34, 35], [10, 13, 14, 15, 16, 19, 23, 24, 25, 26, 27, 28, 29], [0], [], [0, 1, 8, 9, 10, 11, 12, 13, 14, 15, 16, 18, 19, 20, 21, 22, 23, 25, 28, 29, 30, 31, 32, 33, 34, 35, 36, 39, 40, 41, 42, 46, 47, 48, 49, 53, 54, 55, 56, 59, 60, 63, 64, 65, 66, 67, 68, 69, 73, 74, 75, 76, 79, 80, 81, 83, 84, 85, 86, 87, 88, 91, 92, 93, 94, 95]] (runK Tryz.prog tables 1000000 1387 0 s25y0z1) = .next s25y0z2 := by kernel_rfl

theorem w25y0z2 : VS.shed [(4443, 15), (4606, 1), (4780, 15), (4853, 116), (4970, 3), (4974, 21), (4996, 1), (5002, 1), (5006, 18)] [[0, 1, 2, 5, 9, 15, 16, 17, 20, 21, 22, 23, 24, 25, 26, 27, 28, 29, 30, 31, 32, 33], [2, 4, 13, 42, 43, 44, 45, 46, 47, 48, 49, 53, 54, 55, 56, 57, 58, 59, 62, 63, 64, 65, 66, 67, 68, 69, 72, 73, 74, 75, 76, 77, 78, 82]] (runK Tryz.prog tables 1000000 1667 0 s25y0z2) = .next s25y0z3 := by kernel_rfl

theorem w25y0z3 : VS.shed [(5025, 6), (5036, 5), (5044, 1), (5046, 137), (5186, 1), (5188, 2)] [[0, 1, 2, 6, 7, 8, 9, 10, 11, 12, 13, 14, 15, 16, 19, 20, 21, 22, 23, 24], [], [2, 5, 17], [3, 34, 35, 36, 37, 38, 39, 40, 41, 45, 46]] (runK Tryz.prog tables 1000000 1483 0 s25y0z3) = .next s25y0z4 := by kernel_rfl
end Go.Proofs.YteojaklegpbhhaaGreatDoor.turnNone
