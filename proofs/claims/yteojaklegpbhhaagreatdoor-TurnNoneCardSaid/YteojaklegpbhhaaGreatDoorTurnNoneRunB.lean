/- The law TurnNone: stretches of its run. -/
import Derived.Test.YteojaklegpbhhaaGreatDoorTurnNoneStB
import Derived.Test.YteojaklegpbhhaaGreatDoorProg
namespace Go.Proofs.YteojaklegpbhhaaGreatDoor.turnNone
set_option linter.unusedVariables false
set_option maxRecDepth 100000
open Go.Wvm

theorem c3y0 : cutX Tryz.prog tables (subM Tryz.prog tables 1000000 tb3y 0) 0 q177 (isKeyX [(69, 296)]) 31 none (Array.replicate 10 false) s3.fr s3.w [] [] = some x3y0 := by kernel_rfl

theorem w7 : VS.shed [(567, 1), (683, 1), (701, 1), (703, 6), (712, 128), (841, 8), (857, 2), (860, 66)] [[1, 2, 3, 9, 10, 11, 12, 13, 14, 15, 16, 17, 18, 19, 20, 21, 22, 23, 24, 25, 26, 27, 28, 29, 30, 31, 32], [0, 1, 3, 6, 9, 10, 11, 12, 13, 14, 15, 16, 17, 18, 19, 20, 21, 22, 23, 24, 25, 26, 29, 30, 31, 32, 33, 34, 35], [10, 13, 14, 15, 16, 19, 23, 24, 25, 26, 27, 28, 29], [0, 1, 3, 12, 13, 16, 17, 18, 19, 20, 21, 24, 27], [1], [1, 12, 13, 14, 15, 16, 19, 20, 21]] (runK Tryz.prog tables 1000000 1896 0 s7) = .next s8 := by kernel_rfl

theorem w9 : VS.shed [(697, 14), (850, 1), (1001, 2), (1208, 49), (1258, 4)] [[5], [0, 1, 4, 5], [0, 4, 5, 6, 9, 10, 13, 14, 15, 16, 17, 18, 19, 20, 21, 22, 23, 24, 25, 26, 27, 28, 29, 30, 31, 32, 33, 34, 35, 36, 37], [0, 5, 10, 12, 13, 14, 15, 16, 17, 18, 19, 20, 22, 23, 24, 25, 26, 27, 28, 29, 30], [4, 18, 22, 23, 24, 25, 26, 28]] (runK Tryz.prog tables 1000000 4000 0 s9) = .next s10 := by kernel_rfl

theorem w11yz2 : VS.shedO [(1324, 4), (1418, 1), (1492, 1), (1644, 17)] (runK Tryz.prog tables 1000000 292 0 s11yz2) = .over v11y W11y := by kernel_rfl

theorem c11y : rangeM tables s11 = some s11yz0 := by kernel_rfl

theorem w17y0z1 : VS.shed [(2405, 18), (2461, 149), (2612, 1), (2615, 1), (2617, 1), (2623, 2), (2626, 66)] [[1, 2, 3, 9, 10, 11, 12, 13, 14, 15, 16, 17, 18, 19, 20, 21, 22, 23, 24, 25, 26, 27, 28, 29, 30, 31, 32], [0, 1, 3, 6, 9, 10, 11, 12, 13, 14, 15, 16, 17, 18, 19, 20, 21, 22, 23, 24, 25, 26, 29, 30, 31, 32, 33, 34, 35], [10, 13, 14, 15, 16, 19, 23, 24, 25, 26, 27, 28, 29], [0], [], [0, 1, 8, 9, 10, 11, 12, 13, 14, 15, 16, 18, 19, 20, 21, 22, 23, 25, 28, 29, 30, 31, 32, 33, 34, 35, 36, 39, 40, 41, 42, 46, 47, 48, 49, 53, 54, 55, 56, 59, 60, 63, 64, 65, 66, 67, 68, 69, 73, 74, 75, 76, 79, 80, 81, 83, 84, 85, 86, 87, 88, 91, 92, 93, 94, 95]] (runK Tryz.prog tables 1000000 953 0 s17y0z1) = .next s17y0z2 := by kernel_rfl

theorem w17y0z5 : VS.shed [(3009, 14), (3208, 1), (3219, 7), (3227, 197), (3427, 1), (3429, 2)] [[0, 1, 2, 6, 7, 8, 9, 10, 11, 12, 13, 14, 15, 16, 19, 20, 21, 22, 23, 24], [], [0, 1, 8, 9, 10, 11, 12, 13, 14, 15, 16, 18, 19, 20, 21, 22, 23, 25, 28, 29, 30, 31, 32, 33, 34, 35, 36, 39, 40, 41, 42, 46, 47, 48, 49, 53, 54, 55, 56, 59, 60, 63, 64, 65, 66, 67, 68, 69, 73, 74, 75, 76, 79, 80, 81, 83, 84, 85, 86, 87, 88, 91, 92, 93, 94, 95]] (runK Tryz.prog tables 1000000 814 0 s17y0z5) = .next s17y0z6 := by kernel_rfl

theorem d17y : VS.shed [(1307, 1)] [[1, 5, 7, 12, 74, 75, 76, 77, 78, 79, 80, 81]] (.next n17y) = .next s18 := by kernel_rfl

theorem w19yz0 : VS.shed [(3493, 1), (3496, 90), (3587, 26)] [[1, 4, 9, 10, 17, 18, 19, 20, 21, 22, 23, 24, 27, 28, 29, 30, 31, 32, 33, 34, 35, 36, 37, 38, 39, 40, 43, 44, 45, 46, 47, 48, 49, 50, 53, 54], [0, 1, 2, 6, 7, 8, 9, 10, 11, 12, 13, 16, 17, 18, 19, 20, 21], [1, 2]] (runK Tryz.prog tables 1000000 2465 0 s19yz0) = .next s19yz1 := by kernel_rfl

theorem w20 : VS.shed [(3487, 3)] [] (runK Tryz.prog tables 1000000 42 0 s20) = .next s21 := by kernel_rfl

theorem w21 : VS.shed [(3846, 284)] [] (runK Tryz.prog tables 1000000 1 0 s21) = .next s22 := by kernel_rfl

theorem w23 : VS.shed [(4134, 300)] [] (runK Tryz.prog tables 1000000 1 0 s23) = .next s24 := by kernel_rfl

theorem w25y0z0 : VS.shed [(4436, 1), (4439, 4), (4445, 6), (4458, 7), (4466, 1), (4468, 137), (4607, 1), (4610, 1)] [[2, 5, 17], [1, 2, 12, 13, 14, 15, 16, 17, 21, 22], [0, 3, 7, 10, 16, 17, 20, 24, 27, 31, 32, 36, 37, 38]] (runK Tryz.prog tables 1000000 2101 0 s25y0z0) = .next s25y0z1 := by kernel_rfl

theorem y25y : triesX Tryz.prog tables (subM Tryz.prog tables 1000000 tb25y 0) 0 q177 s25.fr s25.w = true := by kernel_rfl
end Go.Proofs.YteojaklegpbhhaaGreatDoor.turnNone
