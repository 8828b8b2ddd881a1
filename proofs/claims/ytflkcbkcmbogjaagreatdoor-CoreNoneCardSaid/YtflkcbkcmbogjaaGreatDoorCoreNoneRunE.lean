/- The law CoreNone: stretches of its run. -/
import Derived.Test.YtflkcbkcmbogjaaGreatDoorCoreNoneStC
import Derived.Test.YtflkcbkcmbogjaaGreatDoorProg
namespace Go.Proofs.YtflkcbkcmbogjaaGreatDoor.coreNone
set_option linter.unusedVariables false
set_option maxRecDepth 100000
open Go.Wvm

theorem w4 : VS.shed [(717, 7), (731, 8), (740, 6), (747, 1)] [[4, 5, 6, 7, 8, 9, 10, 11, 12, 13, 14, 15, 16, 17, 18, 19, 20, 21, 22, 23, 24, 25, 26, 27], [4, 6, 8, 9, 10, 12, 13, 14, 15, 16, 19, 20, 21, 22, 23, 24, 25, 26, 27, 28, 29, 37, 38, 39, 40, 41, 42, 43, 44, 45, 46, 47, 48, 49, 50, 51, 52, 53, 54, 55, 56, 57, 58, 59, 60, 61, 62, 63, 64, 65, 66, 67, 68, 69, 70, 71, 72, 73, 74, 75, 76, 77, 78, 79, 80, 81, 82, 83], [8, 12, 33, 34, 35, 36, 37, 38, 39, 41, 42, 43, 44, 45, 46, 47, 50, 51, 52]] (runK Tryz.prog tables 1000000 2550 0 s4) = .next s5 := by kernel_rfl

theorem w13 : VS.shed [(1071, 1), (1333, 58), (1393, 7)] [[0, 1, 2, 7, 8, 9, 10, 11, 12, 13, 16, 17, 21, 22, 26, 27, 28, 29, 30, 31, 32, 33, 34, 35, 36, 37, 38, 39, 40, 41, 42, 43, 44, 45, 46, 47, 48, 49, 52, 53, 54, 55, 56, 57, 58, 59, 60, 61, 62, 63, 64, 65, 66, 67, 68, 69, 70, 71, 72, 73, 74]] (runK Tryz.prog tables 1000000 1139 0 s13) = .next s14 := by kernel_rfl

theorem w18yz0 : VS.shed [(1663, 1), (1666, 90), (1759, 21)] [[10, 11, 12, 13, 14, 15, 16, 17, 18, 19, 20, 21, 22, 23, 24, 25, 26, 27, 28, 29, 30, 31, 32, 33], [0, 1, 4, 13, 14, 15, 16], [6, 10, 12, 15, 16, 17, 18, 19, 20, 23, 24, 25, 26, 27, 28, 29, 30, 31, 32, 33, 34, 35, 36, 37, 42, 43, 45], [1, 9, 10, 11, 12, 13, 14, 15, 16, 17, 18, 22, 23, 24, 26], [], [0, 1, 2, 6, 7, 8, 9, 10, 11, 12, 13, 16, 17, 18, 19, 20, 21], [1, 2]] (runK Tryz.prog tables 1000000 1413 0 s18yz0) = .next s18yz1 := by kernel_rfl

theorem w18yz3 : VS.shedO [(1662, 4), (1819, 1), (1879, 1), (2007, 11)] (runK Tryz.prog tables 1000000 471 0 s18yz3) = .over v18y W18y := by kernel_rfl

theorem w22y0z3 : VS.shed [(3329, 197)] [[7, 10, 13, 14, 15, 16, 19, 23, 24, 25, 26, 27, 28, 29, 31, 32, 33, 34, 35, 36, 37, 52, 53, 54, 55, 56, 57, 58, 59, 60, 61, 62, 63, 64, 65, 66, 67, 68], [12, 13]] (runK Tryz.prog tables 1000000 607 0 s22y0z3) = .next s22y0z4 := by kernel_rfl

theorem w22y0z13 : VS.shed [(4571, 75), (4647, 15)] [[7, 52, 53, 54, 55, 56, 57, 58, 59, 60, 61, 62, 63, 64, 65, 66, 67, 68]] (runK Tryz.prog tables 1000000 1 0 s22y0z13) = .next s22y0z14 := by kernel_rfl

theorem w22y0z18 : VS.shed [(2752, 6), (4259, 17), (4869, 14), (4918, 1), (4946, 9), (4957, 10), (4968, 3)] [[1, 5, 7, 8, 9, 12, 13, 16, 17, 18, 19, 20, 21, 22, 23, 24, 25, 26, 27], [1, 2, 5, 10, 12, 13, 15, 18, 22, 25, 29, 33, 34, 38, 39, 40, 43, 44, 45, 46, 47, 48, 49, 50, 51, 52, 53, 54, 55, 56, 57, 58, 59, 60, 61, 62, 63, 64, 65, 66, 67, 70, 71, 72, 73], [0, 11, 12, 15, 20], [1, 14, 19, 20, 21, 24, 26]] (runK Tryz.prog tables 1000000 635 0 s22y0z18) = .next s22y0z19 := by kernel_rfl

theorem w22y0z20 : VS.shed [(5031, 3), (5051, 72), (5125, 13)] [[2, 3, 6, 9], [0, 1, 2, 3, 5, 8, 11, 15, 16, 17, 21, 22, 23, 24, 25, 28, 29, 30, 31, 32, 33, 34, 35, 36, 37, 38], [0, 3, 13, 14, 16, 17, 18, 21, 22, 23, 24, 25, 26], [7, 8, 20, 21, 22, 23, 24, 25, 26, 27]] (runK Tryz.prog tables 1000000 1915 0 s22y0z20) = .next s22y0z21 := by kernel_rfl

theorem w22y0z38 : VS.shed [(6750, 3), (6799, 9), (6811, 28)] [[0, 1, 9, 10, 11, 12, 13], [0, 1, 2, 3, 6, 7, 8, 9, 10, 11, 12, 13, 14, 15, 16, 17, 18, 21, 22, 26, 27, 28, 29, 30, 31, 33, 34, 35, 36, 37, 38, 39, 40, 41, 42, 43, 44, 45], [0, 9, 10, 11, 12, 13], [1, 6, 9, 10, 11, 14, 15, 16], [0, 4, 6], [5, 7, 37, 39, 40, 41, 42, 43, 45, 48]] (runK Tryz.prog tables 1000000 944 0 s22y0z38) = .next s22y0z39 := by kernel_rfl

theorem w22y0z39yz2y0z2 : VS.shedO [(7078, 1), (7117, 2), (7158, 1), (7175, 1), (7191, 37)] (runK Tryz.prog tables 1000000 1208 0 s22y0z39yz2y0z2) = .over v22y0z39yz2y0 W22y0z39yz2y0 := by kernel_rfl

theorem y22y0z39yz2y : triesX Tryz.prog tables (subM Tryz.prog tables 1000000 tb22y0z39yz2y 0) 0 q3204 s22y0z39yz2.fr s22y0z39yz2.w = true := by kernel_rfl

theorem w22y0z39yz3 : VS.shed [(6845, 4), (7002, 1), (7228, 41), (7270, 7)] [[1, 7, 11, 12, 13, 16, 17, 21, 22, 26, 27, 28, 29, 30, 31, 32, 33, 34, 35, 36, 37, 38, 39, 40, 41, 42, 43, 44, 45, 46, 47, 48], [2, 5, 6, 7, 14, 15, 16, 17, 20, 21, 22, 23, 24, 25, 26, 27, 28, 29, 30, 33, 34, 38, 41, 42, 43, 45, 47], [4, 5, 8, 9, 10, 11, 12, 13, 14]] (runK Tryz.prog tables 1000000 1146 0 s22y0z39yz3) = .next s22y0z39yz4 := by kernel_rfl

theorem w22y0z39yz4 : VS.shedO [(7076, 1), (7269, 15)] (runK Tryz.prog tables 1000000 42 0 s22y0z39yz4) = .over v22y0z39y W22y0z39y := by kernel_rfl

theorem w22y0z40 : VS.shed [(6840, 4), (7284, 28)] [[0, 1, 9, 10, 11, 12, 13], [0, 1, 2, 3, 6, 7, 8, 9, 10, 11, 12, 13, 14, 15, 16, 17, 18, 21, 22, 26, 27, 28, 29, 30, 31, 33, 34, 35, 36, 37, 38, 39, 40, 41, 42, 43, 44, 45]] (runK Tryz.prog tables 1000000 439 0 s22y0z40) = .next s22y0z41 := by kernel_rfl

theorem w22y0z41yz1 : VS.shed [(7412, 3), (7436, 39), (7476, 26)] [[1, 4, 9, 10, 17, 18, 19, 20, 21, 22, 23, 24, 27, 28, 29, 30, 31, 32, 33, 34, 35, 36, 37, 38, 39, 40, 43, 44, 45, 46, 47, 48, 49, 50, 53, 54]] (runK Tryz.prog tables 1000000 1177 0 s22y0z41yz1) = .next s22y0z41yz2 := by kernel_rfl

theorem c22y0z41y : rangeM tables s22y0z41 = some s22y0z41yz0 := by kernel_rfl

theorem w22y0z43yz1 : VS.shed [(7852, 3), (7872, 63), (7936, 2), (7942, 1), (7944, 11)] [[0, 1, 6, 9, 12, 13, 16, 17, 18, 19, 20, 21, 22, 23, 24], [9, 10, 17, 18, 19, 20, 21, 22, 23, 24, 27, 28, 29, 30, 31, 32, 33, 34, 35, 36, 37, 38, 39, 40, 45]] (runK Tryz.prog tables 1000000 1380 0 s22y0z43yz1) = .next s22y0z43yz2 := by kernel_rfl

theorem c22y0z43y : rangeM tables s22y0z43 = some s22y0z43yz0 := by kernel_rfl

theorem c22y0 : cutX Tryz.prog tables (subM Tryz.prog tables 1000000 tb22y 0) 0 q1341 (isKeyX [(22, 2752)]) 232 none 0 s22.fr s22.w [] [] = some x22y0 := by kernel_rfl

theorem z22y : endA Tryz.prog tables (subM Tryz.prog tables 1000000 tb22y 0) 0 q1341 x22y0 v22y0 W22y0 = some (fe22y, we22y, de22y) := by kernel_rfl
end Go.Proofs.YtflkcbkcmbogjaaGreatDoor.coreNone
