/- The law TriNone: stretches of its run. -/
import Derived.Test.YtnefhpkkbehjeaaGreatDoorTriNoneStD
import Derived.Test.YtnefhpkkbehjeaaGreatDoorProg
namespace Go.Proofs.YtnefhpkkbehjeaaGreatDoor.triNone
set_option linter.unusedVariables false
set_option maxRecDepth 100000
open Go.Wvm

theorem w1 : VS.shed [(170, 239), (422, 3), (426, 6)] [[], [], [1, 3, 16, 17, 18, 19, 20, 21], [1], [1, 2, 5], [1, 9, 11, 13, 18, 19, 20, 21, 22, 23, 24, 25, 26, 27, 28, 29, 30, 31, 32, 33, 34, 35, 36, 37, 38, 41, 45, 49, 56]] (runK Tryz.prog tables 1000000 4000 0 s1) = .next s2 := by kernel_rfl

theorem w5 : VS.shed [(1062, 20), (1083, 1), (1085, 1), (1087, 12), (1100, 1), (1105, 7)] [[11, 16, 18, 19, 20, 21, 22, 23, 24, 25, 26, 27, 28, 29, 30, 31, 32, 33, 34, 35], [0, 1, 2, 10, 12, 15, 19, 20, 21, 22, 23, 27, 28, 29, 30, 31, 32, 33], [0, 1, 2, 3, 5, 8, 11, 15, 16, 17, 21, 22, 23, 24, 25, 28, 29, 31, 32, 33], [0, 10, 12, 13, 14, 15, 16, 17, 18, 19, 20, 23, 24, 25], [0, 4, 6], [0, 11, 12, 13, 50, 51, 52, 56, 57, 60, 61, 62, 63, 64, 65, 66]] (runK Tryz.prog tables 1000000 2651 0 s5) = .next s6 := by kernel_rfl

theorem w11 : VS.shed [(1713, 1), (1761, 3), (1781, 115)] [[7, 13, 14, 15, 16, 17, 18, 19, 22, 23, 24]] (runK Tryz.prog tables 1000000 2341 0 s11) = .next s12 := by kernel_rfl

theorem w12yz0 : VS.shed [(1903, 1), (1906, 153)] [[9, 10, 17, 18, 19, 20, 21, 22, 23, 24, 27, 28, 29, 30, 31, 32, 33, 34, 35, 36, 37, 38, 39], [0, 1, 2, 6, 7, 8, 9, 10, 11, 12, 13, 16, 17, 18, 19, 20, 21], [1, 2]] (runK Tryz.prog tables 1000000 2162 0 s12yz0) = .next s12yz1 := by kernel_rfl

theorem d12y : VS.shed [(1709, 2), (1896, 1), (1898, 2), (1901, 1)] [[2, 3, 6, 25]] (.next n12y) = .next s13 := by kernel_rfl

theorem w15 : VS.shed [(1608, 14), (1657, 1), (1693, 16), (2654, 11), (3056, 5), (3070, 138), (3211, 1)] [[11, 16, 18, 19, 20, 21, 22, 23, 24, 25, 26, 27, 28, 29, 30, 31, 32, 33, 34, 35], [0, 1, 2, 10, 12, 15, 19, 20, 21, 22, 23, 27, 28, 29, 30, 31, 32, 33], [0, 1, 2, 3, 5, 8, 11, 15, 16, 17, 21, 22, 23, 24, 25, 28, 29, 31, 32, 33], [0, 1, 2, 3, 5, 8, 11, 15, 16, 17, 21, 22, 23, 24, 25, 28, 29, 31, 32, 33], [0, 3, 13, 14, 16, 17, 18, 21, 22, 23, 24, 25, 26], [1, 6, 7, 8, 13, 14, 15, 16, 17, 20, 21, 22, 23, 24, 25, 26, 27], [0, 6, 10, 11, 12, 13, 14, 15, 20], [0, 1], [15, 16, 17, 18, 19, 20, 21, 22, 23, 24, 25, 26, 27, 28, 29, 30], [1, 6, 9, 10, 11, 14, 15, 16], [0, 4, 6], [1, 7, 20, 107, 108, 109, 111, 112, 113, 114, 116, 117, 118, 119, 120, 121, 122, 123, 124, 125, 126, 127, 128, 129, 130, 131, 132, 133, 134, 135, 136, 137]] (runK Tryz.prog tables 1000000 3413 0 s15) = .next s16 := by kernel_rfl

theorem w17yz0 : VS.shed [(3259, 1), (3262, 153)] [[9, 10, 17, 18, 19, 20, 21, 22, 23, 24, 27, 28, 29, 30, 31, 32, 33, 34, 35, 36, 37, 38, 39], [0, 1, 2, 6, 7, 8, 9, 10, 11, 12, 13, 16, 17, 18, 19, 20, 21], [1, 2]] (runK Tryz.prog tables 1000000 2162 0 s17yz0) = .next s17yz1 := by kernel_rfl

theorem w17yz5 : VS.shedO [(3489, 1), (3826, 1), (3942, 3), (3962, 48)] (runK Tryz.prog tables 1000000 1328 0 s17yz5) = .over v17y W17y := by kernel_rfl

theorem c17y : rangeM tables s17 = some s17yz0 := by kernel_rfl

theorem w19yz3 : VS.shedO [(4022, 4), (4179, 1), (4254, 1), (4409, 3)] (runK Tryz.prog tables 1000000 328 0 s19yz3) = .over v19y W19y := by kernel_rfl

theorem z19y : afterM 0 s19 W19y = some n19y := by kernel_rfl

theorem w21yz0 : VS.shed [(4426, 1), (4429, 153)] [[9, 10, 17, 18, 19, 20, 21, 22, 23, 24, 27, 28, 29, 30, 31, 32, 33, 34, 35, 36, 37, 38, 39], [0, 1, 2, 6, 7, 8, 9, 10, 11, 12, 13, 16, 17, 18, 19, 20, 21], [1, 2]] (runK Tryz.prog tables 1000000 2638 0 s21yz0) = .next s21yz1 := by kernel_rfl

theorem d21y : VS.shed [(4414, 2), (4419, 1), (4421, 2), (4424, 1)] [[2, 3, 6, 25]] (.next n21y) = .next s22 := by kernel_rfl

theorem w23yz1 : VS.shed [(4980, 26)] [[1, 4, 40, 43, 44, 45, 46, 47, 48, 49, 50, 53, 54]] (runK Tryz.prog tables 1000000 243 0 s23yz1) = .next s23yz2 := by kernel_rfl

theorem w25yz1 : VS.shed [(5382, 26)] [[1, 4, 40, 43, 44, 45, 46, 47, 48, 49, 50, 53, 54]] (runK Tryz.prog tables 1000000 243 0 s25yz1) = .next s25yz2 := by kernel_rfl

theorem c25y : rangeM tables s25 = some s25yz0 := by kernel_rfl

theorem w26 : VS.shed [(4010, 1), (4810, 1), (5215, 8), (5614, 1)] [[0, 1, 7, 13, 14, 15, 16, 17, 18, 19, 22, 23, 24], [71]] (runK Tryz.prog tables 1000000 231 0 s26) = .next s27 := by kernel_rfl

theorem w27yz2 : VS.shed [(5805, 47), (5853, 151)] [[0, 2, 3, 14, 15, 97, 98, 99, 100, 101, 102, 103, 104, 105, 106, 107, 108, 109, 110, 111]] (runK Tryz.prog tables 1000000 1 0 s27yz2) = .next s27yz3 := by kernel_rfl

theorem z27y : afterM 0 s27 W27y = some n27y := by kernel_rfl

theorem w35 : VS.shed [(7452, 2), (7455, 35), (7491, 27), (7519, 11), (7531, 3), (7535, 1), (7537, 1), (7539, 3), (7543, 6)] [[], [], [1, 3, 16, 17, 18, 19, 20, 21], [1], [1, 2, 5], [0, 2, 53, 54, 55, 57, 58, 59, 63, 65, 66]] (runK Tryz.prog tables 1000000 4000 0 s35) = .next s36 := by kernel_rfl

theorem w36 : VS.shed [(7552, 114), (7670, 138)] [[7, 10, 13, 14, 15, 16, 19, 23, 24, 25, 26, 27, 28, 29, 31, 32, 33, 34, 35, 36, 37, 52, 53, 54, 55, 56, 57, 58, 59, 60, 61, 62, 63, 64, 65, 66, 67, 68], [0, 12, 13, 24, 27]] (runK Tryz.prog tables 1000000 1053 0 s36) = .next s37 := by kernel_rfl

theorem w39 : VS.shed [(8117, 20), (8138, 1), (8140, 1), (8142, 12), (8155, 13)] [[5], [0, 1, 4, 5], [0, 4, 5, 9, 10, 13, 14, 15, 16, 17, 18, 19, 20, 21], [0, 5, 10, 12, 13, 14, 15, 16, 17, 18, 19, 20, 22, 23, 24, 25, 26, 27, 28, 29, 30], [0, 4, 6], [0, 11, 12, 13, 50, 51, 52, 56, 57, 60, 61, 62, 63, 64, 65, 66]] (runK Tryz.prog tables 1000000 4000 0 s39) = .next s40 := by kernel_rfl

theorem w42yz0 : VS.shed [(8425, 1), (8428, 153)] [[9, 10, 17, 18, 19, 20, 21, 22, 23, 24, 27, 28, 29, 30, 31, 32, 33, 34, 35, 36, 37, 38, 39], [0, 1, 2, 6, 7, 8, 9, 10, 11, 12, 13, 16, 17, 18, 19, 20, 21], [1, 2]] (runK Tryz.prog tables 1000000 2222 0 s42yz0) = .next s42yz1 := by kernel_rfl

theorem w42yz2 : VS.shed [(8608, 47), (8656, 151)] [[0, 2, 3, 14, 15, 97, 98, 99, 100, 101, 102, 103, 104, 105, 106, 107, 108, 109, 110, 111]] (runK Tryz.prog tables 1000000 1 0 s42yz2) = .next s42yz3 := by kernel_rfl

theorem w42yz5 : VS.shedO [(8655, 1), (8993, 1), (9109, 3), (9129, 49)] (runK Tryz.prog tables 1000000 1328 0 s42yz5) = .over v42y W42y := by kernel_rfl

theorem d42y : VS.shed [(8231, 2), (8418, 1), (8420, 2), (8423, 1)] [[2, 3, 6, 25]] (.next n42y) = .next s43 := by kernel_rfl

theorem w43 : VS.shed [(8233, 2), (8419, 4), (9183, 1)] [[0, 1, 7, 13, 14, 15, 16, 17, 18, 19, 22, 23, 24]] (runK Tryz.prog tables 1000000 138 0 s43) = .next s44 := by kernel_rfl

theorem w44yz1 : VS.shed [(9348, 27)] [[1, 4, 40, 43, 44, 45, 46, 47, 48, 49, 50, 53, 54]] (runK Tryz.prog tables 1000000 243 0 s44yz1) = .next s44yz2 := by kernel_rfl

theorem w44yz2y0z1 : VS.shed [(9487, 47), (9535, 8), (9544, 7), (9553, 10), (9565, 3)] [[0, 6, 10, 11, 14, 15, 16, 19, 20, 32, 33, 34, 35, 36, 37, 54, 55, 56, 57, 58], [1, 13], [0, 1, 2, 3], [1, 2, 3, 4, 15, 16, 17, 18, 19, 20, 21, 22, 24, 25, 27, 28, 29, 30, 31, 32, 33, 39, 40, 43, 44, 47, 48, 49, 50, 51, 52], [1, 2, 3, 4, 6, 11, 13, 14, 17, 18, 19, 20, 21, 22, 23, 24, 25, 26, 29, 30, 31, 32]] (runK Tryz.prog tables 1000000 4000 0 s44yz2y0z1) = .next s44yz2y0z2 := by kernel_rfl

theorem z44y : afterM 0 s44 W44y = some n44y := by kernel_rfl

theorem w46yz2y0z2 : VS.shedO [(10066, 1), (10113, 2), (10162, 1), (10180, 64)] (runK Tryz.prog tables 1000000 1718 0 s46yz2y0z2) = .over v46yz2y0 W46yz2y0 := by kernel_rfl

theorem c46yz2y0 : cutX Tryz.prog tables (subM Tryz.prog tables 1000000 tb46yz2y 0) 0 q3214 (isKeyX [(223, 10006)]) 52 none 0 s46yz2.fr s46yz2.w [] [] = some x46yz2y0 := by kernel_rfl

theorem c46y : rangeM tables s46 = some s46yz0 := by kernel_rfl

theorem w48yz0 : VS.shed [(10260, 1), (10263, 153)] [[9, 10, 17, 18, 19, 20, 21, 22, 23, 24, 27, 28, 29, 30, 31, 32, 33, 34, 35, 36, 37, 38, 39], [0, 1, 2, 6, 7, 8, 9, 10, 11, 12, 13, 16, 17, 18, 19, 20, 21], [1, 2]] (runK Tryz.prog tables 1000000 2484 0 s48yz0) = .next s48yz1 := by kernel_rfl

theorem d48yz2y : VS.shed [(10444, 1)] [[0, 2, 3, 14, 15, 97, 98, 99, 100, 101, 102, 103, 104, 105, 106, 107, 108, 109, 110, 111]] (.next n48yz2y) = .next s48yz3 := by kernel_rfl

theorem w50yz0 : VS.shed [(10702, 1), (10705, 153)] [[9, 10, 17, 18, 19, 20, 21, 22, 23, 24, 27, 28, 29, 30, 31, 32, 33, 34, 35, 36, 37, 38, 39], [0, 1, 2, 6, 7, 8, 9, 10, 11, 12, 13, 16, 17, 18, 19, 20, 21], [1, 2]] (runK Tryz.prog tables 1000000 2698 0 s50yz0) = .next s50yz1 := by kernel_rfl

theorem w50yz1 : VS.shed [(10859, 27)] [[1, 4, 40, 43, 44, 45, 46, 47, 48, 49, 50, 53, 54]] (runK Tryz.prog tables 1000000 243 0 s50yz1) = .next s50yz2 := by kernel_rfl

theorem z50yz2y : endA Tryz.prog tables (subM Tryz.prog tables 1000000 tb50yz2y 0) 0 q3214 x50yz2y0 v50yz2y0 W50yz2y0 = some (fe50yz2y, we50yz2y, de50yz2y) := by kernel_rfl

theorem y50yz2y : triesX Tryz.prog tables (subM Tryz.prog tables 1000000 tb50yz2y 0) 0 q3214 s50yz2.fr s50yz2.w = true := by kernel_rfl

theorem d50y : VS.shed [(10690, 2), (10695, 1), (10697, 2), (10700, 1)] [[2, 3, 6, 25]] (.next n50y) = .next s51 := by kernel_rfl

theorem w52yz2y0z0 : VS.shed [(11328, 60), (11389, 1), (11391, 46), (11440, 3), (11445, 8), (11454, 1), (11456, 1)] [[0, 1, 4, 5, 10, 11], [0], [0, 10, 11], [0, 1, 3], [4, 15, 16, 17, 18, 19, 20, 21, 22, 24, 25, 29], [0, 1, 2, 3, 4, 9, 12, 14, 15, 16, 17, 18, 19, 20], [0, 5, 15], [2, 3, 4, 5, 6, 11, 17, 27, 28, 29, 30, 31, 32, 33, 34, 35, 36, 37, 38, 39, 42, 43, 44, 45, 48, 53], [1, 2, 3, 4, 5, 9, 11, 15, 17, 19, 20, 21, 22, 23, 24, 27, 31, 35, 36, 40, 41, 44, 45, 50, 51, 52, 53, 54, 55, 56, 57, 58, 59, 60, 61, 62]] (runK Tryz.prog tables 1000000 4000 0 s52yz2y0z0) = .next s52yz2y0z1 := by kernel_rfl

theorem c52yz2y0 : cutX Tryz.prog tables (subM Tryz.prog tables 1000000 tb52yz2y 0) 0 q3214 (isKeyX [(223, 11330)]) 52 none 0 s52yz2.fr s52yz2.w [] [] = some x52yz2y0 := by kernel_rfl

theorem z52yz2y : endA Tryz.prog tables (subM Tryz.prog tables 1000000 tb52yz2y 0) 0 q3214 x52yz2y0 v52yz2y0 W52yz2y0 = some (fe52yz2y, we52yz2y, de52yz2y) := by kernel_rfl

theorem z52y : afterM 0 s52 W52y = some n52y := by kernel_rfl

theorem d54y : VS.shed [(11571, 2), (11576, 1), (11578, 2), (11581, 1)] [[2, 3, 6, 25]] (.next n54y) = .next s55 := by kernel_rfl

theorem w55 : VS.shed [(11573, 8), (12296, 1)] [[0, 1, 7, 13, 14, 15, 16, 17, 18, 19, 22, 23, 24]] (runK Tryz.prog tables 1000000 138 0 s55) = .next s56 := by kernel_rfl

theorem w56yz0 : VS.shed [(12304, 1), (12307, 153)] [[9, 10, 17, 18, 19, 20, 21, 22, 23, 24, 27, 28, 29, 30, 31, 32, 33, 34, 35, 36, 37, 38, 39], [0, 1, 2, 6, 7, 8, 9, 10, 11, 12, 13, 16, 17, 18, 19, 20, 21], [1, 2]] (runK Tryz.prog tables 1000000 2484 0 s56yz0) = .next s56yz1 := by kernel_rfl

theorem w56yz1 : VS.shed [(12461, 27)] [[1, 4, 40, 43, 44, 45, 46, 47, 48, 49, 50, 53, 54]] (runK Tryz.prog tables 1000000 243 0 s56yz1) = .next s56yz2 := by kernel_rfl

theorem z56y : afterM 0 s56 W56y = some n56y := by kernel_rfl

theorem w58yz2y0z0 : VS.shed [(12932, 60), (12993, 1), (12995, 46), (13044, 3), (13049, 8), (13058, 1), (13060, 1)] [[0, 1, 4, 5, 10, 11], [0], [0, 10, 11], [0, 1, 3], [4, 15, 16, 17, 18, 19, 20, 21, 22, 24, 25, 29], [0, 1, 2, 3, 4, 9, 12, 14, 15, 16, 17, 18, 19, 20], [0, 5, 15], [2, 3, 4, 5, 6, 11, 17, 27, 28, 29, 30, 31, 32, 33, 34, 35, 36, 37, 38, 39, 42, 43, 44, 45, 48, 53], [1, 2, 3, 4, 5, 9, 11, 15, 17, 19, 20, 21, 22, 23, 24, 27, 31, 35, 36, 40, 41, 44, 45, 50, 51, 52, 53, 54, 55, 56, 57, 58, 59, 60, 61, 62]] (runK Tryz.prog tables 1000000 4000 0 s58yz2y0z0) = .next s58yz2y0z1 := by kernel_rfl

theorem c58y : rangeM tables s58 = some s58yz0 := by kernel_rfl
end Go.Proofs.YtnefhpkkbehjeaaGreatDoor.triNone
