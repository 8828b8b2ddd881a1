/- The law TriNone: stretches of its run. -/
import Derived.Test.YtnefhpkkbehjeaaGreatDoorTriNoneStD
import Derived.Test.YtnefhpkkbehjeaaGreatDoorProg
namespace Go.Proofs.YtnefhpkkbehjeaaGreatDoor.triNone
set_option linter.unusedVariables false
set_option maxRecDepth 100000
open Go.Wvm

theorem w3 : VS.shed [(425, 9), (573, 2), (775, 241), (1017, 16)] [[0, 3, 11, 12, 13, 14, 15, 16, 17, 18, 21, 22, 23, 24, 25, 26, 27, 28, 29, 30, 31, 32, 33, 34, 35, 36]] (runK Tryz.prog tables 1000000 852 0 s3) = .next s4 := by kernel_rfl

theorem w6 : VS.shed [(1101, 34), (1136, 27), (1164, 7), (1172, 1), (1174, 1), (1176, 3), (1180, 6), (1189, 106), (1296, 7)] [[7, 10, 13, 14, 15, 16, 19, 23, 24, 25, 26, 27, 28, 29, 31, 32, 33, 34, 35, 36, 37, 52, 53, 54, 55, 56, 57, 58, 59, 60, 61, 62, 63, 64, 65, 66, 67, 68], [0, 1, 3, 16, 17, 18, 19, 20, 21, 24, 27], [1], [1, 2, 5], [0, 2, 53, 54, 55, 57, 58, 59, 63, 65, 66]] (runK Tryz.prog tables 1000000 3864 0 s6) = .next s7 := by kernel_rfl

theorem z12y : afterM 0 s12 W12y = some n12y := by kernel_rfl

theorem w14yz3 : VS.shedO [(2666, 4), (2823, 1), (2898, 1), (3053, 3)] (runK Tryz.prog tables 1000000 328 0 s14yz3) = .over v14y W14y := by kernel_rfl

theorem d14y : VS.shed [(2655, 2), (2660, 1), (2662, 2), (2665, 1)] [[2, 3, 6, 25]] (.next n14y) = .next s15 := by kernel_rfl

theorem w17yz2 : VS.shed [(3442, 47), (3490, 151)] [[0, 2, 3, 14, 15, 97, 98, 99, 100, 101, 102, 103, 104, 105, 106, 107, 108, 109, 110, 111]] (runK Tryz.prog tables 1000000 1 0 s17yz2) = .next s17yz3 := by kernel_rfl

theorem w17yz3 : VS.shed [(3258, 4), (3415, 1), (3642, 138), (3783, 1), (3788, 7)] [[11, 16, 18, 19, 20, 21, 22, 23, 24, 25, 26, 27, 28, 29, 30, 31, 32, 33, 34, 35], [0, 1, 2, 10, 12, 15, 19, 20, 21, 22, 23, 27, 28, 29, 30, 31, 32, 33], [0, 1, 2, 3, 5, 8, 11, 15, 16, 17, 21, 22, 23, 24, 25, 28, 29, 31, 32, 33], [0, 1, 2, 3, 5, 8, 11, 15, 16, 17, 21, 22, 23, 24, 25, 28, 29, 31, 32, 33], [0, 3, 13, 14, 16, 17, 18, 21, 22, 23, 24, 25, 26], [1, 6, 7, 8, 13, 14, 15, 16, 17, 20, 21, 22, 23, 24, 25, 26, 27], [0, 6, 10, 11, 12, 13, 14, 15, 20], [2, 10, 25, 26, 27, 28, 33], [4, 5, 8, 9, 10, 11, 12, 13, 14]] (runK Tryz.prog tables 1000000 2853 0 s17yz3) = .next s17yz4 := by kernel_rfl

theorem w19yz0 : VS.shed [(4023, 1), (4026, 153)] [[9, 10, 17, 18, 19, 20, 21, 22, 23, 24, 27, 28, 29, 30, 31, 32, 33, 34, 35, 36, 37, 38, 39], [0, 1, 2, 6, 7, 8, 9, 10, 11, 12, 13, 16, 17, 18, 19, 20, 21], [1, 2]] (runK Tryz.prog tables 1000000 2424 0 s19yz0) = .next s19yz1 := by kernel_rfl

theorem w19yz2 : VS.shed [(4206, 48), (4255, 154)] [[0, 2, 3, 14, 15, 97, 98, 99, 100, 101, 102, 103, 104, 105, 106, 107, 108, 109, 110, 111]] (runK Tryz.prog tables 1000000 1 0 s19yz2) = .next s19yz3 := by kernel_rfl

theorem c19y : rangeM tables s19 = some s19yz0 := by kernel_rfl

theorem w21yz1 : VS.shed [(4583, 26)] [[1, 4, 40, 43, 44, 45, 46, 47, 48, 49, 50, 53, 54]] (runK Tryz.prog tables 1000000 243 0 s21yz1) = .next s21yz2 := by kernel_rfl

theorem w21yz2 : VS.shed [(4609, 47), (4657, 151)] [[0, 2, 3, 14, 15, 97, 98, 99, 100, 101, 102, 103, 104, 105, 106, 107, 108, 109, 110, 111]] (runK Tryz.prog tables 1000000 1 0 s21yz2) = .next s21yz3 := by kernel_rfl

theorem z21y : afterM 0 s21 W21y = some n21y := by kernel_rfl

theorem w23yz0 : VS.shed [(4823, 1), (4826, 153)] [[9, 10, 17, 18, 19, 20, 21, 22, 23, 24, 27, 28, 29, 30, 31, 32, 33, 34, 35, 36, 37, 38, 39], [0, 1, 2, 6, 7, 8, 9, 10, 11, 12, 13, 16, 17, 18, 19, 20, 21], [1, 2]] (runK Tryz.prog tables 1000000 2424 0 s23yz0) = .next s23yz1 := by kernel_rfl

theorem d23y : VS.shed [(4811, 2), (4816, 1), (4818, 2), (4821, 1)] [[2, 3, 6, 25]] (.next n23y) = .next s24 := by kernel_rfl

theorem w24 : VS.shed [(4813, 8), (5217, 1)] [[0, 1, 7, 13, 14, 15, 16, 17, 18, 19, 22, 23, 24]] (runK Tryz.prog tables 1000000 138 0 s24) = .next s25 := by kernel_rfl

theorem w25yz3 : VS.shedO [(5224, 4), (5381, 1), (5455, 1), (5607, 2)] (runK Tryz.prog tables 1000000 322 0 s25yz3) = .over v25y W25y := by kernel_rfl

theorem w27yz0 : VS.shed [(5622, 1), (5625, 153)] [[9, 10, 17, 18, 19, 20, 21, 22, 23, 24, 27, 28, 29, 30, 31, 32, 33, 34, 35, 36, 37, 38, 39], [0, 1, 2, 6, 7, 8, 9, 10, 11, 12, 13, 16, 17, 18, 19, 20, 21], [1, 2]] (runK Tryz.prog tables 1000000 2638 0 s27yz0) = .next s27yz1 := by kernel_rfl

theorem w27yz1 : VS.shed [(5779, 26)] [[1, 4, 40, 43, 44, 45, 46, 47, 48, 49, 50, 53, 54]] (runK Tryz.prog tables 1000000 243 0 s27yz1) = .next s27yz2 := by kernel_rfl

theorem c27y : rangeM tables s27 = some s27yz0 := by kernel_rfl

theorem w28 : VS.shed [(7, 1), (409, 13), (1082, 18), (1135, 1), (1604, 3), (3061, 4), (5212, 1), (5609, 11), (6012, 2), (6015, 109)] [[0, 1, 4, 7, 8, 9, 12, 13, 14, 15, 16, 17, 18, 19, 20, 21, 22], [], [10, 11, 12, 13], [10, 11, 12, 13, 14, 15, 17, 19, 21, 22, 23, 24, 25, 26, 28, 29, 30, 31, 32, 34, 138, 139, 140, 142, 143, 144, 145, 146, 147, 148, 149, 150, 151, 152, 153, 154, 155, 157, 158, 161, 165, 169, 173, 177, 185, 189, 193, 197, 201, 205, 209, 216, 220, 224, 228, 232]] (runK Tryz.prog tables 1000000 4000 0 s28) = .next s29 := by kernel_rfl

theorem w33 : VS.shed [(6432, 9), (6580, 1), (6814, 1), (7098, 10), (7280, 128), (7409, 2), (7413, 1), (7415, 2)] [[0, 1, 2, 3, 7, 10, 13, 14], [0, 1, 6, 9, 10, 11], [10, 15, 16, 17, 18, 19, 20, 21, 23, 24, 25, 26, 27, 28, 29, 30, 31]] (runK Tryz.prog tables 1000000 3152 0 s33) = .next s34 := by kernel_rfl

theorem w37 : VS.shed [(7668, 1), (7811, 140), (7956, 104), (8061, 7)] [[7, 10, 13, 14, 15, 16, 19, 23, 24, 25, 26, 27, 28, 29, 31, 32, 33, 34, 35, 36, 37, 52, 53, 54, 55, 56, 57, 58, 59, 60, 61, 62, 63, 64, 65, 66, 67, 68], [12, 13]] (runK Tryz.prog tables 1000000 853 0 s37) = .next s38 := by kernel_rfl

theorem w38 : VS.shed [(7542, 9), (7667, 1), (7810, 1), (7953, 2), (8060, 57), (8122, 2)] [[0, 7, 8, 9, 10, 19], [9, 12, 13, 14, 17, 18, 19, 20, 22, 23, 24, 25, 26, 27, 28, 29, 30, 32, 33, 34], [8, 10, 15, 16, 17, 18, 19, 20, 21, 23, 24, 25, 26, 27, 28, 29, 30, 31, 33, 34, 35, 36, 37, 38, 39, 41, 42, 43, 44, 45, 46, 47]] (runK Tryz.prog tables 1000000 4000 0 s38) = .next s39 := by kernel_rfl

theorem z42y : afterM 0 s42 W42y = some n42y := by kernel_rfl

theorem w44yz2y0z0 : VS.shed [(9376, 60), (9437, 1), (9439, 46), (9488, 3), (9493, 8), (9502, 1), (9504, 1)] [[0, 1, 4, 5, 10, 11], [0], [0, 10, 11], [0, 1, 3], [4, 15, 16, 17, 18, 19, 20, 21, 22, 24, 25, 29], [0, 1, 2, 3, 4, 9, 12, 14, 15, 16, 17, 18, 19, 20], [0, 5, 15], [2, 3, 4, 5, 6, 11, 17, 27, 28, 29, 30, 31, 32, 33, 34, 35, 36, 37, 38, 39, 42, 43, 44, 45, 48, 53], [1, 2, 3, 4, 5, 9, 11, 15, 17, 19, 20, 21, 22, 23, 24, 27, 31, 35, 36, 40, 41, 44, 45, 50, 51, 52, 53, 54, 55, 56, 57, 58, 59, 60, 61, 62]] (runK Tryz.prog tables 1000000 4000 0 s44yz2y0z0) = .next s44yz2y0z1 := by kernel_rfl

theorem w44yz2y0z2 : VS.shedO [(9438, 1), (9485, 2), (9534, 1), (9552, 64)] (runK Tryz.prog tables 1000000 1718 0 s44yz2y0z2) = .over v44yz2y0 W44yz2y0 := by kernel_rfl

theorem c44y : rangeM tables s44 = some s44yz0 := by kernel_rfl

theorem w45 : VS.shed [(9181, 8), (9811, 1)] [[0, 1, 7, 13, 14, 15, 16, 17, 18, 19, 22, 23, 24], [71]] (runK Tryz.prog tables 1000000 253 0 s45) = .next s46 := by kernel_rfl

theorem w46yz2y0z1 : VS.shed [(10115, 47), (10163, 8), (10172, 7), (10181, 10), (10193, 3)] [[0, 6, 10, 11, 14, 15, 16, 19, 20, 32, 33, 34, 35, 36, 37, 54, 55, 56, 57, 58], [1, 13], [0, 1, 2, 3], [1, 2, 3, 4, 15, 16, 17, 18, 19, 20, 21, 22, 24, 25, 27, 28, 29, 30, 31, 32, 33, 39, 40, 43, 44, 47, 48, 49, 50, 51, 52], [1, 2, 3, 4, 6, 11, 13, 14, 17, 18, 19, 20, 21, 22, 23, 24, 25, 26, 29, 30, 31, 32]] (runK Tryz.prog tables 1000000 4000 0 s46yz2y0z1) = .next s46yz2y0z2 := by kernel_rfl

theorem d46yz2y : VS.shed [(10003, 1)] [[0, 2, 3, 14, 15, 97, 98, 99, 100, 101, 102, 103, 104, 105, 106, 107, 108, 109, 110, 111]] (.next n46yz2y) = .next s46yz3 := by kernel_rfl

theorem w46yz3 : VS.shedO [(9818, 4), (9975, 1), (10064, 1), (10244, 3)] (runK Tryz.prog tables 1000000 442 0 s46yz3) = .over v46y W46y := by kernel_rfl

theorem w47 : VS.shed [(9619, 1), (9806, 11), (10252, 1)] [[0, 1, 7, 13, 14, 15, 16, 17, 18, 19, 22, 23, 24], [71]] (runK Tryz.prog tables 1000000 231 0 s47) = .next s48 := by kernel_rfl

theorem w48yz1 : VS.shed [(10417, 27)] [[1, 4, 40, 43, 44, 45, 46, 47, 48, 49, 50, 53, 54]] (runK Tryz.prog tables 1000000 243 0 s48yz1) = .next s48yz2 := by kernel_rfl

theorem z48yz2y : endA Tryz.prog tables (subM Tryz.prog tables 1000000 tb48yz2y 0) 0 q3214 x48yz2y0 v48yz2y0 W48yz2y0 = some (fe48yz2y, we48yz2y, de48yz2y) := by kernel_rfl

theorem y48yz2y : triesX Tryz.prog tables (subM Tryz.prog tables 1000000 tb48yz2y 0) 0 q3214 s48yz2.fr s48yz2.w = true := by kernel_rfl

theorem d48y : VS.shed [(10248, 2), (10253, 1), (10255, 2), (10258, 1)] [[2, 3, 6, 25]] (.next n48y) = .next s49 := by kernel_rfl

theorem w50yz2y0z2 : VS.shedO [(10949, 1), (10996, 2), (11045, 1), (11063, 64)] (runK Tryz.prog tables 1000000 1718 0 s50yz2y0z2) = .over v50yz2y0 W50yz2y0 := by kernel_rfl

theorem c50yz2y0 : cutX Tryz.prog tables (subM Tryz.prog tables 1000000 tb50yz2y 0) 0 q3214 (isKeyX [(223, 10889)]) 52 none 0 s50yz2.fr s50yz2.w [] [] = some x50yz2y0 := by kernel_rfl

theorem w50yz3 : VS.shedO [(10701, 4), (10858, 1), (10947, 1), (11127, 3)] (runK Tryz.prog tables 1000000 442 0 s50yz3) = .over v50y W50y := by kernel_rfl

theorem z50y : afterM 0 s50 W50y = some n50y := by kernel_rfl

theorem w52yz0 : VS.shed [(11143, 1), (11146, 153)] [[9, 10, 17, 18, 19, 20, 21, 22, 23, 24, 27, 28, 29, 30, 31, 32, 33, 34, 35, 36, 37, 38, 39], [0, 1, 2, 6, 7, 8, 9, 10, 11, 12, 13, 16, 17, 18, 19, 20, 21], [1, 2]] (runK Tryz.prog tables 1000000 2698 0 s52yz0) = .next s52yz1 := by kernel_rfl

theorem w52yz1 : VS.shed [(11300, 27)] [[1, 4, 40, 43, 44, 45, 46, 47, 48, 49, 50, 53, 54]] (runK Tryz.prog tables 1000000 243 0 s52yz1) = .next s52yz2 := by kernel_rfl

theorem w52yz3 : VS.shedO [(11142, 4), (11299, 1), (11388, 1), (11568, 3)] (runK Tryz.prog tables 1000000 442 0 s52yz3) = .over v52y W52y := by kernel_rfl

theorem c52y : rangeM tables s52 = some s52yz0 := by kernel_rfl

theorem w53 : VS.shed [(11133, 8), (11575, 1)] [[0, 1, 7, 13, 14, 15, 16, 17, 18, 19, 22, 23, 24]] (runK Tryz.prog tables 1000000 196 0 s53) = .next s54 := by kernel_rfl

theorem w54yz1 : VS.shed [(11740, 29), (11770, 114), (11887, 17)] [[0, 1, 2, 5, 8, 9, 10, 11, 12, 13, 14, 15, 16, 17], [1, 7, 11, 12, 13, 14, 15, 17, 18, 19, 20, 21, 22, 23, 24, 25, 26, 27, 28, 29, 30, 31, 34, 35, 37, 38, 39, 40, 41], [6, 10, 12, 15, 16, 17, 18, 19, 20, 23, 24, 25, 26, 27, 28, 29, 30, 31, 32, 33, 34, 35, 36, 37, 40, 41, 42, 43, 44, 45, 46, 47, 48, 49, 50], [1, 9, 10, 11, 12, 13, 14, 15, 16, 17, 18, 22, 23, 24, 26], [], [1, 4, 40, 43, 44, 45, 46, 47, 48, 49, 50, 53, 54, 56, 57, 58, 61, 62, 63, 67, 68, 69, 70, 75, 76, 77, 79]] (runK Tryz.prog tables 1000000 2002 0 s54yz1) = .next s54yz2 := by kernel_rfl

theorem w54yz2 : VS.shed [(11884, 3), (11904, 19), (11924, 26)] [[1, 4, 9, 10, 17, 18, 19, 20, 21, 22, 23, 24, 27, 28, 29, 30, 31, 32, 33, 34, 35, 36, 37, 38, 39, 40, 43, 44, 45, 46, 47, 48, 49, 50, 53, 54]] (runK Tryz.prog tables 1000000 597 0 s54yz2) = .next s54yz3 := by kernel_rfl

theorem w54yz4 : VS.shed [(11923, 1)] [[73, 74, 78, 80, 81, 82, 83, 84, 87, 88, 91, 92, 93, 94]] (runK Tryz.prog tables 1000000 73 0 s54yz4) = .next s54yz5 := by kernel_rfl

theorem w54yz5 : VS.shed [(11769, 1), (11997, 1), (12149, 22), (12172, 114)] [[0, 2, 3, 14, 15, 97, 98, 99, 100, 101, 102, 103, 104, 105, 106, 107, 108, 109, 110, 111]] (runK Tryz.prog tables 1000000 1 0 s54yz5) = .next s54yz6 := by kernel_rfl

theorem w54yz6 : VS.shedO [(11582, 4), (11739, 1), (12171, 1), (12286, 5)] (runK Tryz.prog tables 1000000 334 0 s54yz6) = .over v54y W54y := by kernel_rfl

theorem z54y : afterM 0 s54 W54y = some n54y := by kernel_rfl

theorem w56yz2y0z0 : VS.shed [(12489, 60), (12550, 1), (12552, 46), (12601, 3), (12606, 8), (12615, 1), (12617, 1)] [[0, 1, 4, 5, 10, 11], [0], [0, 10, 11], [0, 1, 3], [4, 15, 16, 17, 18, 19, 20, 21, 22, 24, 25, 29], [0, 1, 2, 3, 4, 9, 12, 14, 15, 16, 17, 18, 19, 20], [0, 5, 15], [2, 3, 4, 5, 6, 11, 17, 27, 28, 29, 30, 31, 32, 33, 34, 35, 36, 37, 38, 39, 42, 43, 44, 45, 48, 53], [1, 2, 3, 4, 5, 9, 11, 15, 17, 19, 20, 21, 22, 23, 24, 27, 31, 35, 36, 40, 41, 44, 45, 50, 51, 52, 53, 54, 55, 56, 57, 58, 59, 60, 61, 62]] (runK Tryz.prog tables 1000000 4000 0 s56yz2y0z0) = .next s56yz2y0z1 := by kernel_rfl

theorem c56y : rangeM tables s56 = some s56yz0 := by kernel_rfl

theorem z58yz2y : endA Tryz.prog tables (subM Tryz.prog tables 1000000 tb58yz2y 0) 0 q3214 x58yz2y0 v58yz2y0 W58yz2y0 = some (fe58yz2y, we58yz2y, de58yz2y) := by kernel_rfl

theorem d58yz2y : VS.shed [(12931, 1)] [[0, 2, 3, 14, 15, 97, 98, 99, 100, 101, 102, 103, 104, 105, 106, 107, 108, 109, 110, 111]] (.next n58yz2y) = .next s58yz3 := by kernel_rfl

theorem w59 : trueV (runK Tryz.prog tables 1000000 505 0 s59) = true := by kernel_rfl
end Go.Proofs.YtnefhpkkbehjeaaGreatDoor.triNone
