/- The law TriNone: stretches of its run. -/
import Derived.Test.YtnefhpkkbehjeaaGreatDoorTriNoneStD
import Derived.Test.YtnefhpkkbehjeaaGreatDoorProg
namespace Go.Proofs.YtnefhpkkbehjeaaGreatDoor.triNone
set_option linter.unusedVariables false
set_option maxRecDepth 100000
open Go.Wvm

theorem w7 : VS.shed [(1305, 114), (1423, 97), (1521, 14)] [[7, 10, 13, 14, 15, 16, 19, 23, 24, 25, 26, 27, 28, 29, 31, 32, 33, 34, 35, 36, 37, 52, 53, 54, 55, 56, 57, 58, 59, 60, 61, 62, 63, 64, 65, 66, 67, 68], [12, 13]] (runK Tryz.prog tables 1000000 810 0 s7) = .next s8 := by kernel_rfl

theorem w8 : VS.shed [(1179, 9), (1304, 1), (1420, 2), (1520, 1), (1536, 48), (1589, 2)] [[0, 7, 8, 9, 10, 19], [9, 12, 13, 14, 17, 18, 19, 20, 22, 23, 24, 25, 26, 27, 28, 29, 30, 32, 33, 34], [8, 10, 15, 16, 17, 18, 19, 20, 21, 23, 24, 25, 26, 27, 28, 29, 30, 31, 33, 34, 35, 36, 37, 38, 39, 41, 42, 43, 44, 45, 46, 47]] (runK Tryz.prog tables 1000000 4000 0 s8) = .next s9 := by kernel_rfl

theorem w12yz2 : VS.shed [(2086, 47), (2134, 151)] [[0, 2, 3, 14, 15, 97, 98, 99, 100, 101, 102, 103, 104, 105, 106, 107, 108, 109, 110, 111]] (runK Tryz.prog tables 1000000 1 0 s12yz2) = .next s12yz3 := by kernel_rfl

theorem w12yz4 : VS.shed [(2285, 1), (2424, 45), (2471, 115), (2589, 17)] [[0, 1, 2, 5, 8, 9, 10, 11, 12, 13, 14, 15, 16, 17], [1, 7, 11, 12, 13, 14, 15, 17, 18, 19, 20, 21, 22, 23, 24, 25, 26, 27, 28, 29, 30, 31, 34, 35, 37, 38, 39, 40, 41], [6, 10, 12, 15, 16, 17, 18, 19, 20, 23, 24, 25, 26, 27, 28, 29, 30, 31, 32, 33, 34, 35, 36, 37, 40, 41, 42, 43, 44, 45, 46, 47, 48, 49, 50], [1, 9, 10, 11, 12, 13, 14, 15, 16, 17, 18, 22, 23, 24, 26], [1, 6, 13, 14, 15, 16, 17], [0, 6, 10, 11, 12, 13, 14, 15, 20], [2, 10, 25, 26, 27, 28, 33]] (runK Tryz.prog tables 1000000 2971 0 s12yz4) = .next s12yz5 := by kernel_rfl

theorem w12yz5 : VS.shedO [(2133, 1), (2470, 1), (2586, 3), (2606, 48)] (runK Tryz.prog tables 1000000 1328 0 s12yz5) = .over v12y W12y := by kernel_rfl

theorem c12y : rangeM tables s12 = some s12yz0 := by kernel_rfl

theorem w14yz1 : VS.shed [(2824, 26)] [[1, 4, 40, 43, 44, 45, 46, 47, 48, 49, 50, 53, 54]] (runK Tryz.prog tables 1000000 243 0 s14yz1) = .next s14yz2 := by kernel_rfl

theorem z14y : afterM 0 s14 W14y = some n14y := by kernel_rfl

theorem w16 : VS.shed [(3069, 1), (3208, 44)] [[7, 13, 14, 15, 16, 17, 18, 19, 22, 23, 24]] (runK Tryz.prog tables 1000000 650 0 s16) = .next s17 := by kernel_rfl

theorem d17y : VS.shed [(3065, 2), (3252, 1), (3254, 2), (3257, 1)] [[2, 3, 6, 25]] (.next n17y) = .next s18 := by kernel_rfl

theorem w18 : VS.shed [(3067, 2), (3253, 4), (4015, 1)] [[0, 1, 7, 13, 14, 15, 16, 17, 18, 19, 22, 23, 24]] (runK Tryz.prog tables 1000000 138 0 s18) = .next s19 := by kernel_rfl

theorem w19yz1 : VS.shed [(4180, 26)] [[1, 4, 40, 43, 44, 45, 46, 47, 48, 49, 50, 53, 54]] (runK Tryz.prog tables 1000000 243 0 s19yz1) = .next s19yz2 := by kernel_rfl

theorem w20 : VS.shed [(4013, 8), (4418, 1)] [[0, 1, 7, 13, 14, 15, 16, 17, 18, 19, 22, 23, 24], [71]] (runK Tryz.prog tables 1000000 253 0 s20) = .next s21 := by kernel_rfl

theorem c21y : rangeM tables s21 = some s21yz0 := by kernel_rfl

theorem w22 : VS.shed [(4412, 12), (4815, 1)] [[0, 1, 7, 13, 14, 15, 16, 17, 18, 19, 22, 23, 24], [71]] (runK Tryz.prog tables 1000000 231 0 s22) = .next s23 := by kernel_rfl

theorem w23yz2 : VS.shed [(5006, 48), (5055, 154)] [[0, 2, 3, 14, 15, 97, 98, 99, 100, 101, 102, 103, 104, 105, 106, 107, 108, 109, 110, 111]] (runK Tryz.prog tables 1000000 1 0 s23yz2) = .next s23yz3 := by kernel_rfl

theorem z23y : afterM 0 s23 W23y = some n23y := by kernel_rfl

theorem w25yz0 : VS.shed [(5225, 1), (5228, 153)] [[9, 10, 17, 18, 19, 20, 21, 22, 23, 24, 27, 28, 29, 30, 31, 32, 33, 34, 35, 36, 37, 38, 39], [0, 1, 2, 6, 7, 8, 9, 10, 11, 12, 13, 16, 17, 18, 19, 20, 21], [1, 2]] (runK Tryz.prog tables 1000000 2638 0 s25yz0) = .next s25yz1 := by kernel_rfl

theorem w25yz2 : VS.shed [(5408, 47), (5456, 151)] [[0, 2, 3, 14, 15, 97, 98, 99, 100, 101, 102, 103, 104, 105, 106, 107, 108, 109, 110, 111]] (runK Tryz.prog tables 1000000 1 0 s25yz2) = .next s25yz3 := by kernel_rfl

theorem d25y : VS.shed [(5213, 2), (5218, 1), (5220, 2), (5223, 1)] [[2, 3, 6, 25]] (.next n25y) = .next s26 := by kernel_rfl

theorem w27yz3 : VS.shedO [(5621, 4), (5778, 1), (5852, 1), (6004, 2)] (runK Tryz.prog tables 1000000 322 0 s27yz3) = .over v27y W27y := by kernel_rfl

theorem w29 : VS.shed [(6125, 285)] [] (runK Tryz.prog tables 1000000 4000 0 s29) = .next s30 := by kernel_rfl

theorem w30 : VS.shed [(6411, 5), (6429, 3), (6433, 6), (6442, 128), (6571, 8), (6587, 2), (6590, 115)] [[1, 2, 3, 9, 10, 11, 12, 13, 14, 15, 16, 17, 18, 19, 20, 21, 22, 23, 24, 25, 26, 27, 28, 29, 30, 31, 32], [0, 1, 3, 6, 9, 10, 11, 12, 13, 14, 15, 16, 17, 18, 19, 20, 21, 22, 23, 24, 25, 26, 29, 30, 31, 32, 33, 34, 35], [10, 13, 14, 15, 16, 19, 23, 24, 25, 26, 27, 28, 29], [0, 1, 3, 12, 13, 16, 17, 18, 19, 20, 21, 24, 27], [1], [1, 2, 5], [1, 9, 11, 13, 18, 19, 20, 21, 22, 23, 24, 25, 26, 27, 28, 29, 30, 31, 32, 33, 34, 35, 36, 37, 38, 41, 45, 49, 56]] (runK Tryz.prog tables 1000000 2375 0 s30) = .next s31 := by kernel_rfl

theorem w31 : VS.shed [(6581, 9), (6705, 99), (6805, 8), (6821, 2), (6824, 166)] [[1, 2, 3, 9, 10, 11, 12, 13, 14, 15, 16, 17, 18, 19, 20, 21, 22, 23, 24, 25, 26, 27, 28, 29, 30, 31, 32], [0, 1, 3, 6, 9, 10, 11, 12, 13, 14, 15, 16, 17, 18, 19, 20, 21, 22, 23, 24, 25, 26, 29, 30, 31, 32, 33, 34, 35, 64], [10, 13, 14, 15, 16, 19, 23, 24, 25, 26, 27, 28, 29], [12, 13]] (runK Tryz.prog tables 1000000 696 0 s31) = .next s32 := by kernel_rfl

theorem w32 : VS.shed [(6815, 9), (6990, 90), (7081, 16), (7105, 2), (7108, 172)] [[1, 2, 3, 9, 10, 11, 12, 13, 14, 15, 16, 17, 18, 19, 20, 21, 22, 23, 24, 25, 26, 27, 28, 29, 30, 31, 32], [0, 1, 3, 6, 9, 10, 11, 12, 13, 14, 15, 16, 17, 18, 19, 20, 21, 22, 23, 24, 25, 26, 29, 30, 31, 32, 33, 34, 35, 64], [10, 13, 14, 15, 16, 19, 23, 24, 25, 26, 27, 28, 29], [12, 13]] (runK Tryz.prog tables 1000000 627 0 s32) = .next s33 := by kernel_rfl

theorem w40 : VS.shed [(6006, 6), (7518, 21), (8141, 14), (8168, 59), (8236, 67)] [[36], [0, 1, 8, 11, 14, 18, 19, 20], [0, 1, 6, 7, 8, 9, 10, 11, 12, 13, 14, 15, 17, 18, 19, 20, 21, 22, 23, 24, 25, 26, 27, 28, 29, 30, 31, 32, 33, 34, 35, 36, 37, 38, 39, 40, 41, 42, 43, 44, 45, 46, 49, 50, 51, 52, 53, 54, 56, 57, 58, 59], [6, 10, 12, 15, 16, 17, 18, 19, 20, 23, 24, 25, 26, 27, 28, 29, 30, 31, 32, 33, 34, 35, 36, 37, 40, 41, 42, 43, 44, 45, 46, 47, 48, 49, 50], [10, 11, 12], [1, 6, 13, 14, 15, 16, 17], [0, 6, 10, 11, 12, 13, 14, 15, 20], [0, 1], [15, 16, 17, 18, 19, 20, 21, 22, 23, 24, 25, 26, 27, 28, 29, 30], [1, 6, 9, 10, 11, 14, 15, 16], [0, 4, 6], [1, 9, 14, 15, 16, 18, 19, 20, 21, 22, 23, 24, 25]] (runK Tryz.prog tables 1000000 3300 0 s40) = .next s41 := by kernel_rfl

theorem w41 : VS.shed [(8235, 1), (8303, 115)] [[7, 13, 14, 15, 16, 17, 18, 19, 22, 23, 24]] (runK Tryz.prog tables 1000000 2164 0 s41) = .next s42 := by kernel_rfl

theorem w42yz4 : VS.shed [(8807, 1), (8946, 46), (8994, 115), (9112, 17)] [[0, 1, 2, 5, 8, 9, 10, 11, 12, 13, 14, 15, 16, 17], [1, 7, 11, 12, 13, 14, 15, 17, 18, 19, 20, 21, 22, 23, 24, 25, 26, 27, 28, 29, 30, 31, 34, 35, 37, 38, 39, 40, 41], [6, 10, 12, 15, 16, 17, 18, 19, 20, 23, 24, 25, 26, 27, 28, 29, 30, 31, 32, 33, 34, 35, 36, 37, 40, 41, 42, 43, 44, 45, 46, 47, 48, 49, 50], [1, 9, 10, 11, 12, 13, 14, 15, 16, 17, 18, 22, 23, 24, 26], [1, 6, 13, 14, 15, 16, 17], [0, 6, 10, 11, 12, 13, 14, 15, 20], [2, 10, 25, 26, 27, 28, 33]] (runK Tryz.prog tables 1000000 3031 0 s42yz4) = .next s42yz5 := by kernel_rfl

theorem c42y : rangeM tables s42 = some s42yz0 := by kernel_rfl

theorem c44yz2y0 : cutX Tryz.prog tables (subM Tryz.prog tables 1000000 tb44yz2y 0) 0 q3214 (isKeyX [(223, 9378)]) 52 none 0 s44yz2.fr s44yz2.w [] [] = some x44yz2y0 := by kernel_rfl

theorem d44yz2y : VS.shed [(9375, 1)] [[0, 2, 3, 14, 15, 97, 98, 99, 100, 101, 102, 103, 104, 105, 106, 107, 108, 109, 110, 111]] (.next n44yz2y) = .next s44yz3 := by kernel_rfl

theorem w44yz3 : VS.shed [(9190, 4), (9347, 1), (9616, 3), (9621, 138), (9762, 1), (9767, 7)] [[11, 16, 18, 19, 20, 21, 22, 23, 24, 25, 26, 27, 28, 29, 30, 31, 32, 33, 34, 35], [0, 1, 2, 10, 12, 15, 19, 20, 21, 22, 23, 27, 28, 29, 30, 31, 32, 33], [0, 1, 2, 3, 5, 8, 11, 15, 16, 17, 21, 22, 23, 24, 25, 28, 29, 31, 32, 33], [0, 1, 2, 3, 5, 8, 11, 15, 16, 17, 21, 22, 23, 24, 25, 28, 29, 31, 32, 33], [0, 3, 13, 14, 16, 17, 18, 21, 22, 23, 24, 25, 26], [1, 6, 7, 8, 13, 14, 15, 16, 17, 20, 21, 22, 23, 24, 25, 26, 27], [0, 6, 10, 11, 12, 13, 14, 15, 20], [2, 10, 25, 26, 27, 28, 33], [4, 5, 8, 9, 10, 11, 12, 13, 14]] (runK Tryz.prog tables 1000000 3529 0 s44yz3) = .next s44yz4 := by kernel_rfl

theorem w46yz0 : VS.shed [(9819, 1), (9822, 153)] [[9, 10, 17, 18, 19, 20, 21, 22, 23, 24, 27, 28, 29, 30, 31, 32, 33, 34, 35, 36, 37, 38, 39], [0, 1, 2, 6, 7, 8, 9, 10, 11, 12, 13, 16, 17, 18, 19, 20, 21], [1, 2]] (runK Tryz.prog tables 1000000 2698 0 s46yz0) = .next s46yz1 := by kernel_rfl

theorem w46yz2y0z0 : VS.shed [(10004, 60), (10065, 1), (10067, 46), (10116, 3), (10121, 8), (10130, 1), (10132, 1)] [[0, 1, 4, 5, 10, 11], [0], [0, 10, 11], [0, 1, 3], [4, 15, 16, 17, 18, 19, 20, 21, 22, 24, 25, 29], [0, 1, 2, 3, 4, 9, 12, 14, 15, 16, 17, 18, 19, 20], [0, 5, 15], [2, 3, 4, 5, 6, 11, 17, 27, 28, 29, 30, 31, 32, 33, 34, 35, 36, 37, 38, 39, 42, 43, 44, 45, 48, 53], [1, 2, 3, 4, 5, 9, 11, 15, 17, 19, 20, 21, 22, 23, 24, 27, 31, 35, 36, 40, 41, 44, 45, 50, 51, 52, 53, 54, 55, 56, 57, 58, 59, 60, 61, 62]] (runK Tryz.prog tables 1000000 4000 0 s46yz2y0z0) = .next s46yz2y0z1 := by kernel_rfl

theorem z46yz2y : endA Tryz.prog tables (subM Tryz.prog tables 1000000 tb46yz2y 0) 0 q3214 x46yz2y0 v46yz2y0 W46yz2y0 = some (fe46yz2y, we46yz2y, de46yz2y) := by kernel_rfl

theorem y46yz2y : triesX Tryz.prog tables (subM Tryz.prog tables 1000000 tb46yz2y 0) 0 q3214 s46yz2.fr s46yz2.w = true := by kernel_rfl

theorem d46y : VS.shed [(9807, 2), (9812, 1), (9814, 2), (9817, 1)] [[2, 3, 6, 25]] (.next n46y) = .next s47 := by kernel_rfl

theorem w48yz2y0z1 : VS.shed [(10556, 47), (10604, 8), (10613, 7), (10622, 10), (10634, 3)] [[0, 6, 10, 11, 14, 15, 16, 19, 20, 32, 33, 34, 35, 36, 37, 54, 55, 56, 57, 58], [1, 13], [0, 1, 2, 3], [1, 2, 3, 4, 15, 16, 17, 18, 19, 20, 21, 22, 24, 25, 27, 28, 29, 30, 31, 32, 33, 39, 40, 43, 44, 47, 48, 49, 50, 51, 52], [1, 2, 3, 4, 6, 11, 13, 14, 17, 18, 19, 20, 21, 22, 23, 24, 25, 26, 29, 30, 31, 32]] (runK Tryz.prog tables 1000000 4000 0 s48yz2y0z1) = .next s48yz2y0z2 := by kernel_rfl

theorem w48yz2y0z2 : VS.shedO [(10507, 1), (10554, 2), (10603, 1), (10621, 64)] (runK Tryz.prog tables 1000000 1718 0 s48yz2y0z2) = .over v48yz2y0 W48yz2y0 := by kernel_rfl

theorem w48yz3 : VS.shedO [(10259, 4), (10416, 1), (10505, 1), (10685, 3), (10689, 1)] (runK Tryz.prog tables 1000000 448 0 s48yz3) = .over v48y W48y := by kernel_rfl

theorem z48y : afterM 0 s48 W48y = some n48y := by kernel_rfl

theorem c50y : rangeM tables s50 = some s50yz0 := by kernel_rfl

theorem w52yz2y0z1 : VS.shed [(11439, 47), (11487, 8), (11496, 7), (11505, 10), (11517, 3)] [[0, 6, 10, 11, 14, 15, 16, 19, 20, 32, 33, 34, 35, 36, 37, 54, 55, 56, 57, 58], [1, 13], [0, 1, 2, 3], [1, 2, 3, 4, 15, 16, 17, 18, 19, 20, 21, 22, 24, 25, 27, 28, 29, 30, 31, 32, 33, 39, 40, 43, 44, 47, 48, 49, 50, 51, 52], [1, 2, 3, 4, 6, 11, 13, 14, 17, 18, 19, 20, 21, 22, 23, 24, 25, 26, 29, 30, 31, 32]] (runK Tryz.prog tables 1000000 4000 0 s52yz2y0z1) = .next s52yz2y0z2 := by kernel_rfl

theorem w52yz2y0z2 : VS.shedO [(11390, 1), (11437, 2), (11486, 1), (11504, 64)] (runK Tryz.prog tables 1000000 1718 0 s52yz2y0z2) = .over v52yz2y0 W52yz2y0 := by kernel_rfl

theorem d52yz2y : VS.shed [(11327, 1)] [[0, 2, 3, 14, 15, 97, 98, 99, 100, 101, 102, 103, 104, 105, 106, 107, 108, 109, 110, 111]] (.next n52yz2y) = .next s52yz3 := by kernel_rfl

theorem c54y : rangeM tables s54 = some s54yz0 := by kernel_rfl

theorem c56yz2y0 : cutX Tryz.prog tables (subM Tryz.prog tables 1000000 tb56yz2y 0) 0 q3214 (isKeyX [(223, 12491)]) 52 none 0 s56yz2.fr s56yz2.w [] [] = some x56yz2y0 := by kernel_rfl

theorem d56yz2y : VS.shed [(12488, 1)] [[0, 2, 3, 14, 15, 97, 98, 99, 100, 101, 102, 103, 104, 105, 106, 107, 108, 109, 110, 111]] (.next n56yz2y) = .next s56yz3 := by kernel_rfl

theorem w56yz3 : VS.shedO [(12303, 4), (12460, 1), (12549, 1), (12729, 3), (12733, 1)] (runK Tryz.prog tables 1000000 448 0 s56yz3) = .over v56y W56y := by kernel_rfl

theorem w57 : VS.shed [(10688, 1), (11130, 1), (12294, 8), (12739, 1)] [[0, 1, 7, 13, 14, 15, 16, 17, 18, 19, 22, 23, 24], [71]] (runK Tryz.prog tables 1000000 253 0 s57) = .next s58 := by kernel_rfl

theorem w58yz1 : VS.shed [(12904, 27)] [[1, 4, 40, 43, 44, 45, 46, 47, 48, 49, 50, 53, 54]] (runK Tryz.prog tables 1000000 243 0 s58yz1) = .next s58yz2 := by kernel_rfl

theorem c58yz2y0 : cutX Tryz.prog tables (subM Tryz.prog tables 1000000 tb58yz2y 0) 0 q3214 (isKeyX [(223, 12934)]) 52 none 0 s58yz2.fr s58yz2.w [] [] = some x58yz2y0 := by kernel_rfl

theorem y58yz2y : triesX Tryz.prog tables (subM Tryz.prog tables 1000000 tb58yz2y 0) 0 q3214 s58yz2.fr s58yz2.w = true := by kernel_rfl

theorem w58yz3 : VS.shedO [(12746, 4), (12903, 1), (12992, 1), (13172, 3)] (runK Tryz.prog tables 1000000 442 0 s58yz3) = .over v58y W58y := by kernel_rfl

theorem d58y : VS.shed [(12735, 2), (12740, 1), (12742, 2), (12745, 1)] [[2, 3, 6, 25]] (.next n58y) = .next s59 := by kernel_rfl
end Go.Proofs.YtnefhpkkbehjeaaGreatDoor.triNone
