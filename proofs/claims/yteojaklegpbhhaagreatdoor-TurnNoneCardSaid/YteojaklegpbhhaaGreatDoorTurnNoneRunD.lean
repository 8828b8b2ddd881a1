/- The law TurnNone: stretches of its run. -/
import Derived.Test.YteojaklegpbhhaaGreatDoorTurnNoneStB
import Derived.Test.YteojaklegpbhhaaGreatDoorProg
namespace Go.Proofs.YteojaklegpbhhaaGreatDoor.turnNone
set_option linter.unusedVariables false
set_option maxRecDepth 100000
open Go.Wvm

theorem w1 : VS.shed [(131, 41), (173, 26), (200, 52)] [[0, 3], [], [0, 2, 4], [0, 1, 2, 3, 6], [4, 8, 10, 12, 30, 31, 32, 33, 34, 35, 36, 37, 38, 39, 40, 41, 42, 43, 44, 45, 46, 47, 48, 49, 50, 51, 52, 53, 54, 55, 56, 57, 58, 59]] (runK Tryz.prog tables 1000000 4000 0 s1) = .next s2 := by kernel_rfl

theorem w6 : VS.shed [(3, 1), (117, 13), (172, 1), (199, 1), (414, 16), (546, 21), (568, 2), (571, 111)] [[0, 1, 4, 7, 8, 9, 12, 13, 14, 15, 16, 17, 18, 19, 20, 21, 22], [0, 12, 13, 14, 15, 17, 18, 19, 20, 21], [], [2, 5, 6, 7, 9, 11, 13, 15, 17, 18, 19, 20, 21, 22, 23, 81, 82, 83, 84, 85, 86, 87, 88, 89, 90, 91, 92, 93, 94, 97, 101, 105, 109, 113, 117, 121, 125, 126, 130, 134, 135, 139, 143]] (runK Tryz.prog tables 1000000 4000 0 s6) = .next s7 := by kernel_rfl

theorem w11yz1 : VS.shed [(1445, 47), (1493, 151)] [[0, 2, 3, 14, 15, 97, 98, 99, 100, 101, 102, 103, 104, 105, 106, 107, 108, 109, 110, 111]] (runK Tryz.prog tables 1000000 1 0 s11yz1) = .next s11yz2 := by kernel_rfl

theorem z11y : afterM 0 s11 W11y = some n11y := by kernel_rfl

theorem w15 : VS.shed [(1962, 294)] [] (runK Tryz.prog tables 1000000 1 0 s15) = .next s16 := by kernel_rfl

theorem w16 : VS.shed [(1308, 1), (1318, 1), (1958, 3)] [[9, 13, 14, 17, 45, 46, 48, 49, 50, 51, 67, 68, 69, 70]] (runK Tryz.prog tables 1000000 621 0 s16) = .next s17 := by kernel_rfl

theorem w17y0z0 : VS.shed [(2258, 1), (2261, 4), (2267, 6), (2280, 121), (2403, 1), (2406, 1), (2408, 3), (2414, 1), (2420, 2), (2423, 38)] [[0, 1, 9, 10, 11, 12, 13, 14, 15, 16, 17, 18, 19, 20, 21, 22, 23], [10, 13, 14, 15, 16, 19, 23, 24, 25, 26, 27, 28, 29], [0], [], [2, 5, 17], [1, 2, 12, 13, 14, 15, 16, 17, 21, 22], [0, 3, 7, 10, 16, 17, 20, 24, 27, 31, 32, 36, 37, 38]] (runK Tryz.prog tables 1000000 2535 0 s17y0z0) = .next s17y0z1 := by kernel_rfl

theorem w17y0z3 : VS.shed [(2875, 6), (2886, 121), (3010, 1), (3012, 2), (3015, 3), (3021, 1)] [[2, 5, 17], [3, 34, 35, 36, 37, 38, 39, 40, 41, 45, 46]] (runK Tryz.prog tables 1000000 1695 0 s17y0z3) = .next s17y0z4 := by kernel_rfl

theorem c17y0 : cutX Tryz.prog tables (subM Tryz.prog tables 1000000 tb17y 0) 0 q177 (isKeyX [(69, 2257)]) 31 none (Array.replicate 10 false) s17.fr s17.w [] [] = some x17y0 := by kernel_rfl

theorem w19yz1 : VS.shed [(3613, 47), (3661, 151)] [[0, 2, 3, 14, 15, 97, 98, 99, 100, 101, 102, 103, 104, 105, 106, 107, 108, 109, 110, 111]] (runK Tryz.prog tables 1000000 1 0 s19yz1) = .next s19yz2 := by kernel_rfl

theorem c19y : rangeM tables s19 = some s19yz0 := by kernel_rfl

theorem w25y0z5 : VS.shed [(4997, 1), (5005, 1), (5031, 5), (5184, 1), (5359, 16), (5433, 144)] [[6, 12, 13, 14, 44, 47, 48, 49, 50, 51, 52, 53, 56, 57, 58, 59, 60, 61, 62, 63, 64, 65, 66, 67, 68]] (runK Tryz.prog tables 1000000 364 0 s25y0z5) = .next s25y0z6 := by kernel_rfl

theorem d25y : VS.shed [(3475, 1)] [[1, 5, 7, 12, 74, 75, 76, 77, 78, 79, 80, 81]] (.next n25y) = .next s26 := by kernel_rfl

theorem w26 : trueV (runK Tryz.prog tables 1000000 241 0 s26) = true := by kernel_rfl
end Go.Proofs.YteojaklegpbhhaaGreatDoor.turnNone
