/- The law SccNames: stretches of its run. -/
import Derived.Test.YtnefhpkkbehjeaaGreatDoorSccNamesStE
import Derived.Test.YtnefhpkkbehjeaaGreatDoorProg
namespace Go.Proofs.YtnefhpkkbehjeaaGreatDoor.sccNames
set_option linter.unusedVariables false
set_option maxRecDepth 100000
open Go.Wvm

theorem w0 : VS.shed [(7, 2), (10, 161)] [[0, 1, 4, 7, 8, 9, 12, 13, 14, 15, 16, 17, 18, 19, 20, 21, 22], [], [1, 37, 38, 39, 40, 41, 42]] (runK Tryz.prog tables 1000000 4000 0 s0) = .next s1 := by kernel_rfl

theorem w2 : VS.shed [(437, 114), (556, 162)] [[7, 10, 13, 14, 15, 16, 19, 23, 24, 25, 26, 27, 28, 29, 31, 32, 33, 34, 35, 36, 37, 52, 53, 54, 55, 56, 57, 58, 59, 60, 61, 62, 63, 64, 65, 66, 67, 68], [0, 12, 13, 24, 27]] (runK Tryz.prog tables 1000000 1651 0 s2) = .next s3 := by kernel_rfl

theorem w4 : VS.shed [(983, 9), (1023, 201), (1225, 23), (1256, 2), (1259, 82)] [[1, 2, 3, 9, 10, 11, 12, 13, 14, 15, 16, 17, 18, 19, 20, 21, 22, 23, 24, 25, 26, 27, 28, 29, 30, 31, 32], [0, 1, 3, 6, 9, 10, 11, 12, 13, 14, 15, 16, 17, 18, 19, 20, 21, 22, 23, 24, 25, 26, 29, 30, 31, 32, 33, 34, 35], [10, 13, 14, 15, 16, 19, 23, 24, 25, 26, 27, 28, 29], [12, 13]] (runK Tryz.prog tables 1000000 645 0 s4) = .next s5 := by kernel_rfl

theorem w5 : VS.shed [(427, 9), (553, 1), (720, 1), (982, 1), (1249, 10), (1341, 221), (1563, 18), (1583, 2), (1589, 1)] [[], [0, 1, 2, 8, 11, 14, 18, 19, 24, 25, 26, 27, 28, 29], [0, 10, 13, 17, 18, 19, 20, 23], [0], [4, 6, 9, 10, 12, 13, 14, 16, 17, 18, 21, 22, 23, 26, 27, 28, 29, 30, 31, 32, 33, 34, 35, 36, 37, 38, 39, 40, 41], [0, 3, 7, 11, 12, 13, 14, 15, 16, 17, 18, 21, 22, 23, 24, 25, 26, 27, 28, 29, 30, 31, 32, 33, 34, 35, 36, 37]] (runK Tryz.prog tables 1000000 1544 0 s5) = .next s6 := by kernel_rfl

theorem w8 : VS.shed [(1661, 22), (1684, 27), (1712, 1), (1714, 1), (1716, 1), (1718, 3), (1722, 1), (1724, 3), (1728, 6), (1737, 88), (1830, 85)] [[7, 10, 13, 14, 15, 16, 19, 23, 24, 25, 26, 27, 28, 29, 31, 32, 33, 34, 35, 36, 37, 52, 53, 54, 55, 56, 57, 58, 59, 60, 61, 62, 63, 64, 65, 66, 67, 68], [0, 1, 3, 12, 13, 16, 17, 18, 19, 20, 21, 24, 27], [1], [1, 2, 5], [0, 2, 53, 54, 55, 57, 58, 59, 63, 65, 66]] (runK Tryz.prog tables 1000000 2856 0 s8) = .next s9 := by kernel_rfl

theorem w14 : VS.shed [(2637, 143), (2793, 175), (2969, 16)] [[], [6, 7, 8, 9, 11, 12, 13], [4, 6, 9, 10, 12, 13, 14, 16, 17, 18, 21, 22, 23, 26, 27, 28, 29], [0, 1, 3, 7, 11, 12, 13, 14, 15, 16, 17, 18, 21, 22, 23, 24, 25, 26, 27, 28, 29, 30, 31, 32, 33, 34, 35, 36, 37], [1, 2, 5], [1, 9, 11, 13, 18, 19, 20, 21, 22, 23, 24, 25, 26, 27, 28, 29, 30, 31, 32, 33, 34, 35, 36, 37, 38, 41, 45, 49, 56]] (runK Tryz.prog tables 1000000 4000 0 s14) = .next s15 := by kernel_rfl

theorem w15 : VS.shed [(2968, 1), (2985, 27), (3017, 2)] [[0, 1, 3, 4, 5, 6, 7, 8, 9, 10, 11, 12, 13, 14, 15, 16, 17, 18, 19, 20], [0, 7, 8, 9, 10, 19], [9, 12, 13, 14, 17, 18, 19, 20, 22, 23, 24, 25, 26, 27, 28, 29, 30, 32, 33, 34], [8, 10, 15, 16, 17, 18, 19, 20, 21, 23, 24, 25, 26, 27, 28, 29, 30, 31, 33, 34, 35, 36, 37, 38, 39, 41, 42, 43, 44, 45, 46, 47]] (runK Tryz.prog tables 1000000 4000 0 s15) = .next s16 := by kernel_rfl

theorem w24 : VS.shed [(1632, 1), (3427, 2), (3430, 1), (3524, 15), (3541, 1), (3544, 11)] [[0, 1, 2, 12, 13], [10, 11, 12, 13, 14, 15, 16, 17], [0, 1, 8], [8, 9, 10, 11], [9, 10, 11, 12, 13, 14, 15], [1, 6, 9, 10, 11, 14, 15, 16], [0, 4, 6], [22, 23, 156, 158, 160, 162, 163, 164, 165, 166, 168, 169, 170, 171, 172]] (runK Tryz.prog tables 1000000 1097 0 s24) = .next s25 := by kernel_rfl

theorem w25yz1 : VS.shed [(3687, 3), (3707, 19), (3727, 26)] [[1, 4, 9, 10, 17, 18, 19, 20, 21, 22, 23, 24, 27, 28, 29, 30, 31, 32, 33, 34, 35, 36, 37, 38, 39, 40, 43, 44, 45, 46, 47, 48, 49, 50, 53, 54]] (runK Tryz.prog tables 1000000 597 0 s25yz1) = .next s25yz2 := by kernel_rfl

theorem w25yz3 : VS.shedO [(3564, 4), (3726, 1), (3787, 1), (3917, 11)] (runK Tryz.prog tables 1000000 488 0 s25yz3) = .over v25y W25y := by kernel_rfl

theorem c25y : rangeM tables s25 = some s25yz0 := by kernel_rfl

theorem z25y : afterM 0 s25 W25y = some n25y := by kernel_rfl

theorem d25y : VS.shed [(3556, 2), (3560, 2), (3563, 1)] [[3, 5, 14]] (.next n25y) = .next s26 := by kernel_rfl

theorem w27yz0 : VS.shed [(3937, 1), (3940, 153)] [[9, 10, 17, 18, 19, 20, 21, 22, 23, 24, 27, 28, 29, 30, 31, 32, 33, 34, 35, 36, 37, 38, 39], [0, 1, 2, 6, 7, 8, 9, 10, 11, 12, 13, 16, 17, 18, 19, 20, 21], [1, 2]] (runK Tryz.prog tables 1000000 2222 0 s27yz0) = .next s27yz1 := by kernel_rfl

theorem w27yz2 : VS.shed [(4112, 36), (4149, 102)] [[0, 2, 3, 14, 15, 97, 98, 99, 100, 101, 102, 103, 104, 105, 106, 107, 108, 109, 110, 111]] (runK Tryz.prog tables 1000000 1 0 s27yz2) = .next s27yz3 := by kernel_rfl

theorem c27y : rangeM tables s27 = some s27yz0 := by kernel_rfl

theorem z27y : afterM 0 s27 W27y = some n27y := by kernel_rfl

theorem d27y : VS.shed [(3928, 2), (3932, 2), (3935, 1)] [[3, 5, 14]] (.next n27y) = .next s28 := by kernel_rfl

theorem c29y : rangeM tables s29 = some s29yz0 := by kernel_rfl

theorem z29y : afterM 0 s29 W29y = some n29y := by kernel_rfl

theorem d29y : VS.shed [(4274, 2), (4278, 2), (4281, 1)] [[3, 5, 14]] (.next n29y) = .next s30 := by kernel_rfl

theorem c31y : rangeM tables s31 = some s31yz0 := by kernel_rfl

theorem z31y : afterM 0 s31 W31y = some n31y := by kernel_rfl

theorem d31y : VS.shed [(4641, 2), (4645, 2), (4648, 1)] [[3, 5, 14]] (.next n31y) = .next s32 := by kernel_rfl

theorem w33yz2 : VS.shed [(5176, 48), (5225, 154)] [[0, 2, 3, 14, 15, 97, 98, 99, 100, 101, 102, 103, 104, 105, 106, 107, 108, 109, 110, 111]] (runK Tryz.prog tables 1000000 1 0 s33yz2) = .next s33yz3 := by kernel_rfl

theorem z33y : afterM 0 s33 W33y = some n33y := by kernel_rfl

theorem w34 : VS.shed [(4986, 5)] [[0, 1, 2, 12, 13]] (runK Tryz.prog tables 1000000 79 0 s34) = .next s35 := by kernel_rfl

theorem w35yz0 : VS.shed [(5399, 1), (5402, 153)] [[9, 10, 17, 18, 19, 20, 21, 22, 23, 24, 27, 28, 29, 30, 31, 32, 33, 34, 35, 36, 37, 38, 39], [0, 1, 2, 6, 7, 8, 9, 10, 11, 12, 13, 16, 17, 18, 19, 20, 21], [1, 2]] (runK Tryz.prog tables 1000000 2650 0 s35yz0) = .next s35yz1 := by kernel_rfl

theorem w35yz1 : VS.shedO [(5398, 4), (5555, 166)] (runK Tryz.prog tables 1000000 732 0 s35yz1) = .over v35y W35y := by kernel_rfl

theorem c35y : rangeM tables s35 = some s35yz0 := by kernel_rfl

theorem w36 : VS.shed [(4983, 1), (5392, 5), (5721, 11)] [[0, 1, 2, 12, 13], [10, 11, 12, 13, 14, 15, 16, 17], [0, 1, 8]] (runK Tryz.prog tables 1000000 518 0 s36) = .next s37 := by kernel_rfl

theorem w37yz0 : VS.shed [(5742, 1), (5745, 153)] [[9, 10, 17, 18, 19, 20, 21, 22, 23, 24, 27, 28, 29, 30, 31, 32, 33, 34, 35, 36, 37, 38, 39], [0, 1, 2, 6, 7, 8, 9, 10, 11, 12, 13, 16, 17, 18, 19, 20, 21], [1, 2]] (runK Tryz.prog tables 1000000 2864 0 s37yz0) = .next s37yz1 := by kernel_rfl

theorem c37y : rangeM tables s37 = some s37yz0 := by kernel_rfl

theorem c39y : rangeM tables s39 = some s39yz0 := by kernel_rfl

theorem w40 : VS.shed [(5732, 1), (6102, 5), (6473, 11)] [[0, 1, 2, 12, 13], [10, 11, 12, 13, 14, 15, 16, 17], [0, 1, 8]] (runK Tryz.prog tables 1000000 518 0 s40) = .next s41 := by kernel_rfl

theorem w41yz3 : VS.shedO [(6493, 4), (6650, 1), (6711, 1), (6841, 11)] (runK Tryz.prog tables 1000000 488 0 s41yz3) = .over v41y W41y := by kernel_rfl

theorem z41y : afterM 0 s41 W41y = some n41y := by kernel_rfl

theorem d43y : VS.shed [(6852, 2), (6856, 2), (6859, 1)] [[3, 5, 14]] (.next n43y) = .next s44 := by kernel_rfl

theorem w46 : VS.shed [(7183, 1), (7327, 12), (7341, 11), (7355, 11)] [[0, 1, 12, 13, 14, 15, 16, 17, 18, 19, 20, 21, 24, 25, 26, 27, 28], [0, 1, 8], [8, 9, 10, 11], [9, 10, 11, 12, 13, 14, 15], [1, 6, 9, 10, 11, 14, 15, 16], [0, 4, 6]] (runK Tryz.prog tables 1000000 1504 0 s46) = .next s47 := by kernel_rfl

theorem c49y : rangeM tables s49 = some s49yz0 := by kernel_rfl

theorem w51yz1 : VS.shed [(8368, 26)] [[1, 4, 40, 43, 44, 45, 46, 47, 48, 49, 50, 53, 54]] (runK Tryz.prog tables 1000000 243 0 s51yz1) = .next s51yz2 := by kernel_rfl

theorem z51y : afterM 0 s51 W51y = some n51y := by kernel_rfl

theorem w53yz2 : VS.shed [(8872, 34), (8907, 129)] [[0, 2, 3, 14, 15, 97, 98, 99, 100, 101, 102, 103, 104, 105, 106, 107, 108, 109, 110, 111]] (runK Tryz.prog tables 1000000 1 0 s53yz2) = .next s53yz3 := by kernel_rfl

theorem d53y : VS.shed [(8669, 1), (8683, 3), (8687, 1)] [[2, 6, 29]] (.next n53y) = .next s54 := by kernel_rfl

theorem c57y : rangeM tables s57 = some s57yz0 := by kernel_rfl

theorem w59yz3 : VS.shedO [(9919, 4), (10076, 1), (10137, 1), (10267, 22)] (runK Tryz.prog tables 1000000 824 0 s59yz3) = .over v59y W59y := by kernel_rfl

theorem z59y : afterM 0 s59 W59y = some n59y := by kernel_rfl

theorem w61yz0 : VS.shed [(10320, 1), (10323, 136)] [[6, 7, 10, 12, 15, 16, 17, 18, 19, 20, 23, 24, 25, 26, 27, 28, 29, 30, 31, 32, 33, 34, 35, 36, 37, 40, 41, 42, 43, 44, 45, 46, 47, 48, 49, 50, 53, 54, 55, 56, 57, 58, 59, 62, 63, 66, 67, 68, 69, 70, 71, 72, 73, 74, 75, 76, 77, 78, 79, 80, 81, 82], [1, 9, 10, 11, 12, 13, 14, 15, 16, 17, 18, 22, 23, 24, 26], [], [0, 1, 2, 6, 7, 8, 9, 10, 11, 12, 13, 16, 17, 18, 19, 20, 21], [1, 2]] (runK Tryz.prog tables 1000000 2614 0 s61yz0) = .next s61yz1 := by kernel_rfl

theorem w61yz3 : VS.shedO [(10319, 4), (10476, 1), (10551, 1), (10706, 44)] (runK Tryz.prog tables 1000000 1566 0 s61yz3) = .over v61y W61y := by kernel_rfl

theorem d61y : VS.shed [(10300, 1), (10314, 3), (10318, 1)] [[2, 6, 29]] (.next n61y) = .next s62 := by kernel_rfl

theorem w65yz3 : VS.shedO [(11180, 4), (11337, 1), (11398, 1), (11528, 22)] (runK Tryz.prog tables 1000000 824 0 s65yz3) = .over v65y W65y := by kernel_rfl

theorem c65y : rangeM tables s65 = some s65yz0 := by kernel_rfl

theorem w68 : VS.shed [(11708, 48), (11760, 11), (11772, 11)] [[0, 1, 7, 8, 9, 14, 15, 16, 17, 18, 19, 20, 21, 22, 23, 26, 27, 28, 29, 30, 31, 32, 33, 34, 35, 38, 42, 43, 44, 45, 46], [0, 1, 8]] (runK Tryz.prog tables 1000000 733 0 s68) = .next s69 := by kernel_rfl

theorem w69yz1 : VS.shed [(11910, 3), (11930, 19), (11950, 26)] [[1, 4, 9, 10, 17, 18, 19, 20, 21, 22, 23, 24, 27, 28, 29, 30, 31, 32, 33, 34, 35, 36, 37, 38, 39, 40, 43, 44, 45, 46, 47, 48, 49, 50, 53, 54]] (runK Tryz.prog tables 1000000 645 0 s69yz1) = .next s69yz2 := by kernel_rfl

theorem w69yz2 : VS.shed [(11976, 34), (12011, 129)] [[0, 2, 3, 14, 15, 97, 98, 99, 100, 101, 102, 103, 104, 105, 106, 107, 108, 109, 110, 111]] (runK Tryz.prog tables 1000000 1 0 s69yz2) = .next s69yz3 := by kernel_rfl

theorem z69y : afterM 0 s69 W69y = some n69y := by kernel_rfl

theorem w71yz2 : VS.shed [(12399, 48), (12448, 154)] [[0, 2, 3, 14, 15, 97, 98, 99, 100, 101, 102, 103, 104, 105, 106, 107, 108, 109, 110, 111]] (runK Tryz.prog tables 1000000 1 0 s71yz2) = .next s71yz3 := by kernel_rfl

theorem d71y : VS.shed [(12178, 2), (12196, 14), (12211, 1)] [[2, 3, 6, 47]] (.next n71y) = .next s72 := by kernel_rfl

theorem w73yz2 : VS.shed [(12887, 34), (12922, 129)] [[0, 2, 3, 14, 15, 97, 98, 99, 100, 101, 102, 103, 104, 105, 106, 107, 108, 109, 110, 111]] (runK Tryz.prog tables 1000000 1 0 s73yz2) = .next s73yz3 := by kernel_rfl

theorem c75y : rangeM tables s75 = some s75yz0 := by kernel_rfl

theorem w76 : VS.shed [(11705, 2), (13089, 2), (13119, 1), (13148, 1), (13497, 12), (13511, 27), (13539, 24), (13567, 11), (13579, 11)] [[0, 1, 7, 14, 15, 16, 17, 18, 19, 20, 21, 22, 23, 26, 27, 28, 29, 30, 31, 32, 33, 34], [0, 1, 8], [8, 9, 10, 11], [9, 10, 11, 12, 13, 14, 15], [1, 6, 9, 10, 11, 14, 15, 16], [0, 4, 6]] (runK Tryz.prog tables 1000000 1637 0 s76) = .next s77 := by kernel_rfl

theorem w77 : VS.shed [] [[8, 9, 35, 38, 42, 43, 44, 45, 46]] (runK Tryz.prog tables 1000000 15 0 s77) = .next s78 := by kernel_rfl

theorem w78yz2 : VS.shed [(13781, 34), (13816, 129)] [[0, 2, 3, 14, 15, 97, 98, 99, 100, 101, 102, 103, 104, 105, 106, 107, 108, 109, 110, 111]] (runK Tryz.prog tables 1000000 1 0 s78yz2) = .next s78yz3 := by kernel_rfl

theorem z78y : afterM 0 s78 W78y = some n78y := by kernel_rfl

theorem w80yz1 : VS.shed [(14202, 3), (14222, 19), (14242, 26)] [[1, 4, 9, 10, 17, 18, 19, 20, 21, 22, 23, 24, 27, 28, 29, 30, 31, 32, 33, 34, 35, 36, 37, 38, 39, 40, 43, 44, 45, 46, 47, 48, 49, 50, 53, 54]] (runK Tryz.prog tables 1000000 597 0 s80yz1) = .next s80yz2 := by kernel_rfl

theorem w80yz3 : VS.shedO [(13982, 1), (14081, 4), (14241, 1), (14302, 1), (14432, 12), (14445, 12)] (runK Tryz.prog tables 1000000 764 0 s80yz3) = .over v80y W80y := by kernel_rfl

theorem d80y : VS.shed [(14050, 2), (14065, 14), (14080, 1)] [[2, 3, 6, 47]] (.next n80y) = .next s81 := by kernel_rfl

theorem w82yz0 : VS.shed [(14444, 1), (14503, 1), (14506, 23), (14530, 93), (14626, 17)] [[0, 1, 2, 5, 8, 9, 10, 11, 12, 13, 14, 15, 16, 17], [1, 7, 11, 12, 13, 14, 15, 17, 18, 19, 20, 21, 22, 23, 24, 25, 26, 27, 28, 29, 30, 31, 34, 35, 37, 38, 39, 40, 41], [6, 10, 12, 15, 16, 17, 18, 19, 20, 23, 24, 25, 26, 27, 28, 29, 30, 31, 32, 33, 34, 35, 36, 37, 40, 41, 42, 43, 44, 45, 46, 47, 48, 49, 50], [1, 9, 10, 11, 12, 13, 14, 15, 16, 17, 18, 22, 23, 24, 26], [], [0, 1, 2, 6, 7, 8, 9, 10, 11, 12, 13, 16, 17, 18, 19, 20, 21], [1, 2]] (runK Tryz.prog tables 1000000 2714 0 s82yz0) = .next s82yz1 := by kernel_rfl

theorem w85yz0 : VS.shed [(14865, 1), (15052, 1), (15055, 23), (15079, 93), (15175, 17)] [[0, 1, 2, 5, 8, 9, 10, 11, 12, 13, 14, 15, 16, 17], [1, 7, 11, 12, 13, 14, 15, 17, 18, 19, 20, 21, 22, 23, 24, 25, 26, 27, 28, 29, 30, 31, 34, 35, 37, 38, 39, 40, 41], [6, 10, 12, 15, 16, 17, 18, 19, 20, 23, 24, 25, 26, 27, 28, 29, 30, 31, 32, 33, 34, 35, 36, 37, 40, 41, 42, 43, 44, 45, 46, 47, 48, 49, 50], [1, 9, 10, 11, 12, 13, 14, 15, 16, 17, 18, 22, 23, 24, 26], [], [0, 1, 2, 6, 7, 8, 9, 10, 11, 12, 13, 16, 17, 18, 19, 20, 21], [1, 2]] (runK Tryz.prog tables 1000000 2510 0 s85yz0) = .next s85yz1 := by kernel_rfl

theorem c85y : rangeM tables s85 = some s85yz0 := by kernel_rfl

theorem w87yz1 : VS.shed [(15593, 3), (15613, 19), (15633, 26)] [[1, 4, 9, 10, 17, 18, 19, 20, 21, 22, 23, 24, 27, 28, 29, 30, 31, 32, 33, 34, 35, 36, 37, 38, 39, 40, 43, 44, 45, 46, 47, 48, 49, 50, 53, 54]] (runK Tryz.prog tables 1000000 645 0 s87yz1) = .next s87yz2 := by kernel_rfl

theorem z87y : afterM 0 s87 W87y = some n87y := by kernel_rfl

theorem w91 : VS.shed [(16090, 1), (16093, 44)] [[0, 1, 2, 12, 13], [10, 11, 12, 13, 14, 15, 16, 17], [0, 1, 8], [8, 9, 10, 11], [9, 10, 11, 12, 13, 14, 15], [1, 6, 9, 10, 11, 14, 15, 16]] (runK Tryz.prog tables 1000000 1703 0 s91) = .next s92 := by kernel_rfl

theorem d92y : VS.shed [(16138, 2), (16142, 2), (16145, 1)] [[3, 5, 14]] (.next n92y) = .next s93 := by kernel_rfl

theorem w94yz3 : VS.shedO [(16516, 4), (16678, 1), (16747, 1), (16875, 22)] (runK Tryz.prog tables 1000000 903 0 s94yz3) = .over v94y W94y := by kernel_rfl

theorem w96yz3 : VS.shedO [(16917, 4), (17074, 1), (17135, 1), (17265, 11)] (runK Tryz.prog tables 1000000 488 0 s96yz3) = .over v96y W96y := by kernel_rfl

theorem c96y : rangeM tables s96 = some s96yz0 := by kernel_rfl

theorem w98yz0 : VS.shed [(17285, 1), (17288, 153)] [[9, 10, 17, 18, 19, 20, 21, 22, 23, 24, 27, 28, 29, 30, 31, 32, 33, 34, 35, 36, 37, 38, 39], [0, 1, 2, 6, 7, 8, 9, 10, 11, 12, 13, 16, 17, 18, 19, 20, 21], [1, 2]] (runK Tryz.prog tables 1000000 3048 0 s98yz0) = .next s98yz1 := by kernel_rfl

theorem w98yz1 : VS.shedO [(17284, 4), (17441, 166)] (runK Tryz.prog tables 1000000 732 0 s98yz1) = .over v98y W98y := by kernel_rfl

theorem z98y : afterM 0 s98 W98y = some n98y := by kernel_rfl

theorem w102yz2 : VS.shed [(17997, 34), (18032, 129)] [[0, 2, 3, 14, 15, 97, 98, 99, 100, 101, 102, 103, 104, 105, 106, 107, 108, 109, 110, 111]] (runK Tryz.prog tables 1000000 1 0 s102yz2) = .next s102yz3 := by kernel_rfl

theorem w102yz3 : VS.shedO [(17810, 4), (17970, 1), (18031, 1), (18161, 39)] (runK Tryz.prog tables 1000000 828 0 s102yz3) = .over v102y W102y := by kernel_rfl

theorem d102y : VS.shed [(17791, 1), (17805, 3), (17809, 1)] [[2, 6, 29]] (.next n102y) = .next s103 := by kernel_rfl

theorem w103 : VS.shed [(17792, 2), (17808, 1), (18200, 11), (18214, 11)] [[0, 1, 12, 13, 14, 15, 16, 17, 18, 19, 20, 21, 24, 25, 26, 27, 28], [0, 1, 8]] (runK Tryz.prog tables 1000000 779 0 s103) = .next s104 := by kernel_rfl

theorem w104yz3 : VS.shedO [(18230, 4), (18387, 1), (18448, 1), (18578, 22)] (runK Tryz.prog tables 1000000 824 0 s104yz3) = .over v104y W104y := by kernel_rfl

theorem w107yz0 : VS.shed [(18711, 1), (18714, 136)] [[6, 7, 10, 12, 15, 16, 17, 18, 19, 20, 23, 24, 25, 26, 27, 28, 29, 30, 31, 32, 33, 34, 35, 36, 37, 40, 41, 42, 43, 44, 45, 46, 47, 48, 49, 50, 53, 54, 55, 56, 57, 58, 59, 62, 63, 66, 67, 68, 69, 70, 71, 72, 73, 74, 75, 76, 77, 78, 79, 80, 81, 82], [1, 9, 10, 11, 12, 13, 14, 15, 16, 17, 18, 22, 23, 24, 26], [], [0, 1, 2, 6, 7, 8, 9, 10, 11, 12, 13, 16, 17, 18, 19, 20, 21], [1, 2]] (runK Tryz.prog tables 1000000 2780 0 s107yz0) = .next s107yz1 := by kernel_rfl

theorem c107y : rangeM tables s107 = some s107yz0 := by kernel_rfl

theorem w109yz1 : VS.shed [(19268, 26)] [[1, 4, 40, 43, 44, 45, 46, 47, 48, 49, 50, 53, 54]] (runK Tryz.prog tables 1000000 243 0 s109yz1) = .next s109yz2 := by kernel_rfl

theorem z109y : afterM 0 s109 W109y = some n109y := by kernel_rfl

theorem w110 : VS.shed [(17837, 1), (18645, 2), (19092, 2), (19108, 1), (19481, 14), (19496, 46), (19543, 7)] [[0, 1, 6, 10, 11, 12, 15, 16, 19, 20, 21, 22, 23, 24, 25, 26, 27, 28, 29, 30, 31, 32, 33, 34, 35, 36, 37, 38, 39, 40, 41], [7, 8, 9], [8, 9, 10, 11], [0, 1, 3, 4, 5, 6, 7, 8, 9], [4, 5, 16, 17, 18, 19, 25]] (runK Tryz.prog tables 1000000 2038 0 s110) = .next s111 := by kernel_rfl

theorem w113 : VS.shed [] [[8, 9, 35, 38, 42, 43, 44, 45, 46]] (runK Tryz.prog tables 1000000 15 0 s113) = .next s114 := by kernel_rfl

theorem w114yz1 : VS.shed [(19873, 3), (19893, 19), (19913, 26)] [[1, 4, 9, 10, 17, 18, 19, 20, 21, 22, 23, 24, 27, 28, 29, 30, 31, 32, 33, 34, 35, 36, 37, 38, 39, 40, 43, 44, 45, 46, 47, 48, 49, 50, 53, 54]] (runK Tryz.prog tables 1000000 645 0 s114yz1) = .next s114yz2 := by kernel_rfl

theorem w114yz2 : VS.shed [(19939, 34), (19974, 129)] [[0, 2, 3, 14, 15, 97, 98, 99, 100, 101, 102, 103, 104, 105, 106, 107, 108, 109, 110, 111]] (runK Tryz.prog tables 1000000 1 0 s114yz2) = .next s114yz3 := by kernel_rfl

theorem w114yz3 : VS.shedO [(17664, 1), (19750, 4), (19779, 1), (19912, 1), (19973, 1), (20103, 13), (20118, 24), (20143, 18)] (runK Tryz.prog tables 1000000 1073 0 s114yz3) = .over v114y W114y := by kernel_rfl

theorem d114y : VS.shed [(19719, 2), (19734, 14), (19749, 1)] [[2, 3, 6, 47]] (.next n114y) = .next s115 := by kernel_rfl

theorem w115 : VS.shed [(19635, 2), (19721, 2), (19748, 1), (20161, 45), (20208, 44), (20256, 11)] [[0, 1, 14, 15, 16, 17, 18, 19, 20, 21, 22], [0, 1, 8], [8, 9, 10, 11], [9, 10, 11, 12, 13, 14, 15], [1, 6, 9, 10, 11, 14, 15, 16], [0, 4, 6]] (runK Tryz.prog tables 1000000 3429 0 s115) = .next s116 := by kernel_rfl

theorem w121 : trueV (runK Tryz.prog tables 1000000 2 0 s121) = true := by kernel_rfl
end Go.Proofs.YtnefhpkkbehjeaaGreatDoor.sccNames
