/- The law DeviceNames: stretches of its run. -/
import Derived.Test.YtiflimckbdcciaaDeviceNamesStB
import Derived.Test.YtiflimckbdcciaaProg
namespace Go.Proofs.Ytiflimckbdcciaa.deviceNames
set_option linter.unusedVariables false
set_option maxRecDepth 100000
open Go.Wvm

theorem w0 : VS.shed [(0, 58)] [[0, 3, 4, 7, 8], [0], [1, 2, 3, 4, 5, 13, 14, 15, 16, 17, 18, 21, 22, 26, 27, 31, 32, 33, 37, 38, 39, 43, 48, 49, 53, 54, 58, 59, 63, 64, 68, 69, 73, 74, 78, 79, 83, 84, 85, 89, 90, 93, 94, 95, 96, 97, 98, 99, 102, 106, 107, 108, 112, 113, 114, 118, 119, 120, 124, 125, 128, 129, 130, 131, 132]] (runK Try.prog tables 1000000 4000 0 s0) = .next s1 := by kernel_rfl

theorem w2 : VS.shed [(197, 285)] [] (runK Try.prog tables 1000000 4000 0 s2) = .next s3 := by kernel_rfl

theorem w6 : VS.shed [(1289, 195)] [] (runK Try.prog tables 1000000 2746 0 s6) = .next s7 := by kernel_rfl

theorem w11 : VS.shed [(2091, 125)] [] (runK Try.prog tables 1000000 1764 0 s11) = .next s12 := by kernel_rfl

theorem w12 : VS.shed [(2217, 119)] [] (runK Try.prog tables 1000000 1680 0 s12) = .next s13 := by kernel_rfl

theorem w13 : VS.shed [(2337, 111)] [] (runK Try.prog tables 1000000 1568 0 s13) = .next s14 := by kernel_rfl

theorem w16 : VS.shed [(2657, 97)] [] (runK Try.prog tables 1000000 1372 0 s16) = .next s17 := by kernel_rfl

theorem w18 : VS.shed [(2849, 85)] [] (runK Try.prog tables 1000000 1204 0 s18) = .next s19 := by kernel_rfl

theorem w21 : VS.shed [(3111, 81)] [] (runK Try.prog tables 1000000 1148 0 s21) = .next s22 := by kernel_rfl

theorem w24 : VS.shed [(3355, 77)] [] (runK Try.prog tables 1000000 1092 0 s24) = .next s25 := by kernel_rfl

theorem w27 : VS.shed [(3583, 73)] [] (runK Try.prog tables 1000000 1036 0 s27) = .next s28 := by kernel_rfl

theorem w37 : VS.shed [(4237, 61)] [] (runK Try.prog tables 1000000 868 0 s37) = .next s38 := by kernel_rfl

theorem w40 : VS.shed [(4419, 59)] [] (runK Try.prog tables 1000000 840 0 s40) = .next s41 := by kernel_rfl

theorem w44 : VS.shed [(4647, 55)] [] (runK Try.prog tables 1000000 784 0 s44) = .next s45 := by kernel_rfl

theorem w49 : VS.shed [(4905, 49)] [] (runK Try.prog tables 1000000 700 0 s49) = .next s50 := by kernel_rfl

theorem w54 : VS.shed [(5141, 45)] [] (runK Try.prog tables 1000000 644 0 s54) = .next s55 := by kernel_rfl

theorem w63 : VS.shed [(5563, 45)] [] (runK Try.prog tables 1000000 644 0 s63) = .next s64 := by kernel_rfl

theorem w70 : VS.shed [(5871, 43)] [] (runK Try.prog tables 1000000 598 0 s70) = .next s71 := by kernel_rfl

theorem w73 : VS.shed [(6003, 43)] [] (runK Try.prog tables 1000000 616 0 s73) = .next s74 := by kernel_rfl

theorem w74 : VS.shed [(6047, 41)] [] (runK Try.prog tables 1000000 588 0 s74) = .next s75 := by kernel_rfl

theorem w76 : VS.shed [(6131, 41)] [] (runK Try.prog tables 1000000 588 0 s76) = .next s77 := by kernel_rfl

theorem w77 : VS.shed [(6173, 39)] [] (runK Try.prog tables 1000000 560 0 s77) = .next s78 := by kernel_rfl

theorem w79 : VS.shed [(6251, 37)] [] (runK Try.prog tables 1000000 532 0 s79) = .next s80 := by kernel_rfl

theorem w80 : VS.shed [(6289, 39)] [] (runK Try.prog tables 1000000 560 0 s80) = .next s81 := by kernel_rfl

theorem w87 : VS.shed [(6559, 35)] [] (runK Try.prog tables 1000000 504 0 s87) = .next s88 := by kernel_rfl

theorem w92 : VS.shed [(6743, 35)] [] (runK Try.prog tables 1000000 504 0 s92) = .next s93 := by kernel_rfl

theorem w96 : VS.shed [(6887, 33)] [] (runK Try.prog tables 1000000 476 0 s96) = .next s97 := by kernel_rfl

theorem w107 : VS.shed [(7261, 33)] [] (runK Try.prog tables 1000000 476 0 s107) = .next s108 := by kernel_rfl

theorem w110 : VS.shed [(7363, 33)] [] (runK Try.prog tables 1000000 476 0 s110) = .next s111 := by kernel_rfl

theorem w118 : VS.shed [(7621, 31)] [] (runK Try.prog tables 1000000 448 0 s118) = .next s119 := by kernel_rfl

theorem w119 : VS.shed [(7653, 31)] [] (runK Try.prog tables 1000000 448 0 s119) = .next s120 := by kernel_rfl

theorem w124 : VS.shed [(7803, 31)] [] (runK Try.prog tables 1000000 448 0 s124) = .next s125 := by kernel_rfl

theorem w126 : VS.shed [(7867, 29)] [] (runK Try.prog tables 1000000 420 0 s126) = .next s127 := by kernel_rfl

theorem w129 : VS.shed [(7955, 29)] [] (runK Try.prog tables 1000000 420 0 s129) = .next s130 := by kernel_rfl

theorem w139 : VS.shed [(8203, 29)] [] (runK Try.prog tables 1000000 420 0 s139) = .next s140 := by kernel_rfl

theorem w140 : VS.shed [(8233, 17)] [] (runK Try.prog tables 1000000 252 0 s140) = .next s141 := by kernel_rfl
end Go.Proofs.Ytiflimckbdcciaa.deviceNames
